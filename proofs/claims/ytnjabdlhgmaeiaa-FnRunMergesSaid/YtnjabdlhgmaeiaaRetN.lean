/- Answers whose list may be nil, cut in two: an own list, and a list of no length. -/
import Derived.Test.YtnjabdlhgmaeiaaIRm
import Derived.Test.YtnjabdlhgmaeiaaSRm
import Derived.Test.YtnjabdlhgmaeiaaIntSE
import Derived.Test.YtnjabdlhgmaeiaaIntSM
import Derived.Test.YtnjabdlhgmaeiaaIntSH
namespace Go.Proofs.Ytnjabdlhgmaeiaa
open Go.RowKit P Sk
set_option linter.unusedVariables false

/-- A list of no length, wherever it lies. -/
def RetZ1 (r : List Int × Int × Bool) (w : World) (e : Ending) (w' : World) : Prop :=
  ∃ a c, e = .returned (.tuple #[.slice a 0 c, .int .i64 r.2.1, .bool r.2.2]) ∧ Below w.heap.size w w'
theorem RetI1.zero {r : List Int × Int × Bool} {w w' : World} {e : Ending} (h : RetI1 r w e w') (h0 : r.1 = []) : RetZ1 r w e w' := by
  obtain ⟨g, c, rfl, _, _, _, hb⟩ := h
  exact ⟨Option.some ⟨g, 0, Option.none⟩, c, by rw [h0]; rfl, hb⟩
theorem RetN1.zero {r : List Int × Int × Bool} {w w' : World} {e : Ending} (h : RetN1 r w e w') (h0 : r.1 = []) : RetZ1 r w e w' := by
  obtain ⟨v, rfl, ho, hb⟩ := h
  rcases ho.2 with ⟨rfl, _⟩ | ⟨g, c, _, rfl, _⟩
  · exact ⟨Option.none, 0, rfl, hb⟩
  · exact ⟨_, c, by rw [h0]; rfl, hb⟩
theorem RetN1.own {r : List Int × Int × Bool} {w w' : World} {e : Ending} (h : RetN1 r w e w') (h0 : r.1 ≠ []) : RetI1 r w e w' := by
  obtain ⟨v, rfl, ho, hb⟩ := h
  have hl := List.length_pos_iff.2 h0
  rcases ho.2 with ⟨_, hz⟩ | ⟨g, c, _, e, _⟩
  · omega
  · subst e
    obtain ⟨h1, h2, h3⟩ := OwnN.row ho
    exact ⟨g, c, rfl, h2, h1, h3, hb⟩
theorem flat0 (a : Option Addr) (c : Nat) (w : World) : FlatAt w (.slice a 0 c) ([] : List Int).length (ints []) := ⟨a, c, rfl, Nat.zero_le _, fun j u h => by simp [ints] at h⟩

theorem specRmZ_any (b o c : Nat) (l : List Int) (w : World) (hv : FlatAt w (.slice (some ⟨b, o, none⟩) l.length c) l.length (ints l)) (hn : l.length ≤ 1048576) (h0 : (rmAll l).1 = []) :
    Calls Try.prog 36 #[.slice (some ⟨b, o, none⟩) l.length c] w (RetZ1 (rmAll l) w) := (specRm_any b o c l w hv hn).mono fun e w' h => h.zero h0
theorem implRmZ_any (b o c : Nat) (l : List Int) (w : World) (hv : FlatAt w (.slice (some ⟨b, o, none⟩) l.length c) l.length (ints l)) (hn : l.length ≤ 1048576) (h0 : (rmAll l).1 = []) :
    Calls Try.prog 35 #[.slice (some ⟨b, o, none⟩) l.length c] w (RetZ1 (rmAll l) w) := (implRm_any b o c l w hv hn).mono fun e w' h => h.zero h0
theorem implRmS_any (b o c : Nat) (l : List Int) (w : World) (hv : FlatAt w (.slice (some ⟨b, o, none⟩) l.length c) l.length (ints l)) (hn : l.length ≤ 1048576) (h0 : (rmAll l).1 ≠ []) :
    Calls Try.prog 35 #[.slice (some ⟨b, o, none⟩) l.length c] w (RetI1 (rmAll l) w) := (implRm_any b o c l w hv hn).mono fun e w' h => h.own h0

theorem mark0_any (a : Option Addr) (c : Nat) (w : World) :
    Calls Try.prog 53 #[.slice a 0 c, .int .i64 1] w fun e w' => e = .returned (.int .i64 1) ∧ Below w.heap.size w w' := by
  go_enter Try.func53, Try.ntmps53
  go_wp2
  go_loopw [1, 5] (fun q i wr => i = .int .i64 0 ∧ q = .int .i64 1 ∧ wr = w) (fun _ _ _ => 0)
  case atStart => exact ⟨rfl, rfl, rfl⟩
  case round =>
    obtain ⟨rfl, rfl, rfl⟩ := hrel
    go_wp2
    go_ret
    exact ⟨rfl, Below.refl _ _⟩
theorem held0_any (a : Option Addr) (c : Nat) (w : World) :
    Calls Try.prog 54 #[.slice a 0 c, .int .i64 1] w fun e w' => e = .returned (.int .i64 1) ∧ Below w.heap.size w w' := by
  go_enter Try.func54, Try.ntmps54
  go_wp2
  go_loopw [1, 5] (fun q i wr => i = .int .i64 0 ∧ q = .int .i64 1 ∧ wr = w) (fun _ _ _ => 0)
  case atStart => exact ⟨rfl, rfl, rfl⟩
  case round =>
    obtain ⟨rfl, rfl, rfl⟩ := hrel
    go_wp2
    go_ret
    exact ⟨rfl, Below.refl _ _⟩

end Go.Proofs.Ytnjabdlhgmaeiaa
