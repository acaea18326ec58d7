/- The model's StableSort, by its contract: what it hands back is settled by the list. -/
import Derived.Test.YtcbeoihgaccjcaaStable
import Derived.OwnWalk
namespace Go.Proofs.Ytcbeoihgaccjcaa
open Go.RowKit

/-- What StableSort hands back. -/
def SortedOf (l L : List (Int × Int)) : Prop := (OkR l ∧ Stab.Of (·.1) l L) ∨ (¬ OkR l ∧ L = [])

theorem SortedOf.uniq {l L M : List (Int × Int)} (h : SortedOf l L) (k : SortedOf l M) : L = M := by
  rcases h with ⟨h1, h2⟩ | ⟨h1, h2⟩
  · rcases k with ⟨_, k2⟩ | ⟨k1, _⟩
    · exact Stab.Of.uniq h2 k2
    · exact absurd h1 k1
  · rcases k with ⟨k1, _⟩ | ⟨_, k2⟩
    · exact absurd k1 h1
    · rw [h2, k2]

theorem SortedOf.len {l L : List (Int × Int)} (h : SortedOf l L) : L.length ≤ l.length := by
  rcases h with ⟨_, h⟩ | ⟨_, h⟩
  · exact Nat.le_of_eq (Stab.Of.length h)
  · rw [h]; exact Nat.zero_le _

def SortC (l : List (Int × Int)) (w : World) (e : Ending) (w' : World) : Prop :=
  ∃ g cap L, e = .returned (.tuple #[.slice (some ⟨g, 0, none⟩) L.length cap, .bool (decide (OkR l))]) ∧ L.length ≤ cap ∧ w.heap.size ≤ g ∧ CellRow w' g (recs L) ∧ SortedOf l L ∧ Below w.heap.size w w'

theorem specSort_any (b o c : Nat) (l : List (Int × Int)) (w : World) (hv : FlatAt w (.slice (some ⟨b, o, none⟩) l.length c) l.length (recs l)) (hn : l.length ≤ 1048576) :
    Calls Try.prog 15 #[.slice (some ⟨b, o, none⟩) l.length c] w (SortC l w) := by
  have HV := Lib.hid hv
  clear hv
  by_cases hok : OkR l
  · have hd : decide (OkR l) = true := decide_eq_true hok
    have HOK := Lib.hid hok
    clear hok
    unfold SortC
    rw [hd]
    go_enter Try.func15, Try.ntmps15
    go_wp2_with fail
    refine (l2Records_any _ l w HV.out hn).mono ?_
    rw [hd]
    rintro e w1 ⟨rfl, hb1⟩
    have HV1 := Lib.hid (HV.out.below hb1)
    have HB1 := Lib.hid hb1
    clear hb1 HV hd
    go_wp2_with fail
    refine (l2Stable_any b o c l _ HV1.out hn).mono ?_
    rintro e w2 ⟨g, cap, L, rfl, hcap, hg, hrow, hof, hb2⟩
    have HRES : Hid (∃ g' cap' L', Ending.returned (.tuple #[.slice (some ⟨g, 0, none⟩) l.length cap, .bool true]) = .returned (.tuple #[.slice (some ⟨g', 0, none⟩) L'.length cap', .bool true]) ∧ L'.length ≤ cap' ∧ w.heap.size ≤ g' ∧ CellRow w2 g' (recs L') ∧ SortedOf l L' ∧ Below w.heap.size w w2) :=
      Lib.hid ⟨g, cap, L, by rw [Stab.Of.length hof], by rw [Stab.Of.length hof]; exact hcap, Nat.le_trans HB1.out.size hg, hrow, .inl ⟨HOK.out, hof⟩, HB1.out.trans (hb2.mono HB1.out.size)⟩
    clear hcap hg hrow hof hb2
    go_wp2_with fail
    go_ret2
    exact HRES.out
  · have hd : decide (OkR l) = false := decide_eq_false hok
    have HRES : Hid (∀ w1, Below w.heap.size w w1 → SortC l w (.returned (.tuple #[.slice (some ⟨w1.heap.size, 0, none⟩) 0 0, .bool false])) (w1.alloc (.cells #[] 32))) := Lib.hid (fun w1 hb =>
      ⟨w1.heap.size, 0, [], by rw [hd]; rfl, Nat.le_refl _, hb.size, ⟨by simp, fun j u hu => by simp [recs] at hu⟩, .inr ⟨hok, rfl⟩, hb.alloc hb.size _⟩)
    clear hok
    go_enter Try.func15, Try.ntmps15
    go_wp2_with fail
    refine (l2Records_any _ l w HV.out hn).mono ?_
    rw [hd]
    rintro e w1 ⟨rfl, hb1⟩
    have HB1 := Lib.hid hb1
    clear hb1 HV hd
    go_wp2_with fail
    go_ret2
    exact HRES.out _ HB1.out

theorem specValidRecs_any (v : Value) (l : List (Int × Int)) (w : World) (hv : FlatAt w v l.length (recs l)) (hn : l.length ≤ 1048576) :
    Calls Try.prog 18 #[v] w fun e w' => e = .returned (.bool (decide (OkR l))) ∧ Below w.heap.size w w' := by
  have HV := Lib.hid hv
  clear hv
  go_enter Try.func18, Try.ntmps18
  go_wp2_with fail
  refine (l2Records_any _ l w HV.out hn).mono ?_
  rintro e w1 ⟨rfl, hb⟩
  have HB := Lib.hid hb
  clear hb
  go_wp2_with fail
  go_ret
  exact ⟨rfl, HB.out⟩

end Go.Proofs.Ytcbeoihgaccjcaa
