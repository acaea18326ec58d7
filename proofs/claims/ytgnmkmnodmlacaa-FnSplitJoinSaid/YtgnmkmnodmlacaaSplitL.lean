/- SplitString of the program and of its model, at every string and separator: the same pieces and the same bool. -/
import Derived.Test.YtgnmkmnodmlacaaSplitS
import Derived.Test.YtgnmkmnodmlacaaMarkT
import Derived.Test.YtgnmkmnodmlacaaStr
namespace Go.Proofs.Ytgnmkmnodmlacaa
open Go.RowKit

/-- A call hands back these pieces in a new row, and r. -/
def SplitIs (P : List ByteArray) (r : Bool) (w : World) (e : Ending) (w' : World) : Prop :=
  ∃ g cap, e = .returned (.tuple #[.slice (some ⟨g, 0, none⟩) P.length cap, .bool r]) ∧ w'.ownsRow w.heap.size 9 1 (.slice (some ⟨g, 0, none⟩) P.length cap) P.length (P.map Value.string) ∧ Below w.heap.size w w'

theorem pieces_one (s : ByteArray) (b : UInt8) : 1 ≤ (pieces s b).length := by unfold pieces; simp
theorem pieces_max (s : ByteArray) (b : UInt8) : (pieces s b).length ≤ s.size + 1 := by
  unfold pieces
  rw [List.length_append, stp_length]
  have := idx_le s b s.size
  simp; omega

theorem splitIs_of {P : List ByteArray} {r : Bool} {w w' : World} {e : Ending} {v : Value} (hn : 1 ≤ P.length) (he : e = .returned (.tuple #[v, .bool r])) (h : w'.ownsRow w.heap.size 9 1 v P.length (P.map Value.string)) (hb : Below w.heap.size w w') : SplitIs P r w e w' := by
  obtain ⟨m, hm⟩ : ∃ m, P.length = m + 1 := ⟨P.length - 1, by omega⟩
  have h2 := h
  rw [hm] at h2
  obtain ⟨g, cap, rfl⟩ := ownsRow_succ h2
  rw [← hm] at he h
  exact ⟨g, cap, he, h, hb⟩

theorem strsAt_own {w : World} {base g cap : Nat} {P : List ByteArray} (h : w.ownsRow base 9 1 (.slice (some ⟨g, 0, none⟩) P.length cap) P.length (P.map Value.string)) : StrsAt w (.slice (some ⟨g, 0, none⟩) P.length cap) P := by
  refine ⟨_, cap, rfl, ?_, fun j x hx => ⟨g, 0, rfl, (h.lt g rfl).2, ?_⟩⟩
  · rcases h.2 with ⟨e, _⟩ | ⟨g', cap', cur, e, _, _, h1, _⟩
    · simp at e
    · simp at e; omega
  · have hj := (List.getElem?_eq_some_iff.1 hx).1
    rw [Nat.zero_add, h.cellAt j (by omega)]; simp [hx]

theorem specSplit_yes (s sep : ByteArray) (w : World) (hs : s.size ≤ 4000) (hsep : sep.size = 1) (b : UInt8) (h0 : 0 < sep.size) (hy : sep[0] = b) :
    Calls Try.prog 17 #[.string s, .string sep] w (SplitIs (pieces s b) true w) := by
  have hsn : ((sep.size : Int) != 1) = false := by rw [hsep]; rfl
  have hs1 : (sep.size : Int) ≤ 1 := by omega
  have HC := Lib.hid (l1Split_any s b w hs)
  clear hsep
  go_enter Try.func17, Try.ntmps17
  go_wp2_with fail
  refine HC.out.mono ?_
  rintro e w1 ⟨v, rfl, hown, hb⟩
  have HS : Hid (SplitIs (pieces s b) true w (.returned (.tuple #[v, .bool true])) w1) := Lib.hid (splitIs_of (pieces_one s b) rfl hown hb)
  clear hown hb
  go_wp2
  go_ret2
  exact HS.out

theorem splitIs_none {w w' : World} {g : Nat} (hg : w'.heap[g]? = some (.cells #[] 9 (0, 0))) (hb : w.heap.size ≤ g) (h : Below w.heap.size w w') : SplitIs [] false w (.returned (.tuple #[.slice (some ⟨g, 0, none⟩) 0 0, .bool false])) w' :=
  ⟨g, 0, rfl, ⟨rfl, .inr ⟨g, 0, #[], rfl, hb, hg, Nat.le_refl _, by decide, rfl, rfl⟩⟩, h⟩

theorem specSplit_no (s sep : ByteArray) (w : World) (hs : s.size ≤ 1048576) (h : 4000 < s.size ∨ sep.size ≠ 1) :
    Calls Try.prog 17 #[.string s, .string sep] w (SplitIs [] false w) := by
  have HN := Lib.hid (splitIs_none (w := w) (heap_alloc_new w (.cells #[] 9)) (Nat.le_refl _) ((Below.refl _ w).alloc (Nat.le_refl _) _))
  by_cases h1 : sep.size = 1
  · have h2 : 4000 < s.size := by omega
    have hsn : ((sep.size : Int) != 1) = false := by rw [h1]; rfl
    clear h h1
    go_enter Try.func17, Try.ntmps17
    go_wp2
    go_ret2
    exact HN.out
  · have hsn : ((sep.size : Int) != 1) = true := by rw [bne_iff_ne]; omega
    clear h h1
    go_enter Try.func17, Try.ntmps17
    go_wp2
    go_ret2
    exact HN.out

theorem implSplit_yes (s sep : ByteArray) (w : World) (hs : s.size ≤ 4000) (hsep : sep.size = 1) (b : UInt8) (h0 : 0 < sep.size) (hy : sep[0] = b) :
    Calls Try.prog 10 #[.string s, .string sep] w (SplitIs (pieces s b) true w) :=
  (split_yes s sep w hs hsep b h0 hy).mono fun _ _ ⟨_, he, hown, hb⟩ => splitIs_of (pieces_one s b) he hown hb

theorem implSplit_no (s sep : ByteArray) (w : World) (hs : s.size ≤ 1048576) (h : 4000 < s.size ∨ sep.size ≠ 1) :
    Calls Try.prog 10 #[.string s, .string sep] w (SplitIs [] false w) := by
  have HN : Hid (SplitIs [] false w (.returned (.tuple #[.slice (some ⟨w.heap.size + 1, 0, none⟩) 0 0, .bool false])) ((w.alloc (.cells #[.string s] 9)).alloc (.cells #[] 9))) := Lib.hid (splitIs_none (by
    have h := heap_alloc_new (w.alloc (.cells #[.string s] 9)) (.cells #[] 9)
    rw [World.size_alloc] at h; exact h) (by omega) (((Below.refl _ w).alloc (Nat.le_refl _) _).alloc (by simp) _))
  by_cases h1 : 4000 < s.size
  · clear h
    go_enter Try.func10, Try.ntmps10
    go_wp2
    go_ret2
    exact HN.out
  · have h2 : sep.size ≠ 1 := by omega
    have hsn : ((sep.size : Int) != 1) = true := by rw [bne_iff_ne]; omega
    clear h h2
    go_enter Try.func10, Try.ntmps10
    go_wp2
    go_ret2
    exact HN.out

/-- Both at once. -/
theorem split_all (s sep : ByteArray) (hs : s.size ≤ 1048576) : ∃ (P : List ByteArray) (r : Bool), P.length ≤ 4001 ∧
    (∀ w, Calls Try.prog 17 #[.string s, .string sep] w (SplitIs P r w)) ∧ (∀ w, Calls Try.prog 10 #[.string s, .string sep] w (SplitIs P r w)) := by
  by_cases h : 4000 < s.size ∨ sep.size ≠ 1
  · exact ⟨[], false, by simp, fun w => specSplit_no s sep w hs h, fun w => implSplit_no s sep w hs h⟩
  · have h1 : s.size ≤ 4000 := by omega
    have h2 : sep.size = 1 := by omega
    exact ⟨pieces s sep[0], true, by have := pieces_max s sep[0]; omega, fun w => specSplit_yes s sep w h1 h2 _ (by omega) rfl, fun w => implSplit_yes s sep w h1 h2 _ (by omega) rfl⟩

end Go.Proofs.Ytgnmkmnodmlacaa
