/- The program's heap made of one list or two, behind the slice of them that the call lays. -/
import Derived.Test.YtipdfmedbcafpaaHpMk
import Derived.Test.YtipdfmedbcafpaaHpIs
import Derived.Test.YtipdfmedbcafpaaRetZ
namespace Go.Proofs.Ytipdfmedbcafpaa
open Go.RowKit P El Hp
set_option linter.unusedVariables false

theorem OwnN.lower {base base' : Nat} {w : World} {v : Value} {L : List Int} (h : OwnN base w v L) (hB : base' ≤ base) : OwnN base' w v L := by
  refine ⟨h.1, ?_⟩
  rcases h.2 with hn | ⟨j, cap, cur, rfl, h1, hg, rest⟩
  · exact .inl hn
  · exact .inr ⟨j, cap, cur, rfl, by omega, hg, rest⟩
theorem HpN.lower {base base' s d q : Nat} {v : Value} {L : List Int} {w : World} (h : HpN base s v L d q w) (hB : base' ≤ base) : HpN base' s v L d q w := ⟨h.st, h.own.lower hB, Nat.le_trans hB h.bs, h.ne⟩

theorem mk1_any (d : Nat) (a : Option Addr) (c : Nat) (l : List Int) (w : World) (h : (Part.mk a c l).ok w) (hn : l.length ≤ 1048576) :
    Calls Try.prog 155 #[.int .i64 (d : Int), .slice (some ⟨w.heap.size, 0, none⟩) 1 1] (w.alloc (.cells #[.slice a l.length c] 26)) fun e w' => ∃ s v, e = .returned (.pointer (some ⟨s, 0, none⟩)) ∧ HpN w.heap.size s v l d 0 w' ∧ Below w.heap.size w w' := by
  have hb : Below w.heap.size w (w.alloc (.cells #[.slice a l.length c] 26)) := (Below.refl _ _).alloc (Nat.le_refl _) _
  have hj : joined [Part.mk a c l] = l := by simp [joined]
  refine (mk_any d w.heap.size 1 [Part.mk a c l] _ (fun j p hp => ?_) (by rw [hj]; exact hn) (by simp)).mono ?_
  · cases j with
    | zero =>
      simp at hp; subst hp
      exact ⟨by unfold Part.val; simp, by simp, h.below hb⟩
    | succ j => simp at hp
  · rintro e w' ⟨s, v, rfl, hH, hb2⟩
    rw [hj] at hH
    exact ⟨s, v, rfl, hH.lower hb.size, hb.trans (hb2.mono hb.size)⟩

theorem mk2_any (d : Nat) (a : Option Addr) (c : Nat) (l : List Int) (x : Int) (w : World) (h : (Part.mk a c l).ok w) (hn : l.length ≤ 1000000) :
    Calls Try.prog 155 #[.int .i64 (d : Int), .slice (some ⟨w.heap.size + 1, 0, none⟩) 2 2] ((w.alloc (.cells #[.int .i64 x] 3)).alloc (.cells #[.slice a l.length c, .slice (some ⟨w.heap.size, 0, none⟩) 1 1] 26)) fun e w' => ∃ s v, e = .returned (.pointer (some ⟨s, 0, none⟩)) ∧ HpN w.heap.size s v (l ++ [x]) d 0 w' ∧ Below w.heap.size w w' := by
  have hb1 : Below w.heap.size w (w.alloc (.cells #[.int .i64 x] 3)) := (Below.refl _ _).alloc (Nat.le_refl _) _
  have hb := hb1.alloc hb1.size (.cells #[.slice a l.length c, .slice (some ⟨w.heap.size, 0, none⟩) 1 1] 26)
  have hj : joined [Part.mk a c l, Part.mk (some ⟨w.heap.size, 0, none⟩) 1 [x]] = l ++ [x] := by simp [joined]
  have hs2 : ((w.alloc (.cells #[.int .i64 x] 3)).alloc (.cells #[.slice a l.length c, .slice (some ⟨w.heap.size, 0, none⟩) 1 1] 26)).heap.size = w.heap.size + 2 := by simp
  have hx : ((w.alloc (.cells #[.int .i64 x] 3)).alloc (.cells #[.slice a l.length c, .slice (some ⟨w.heap.size, 0, none⟩) 1 1] 26)).cell? ⟨w.heap.size, 0, none⟩ = some (.int .i64 x) := by
    have e1 : (w.alloc (.cells #[.int .i64 x] 3)).cell? ⟨w.heap.size, 0, none⟩ = some (.int .i64 x) := by simp
    have e2 := ((Below.refl (w.heap.size + 1) (w.alloc (.cells #[.int .i64 x] 3))).alloc (by simp) (.cells #[.slice a l.length c, .slice (some ⟨w.heap.size, 0, none⟩) 1 1] 26)).cell (p := ⟨w.heap.size, 0, none⟩) (by show w.heap.size < w.heap.size + 1; omega)
    exact e2.trans e1
  refine (mk_any d (w.heap.size + 1) 2 [Part.mk a c l, Part.mk (some ⟨w.heap.size, 0, none⟩) 1 [x]] _ (fun j p hp => ?_) (by rw [hj]; simp; omega) (by simp)).mono ?_
  · have hc : ∀ j u, (#[Value.slice a l.length c, Value.slice (some ⟨w.heap.size, 0, none⟩) 1 1] : Array Value)[j]? = some u → ((w.alloc (.cells #[.int .i64 x] 3)).alloc (.cells #[.slice a l.length c, .slice (some ⟨w.heap.size, 0, none⟩) 1 1] 26)).cell? ⟨w.heap.size + 1, j, none⟩ = some u := by
      intro j u hu
      have hA : RowIs ((w.alloc (.cells #[.int .i64 x] 3)).alloc (.cells #[.slice a l.length c, .slice (some ⟨w.heap.size, 0, none⟩) 1 1] 26)) (w.heap.size + 1) 26 [.slice a l.length c, .slice (some ⟨w.heap.size, 0, none⟩) 1 1] := by
        have := heap_alloc_new (w.alloc (.cells #[.int .i64 x] 3)) (.cells #[.slice a l.length c, .slice (some ⟨w.heap.size, 0, none⟩) 1 1] 26)
        rw [show (w.alloc (.cells #[.int .i64 x] 3)).heap.size = w.heap.size + 1 by simp] at this
        exact this
      exact ((CellRow.of_row hA).2 j u (by simpa using hu)).1
    match j, hp with
    | 0, hp =>
      simp at hp; subst hp
      exact ⟨hc 0 _ rfl, by omega, h.below hb⟩
    | 1, hp =>
      simp at hp; subst hp
      refine ⟨hc 1 _ rfl, by omega, ⟨_, _, rfl, Nat.le_refl _, fun j u hu => ?_⟩, fun e => by simp at e⟩
      cases j with
      | zero => simp [ints] at hu; subst hu; exact ⟨_, _, rfl, by omega, hx⟩
      | succ j => simp [ints] at hu
    | j + 2, hp => simp at hp
  · rintro e w' ⟨s, v, rfl, hH, hb2⟩
    rw [hj] at hH
    exact ⟨s, v, rfl, hH.lower (by omega), hb.trans (hb2.mono (by omega))⟩

end Go.Proofs.Ytipdfmedbcafpaa
