/- The program's heap: a block of three cells (the elements, the arity, the swaps), and the elements' row; its exchange. -/
import Derived.Test.YtipdfmedbcafpaaHeapA
import Derived.Test.YtipdfmedbcafpaaBut2
import Derived.BigRegion
import Derived.BigQuiet
import Derived.Deep.QuietTactic
import Derived.Laws.BitsLemmas
namespace Go.Proofs.Ytipdfmedbcafpaa
open Go.RowKit P El Hp
set_option linter.unusedVariables false

def hst (g n cap d q : Nat) : List Value := [.slice (some ⟨g, 0, none⟩) n cap, .int .i64 (d : Int), .int .i64 (q : Int)]

structure HpG (base s g cap : Nat) (L : List Int) (d q : Nat) (w : World) : Prop where
  st : CellRow w s (hst g L.length cap d q)
  row : CellRow w g (ints L)
  ne : g ≠ s
  bs : base ≤ s
  bg : base ≤ g
  cap : L.length ≤ cap
theorem HpG.c0 {base s g cap : Nat} {L : List Int} {d q : Nat} {w : World} (h : HpG base s g cap L d q w) :
    w.cell? ⟨s, 0, none⟩ = some (.slice (some ⟨g, 0, none⟩) L.length cap) ∧ w.cell? ⟨s, 1, none⟩ = some (.int .i64 (d : Int)) ∧ w.cell? ⟨s, 2, none⟩ = some (.int .i64 (q : Int)) ∧
      w.frozen? ⟨s, 0, none⟩ = false ∧ w.frozen? ⟨s, 1, none⟩ = false ∧ w.frozen? ⟨s, 2, none⟩ = false := by
  have h0 := h.st.2 0 _ rfl
  have h1 := h.st.2 1 _ rfl
  have h2 := h.st.2 2 _ rfl
  exact ⟨h0.1, h1.1, h2.1, h0.2, h1.2, h2.2⟩
theorem HpG.same {base s g cap : Nat} {L : List Int} {d q : Nat} {w w' : World} (h : HpG base s g cap L d q w) (hs : w'.heap[s]? = w.heap[s]?) (hg : w'.heap[g]? = w.heap[g]?) (hz : w.heap.size ≤ w'.heap.size) : HpG base s g cap L d q w' :=
  ⟨h.st.same hs hz, h.row.same hg hz, h.ne, h.bs, h.bg, h.cap⟩
theorem HpG.below {base s g cap : Nat} {L : List Int} {d q : Nat} {w w' : World} (h : HpG base s g cap L d q w) (hb : Below w.heap.size w w') : HpG base s g cap L d q w' :=
  h.same (hb.block s h.st.1) (hb.block g h.row.1) hb.size
theorem HpG.drewN {base s g cap : Nat} {L : List Int} {d q : Nat} {w : World} (h : HpG base s g cap L d q w) (n : Nat) : HpG base s g cap L d q (w.drewN n) := h.same rfl rfl (Nat.le_refl _)
theorem HpG.swapd {base s g cap : Nat} {L : List Int} {d q : Nat} {w : World} (h : HpG base s g cap L d q w) : HpG base s g cap L d (q + 1) (w.setCell ⟨s, 2, none⟩ (.int .i64 ((q : Int) + 1))) :=
  ⟨by rw [show hst g L.length cap d (q + 1) = (hst g L.length cap d q).set 2 (.int .i64 ((q : Int) + 1)) from rfl]; exact h.st.set 2 _ (by simp [hst]), h.row.same (Below.heap_setCell _ _ _ _ h.ne) (by simp), h.ne, h.bs, h.bg, h.cap⟩
theorem HpG.put {base s g cap : Nat} {L : List Int} {d q : Nat} {w : World} (h : HpG base s g cap L d q w) (k : Nat) (x : Int) (hk : k < L.length) : HpG base s g cap (L.set k x) d q (w.setCell ⟨g, k, none⟩ (.int .i64 x)) :=
  ⟨by rw [List.length_set]; exact h.st.same (Below.heap_setCell _ _ _ _ (fun e => h.ne e.symm)) (by simp), by rw [← ints_set]; exact h.row.set k _ (by rw [ints_length]; exact hk), h.ne, h.bs, h.bg, by rw [List.length_set]; exact h.cap⟩
theorem HpG.at {base s g cap : Nat} {L : List Int} {d q : Nat} {w : World} (h : HpG base s g cap L d q w) {k : Nat} (hk : k < L.length) : w.cell? ⟨g, k, none⟩ = some (.int .i64 (L.getD k 0)) ∧ w.frozen? ⟨g, k, none⟩ = false := h.row.2 k _ (ints_at (at_getD hk))
/-- What a step on the heap leaves. -/
def HpP (base s g cap d : Nat) (R : St2) (w w' : World) : Prop := HpG base s g cap R.1 d R.2 w' ∧ But2 s g w w'

set_option maxRecDepth 100000 in
set_option maxHeartbeats 4000000 in
theorem hswap_any {base s g cap : Nat} {L : List Int} {d q : Nat} (i k : Nat) (w : World) (h : HpG base s g cap L d q w) (hq : q ≤ 1048576) (hi : i < L.length) (hk : k < L.length) (hne : i ≠ k) :
    Calls Try.prog 157 #[.pointer (some ⟨s, 0, none⟩), .int .i64 (i : Int), .int .i64 (k : Int)] w fun e w' => e = .returned (.tuple #[]) ∧ HpP base s g cap d (swapped L i k, q + 1) w w' := by
  obtain ⟨x, hx⟩ : ∃ x, x = L.getD i 0 := ⟨_, rfl⟩
  obtain ⟨y, hy⟩ : ∃ y, y = L.getD k 0 := ⟨_, rfl⟩
  obtain ⟨_, _, h3, _, _, f3⟩ := h.c0
  have HM := Lib.hid h.swapd
  have HB : Hid (But2 s g w (w.setCell ⟨s, 2, none⟩ (.int .i64 ((q : Int) + 1)))) := Lib.hid ((But2.refl s g w).setCell s 2 _ (.inl rfl))
  have HX := Lib.hid hx
  have HY := Lib.hid hy
  have HNE := Lib.hid hne
  have hiz : (i : Int) < L.length := by omega
  have hkz : (k : Int) < L.length := by omega
  clear h hx hy hne
  go_enter Try.func157, Try.ntmps157
  go_wp2_with fail
  generalize w.setCell ⟨s, 2, none⟩ (.int .i64 ((q : Int) + 1)) = W at HM HB ⊢
  clear h3 f3
  obtain ⟨hs0, _⟩ := HM.out.c0
  obtain ⟨hcx, hfx⟩ := HM.out.at hi
  obtain ⟨hcy, hfy⟩ := HM.out.at hk
  rw [← HX.out] at hcx
  rw [← HY.out] at hcy
  have hne : ¬ i = k := HNE.out
  have hne2 : ¬ k = i := fun e => HNE.out e.symm
  have hsg : ¬ g = s := HM.out.ne
  have hsg2 : ¬ s = g := fun e => HM.out.ne e.symm
  have HRES : Hid (HpP base s g cap d (swapped L i k, q + 1) w ((W.setCell ⟨g, i, none⟩ (.int .i64 y)).setCell ⟨g, k, none⟩ (.int .i64 x)).drew) := Lib.hid (by
    have h1 := (HM.out.put i y hi).put k x (by rw [List.length_set]; exact hk)
    have e : (L.set i y).set k x = swapped L i k := by unfold swapped; rw [← HX.out, ← HY.out]
    rw [e] at h1
    exact ⟨h1.drewN 1, (((HB.out.setCell g i _ (.inr rfl)).setCell g k _ (.inr rfl))).drewN 1⟩)
  go_region
  go_wp2_with fail
  go_end0
  exact ⟨rfl, HRES.out⟩

end Go.Proofs.Ytipdfmedbcafpaa
