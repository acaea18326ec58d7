/- The list that counts its operations: a block of four cells, and the elements' row. -/
import Derived.Test.YthmcjmjkmmbepaaCloneI
import Derived.Test.YthmcjmjkmmbepaaElem2
import Derived.Test.YthmcjmjkmmbepaaBut2
import Derived.BigRegion
import Derived.BigQuiet
import Derived.Deep.QuietTactic
import Derived.Laws.BitsLemmas
namespace Go.Proofs.Ythmcjmjkmmbepaa
open Go.RowKit P El

/-- The four cells. -/
def cst (g n cap c m q : Nat) : List Value := [.slice (some ⟨g, 0, none⟩) n cap, .int .i64 (c : Int), .int .i64 (m : Int), .int .i64 (q : Int)]

structure Cnt (base s g cap : Nat) (L : List Int) (c m q : Nat) (w : World) : Prop where
  st : CellRow w s (cst g L.length cap c m q)
  row : CellRow w g (ints L)
  ne : g ≠ s
  bs : base ≤ s
  bg : base ≤ g
  cap : L.length ≤ cap

theorem Cnt.c0 {base s g cap : Nat} {L : List Int} {c m q : Nat} {w : World} (h : Cnt base s g cap L c m q w) :
    w.cell? ⟨s, 0, none⟩ = some (.slice (some ⟨g, 0, none⟩) L.length cap) ∧ w.cell? ⟨s, 1, none⟩ = some (.int .i64 (c : Int)) ∧ w.cell? ⟨s, 2, none⟩ = some (.int .i64 (m : Int)) ∧ w.cell? ⟨s, 3, none⟩ = some (.int .i64 (q : Int)) ∧
      w.frozen? ⟨s, 0, none⟩ = false ∧ w.frozen? ⟨s, 1, none⟩ = false ∧ w.frozen? ⟨s, 2, none⟩ = false ∧ w.frozen? ⟨s, 3, none⟩ = false := by
  have h0 := h.st.2 0 _ rfl
  have h1 := h.st.2 1 _ rfl
  have h2 := h.st.2 2 _ rfl
  have h3 := h.st.2 3 _ rfl
  exact ⟨h0.1, h1.1, h2.1, h3.1, h0.2, h1.2, h2.2, h3.2⟩
theorem Cnt.same {base s g cap : Nat} {L : List Int} {c m q : Nat} {w w' : World} (h : Cnt base s g cap L c m q w) (hs : w'.heap[s]? = w.heap[s]?) (hg : w'.heap[g]? = w.heap[g]?) (hz : w.heap.size ≤ w'.heap.size) : Cnt base s g cap L c m q w' :=
  ⟨h.st.same hs hz, h.row.same hg hz, h.ne, h.bs, h.bg, h.cap⟩
theorem Cnt.below {base s g cap : Nat} {L : List Int} {c m q : Nat} {w w' : World} (h : Cnt base s g cap L c m q w) (hb : Below w.heap.size w w') : Cnt base s g cap L c m q w' :=
  h.same (hb.block s h.st.1) (hb.block g h.row.1) hb.size
theorem Cnt.drewN {base s g cap : Nat} {L : List Int} {c m q : Nat} {w : World} (h : Cnt base s g cap L c m q w) (n : Nat) : Cnt base s g cap L c m q (w.drewN n) := h.same rfl rfl (Nat.le_refl _)
/-- Another number in one of the counters. -/
theorem Cnt.count {base s g cap : Nat} {L : List Int} {c m q c' m' q' : Nat} {w : World} (h : Cnt base s g cap L c m q w) (k : Nat) (u : Value) (hk : k < 4) (he : (cst g L.length cap c m q).set k u = cst g L.length cap c' m' q') : Cnt base s g cap L c' m' q' (w.setCell ⟨s, k, none⟩ u) :=
  ⟨by rw [← he]; exact h.st.set k u (by simp [cst]; omega), h.row.same (Below.heap_setCell _ _ _ _ h.ne) (by simp), h.ne, h.bs, h.bg, h.cap⟩
theorem Cnt.less {base s g cap : Nat} {L : List Int} {c m q : Nat} {w : World} (h : Cnt base s g cap L c m q w) : Cnt base s g cap L (c + 1) m q (w.setCell ⟨s, 1, none⟩ (.int .i64 ((c : Int) + 1))) := h.count 1 _ (by omega) rfl
theorem Cnt.moved {base s g cap : Nat} {L : List Int} {c m q : Nat} {w : World} (h : Cnt base s g cap L c m q w) : Cnt base s g cap L c (m + 1) q (w.setCell ⟨s, 2, none⟩ (.int .i64 ((m : Int) + 1))) := h.count 2 _ (by omega) rfl
theorem Cnt.swapd {base s g cap : Nat} {L : List Int} {c m q : Nat} {w : World} (h : Cnt base s g cap L c m q w) : Cnt base s g cap L c m (q + 1) (w.setCell ⟨s, 3, none⟩ (.int .i64 ((q : Int) + 1))) := h.count 3 _ (by omega) rfl
/-- Another element. -/
theorem Cnt.put {base s g cap : Nat} {L : List Int} {c m q : Nat} {w : World} (h : Cnt base s g cap L c m q w) (k : Nat) (x : Int) (hk : k < L.length) : Cnt base s g cap (L.set k x) c m q (w.setCell ⟨g, k, none⟩ (.int .i64 x)) :=
  ⟨by rw [List.length_set]; exact h.st.same (Below.heap_setCell _ _ _ _ (fun e => h.ne e.symm)) (by simp), by rw [← ints_set]; exact h.row.set k _ (by rw [ints_length]; exact hk), h.ne, h.bs, h.bg, by rw [List.length_set]; exact h.cap⟩
theorem Cnt.at {base s g cap : Nat} {L : List Int} {c m q : Nat} {w : World} (h : Cnt base s g cap L c m q w) {k : Nat} (hk : k < L.length) : w.cell? ⟨g, k, none⟩ = some (.int .i64 (L.getD k 0)) ∧ w.frozen? ⟨g, k, none⟩ = false := h.row.2 k _ (ints_at (at_getD hk))

/-- The list, its counts, and nothing else moved. -/
def CntP (base s g cap : Nat) (L : List Int) (c m q : Nat) (w w' : World) : Prop := Cnt base s g cap L c m q w' ∧ But2 s g w w'

set_option maxRecDepth 100000 in
theorem counted_any (b o c : Nat) (l : List Int) (w : World) (hv : FlatAt w (.slice (some ⟨b, o, none⟩) l.length c) l.length (ints l)) (hn : l.length ≤ 1048576) :
    Calls Try.prog 54 #[.slice (some ⟨b, o, none⟩) l.length c] w fun e w' => ∃ s g cap, e = .returned (.pointer (some ⟨s, 0, none⟩)) ∧ Cnt w.heap.size s g cap l 0 0 0 w' ∧ Below w.heap.size w w' := by
  have HC := Lib.hid (cloneInts_any b o c l w hv hn)
  clear hv
  go_enter Try.func54, Try.ntmps54
  go_wp2_with fail
  refine (HC.out).mono ?_
  rintro e w1 ⟨g, cap, rfl, hcap, hg, hrow, hb⟩
  have HRES : Hid (Cnt w.heap.size w1.heap.size g cap l 0 0 0 (w1.alloc (.cells #[.slice (some ⟨g, 0, none⟩) l.length cap, .int .i64 0, .int .i64 0, .int .i64 0] 87)) ∧ Below w.heap.size w (w1.alloc (.cells #[.slice (some ⟨g, 0, none⟩) l.length cap, .int .i64 0, .int .i64 0, .int .i64 0] 87))) := Lib.hid (by
    have hA : RowIs (w1.alloc (.cells #[.slice (some ⟨g, 0, none⟩) l.length cap, .int .i64 0, .int .i64 0, .int .i64 0] 87)) w1.heap.size 87 (cst g l.length cap 0 0 0) := heap_alloc_new w1 _
    refine ⟨⟨CellRow.of_row hA, hrow.same (heap_alloc_old _ _ hrow.1) (by simp), fun e => ?_, hb.size, hg, hcap⟩, hb.trans ((Below.refl _ _).alloc hb.size _)⟩
    have := hrow.1; omega)
  clear hrow hb hg hcap HC
  go_wp2_with fail
  go_ret
  exact ⟨_, _, _, rfl, HRES.out⟩

set_option maxRecDepth 100000 in
theorem isLess_any {base s g cap : Nat} {L : List Int} {c m q : Nat} (x y : Int) (w : World) (h : Cnt base s g cap L c m q w) (hc : c ≤ 1048576) :
    Calls Try.prog 97 #[.pointer (some ⟨s, 0, none⟩), .int .i64 x, .int .i64 y] w fun e w' => e = .returned (.bool (decide (x < y))) ∧ CntP base s g cap L (c + 1) m q w w' := by
  obtain ⟨_, h1, _, _, _, f1, _, _⟩ := h.c0
  have HRES : Hid (CntP base s g cap L (c + 1) m q w (w.setCell ⟨s, 1, none⟩ (.int .i64 ((c : Int) + 1)))) := Lib.hid ⟨h.less, (But2.refl s g w).setCell s 1 _ (.inl rfl)⟩
  clear h
  go_enter Try.func97, Try.ntmps97
  go_wp2_with fail
  go_ret
  exact ⟨rfl, HRES.out⟩

end Go.Proofs.Ythmcjmjkmmbepaa
