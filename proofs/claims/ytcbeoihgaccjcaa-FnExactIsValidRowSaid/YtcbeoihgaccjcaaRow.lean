/- The laws' small helpers over a row (szRow, toRow), by their contracts. -/
import Derived.Test.YtcbeoihgaccjcaaStrs
import Derived.Test.YtcbeoihgaccjcaaStr
import Derived.Deep.RegionWith
namespace Go.Proofs.Ytcbeoihgaccjcaa
open Go.RowKit

theorem szRow_yes (u : Value) (xs : List ByteArray) (left : Nat) (w : World) (hv : StrsAt w u xs) (hl : xs.length + bytesOf xs ≤ left) (hL : left ≤ 1048576) :
    Calls Try.prog 34 #[.agg #[u], .int .i64 (left : Int)] w fun e w' => e = .returned (.int .i64 ((left : Int) - xs.length - bytesOf xs)) ∧ Below w.heap.size w w' := by
  have hv0 := hv
  obtain ⟨a, c, rfl, hx0, hx1⟩ := hv0
  have hb : Below w.heap.size w (w.alloc (.cells #[.slice a xs.length c] 51)) := (Below.refl _ w).alloc (Nat.le_refl _) _
  have HV := Lib.hid (hv.below hb)
  have HB := Lib.hid hb
  have h0 : 0 ≤ (left : Int) - xs.length - bytesOf xs := by omega
  clear hv hx0 hx1 hb
  go_enter Try.func34, Try.ntmps34
  go_wp2_with fail
  refine (sz_yes _ xs left _ HV.out hl hL).mono ?_
  rintro e w1 ⟨rfl, rfl⟩
  go_wp2_with fail
  go_ret
  exact ⟨rfl, HB.out⟩

theorem szRow_no (u : Value) (xs : List ByteArray) (left : Nat) (w : World) (hv : StrsAt w u xs) (hl : left < xs.length + bytesOf xs) (hL : left ≤ 1048576) (hn : xs.length ≤ maxLen) (hx : ∀ (j : Nat) x, xs[j]? = some x → x.size ≤ maxLen) :
    Calls Try.prog 34 #[.agg #[u], .int .i64 (left : Int)] w fun e w' => e = .returned (.int .i64 (-1)) ∧ Below w.heap.size w w' := by
  have hv0 := hv
  obtain ⟨a, c, rfl, hx0, hx1⟩ := hv0
  have hb : Below w.heap.size w (w.alloc (.cells #[.slice a xs.length c] 51)) := (Below.refl _ w).alloc (Nat.le_refl _) _
  have HV := Lib.hid (hv.below hb)
  have HB := Lib.hid hb
  have HX := Lib.hid hx
  clear hv hx0 hx1 hb hx
  go_enter Try.func34, Try.ntmps34
  go_wp2_with fail
  refine (sz_no _ xs left _ HV.out hl hL hn HX.out).mono ?_
  rintro e w1 ⟨rfl, rfl⟩
  go_wp2_with fail
  go_ret
  exact ⟨rfl, HB.out⟩

theorem infoRow1 : (Try.prog.info? 54).map (·.size) = some 1 := by kernel_rfl

theorem RowIs.set_other {w : World} {g k : Nat} {t : TypeId} {l : List Value} (h : RowIs w g t l) (j : Nat) (u : Value) (hg : g ≠ k) : RowIs (w.setCell ⟨k, j, none⟩ u) g t l := h.but ((But.refl k w).setCell j u) hg

set_option maxRecDepth 100000 in
theorem toRow_any (u : Value) (xs : List ByteArray) (w : World) (hv : StrsAt w u xs) (hn : xs.length ≤ 1048576) :
    Calls Try.prog 36 #[.agg #[u]] w fun e w' => ∃ g, e = .returned (.agg #[.slice (some ⟨g, 0, none⟩) xs.length xs.length]) ∧ w.heap.size ≤ g ∧ CellRow w' g (strs xs) ∧ Below w.heap.size w w' := by
  have hv0 := hv
  obtain ⟨a, c, rfl, hx0, hx1⟩ := hv0
  obtain ⟨W, hW⟩ : ∃ W, W = ((w.alloc (.cells #[.slice a xs.length c] 51)).alloc (.cells #[.slice none 0 0] 54)).alloc (.cells #[.slice none 0 0] 54) := ⟨_, rfl⟩
  have hb : Below w.heap.size w W := by rw [hW]; exact (((Below.refl _ w).alloc (Nat.le_refl _) _).alloc (by simp) _).alloc (by simp; omega) _
  have hsz : W.heap.size = w.heap.size + 1 + 1 + 1 := by rw [hW]; simp
  have h1 : RowIs W (w.heap.size + 1) 54 [.slice none 0 0] := by
    unfold RowIs
    rw [hW, heap_alloc_old _ _ (by simp)]
    exact heap_alloc2_new w _ _
  have h2 : RowIs W (w.heap.size + 1 + 1) 54 [.slice none 0 0] := by
    unfold RowIs
    rw [hW]
    have := heap_alloc_new ((w.alloc (.cells #[.slice a xs.length c] 51)).alloc (.cells #[.slice none 0 0] 54)) (.cells #[.slice none 0 0] 54)
    simpa using this
  have HV := Lib.hid (hv.below hb)
  have HB := Lib.hid hb
  have H1 := Lib.hid h1
  have H2 := Lib.hid h2
  clear hv hx0 hx1 hb h1 h2
  go_enter Try.func36, Try.ntmps36
  go_wp2_with fail
  rw [← hW]
  refine (to_any _ xs W HV.out hn).mono ?_
  rintro e w1 ⟨rfl, hr, hb1⟩
  have R1 := H1.out.below hb1 H1.out.lt
  have R2 := H2.out.below hb1 H2.out.lt
  have hc1 : w1.cell? ⟨w.heap.size + 1, 0, none⟩ = some (.slice none 0 0) := R1.cell 0
  have hc2 : w1.cell? ⟨w.heap.size + 1 + 1, 0, none⟩ = some (.slice none 0 0) := R2.cell 0
  have hf1 := R1.frozen 0
  have hf2 := R2.frozen 0
  have HR1 := Lib.hid R1
  have HR2 := Lib.hid R2
  have HC := Lib.hid (CellRow.of_row hr)
  have HB1 := Lib.hid (HB.out.trans (hb1.mono HB.out.size))
  have HS := Lib.hid hsz
  clear R1 R2 hr hb1 hW hsz HB HV H1 H2
  go_wp2_with fail
  have hz := HS.out
  have hF : RowIs ((w1.setCell ⟨w.heap.size + 1 + 1, 0, none⟩ (.slice (some ⟨W.heap.size, 0, none⟩) xs.length xs.length)).setCell ⟨w.heap.size + 1, 0, none⟩ (.slice (some ⟨W.heap.size, 0, none⟩) xs.length xs.length)) (w.heap.size + 1) 54 [.slice (some ⟨W.heap.size, 0, none⟩) xs.length xs.length] :=
    (HR1.out.set_other 0 _ (by omega)).stored 0 _
  exact bodyPost_ret (results_cell_row rfl _ _ _ _ _ (0, 0) _ rfl hF Try.underlying54 rfl infoRow1) rfl
    ⟨W.heap.size, rfl, by omega, (HC.out.but ((But.refl (w.heap.size + 1 + 1) w1).setCell 0 _) (by omega)).but ((But.refl (w.heap.size + 1) _).setCell 0 _) (by omega), (HB1.out.setCell (p := ⟨w.heap.size + 1 + 1, 0, none⟩) (by show w.heap.size ≤ w.heap.size + 1 + 1; omega) _).setCell (p := ⟨w.heap.size + 1, 0, none⟩) (by show w.heap.size ≤ w.heap.size + 1; omega) _⟩

end Go.Proofs.Ytcbeoihgaccjcaa
