/- The laws' small helpers over lists of records (szRecordS, toRecordS, eqRecordS, markRecordS, heldRecordS), by their contracts. -/
import Derived.Test.YtagibgphegoagaaRecs
import Derived.Deep.RegionWith
namespace Go.Proofs.Ytagibgphegoagaa
open Go.RowKit

theorem szRec_yes (a : Option Addr) (n c left : Nat) (w : World) (h : n ≤ left) (hL : left ≤ 1048576) :
    Calls Try.prog 27 #[.slice a n c, .int .i64 (left : Int)] w fun e w' => e = .returned (.int .i64 ((left - n : Nat) : Int)) ∧ w' = w := by
  have he : ((left - n : Nat) : Int) = (left : Int) - n := by omega
  rw [he]
  go_enter Try.func27, Try.ntmps27
  go_wp2
  go_ret
  exact ⟨rfl, rfl⟩

theorem szRec_no (a : Option Addr) (n c left : Nat) (w : World) (h : left < n) (hL : left ≤ 1048576) (hn : n ≤ maxLen) :
    Calls Try.prog 27 #[.slice a n c, .int .i64 (left : Int)] w fun e w' => e = .returned (.int .i64 (-1)) ∧ w' = w := by
  unfold maxLen at hn
  go_enter Try.func27, Try.ntmps27
  go_wp2
  go_ret
  exact ⟨rfl, rfl⟩

theorem infoRec : (Try.prog.info? 39).map (·.size) = some 2 := by kernel_rfl

theorem toRecord_any (k t : Int) (w : World) :
    Calls Try.prog 92 #[.agg #[.int .i64 k, .int .i64 t]] w fun e w' => e = .returned (.agg #[.int .i64 k, .int .i64 t]) ∧ Below w.heap.size w w' := by
  have hb : Below w.heap.size w (((w.alloc (.cells #[.int .i64 k, .int .i64 t] 102)).alloc (.cells #[.int .i64 k, .int .i64 t] 39)).alloc (.cells #[.int .i64 k, .int .i64 t] 39)) :=
    (((Below.refl _ w).alloc (Nat.le_refl _) _).alloc (by simp) _).alloc (by simp; omega) _
  have hc : (((w.alloc (.cells #[.int .i64 k, .int .i64 t] 102)).alloc (.cells #[.int .i64 k, .int .i64 t] 39)).alloc (.cells #[.int .i64 k, .int .i64 t] 39)).heap[w.heap.size + 1]? = some (.cells #[.int .i64 k, .int .i64 t] 39) := by
    rw [heap_alloc_old _ _ (by simp)]
    exact heap_alloc2_new w _ _
  have HB := Lib.hid hb
  have HC := Lib.hid hc
  clear hb hc
  go_enter Try.func92, Try.ntmps92
  go_wp2
  exact bodyPost_ret (results_cell_row rfl _ _ _ _ _ (0, 0) _ rfl HC.out Try.underlying39 rfl infoRec) rfl ⟨rfl, HB.out⟩

theorem infoRec3 : (Try.prog.info? 39).map (fun i => (i.zero, i.size, i.bytes)) = some (some (.agg #[.int .i64 0, .int .i64 0]), 2, 16) := by kernel_rfl

theorem makeRec (n : Nat) (hn : n ≤ 1048576) (W : World) : (Instr.makeSlice 28 (.int .i64 (n : Int)) (.int .i64 (n : Int))).run Try.prog W = .ok (.slice (some ⟨W.heap.size, 0, none⟩) n n) (W.alloc (.cells (recs (List.replicate n (0, 0))).toArray 39)) := by
  obtain ⟨i0, hi, hz0, hz1, hz2⟩ := info_parts infoRec3
  have h1 := run_make (P := Try.prog) W 28 39 i0 (.agg #[.int .i64 0, .int .i64 0]) Try.underlying28 hi hz0 .i64 .i64 (n : Int) (n : Int) (by omega) (by omega) (by rw [hz2]; omega) (by omega)
  have h2 : madeCells (Value.agg #[.int .i64 0, .int .i64 0]).cells ((n : Int).toNat * i0.size) = (recs (List.replicate n (0, 0))).toArray := by
    rw [hz1, Int.toNat_natCast]
    apply Array.toList_inj.1
    rw [show (Value.agg #[.int .i64 0, .int .i64 0]).cells = #[.int .i64 0, .int .i64 0] from rfl, recs_replicate]
    exact madeCells_list #[.int .i64 0, .int .i64 0] n
  rw [h1, h2, Int.toNat_natCast]

set_option maxRecDepth 100000 in
theorem toRecS_any (v : Value) (l : List (Int × Int)) (w : World) (hv : FlatAt w v l.length (recs l)) (hn : l.length ≤ 1048576) :
    Calls Try.prog 29 #[v] w fun e w' => e = .returned (.slice (some ⟨w.heap.size, 0, none⟩) l.length l.length) ∧ RowIs w' w.heap.size 39 (recs l) ∧ Below w.heap.size w w' := by
  obtain ⟨a, c, rfl, _, h⟩ := hv
  have H := Lib.hid h
  clear h
  have hmk := makeRec l.length hn
  have hrow := heap_alloc_new w (.cells (recs (fill l (0, 0) 0)).toArray 39)
  rw [fill_zero] at hrow
  have hb0 : Below w.heap.size w (w.alloc (.cells (recs (List.replicate l.length (0, 0))).toArray 39)) := (Below.refl _ _).alloc (Nat.le_refl _) _
  have HROW := Lib.hid hrow
  have HB0 := Lib.hid hb0
  clear hrow hb0
  go_enter Try.func29, Try.ntmps29
  go_wp2
  go_loopw [4] (fun i wr => ∃ k : Nat, k ≤ l.length ∧ i = .int .i64 k ∧ RowIs wr w.heap.size 39 (recs (fill l (0, 0) k)) ∧ Below w.heap.size w wr) (fun i _ => l.length - (intOf i).toNat)
  case atStart => exact ⟨0, Nat.zero_le _, rfl, by rw [fill_zero]; exact HROW.out, HB0.out⟩
  case round =>
    obtain ⟨k, hk, rfl, hr, hb⟩ := hrel
    have HR := Lib.hid hr
    have HB := Lib.hid hb
    clear hr hb hmk
    by_cases hlt : k < l.length
    · obtain ⟨p, hp⟩ : ∃ p, l[k]? = some p := ⟨_, List.getElem?_eq_getElem hlt⟩
      obtain ⟨b, o, rfl, hbb, hc1, hc2⟩ := recs_el H.out hp
      have hw1 : wr.cell? ⟨b, o + k * 2, none⟩ = some (.int .i64 p.1) := (HB.out.cell (p := ⟨b, o + k * 2, none⟩) hbb).trans hc1
      have hw2 : wr.cell? ⟨b, o + k * 2 + 1, none⟩ = some (.int .i64 p.2) := (HB.out.cell (p := ⟨b, o + k * 2 + 1, none⟩) hbb).trans hc2
      clear hc1 hc2
      have HP := Lib.hid hp
      clear hp
      go_wp2_with fail
      refine (toRecord_any p.1 p.2 wr).mono ?_
      rintro e w1 ⟨rfl, hb1⟩
      have HR1 := Lib.hid (HR.out.below hb1 HR.out.lt)
      have HB1 := Lib.hid (HB.out.trans (hb1.mono HB.out.size))
      have hz := recs_at (fill_at (d := ((0, 0) : Int × Int)) hlt)
      have hg1 : w1.cell? ⟨w.heap.size, k * 2, none⟩ = some (.int .i64 0) := (HR1.out.cell _).trans hz.1
      have hg2 : w1.cell? ⟨w.heap.size, k * 2 + 1, none⟩ = some (.int .i64 0) := (HR1.out.cell _).trans hz.2
      have hf1 := HR1.out.frozen (k * 2)
      have hf2 := HR1.out.frozen (k * 2 + 1)
      clear hb1 hz HR HB hw1 hw2
      go_wp2_with fail
      go_roundw
      case rel => exact ⟨k + 1, by omega, by go_num, by rw [← fill_set HP.out, ← recs_set _ _ _ (by rw [fill_length l _ k (by omega)]; exact hlt)]; exact (HR1.out.stored (k * 2) _).stored (k * 2 + 1) _, (HB1.out.setCell (p := ⟨w.heap.size, k * 2, none⟩) (Nat.le_refl _) _).setCell (p := ⟨w.heap.size, k * 2 + 1, none⟩) (Nat.le_refl _) _⟩
      case measure => simp [intOf]; omega
    · obtain rfl : k = l.length := by omega
      go_wp2
      go_ret
      exact ⟨rfl, by rw [← fill_all l (0, 0)]; exact HR.out, HB.out⟩

end Go.Proofs.Ytagibgphegoagaa
