/- The laws' small helpers over lists of KeySpec, by their contracts. (flatgen.py) -/
import Derived.Test.YtcbeoihgaccjcaaDoorKeySpecs
import Derived.Deep.RegionWith
namespace Go.Proofs.YtcbeoihgaccjcaaDoor
open Go.RowKit

theorem szKeySpec_yes (a : Option Addr) (n c left : Nat) (w : World) (h : n ≤ left) (hL : left ≤ 1048576) :
    Calls Tryd.prog 13 #[.slice a n c, .int .i64 (left : Int)] w fun e w' => e = .returned (.int .i64 ((left - n : Nat) : Int)) ∧ w' = w := by
  have he : ((left - n : Nat) : Int) = (left : Int) - n := by omega
  rw [he]
  go_enter Tryd.func13, Tryd.ntmps13
  go_wp2
  go_ret
  exact ⟨rfl, rfl⟩

theorem szKeySpec_no (a : Option Addr) (n c left : Nat) (w : World) (h : left < n) (hL : left ≤ 1048576) (hn : n ≤ maxLen) :
    Calls Tryd.prog 13 #[.slice a n c, .int .i64 (left : Int)] w fun e w' => e = .returned (.int .i64 (-1)) ∧ w' = w := by
  unfold maxLen at hn
  go_enter Tryd.func13, Tryd.ntmps13
  go_wp2
  go_ret
  exact ⟨rfl, rfl⟩

theorem infoKeySpecN : (Tryd.prog.info? 32).map (·.size) = some 4 := by kernel_rfl

theorem toKeySpec_any (x0 : Int) (x1 : Bool) (x2 : Bool) (x3 : Bool) (w : World) :
    Calls Tryd.prog 30 #[.agg #[Value.int .i64 x0, Value.bool x1, Value.bool x2, Value.bool x3]] w fun e w' => e = .returned (.agg #[Value.int .i64 x0, Value.bool x1, Value.bool x2, Value.bool x3]) ∧ Below w.heap.size w w' := by
  have hb : Below w.heap.size w (((w.alloc (.cells #[Value.int .i64 x0, Value.bool x1, Value.bool x2, Value.bool x3] 58)).alloc (.cells #[Value.int .i64 x0, Value.bool x1, Value.bool x2, Value.bool x3] 32)).alloc (.cells #[Value.int .i64 x0, Value.bool x1, Value.bool x2, Value.bool x3] 32)) :=
    (((Below.refl _ w).alloc (Nat.le_refl _) _).alloc (by simp) _).alloc (by simp; omega) _
  have hc : (((w.alloc (.cells #[Value.int .i64 x0, Value.bool x1, Value.bool x2, Value.bool x3] 58)).alloc (.cells #[Value.int .i64 x0, Value.bool x1, Value.bool x2, Value.bool x3] 32)).alloc (.cells #[Value.int .i64 x0, Value.bool x1, Value.bool x2, Value.bool x3] 32)).heap[w.heap.size + 1]? = some (.cells #[Value.int .i64 x0, Value.bool x1, Value.bool x2, Value.bool x3] 32) := by
    rw [heap_alloc_old _ _ (by simp)]
    exact heap_alloc2_new w _ _
  have HB := Lib.hid hb
  have HC := Lib.hid hc
  clear hb hc
  go_enter Tryd.func30, Tryd.ntmps30
  go_wp2
  exact bodyPost_ret (results_cell_row rfl _ _ _ _ _ (0, 0) _ rfl HC.out Tryd.underlying32 rfl infoKeySpecN) rfl ⟨rfl, HB.out⟩

theorem infoKeySpec3 : (Tryd.prog.info? 32).map (fun i => (i.zero, i.size, i.bytes)) = some (some (.agg #[.int .i64 0, .bool false, .bool false, .bool false]), 4, 16) := by kernel_rfl

theorem makeKeySpec (n : Nat) (hn : n ≤ 1048576) (W : World) : (Instr.makeSlice 24 (.int .i64 (n : Int)) (.int .i64 (n : Int))).run Tryd.prog W = .ok (.slice (some ⟨W.heap.size, 0, none⟩) n n) (W.alloc (.cells (keys (List.replicate n (0, false, false, false))).toArray 32)) := by
  obtain ⟨i0, hi, hz0, hz1, hz2⟩ := info_parts infoKeySpec3
  have h1 := run_make (P := Tryd.prog) W 24 32 i0 (.agg #[.int .i64 0, .bool false, .bool false, .bool false]) Tryd.underlying24 hi hz0 .i64 .i64 (n : Int) (n : Int) (by omega) (by omega) (by rw [hz2]; omega) (by omega)
  have h2 : madeCells (Value.agg #[.int .i64 0, .bool false, .bool false, .bool false]).cells ((n : Int).toNat * i0.size) = (keys (List.replicate n (0, false, false, false))).toArray := by
    rw [hz1, Int.toNat_natCast]
    apply Array.toList_inj.1
    rw [show (Value.agg #[.int .i64 0, .bool false, .bool false, .bool false]).cells = #[.int .i64 0, .bool false, .bool false, .bool false] from rfl, keys_replicate]
    exact madeCells_list #[.int .i64 0, .bool false, .bool false, .bool false] n
  rw [h1, h2, Int.toNat_natCast]

set_option maxRecDepth 100000 in
set_option maxHeartbeats 1000000 in
theorem toKeySpecS_any (v : Value) (l : List (Int × Bool × Bool × Bool)) (w : World) (hv : FlatAt w v l.length (keys l)) (hn : l.length ≤ 1048576) :
    Calls Tryd.prog 14 #[v] w fun e w' => e = .returned (.slice (some ⟨w.heap.size, 0, none⟩) l.length l.length) ∧ RowIs w' w.heap.size 32 (keys l) ∧ Below w.heap.size w w' := by
  obtain ⟨a, c, rfl, _, h⟩ := hv
  have H := Lib.hid h
  clear h
  have hmk := makeKeySpec l.length hn
  have hrow := heap_alloc_new w (.cells (keys (fill l (0, false, false, false) 0)).toArray 32)
  rw [fill_zero] at hrow
  have hb0 : Below w.heap.size w (w.alloc (.cells (keys (List.replicate l.length (0, false, false, false))).toArray 32)) := (Below.refl _ _).alloc (Nat.le_refl _) _
  have HROW := Lib.hid hrow
  have HB0 := Lib.hid hb0
  clear hrow hb0
  go_enter Tryd.func14, Tryd.ntmps14
  go_wp2
  go_loopw [4] (fun i wr => ∃ k : Nat, k ≤ l.length ∧ i = .int .i64 k ∧ RowIs wr w.heap.size 32 (keys (fill l (0, false, false, false) k)) ∧ Below w.heap.size w wr) (fun i _ => l.length - (intOf i).toNat)
  case atStart => exact ⟨0, Nat.zero_le _, rfl, by rw [fill_zero]; exact HROW.out, HB0.out⟩
  case round =>
    obtain ⟨k, hk, rfl, hr, hb⟩ := hrel
    have HR := Lib.hid hr
    have HB := Lib.hid hb
    clear hr hb hmk
    by_cases hlt : k < l.length
    · obtain ⟨p, hp⟩ : ∃ p, l[k]? = some p := ⟨_, List.getElem?_eq_getElem hlt⟩
      obtain ⟨b, o, rfl, hbb, hc0, hc1, hc2, hc3⟩ := keys_el H.out hp
      have hw0 : wr.cell? ⟨b, o + k * 4, none⟩ = some (Value.int .i64 p.1) := (HB.out.cell (p := ⟨b, o + k * 4, none⟩) hbb).trans hc0
      have hw1 : wr.cell? ⟨b, o + k * 4 + 1, none⟩ = some (Value.bool p.2.1) := (HB.out.cell (p := ⟨b, o + k * 4 + 1, none⟩) hbb).trans hc1
      have hw2 : wr.cell? ⟨b, o + k * 4 + 2, none⟩ = some (Value.bool p.2.2.1) := (HB.out.cell (p := ⟨b, o + k * 4 + 2, none⟩) hbb).trans hc2
      have hw3 : wr.cell? ⟨b, o + k * 4 + 3, none⟩ = some (Value.bool p.2.2.2) := (HB.out.cell (p := ⟨b, o + k * 4 + 3, none⟩) hbb).trans hc3
      clear hc0 hc1 hc2 hc3
      have HP := Lib.hid hp
      clear hp
      go_wp2_with fail
      refine (toKeySpec_any p.1 p.2.1 p.2.2.1 p.2.2.2 wr).mono ?_
      rintro e w1 ⟨rfl, hb1⟩
      have HR1 := Lib.hid (HR.out.below hb1 HR.out.lt)
      have HB1 := Lib.hid (HB.out.trans (hb1.mono HB.out.size))
      have hz := keys_at (fill_at (d := ((0, false, false, false) : Int × Bool × Bool × Bool)) hlt)
      have hg0 : w1.cell? ⟨w.heap.size, k * 4, none⟩ = some (.int .i64 0) := (HR1.out.cell _).trans hz.1
      have hf0 := HR1.out.frozen (k * 4)
      have hg1 : w1.cell? ⟨w.heap.size, k * 4 + 1, none⟩ = some (.bool false) := (HR1.out.cell _).trans hz.2.1
      have hf1 := HR1.out.frozen (k * 4 + 1)
      have hg2 : w1.cell? ⟨w.heap.size, k * 4 + 2, none⟩ = some (.bool false) := (HR1.out.cell _).trans hz.2.2.1
      have hf2 := HR1.out.frozen (k * 4 + 2)
      have hg3 : w1.cell? ⟨w.heap.size, k * 4 + 3, none⟩ = some (.bool false) := (HR1.out.cell _).trans hz.2.2.2
      have hf3 := HR1.out.frozen (k * 4 + 3)
      clear hb1 hz HR HB hw0 hw1 hw2 hw3
      go_wp2_with fail
      go_roundw
      case rel => exact ⟨k + 1, by omega, by go_num, by rw [← fill_set HP.out, ← keys_set _ _ _ (by rw [fill_length l _ k (by omega)]; exact hlt)]; exact ((((HR1.out.stored (k * 4) _).stored (k * 4 + 1) _).stored (k * 4 + 2) _).stored (k * 4 + 3) _), ((((HB1.out.setCell (p := ⟨w.heap.size, k * 4, none⟩) (Nat.le_refl _) _).setCell (p := ⟨w.heap.size, k * 4 + 1, none⟩) (Nat.le_refl _) _).setCell (p := ⟨w.heap.size, k * 4 + 2, none⟩) (Nat.le_refl _) _).setCell (p := ⟨w.heap.size, k * 4 + 3, none⟩) (Nat.le_refl _) _)⟩
      case measure => simp [intOf]; omega
    · obtain rfl : k = l.length := by omega
      go_wp2
      go_ret
      exact ⟨rfl, by rw [← fill_all l (0, false, false, false)]; exact HR.out, HB.out⟩

end Go.Proofs.YtcbeoihgaccjcaaDoor
