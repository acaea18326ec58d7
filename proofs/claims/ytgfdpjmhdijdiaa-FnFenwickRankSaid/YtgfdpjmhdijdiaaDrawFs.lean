/- The draw of FenwickSelect, by its contract. -/
import Derived.Test.YtgfdpjmhdijdiaaDrawFw
import Derived.Deep.RegionWith
import Derived.Deep.RegionHeld3
import Derived.Deep.AppendLies
import Derived.Deep.RegionLaw
import Derived.Test.YtgfdpjmhdijdiaaSFp
import Derived.Test.YtgfdpjmhdijdiaaCode
namespace Go.Proofs.Ytgfdpjmhdijdiaa
open Go.RowKit Fw
set_option linter.unusedVariables false

theorem l1LeastF_any (x y : Int) (W : World) :
    Calls Try.prog 78 #[.int .i64 x, .int .i64 y] W fun e w' => e = .returned (.int .i64 (if x < y then x else y)) ∧ w' = W := by
  by_cases h : x < y
  · have hz : decide (x < y) = true := decide_eq_true h
    rw [if_pos h]
    go_enter Try.func78, Try.ntmps78
    go_wp2_with fail
    go_ret
    exact ⟨rfl, rfl⟩
  · have hz : decide (x < y) = false := decide_eq_false h
    rw [if_neg h]
    go_enter Try.func78, Try.ntmps78
    go_wp2_with fail
    go_ret
    exact ⟨rfl, rfl⟩

/-- A tree and a rank. -/
def FenK (w : World) (e : Ending) (w' : World) : Prop :=
  ∃ (g0 c0 : Nat) (l : List Int) (n : Int), l.length ≤ 65 ∧ IsW l ∧ e = .returned (.tuple #[.agg #[.slice (some ⟨g0, 0, none⟩) l.length c0], .int .i64 n]) ∧ l.length ≤ c0 ∧ w.heap.size ≤ g0 ∧ CellRow w' g0 (ints l) ∧ Below w.heap.size w w'

set_option maxRecDepth 100000 in
set_option maxHeartbeats 4000000 in
theorem drawFs_any (a : Option Addr) (len cap : Nat) (w : World) (h : Code0 w a len) (hF : ∀ (B g m : Nat) (w : World), Cur B g a len cap m w → m ≤ 800000 → Calls Try.prog 113 #[.pointer (some ⟨g, 0, none⟩)] w (FenC B g a len cap m w)) :
    Calls Try.prog 50 #[.slice a len cap] w (FenK w) := by
  obtain ⟨W, hW, hx, hz, hbW⟩ := box1 w 53 (.slice none 0 0)
  have HN := Lib.hid (cur_new (h.below hbW) cap 101)
  have HFK := Lib.hid hF
  clear hF
  have HX := Lib.hid hx
  have HBW := Lib.hid hbW
  have HWr := Lib.hid hW
  clear h hx hbW
  go_enter Try.func50, Try.ntmps50
  go_wp2_with fail
  rw [← hW]
  have hWz : w.heap.size + 1 = W.heap.size := hz.symm
  rw [hWz]
  clear hW
  refine (HFK.out W.heap.size W.heap.size 0 _ HN.out (by omega)).mono ?_
  rintro e w1 ⟨g0, c0, l, hl, hiw, rfl, hc0, hg0, hrow, hcur, hb⟩
  have HB1 : Hid (Below W.heap.size W w1) := Lib.hid (But.fresh hb)
  have HX1 := Lib.hid (boxed_below HX.out HB1.out (by omega))
  have HZW := Lib.hid hz
  clear hz hWz
  have HR1 := Lib.hid hrow
  have HC1 := Lib.hid hcur
  have HG0 : Hid (W.heap.size < g0) := Lib.hid (by simp at hg0; omega)
  clear hrow hcur hb hg0 HN HX
  obtain ⟨w2, hWN, hxN, hzN, hbN⟩ := box1 w1 53 (.slice (some ⟨g0, 0, none⟩) l.length c0)
  have hWr2 := hWN.symm
  have HZ1 : Hid (W.heap.size < w1.heap.size ∧ g0 < w1.heap.size) := Lib.hid ⟨HC1.out.lt, HR1.out.1⟩
  have HR2 := Lib.hid (HR1.out.below hbN HR1.out.1)
  have HC2 := Lib.hid (HC1.out.keep (hbN.mono (by have := HC1.out.lt; omega)))
  have HX2 := Lib.hid (boxed_below HX1.out hbN (Boxed.lt HX1.out))
  have HB2 := Lib.hid (HB1.out.trans (hbN.mono HB1.out.size))
  have HF2 := Lib.hid hxN
  have hcf := Boxed.cell HF2.out
  clear hWN hxN hzN hbN HR1 HC1 HX1 HB1
  have HP := Lib.hid (l10Prefix_any _ l l.length w2 (HR2.out.flat hc0) (by omega) (Nat.le_refl _))
  generalize pw l l.length 0 = T at *
  generalize cw l.length = C at *
  go_wp2_with fail
  refine HP.out.mono ?_
  rintro e w3 ⟨rfl, rfl⟩
  clear HP
  have HQ : Hid (∀ (n : Int) (w5 : World) (u : Value), But W.heap.size w3 w5 → FenK w (.returned (.tuple #[.agg #[.slice (some ⟨g0, 0, none⟩) l.length c0], .int .i64 n])) (w5.setCell ⟨w.heap.size, 0, none⟩ u)) := Lib.hid (fun n w5 u hb => by
    have hg := HG0.out
    have hz1 := HZ1.out
    have hz := HZW.out
    refine ⟨g0, c0, l, n, hl, hiw, rfl, hc0, by omega, (HR2.out.but hb (by omega)).but ((But.refl w.heap.size w5).setCell 0 _) (by omega), ?_⟩
    have h1 : Below W.heap.size w3 w5 := hb.below (Nat.le_refl _) (by have := HB2.out.size; omega)
    exact (HBW.out.trans ((HB2.out.trans h1).mono (by omega))).setCell (p := ⟨w.heap.size, 0, none⟩) (Nat.le_refl _) _)
  have HBOX : Hid (∀ w5, But W.heap.size w3 w5 → w5.cell? ⟨w.heap.size, 0, none⟩ = some (.slice none 0 0) ∧ w5.frozen? ⟨w.heap.size, 0, none⟩ = false ∧ w5.cell? ⟨w1.heap.size, 0, none⟩ = some (.slice (some ⟨g0, 0, none⟩) l.length c0)) := Lib.hid (fun w5 hb => by
    have hz1 := HZ1.out
    have hz := HZW.out
    have h1 : Boxed w5 w.heap.size 53 (.slice none 0 0) := (hb.block _ (Boxed.lt HX2.out) (by omega)).trans HX2.out
    have h2 : Boxed w5 w1.heap.size 53 (.slice (some ⟨g0, 0, none⟩) l.length c0) := (hb.block _ (Boxed.lt HF2.out) (by omega)).trans HF2.out
    exact ⟨Boxed.cell h1, Boxed.frozen h1, Boxed.cell h2⟩)
  obtain ⟨hx1, hx2, hx3⟩ := HBOX.out w3 (But.refl _ _)
  have hne : ¬ w1.heap.size = w.heap.size := by have := HZ1.out; have := HZW.out; omega
  have hgw : W.heap.size < w3.heap.size := HC2.out.lt
  have HAMA : Hid (∀ (L : List Int) (c m : Nat) (W' : World) (gl : Nat) (R : Ending → World → Prop), L.length = 4 → m ≤ 700 → But W.heap.size w3 W' → Cur W.heap.size W.heap.size a len cap m W' → gl ≠ W.heap.size → RowIs W' gl 3 (L.map (Value.int .i64)) → (∀ (d : Int) (w6 : World), w6.cell? ⟨w.heap.size, 0, none⟩ = some (.slice none 0 0) → w6.frozen? ⟨w.heap.size, 0, none⟩ = false → w6.cell? ⟨w1.heap.size, 0, none⟩ = some (.slice (some ⟨g0, 0, none⟩) l.length c0) → Hid (But W.heap.size w3 w6) → R (.returned (.int .i64 d)) w6) → Calls Try.prog 84 #[.pointer (some ⟨W.heap.size, 0, none⟩), .slice (some ⟨gl, 0, none⟩) 4 c] W' R) := Lib.hid (fun L c m W' gl R hL hm hb5 hcur hgl hrow hR => by
    have h := among_any W.heap.size W.heap.size a len cap m gl L c W' hcur (by omega) hrow hgl (by omega) (by omega)
    rw [hL] at h
    refine h.mono ?_
    rintro e w6 ⟨y, hy, rfl, hc6, hb6⟩
    obtain ⟨d, hzd, rfl⟩ := List.mem_map.1 hy
    obtain ⟨hq1, hq2, hq3⟩ := HBOX.out _ (But.trans hb5 hb6)
    exact hR d w6 hq1 hq2 hq3 (Lib.hid (But.trans hb5 hb6)))
  have HPIK : Hid (∀ (n : Int) (m : Nat) (W' : World) (R : Ending → World → Prop), n ≤ 4000 → m ≤ 700 → But W.heap.size w3 W' → Cur W.heap.size W.heap.size a len cap m W' → (∀ (d : Int) (w6 : World), w6.cell? ⟨w.heap.size, 0, none⟩ = some (.slice none 0 0) → w6.frozen? ⟨w.heap.size, 0, none⟩ = false → w6.cell? ⟨w1.heap.size, 0, none⟩ = some (.slice (some ⟨g0, 0, none⟩) l.length c0) → Hid (But W.heap.size w3 w6) → R (.returned (.int .i64 d)) w6) → Calls Try.prog 86 #[.pointer (some ⟨W.heap.size, 0, none⟩), .int .i64 n] W' R) := Lib.hid (fun n m W' R hn hm hb5 hcur hR => by
    refine (pick_any W.heap.size W.heap.size a len cap m n W' hcur (by omega) (by omega)).mono ?_
    rintro e w6 ⟨d, _, _, rfl, hc6, hb6⟩
    obtain ⟨hq1, hq2, hq3⟩ := HBOX.out _ (But.trans hb5 hb6)
    exact hR d w6 hq1 hq2 hq3 (Lib.hid (But.trans hb5 hb6)))
  by_cases hT : T < 0
  · have hTd : decide (T < 0) = true := decide_eq_true hT
    have HBW3 : Hid (But W.heap.size w3 w3) := Lib.hid (But.refl _ _)
    have hA := HBOX.out (w3.alloc (.cells #[.int .i64 (-1), .int .i64 T, .int .i64 (IntKind.i64.wrap (T - 1)), .int .i64 0] 3)) (But.trans HBW3.out (But.alloc _ w3 _))
    obtain ⟨hA1, hA2, hA3⟩ := hA
    have HBA : Hid (But W.heap.size w3 (w3.alloc (.cells #[.int .i64 (-1), .int .i64 T, .int .i64 (IntKind.i64.wrap (T - 1)), .int .i64 0] 3))) := Lib.hid (But.trans HBW3.out (But.alloc _ w3 _))
    have HRA : Hid (RowIs (w3.alloc (.cells #[.int .i64 (-1), .int .i64 T, .int .i64 (IntKind.i64.wrap (T - 1)), .int .i64 0] 3)) w3.heap.size 3 ([-1, T, IntKind.i64.wrap (T - 1), 0].map (Value.int .i64))) := Lib.hid (heap_alloc_new w3 _)
    have HCA := Lib.hid (HC2.out.alloc (.cells #[.int .i64 (-1), .int .i64 T, .int .i64 (IntKind.i64.wrap (T - 1)), .int .i64 0] 3))
    have hgn : w3.heap.size ≠ W.heap.size := by have := HC2.out.lt; omega
    obtain ⟨q, hq⟩ : ∃ q, q = IntKind.i64.wrap (T - 1) := ⟨_, rfl⟩
    rw [← hq] at HRA HCA HBA hA1 hA2 hA3
    have hqw := hq.symm
    clear hq
    go_wp2_with fail
    go_region_law (first | (go_simp; go_at_call 84; refine HAMA.out [-1, T, q, 0] _ 650 _ w3.heap.size _ rfl (by omega) (by first | exact But.trans HBA.out ⟨rfl, rfl, rfl, Nat.le_refl _, fun _ _ _ => rfl⟩ | exact HBA.out) (by first | exact Cur.more (HCA.out.keep ⟨rfl, rfl, rfl, Nat.le_refl _, fun _ _ => rfl⟩) (by omega) | exact HCA.out.more (by omega)) hgn (by exact HRA.out) ?_; intro d w6 hq1 hq2 hq3 HN6))
    all_goals (
      go_wp2_with fail
      refine bodyPost_ret (fen_res2 rfl _ _ rfl (World.cell?_setCell_same' _ _ _ (by simp [go_sem, hq1]))) rfl ?_
      exact HQ.out d w6 _ HN6.out)
  · have hTd : decide (T < 0) = false := decide_eq_false hT
    go_wp2_with fail
    refine (one_any W.heap.size W.heap.size a len cap _ 10 _ HC2.out (by omega) (by omega)).mono ?_
    rintro e w4 ⟨b, rfl, hc, hb⟩
    have HC4 := Lib.hid hc
    have HBW3 := Lib.hid hb
    clear hc hb hx1 hx2 hx3 hcf
    obtain ⟨hx1, hx2, hx3⟩ := HBOX.out w4 HBW3.out
    cases b
    · obtain ⟨q, hq⟩ : ∃ q, q = IntKind.i64.wrap (T + 1) := ⟨_, rfl⟩
      have hqw := hq.symm
      clear hq
      obtain ⟨r, hr⟩ : ∃ r : Int, r = if q < 4000 then q else 4000 := ⟨_, rfl⟩
      have hr4 : r ≤ 4000 := by rw [hr]; split <;> omega
      have HLE := Lib.hid (fun W => l1LeastF_any q 4000 W)
      rw [← hr] at HLE
      clear hr
      go_wp2_with fail
      go_region_law (first | (go_simp; go_at_call 78; refine (HLE.out _).mono ?_; rintro e wz ⟨rfl, rfl⟩) | (go_simp; go_at_call 86; refine HPIK.out r 650 _ _ hr4 (by omega) (by first | exact But.trans HBW3.out ⟨rfl, rfl, rfl, Nat.le_refl _, fun _ _ _ => rfl⟩ | exact HBW3.out) (by first | exact Cur.more (HC4.out.keep ⟨rfl, rfl, rfl, Nat.le_refl _, fun _ _ => rfl⟩) (by omega) | exact HC4.out.more (by omega)) ?_; intro d w6 hq1 hq2 hq3 HN6))
      all_goals (
        go_wp2_with fail
        refine bodyPost_ret (fen_res2 rfl _ _ rfl (World.cell?_setCell_same' _ _ _ (by simp [go_sem, hq1]))) rfl ?_
        exact HQ.out d w6 _ HN6.out)
    · skip
      have hA := HBOX.out (w4.alloc (.cells #[.int .i64 (-1), .int .i64 T, .int .i64 (IntKind.i64.wrap (T - 1)), .int .i64 0] 3)) (But.trans HBW3.out (But.alloc _ w4 _))
      obtain ⟨hA1, hA2, hA3⟩ := hA
      have HBA : Hid (But W.heap.size w3 (w4.alloc (.cells #[.int .i64 (-1), .int .i64 T, .int .i64 (IntKind.i64.wrap (T - 1)), .int .i64 0] 3))) := Lib.hid (But.trans HBW3.out (But.alloc _ w4 _))
      have HRA : Hid (RowIs (w4.alloc (.cells #[.int .i64 (-1), .int .i64 T, .int .i64 (IntKind.i64.wrap (T - 1)), .int .i64 0] 3)) w4.heap.size 3 ([-1, T, IntKind.i64.wrap (T - 1), 0].map (Value.int .i64))) := Lib.hid (heap_alloc_new w4 _)
      have HCA := Lib.hid (HC4.out.alloc (.cells #[.int .i64 (-1), .int .i64 T, .int .i64 (IntKind.i64.wrap (T - 1)), .int .i64 0] 3))
      have hgn : w4.heap.size ≠ W.heap.size := by have := HC4.out.lt; omega
      obtain ⟨q, hq⟩ : ∃ q, q = IntKind.i64.wrap (T - 1) := ⟨_, rfl⟩
      rw [← hq] at HRA HCA HBA hA1 hA2 hA3
      have hqw := hq.symm
      clear hq
      go_wp2_with fail
      go_region_law (first | (go_simp; go_at_call 84; refine HAMA.out [-1, T, q, 0] _ 650 _ w4.heap.size _ rfl (by omega) (by first | exact But.trans HBA.out ⟨rfl, rfl, rfl, Nat.le_refl _, fun _ _ _ => rfl⟩ | exact HBA.out) (by first | exact Cur.more (HCA.out.keep ⟨rfl, rfl, rfl, Nat.le_refl _, fun _ _ => rfl⟩) (by omega) | exact HCA.out.more (by omega)) hgn (by exact HRA.out) ?_; intro d w6 hq1 hq2 hq3 HN6))
      all_goals (
        go_wp2_with fail
        refine bodyPost_ret (fen_res2 rfl _ _ rfl (World.cell?_setCell_same' _ _ _ (by simp [go_sem, hq1]))) rfl ?_
        exact HQ.out d w6 _ HN6.out)

end Go.Proofs.Ytgfdpjmhdijdiaa
