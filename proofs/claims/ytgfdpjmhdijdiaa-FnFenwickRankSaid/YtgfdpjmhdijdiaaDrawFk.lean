/- The draws of trees of sums (fenwick), by their contracts. -/
import Derived.Test.YtgfdpjmhdijdiaaPick
import Derived.Test.YtgfdpjmhdijdiaaAmong
import Derived.Test.YtgfdpjmhdijdiaaDrawIH
import Derived.Test.YtgfdpjmhdijdiaaSFw
import Derived.Test.YtgfdpjmhdijdiaaValF
import Derived.Test.YtgfdpjmhdijdiaaDrawFw
import Derived.Deep.RegionWith
import Derived.Deep.RegionHeld3
import Derived.Deep.AppendLies
import Derived.Deep.RegionLaw
namespace Go.Proofs.Ytgfdpjmhdijdiaa
open Go.RowKit Fw
set_option linter.unusedVariables false


theorem wr_wrap64 (x : Int) : wr (wrap64 x) = wrap64 x := by unfold wr wrap64; omega

set_option maxRecDepth 100000 in
set_option maxHeartbeats 4000000 in
theorem fenwick_any (B g : Nat) (a : Option Addr) (len cap : Nat) (m : Nat) (w : World) (h : Cur B g a len cap m w) (hm : m ≤ 800000) :
    Calls Try.prog 113 #[.pointer (some ⟨g, 0, none⟩)] w (FenC B g a len cap m w) := by
  have hgl := h.lt
  obtain ⟨W, hW, hx, hz, hbW⟩ := box1 w 53 (.slice none 0 0)
  have HX := Lib.hid hx
  have HC0 : Hid (Cur B g a len cap m W) := Lib.hid (by rw [hW]; exact h.alloc _)
  have HB0 : Hid (But g w W) := Lib.hid (by rw [hW]; exact But.alloc g w _)
  clear h hx hbW
  go_enter Try.func113, Try.ntmps113
  go_wp2_with fail
  rw [← hW]
  refine (counts_any B g a len cap m W HC0.out (by omega)).mono ?_
  rintro e w1 ⟨gc, cc, L, hL, hLx, rfl, hcc, hgc, hrow, hcur, hb⟩
  have HS := Lib.hid (l10Sums_any _ L w1 (hrow.flat hcc) (by omega))
  rw [sm_all] at HS
  have HC1 := Lib.hid hcur
  have HB1 := Lib.hid (HB0.out.trans hb)
  have HX1 : Hid (Boxed w1 w.heap.size 53 (.slice none 0 0)) := Lib.hid ((hb.block _ (Boxed.lt HX.out) (by omega)).trans HX.out)
  have hw1s := hb.size
  clear hrow hcur hb hLx hgc hcc HX HC0 HB0
  go_wp2_with fail
  refine HS.out.mono ?_
  obtain ⟨S, hS⟩ : ∃ S, S = (bs L).map wr := ⟨_, rfl⟩
  have hSW : IsW S := by rw [hS]; exact isW_wr _
  have hSl : S.length ≤ 65 := by rw [hS, List.length_map, bs_len]; exact hL
  rw [← hS]
  clear hS HS hL
  rintro e w2 ⟨g0, c0, rfl, hc0, hg0, hrow, hb⟩
  have HR2 := Lib.hid hrow
  have HC2 : Hid (Cur B g a len cap (m + 400) w2) := Lib.hid (HC1.out.keep (hb.mono (by have := Boxed.lt HX1.out; omega)))
  have HB2 := Lib.hid (HB1.out.then_below (hb.mono (by have := Boxed.lt HX1.out; omega)))
  have HX2 := Lib.hid (boxed_below HX1.out hb (Boxed.lt HX1.out))
  have HG0 : Hid (w.heap.size + 1 ≤ g0 ∧ S.length ≤ c0) := Lib.hid ⟨by have := Boxed.lt HX1.out; omega, hc0⟩
  clear hrow hb hc0 hg0 HC1 HB1 HX1 hw1s
  obtain ⟨w3, hWN, hxN, hzN, hbN⟩ := box1 w2 53 (.slice (some ⟨g0, 0, none⟩) S.length c0)
  have hWr := hWN.symm
  have HR3 := Lib.hid (HR2.out.below hbN HR2.out.1)
  have HC3 := Lib.hid (HC2.out.keep (hbN.mono (by have := Boxed.lt HX2.out; omega)))
  have HB3 := Lib.hid (HB2.out.then_below (hbN.mono (by have := Boxed.lt HX2.out; omega)))
  have HX3 := Lib.hid (boxed_below HX2.out hbN (Boxed.lt HX2.out))
  have HF3 := Lib.hid hxN
  have HZ3 : Hid (w.heap.size < w2.heap.size ∧ g0 < w2.heap.size) := Lib.hid ⟨Boxed.lt HX2.out, HR2.out.1⟩
  clear hWN hxN hzN hbN HR2 HC2 HB2 HX2
  go_wp2_with fail
  refine (one_any B g a len cap _ 15 _ HC3.out (by omega) (by omega)).mono ?_
  rintro e w4 ⟨b, rfl, hc, hb⟩
  have HC4 := Lib.hid hc
  have HB4 := Lib.hid (HB3.out.trans hb)
  have HR4 := Lib.hid (HR3.out.but hb (by have := HG0.out.1; omega))
  have HX4 : Hid (Boxed w4 w.heap.size 53 (.slice none 0 0)) := Lib.hid ((hb.block _ (Boxed.lt HX3.out) (by omega)).trans HX3.out)
  have HF4 : Hid (Boxed w4 w2.heap.size 53 (.slice (some ⟨g0, 0, none⟩) S.length c0)) := Lib.hid ((hb.block _ (Boxed.lt HF3.out) (by have := HZ3.out; omega)).trans HF3.out)
  clear hc hb HC3 HB3 HR3 HX3 HF3
  have HQ : Hid (∀ (M : List Int) (w' : World), M.length = S.length → IsW M → CellRow w' g0 (ints M) → Cur B g a len cap (m + 600) w' → But g w w' → FenC B g a len cap m w (.returned (.agg #[.slice (some ⟨g0, 0, none⟩) S.length c0])) w') := Lib.hid (fun M w' h1 h2 h3 h4 h5 => ⟨g0, c0, M, by omega, h2, by rw [h1], by have := HG0.out.2; omega, by have := HG0.out.1; omega, h3, h4, h5⟩)
  have hcx := Boxed.cell HX4.out
  have hfx := Boxed.frozen HX4.out
  have hcf := Boxed.cell HF4.out
  have HP : Hid (∀ (w5 : World) (u : Value) (M : List Int), M.length = S.length → IsW M → CellRow w5 g0 (ints M) → Cur B g a len cap (m + 600) w5 → But g w w5 → FenC B g a len cap m w (.returned (.agg #[.slice (some ⟨g0, 0, none⟩) S.length c0])) (w5.setCell ⟨w.heap.size, 0, none⟩ u)) := Lib.hid (fun w5 u M h1 h2 h3 h4 h5 => HQ.out M _ h1 h2 (h3.but ((But.refl w.heap.size w5).setCell 0 _) (by have := HG0.out.1; omega)) (h4.keep ((Below.refl _ _).setCell (p := ⟨w.heap.size, 0, none⟩) (by show g + 1 ≤ w.heap.size; omega) _)) (h5.then_below ((Below.refl w.heap.size w5).setCell (p := ⟨w.heap.size, 0, none⟩) (Nat.le_refl _) _)))
  cases b
  · have HRES := Lib.hid (HP.out w4 (.slice (some ⟨g0, 0, none⟩) S.length c0) S rfl hSW HR4.out (HC4.out.more (by omega)) HB4.out)
    go_wp2_with fail
    refine bodyPost_ret (fen_res1 rfl _ _ rfl (World.cell?_setCell_same' _ _ _ (by simp [go_sem, hcx]))) rfl ?_
    exact HRES.out
  · by_cases hS0 : S.length = 0
    · have HRES := Lib.hid (HP.out w4 (.slice (some ⟨g0, 0, none⟩) S.length c0) S rfl hSW HR4.out (HC4.out.more (by omega)) HB4.out)
      have hLz : ¬ (0 : Int) < (S.length : Int) := by omega
      have hLz2 : decide ((0 : Int) < (S.length : Int)) = false := decide_eq_false hLz
      rw [hS0] at HRES hcf
      go_wp2_with fail
      refine bodyPost_ret (fen_res1 rfl _ _ rfl (World.cell?_setCell_same' _ _ _ (by simp [go_sem, hcx]))) rfl ?_
      exact HRES.out
    · have hLz : (0 : Int) < (S.length : Int) := by omega
      go_wp2_with fail
      refine (pick_any B g a len cap _ S.length _ HC4.out (by omega) (by omega)).mono ?_
      rintro e w5 ⟨i, hi0, hi1, rfl, hc, hb⟩
      obtain ⟨i, rfl⟩ : ∃ k : Nat, i = k := ⟨i.toNat, by omega⟩
      have hiL : i < S.length := by omega
      have HC5 := Lib.hid hc
      have HB5 := Lib.hid (HB4.out.trans hb)
      have HR5 := Lib.hid (HR4.out.but hb (by have := HG0.out.1; omega))
      have HX5 : Hid (Boxed w5 w.heap.size 53 (.slice none 0 0)) := Lib.hid ((hb.block _ (Boxed.lt HX4.out) (by omega)).trans HX4.out)
      have HF5 : Hid (Boxed w5 w2.heap.size 53 (.slice (some ⟨g0, 0, none⟩) S.length c0)) := Lib.hid ((hb.block _ (Boxed.lt HF4.out) (by have := HZ3.out; omega)).trans HF4.out)
      clear hc hb HC4 HB4 HR4 HX4 HF4 hi0 hi1 hcx hfx hcf
      have hcf := Boxed.cell HF5.out
      have hiz : (i : Int) < (S.length : Int) := by omega
      obtain ⟨p, hp⟩ : ∃ p, p = S.getD i 0 := ⟨_, rfl⟩
      have HAT : Hid (∀ (w6 : World), But g w5 w6 → w6.cell? ⟨g0, i, none⟩ = some (.int .i64 p) ∧ w6.frozen? ⟨g0, i, none⟩ = false ∧ w6.cell? ⟨w2.heap.size, 0, none⟩ = some (.slice (some ⟨g0, 0, none⟩) S.length c0) ∧ w6.cell? ⟨w.heap.size, 0, none⟩ = some (.slice none 0 0) ∧ w6.frozen? ⟨w.heap.size, 0, none⟩ = false) := Lib.hid (fun w6 hb5 => by
        have h1 := HR5.out.but hb5 (by have := HG0.out.1; omega)
        obtain ⟨h2, h3⟩ := h1.2 _ _ (ints_getD (l := S) (k := i) hiL)
        have h4 : Boxed w6 w2.heap.size 53 (.slice (some ⟨g0, 0, none⟩) S.length c0) := (hb5.block _ (Boxed.lt HF5.out) (by have := HZ3.out; omega)).trans HF5.out
        have h5 : Boxed w6 w.heap.size 53 (.slice none 0 0) := (hb5.block _ (Boxed.lt HX5.out) (by omega)).trans HX5.out
        rw [← hp] at h2
        exact ⟨h2, h3, Boxed.cell h4, Boxed.cell h5, Boxed.frozen h5⟩)
      obtain ⟨ha1, ha2, ha3, ha4, ha5⟩ := HAT.out w5 (But.refl _ _)
      have hne1 : ¬ g0 = w2.heap.size := by have := HZ3.out; omega
      have hne2 : ¬ g0 = w.heap.size := by have := HG0.out.1; omega
      have hne3 : ¬ w2.heap.size = w.heap.size := by have := HZ3.out; omega
      have HFIN : Hid (∀ (w6 : World) (z : Int) (u : Value), wr z = z → But g w5 w6 → Cur B g a len cap (m + 406) w6 → FenC B g a len cap m w (.returned (.agg #[.slice (some ⟨g0, 0, none⟩) S.length c0])) ((w6.setCell ⟨g0, i, none⟩ (.int .i64 z)).setCell ⟨w.heap.size, 0, none⟩ u)) := Lib.hid (fun w6 z u hzr hb5 hc => by
        have hbs : Below (g + 1) w6 (w6.setCell ⟨g0, i, none⟩ (.int .i64 z)) := (Below.refl _ _).setCell (p := ⟨g0, i, none⟩) (by show g + 1 ≤ g0; have := HG0.out.1; omega) _
        have hbs2 : Below w.heap.size w6 (w6.setCell ⟨g0, i, none⟩ (.int .i64 z)) := (Below.refl _ _).setCell (p := ⟨g0, i, none⟩) (by show w.heap.size ≤ g0; have := HG0.out.1; omega) _
        exact HP.out _ u (S.set i z) (by rw [List.length_set]) (by rw [← hzr]; exact isW_set hSW i _) (by rw [← ints_set]; exact (HR5.out.but hb5 (by have := HG0.out.1; omega)).set i _ (by rw [ints_length]; exact hiL)) ((hc.keep hbs).more (by omega)) ((HB5.out.trans hb5).then_below hbs2))
      clear HR5 HX5 HF5 HB5 HP HQ hp
      go_wp2_with fail
      have hg5 := HC5.out.lt
      have HAM2 : Hid (∀ (W' : World) (R : Ending → World → Prop), But g w5 W' → Cur B g a len cap (m + 404) W' → RowIs W' w5.heap.size 3 ([1, -1, 1048576].map (Value.int .i64)) → (∀ (d : Int) (w6 : World), w6.cell? ⟨w2.heap.size, 0, none⟩ = some (.slice (some ⟨g0, 0, none⟩) S.length c0) → w6.cell? ⟨g0, i, none⟩ = some (.int .i64 p) → w6.frozen? ⟨g0, i, none⟩ = false → w6.cell? ⟨w.heap.size, 0, none⟩ = some (.slice none 0 0) → w6.frozen? ⟨w.heap.size, 0, none⟩ = false → Hid (But g w5 w6 ∧ Cur B g a len cap (m + 406) w6) → R (.returned (.int .i64 d)) w6) → Calls Try.prog 84 #[.pointer (some ⟨g, 0, none⟩), .slice (some ⟨w5.heap.size, 0, none⟩) 3 3] W' R) := Lib.hid (fun W' R hb5 hcur hrow hR => by
        refine (among_any B g a len cap (m + 404) w5.heap.size [1, -1, 1048576] 3 W' hcur (by omega) hrow (by omega) (by decide) (by decide)).mono ?_
        rintro e w6 ⟨y, hy, rfl, hc6, hb6⟩
        obtain ⟨d, hzd, rfl⟩ := List.mem_map.1 hy
        obtain ⟨hq1, hq2, hq3, hq4, hq5⟩ := HAT.out _ (But.trans hb5 hb6)
        exact hR d w6 hq3 hq1 hq2 hq4 hq5 (Lib.hid ⟨But.trans hb5 hb6, hc6⟩))
      obtain ⟨hA1, hA2, hA3, hA4, hA5⟩ := HAT.out (w5.alloc (.cells #[.int .i64 1, .int .i64 (-1), .int .i64 1048576] 3)) (But.alloc g w5 _)
      have HCA : Hid (Cur B g a len cap (m + 404) (w5.alloc (.cells #[.int .i64 1, .int .i64 (-1), .int .i64 1048576] 3))) := Lib.hid (HC5.out.alloc _)
      have HCA2 : Hid (Cur B g a len cap (m + 404) (w5.alloc (.cells #[.int .i64 1, .int .i64 (-1), .int .i64 1048576] 3)).drew) := Lib.hid (HCA.out.keep ⟨rfl, rfl, rfl, Nat.le_refl _, fun _ _ => rfl⟩)
      clear HAT HC5
      go_region_law (first | (go_simp; go_at_call 84; refine HAM2.out _ _ (by first | exact But.trans (But.alloc g w5 _) ⟨rfl, rfl, rfl, Nat.le_refl _, fun _ _ _ => rfl⟩ | exact But.alloc g w5 _) (by first | exact HCA2.out | exact HCA.out) (by exact heap_alloc_new w5 _) ?_; intro d w6 hq3 hq1 hq2 hq4 hq5 HN6))
      all_goals (
        clear HCA HCA2 HAM2
        go_wp2_with fail
        refine bodyPost_ret (fen_res1 rfl _ _ rfl (World.cell?_setCell_same' _ _ _ (by simp [go_sem, hq4]))) rfl ?_
        exact HFIN.out w6 _ _ (by first | exact wr_wrap64 _ | (rw [wr_def]; exact wr_wr _)) HN6.out.1 HN6.out.2)

end Go.Proofs.Ytgfdpjmhdijdiaa
