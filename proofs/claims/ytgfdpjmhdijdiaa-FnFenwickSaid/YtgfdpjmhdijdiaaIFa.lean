/- The program's FenwickAdd, by its contract. -/
import Derived.Test.YtgfdpjmhdijdiaaIFv
import Derived.Test.YtgfdpjmhdijdiaaAddF
import Derived.Test.YtgfdpjmhdijdiaaFenQ
namespace Go.Proofs.Ytgfdpjmhdijdiaa
open Go.RowKit Fw
set_option linter.unusedVariables false

theorem up_step {n f a : Nat} (h : a < n) : up n (f + 1) a = a :: up n f (a + lo (a + 1)) := if_pos h
theorem up_end {n f a : Nat} (h : ¬ a < n) : up n (f + 1) a = [] := if_neg h
theorem up_nil {n f a : Nat} (h : ¬ a < n) : up n f a = [] := by
  cases f with
  | zero => rfl
  | succ f => exact up_end h

set_option maxRecDepth 100000 in
set_option maxHeartbeats 1000000 in
theorem implFa_any (x o k : Nat) (l : List Int) (n b : Int) (w : World) (hv : FlatAt w (.slice (some ⟨x, o, none⟩) l.length k) l.length (ints l)) (hn : l.length ≤ 1048576) (hi : IsW l) (hb64 : -9223372036854775808 ≤ b ∧ b < 9223372036854775808) :
    Calls Try.prog 49 #[.agg #[.slice (some ⟨x, o, none⟩) l.length k], .int .i64 n, .int .i64 b] w (RetFE2 (addF l n b) w) := by
  obtain ⟨W, hW, hx, hy, hz, hbW⟩ := box2 w 53 53 (.slice (some ⟨x, o, none⟩) l.length k) (.slice none 0 0)
  have HV := Lib.hid (hv.below hbW)
  have HB := Lib.hid hbW
  have HX := Lib.hid hx
  have HY := Lib.hid hy
  have HZ := Lib.hid hz
  have hc0 := hx.cell
  clear hv hbW hx hy
  have HF := Lib.hid (implFv_any x o k l W HV.out hn hi)
  have HNO : Hid (¬ (OkF l ∧ (0 ≤ n ∧ n < l.length) ∧ (0 ≤ (vl l).getD n.toNat 0 + b ∧ (vl l).getD n.toNat 0 + b ≤ 1000)) → ∀ w1, Below w.heap.size w w1 → RetFE2 (addF l n b) w (.returned (.tuple #[.agg #[.slice none 0 0], .int .i64 0, .bool false])) (w1.setCell ⟨w.heap.size + 1, 0, none⟩ (.slice none 0 0))) := Lib.hid (fun h w1 h1 => by
    rw [addF_no h]
    exact .inr ⟨rfl, none, 0, rfl, h1.setCell (p := ⟨w.heap.size + 1, 0, none⟩) (Nat.le_succ _) _⟩)
  by_cases hok : OkF l
  · rw [valF_yes hok] at HF
    have h64 := hok.len
    have HF2 : Hid (Calls Try.prog 44 #[.agg #[.slice (some ⟨x, o, none⟩) l.length k]] W fun e w' => ∃ g cg, e = .returned (.tuple #[.slice (some ⟨g, 0, none⟩) l.length cg, .bool true]) ∧ l.length ≤ cg ∧ W.heap.size ≤ g ∧ CellRow w' g (ints (vl l)) ∧ Below W.heap.size W w') := Lib.hid (HF.out.mono (by
      rintro e w' ⟨g, cg, rfl, h1, h2, h3, h4⟩
      exact ⟨g, cg, by rw [vl_len], by rw [vl_len] at h1; exact h1, h2, h3, h4⟩))
    clear HF
    by_cases h0 : n < 0
    · have HN := Lib.hid (HNO.out (fun h => by have := h.2.1.1; omega))
      clear hok
      go_enter Try.func49, Try.ntmps49
      go_wp2_with fail
      rw [← hW]
      refine HF2.out.mono ?_
      rintro e w1 ⟨g, cg, rfl, hcg, hg, hrow, hb1⟩
      have hcy := (boxed_below HY.out hb1 (by omega)).cell
      have hfy := (boxed_below HY.out hb1 (by omega)).frozen
      have HB1 := Lib.hid (HB.out.trans (hb1.mono (by omega)))
      clear hcg hg hrow hb1 HF2 HX
      go_wp2_with fail
      refine bodyPost_ret (fen_res3 rfl _ _ rfl (World.cell?_setCell_same' _ _ _ (by simp [go_sem, hcy]))) rfl ?_
      exact HN.out _ HB1.out
    by_cases h1 : (l.length : Int) ≤ n
    · have HN := Lib.hid (HNO.out (fun h => by have := h.2.1.2; omega))
      clear hok
      go_enter Try.func49, Try.ntmps49
      go_wp2_with fail
      rw [← hW]
      refine HF2.out.mono ?_
      rintro e w1 ⟨g, cg, rfl, hcg, hg, hrow, hb1⟩
      have hcy := (boxed_below HY.out hb1 (by omega)).cell
      have hfy := (boxed_below HY.out hb1 (by omega)).frozen
      have HB1 := Lib.hid (HB.out.trans (hb1.mono (by omega)))
      clear hcg hg hrow hb1 HF2 HX
      go_wp2_with fail
      refine bodyPost_ret (fen_res3 rfl _ _ rfl (World.cell?_setCell_same' _ _ _ (by simp [go_sem, hcy]))) rfl ?_
      exact HN.out _ HB1.out
    obtain ⟨i, rfl⟩ : ∃ i : Nat, n = i := ⟨n.toNat, by omega⟩
    have hil : i < l.length := by omega
    have hilz : (i : Int) < (l.length : Int) := by omega
    have hy0 := OkM.at hok i
    have HY1 : Hid (∀ w1 g, CellRow w1 g (ints (vl l)) → w1.cell? ⟨g, i, none⟩ = some (.int .i64 ((vl l).getD i 0))) := Lib.hid (fun w1 g h => (h.2 _ _ (ints_getD (by rw [vl_len]; exact hil))).1)
    rw [Int.toNat_natCast] at HNO
    have HUP : Hid (0 ≤ (vl l).getD i 0 + b ∧ (vl l).getD i 0 + b ≤ 1000 → addF l i b = ((up l.length 64 i).foldl (addAt b) l, ((up l.length 64 i).length : Int), true) ∧ ((up l.length 64 i).foldl (addAt b) l).length = l.length ∧ (up l.length 64 i).length ≤ 64) := Lib.hid (fun h => by
      obtain ⟨h1, h2⟩ := up_F hok hi hil h
      rw [addF_yes hok ⟨by omega, by omega⟩ (by rw [Int.toNat_natCast]; exact h), Int.toNat_natCast, h1, h2]
      refine ⟨rfl, by rw [bs_len, List.length_set, vl_len], ?_⟩
      have := List.length_filter_le (cov i) (List.range l.length)
      rw [List.length_range] at this
      unfold nds; omega)
    obtain ⟨y, hy⟩ : ∃ y, y = (vl l).getD i 0 := ⟨_, rfl⟩
    rw [← hy] at HNO HUP hy0 HY1
    have hn1 : IntKind.i64.wrap (-y) = -y := by rw [IntKind.wrap_i64]; omega
    have hn2 : IntKind.i64.wrap (1000 - y) = 1000 - y := by rw [IntKind.wrap_i64]; omega
    by_cases h2 : b < -y
    · have HN := Lib.hid (HNO.out (fun h => by have := h.2.2.1; omega))
      clear hok hy
      go_enter Try.func49, Try.ntmps49
      go_wp2_with fail
      rw [← hW]
      refine HF2.out.mono ?_
      rintro e w1 ⟨g, cg, rfl, hcg, hg, hrow, hb1⟩
      have hcy := (boxed_below HY.out hb1 (by omega)).cell
      have hfy := (boxed_below HY.out hb1 (by omega)).frozen
      have HB1 := Lib.hid (HB.out.trans (hb1.mono (by omega)))
      have hw4 := HY1.out w1 g hrow
      clear hcg hg hrow hb1 HF2 HX
      go_wp2_with fail
      refine bodyPost_ret (fen_res3 rfl _ _ rfl (World.cell?_setCell_same' _ _ _ (by simp [go_sem, hcy]))) rfl ?_
      exact HN.out _ HB1.out
    by_cases h3 : 1000 - y < b
    · have HN := Lib.hid (HNO.out (fun h => by have := h.2.2.2; omega))
      clear hok hy
      go_enter Try.func49, Try.ntmps49
      go_wp2_with fail
      rw [← hW]
      refine HF2.out.mono ?_
      rintro e w1 ⟨g, cg, rfl, hcg, hg, hrow, hb1⟩
      have hcy := (boxed_below HY.out hb1 (by omega)).cell
      have hfy := (boxed_below HY.out hb1 (by omega)).frozen
      have HB1 := Lib.hid (HB.out.trans (hb1.mono (by omega)))
      have hw4 := HY1.out w1 g hrow
      clear hcg hg hrow hb1 HF2 HX
      go_wp2_with fail
      refine bodyPost_ret (fen_res3 rfl _ _ rfl (World.cell?_setCell_same' _ _ _ (by simp [go_sem, hcy]))) rfl ?_
      exact HN.out _ HB1.out
    obtain ⟨hADD, hRL, hC64⟩ := HUP.out ⟨by omega, by omega⟩
    have HADD := Lib.hid hADD
    have HRL := Lib.hid hRL
    obtain ⟨C, hC⟩ : ∃ C, C = (up l.length 64 i).length := ⟨_, rfl⟩
    obtain ⟨R, hR⟩ : ∃ R, R = (up l.length 64 i).foldl (addAt b) l := ⟨_, rfl⟩
    rw [← hC] at hC64 HADD
    rw [← hR] at HADD HRL
    have HC := Lib.hid hC
    have HR := Lib.hid hR
    clear hok hy hADD hRL hC hR HUP HNO
    go_enter Try.func49, Try.ntmps49
    go_wp2_with fail
    rw [← hW]
    refine HF2.out.mono ?_
    rintro e w1 ⟨g, cg, rfl, hcg, hg, hrow, hb1⟩
    have hcy := (boxed_below HY.out hb1 (by omega)).cell
    have hfy := (boxed_below HY.out hb1 (by omega)).frozen
    have HB1 := Lib.hid (HB.out.trans (hb1.mono (by omega)))
    have hw4 := HY1.out w1 g hrow
    have hc1 := (boxed_below HX.out hb1 (by omega)).cell
    have HY2 := Lib.hid (boxed_below HY.out hb1 (by omega))
    have HCL := Lib.hid (cloneInts_any x o k l w1 (HV.out.below hb1) hn)
    have HZ1 : Hid (w.heap.size + 2 ≤ w1.heap.size) := Lib.hid (by have := hb1.size; omega)
    clear hcg hg hrow hb1 HF2 HX hcy hfy
    go_wp2_with fail
    refine HCL.out.mono ?_
    rintro e w2 ⟨g2, cg2, rfl, hcg2, hg2, hrow2, hb2⟩
    have HY3 := Lib.hid (boxed_below HY2.out hb2 (by have := HZ1.out; omega))
    have HB2 := Lib.hid (HB1.out.trans (hb2.mono HB1.out.size))
    have HG2 : Hid (w.heap.size + 2 ≤ g2 ∧ l.length ≤ cg2) := Lib.hid ⟨Nat.le_trans HZ1.out hg2, hcg2⟩
    have HROW2 := Lib.hid hrow2
    clear hcg2 hg2 hrow2 hb2 HCL HB1 HY2 hw4 hc1
    go_wp2_with fail
    go_loopw [12, 13] (fun cv av wr => ∃ (a c f : Nat) (M : List Int), a ≤ 127 ∧ cv = .int .i64 (c : Int) ∧ av = .int .i64 (a : Int) ∧ l.length ≤ a + f ∧ M.length = l.length ∧ c + (up l.length f a).length = C ∧ (up l.length f a).foldl (addAt b) M = R ∧ CellRow wr g2 (ints M) ∧ But g2 w2 wr) (fun _ av _ => 128 - (intOf av).toNat)
    case atStart => exact ⟨i, 0, 64, l, by omega, rfl, rfl, by omega, rfl, by rw [Nat.zero_add, HC.out], HR.out.symm, HROW2.out, But.refl _ _⟩
    case round =>
      obtain ⟨a, c, f, M, ha, rfl, rfl, hf, hM, hc, hfold, hr, hbt⟩ := hrel
      have HRW := Lib.hid hr
      have HBT := Lib.hid hbt
      have hc64 : c ≤ 64 := by omega
      by_cases hlt : a < l.length
      · have hltz : (a : Int) < (l.length : Int) := by omega
        obtain ⟨f, rfl⟩ : ∃ f', f = f' + 1 := ⟨f - 1, by omega⟩
        rw [up_step hlt] at hc hfold
        rw [List.foldl_cons] at hfold
        rw [List.length_cons] at hc
        obtain ⟨p, hp⟩ : ∃ p, p = M.getD a 0 := ⟨_, rfl⟩
        obtain ⟨hw5, hf5⟩ := HRW.out.2 _ _ (ints_getD (l := M) (k := a) (by omega))
        rw [← hp] at hw5
        have HM1 : Hid (addAt b M a = M.set a (IntKind.i64.wrap (p + b))) := Lib.hid (by rw [addAt, ← hp, wr_def])
        obtain ⟨z, hz2⟩ : ∃ z, z = IntKind.i64.wrap (p + b) := ⟨_, rfl⟩
        rw [← hz2] at HM1
        have hw6 := hz2.symm
        have HL := Lib.hid (fun W => lowOf_any a (by omega) W)
        have hle := lo_le (a + 1)
        have hpo := lo_pos (n := a + 1) (by omega) (by omega)
        obtain ⟨r, hrr⟩ : ∃ r, r = lo (a + 1) := ⟨_, rfl⟩
        rw [← hrr] at HL hle hpo hc hfold
        obtain ⟨t, ht⟩ : ∃ t, t = a + r := ⟨_, rfl⟩
        rw [← ht] at hc hfold
        have hw1 : IntKind.i64.wrap ((a : Int) + (r : Int)) = (t : Int) := by rw [IntKind.wrap_i64]; omega
        have HN : Hid (t ≤ 127 ∧ l.length ≤ t + f ∧ c + 1 + (up l.length f t).length = C ∧ a < t) := Lib.hid ⟨by omega, by omega, by omega, by omega⟩
        have HFO := Lib.hid hfold
        have HML : Hid ((M.set a z).length = l.length) := Lib.hid (by rw [List.length_set]; exact hM)
        have HAL : Hid (a < (ints M).length) := Lib.hid (by rw [ints_length]; omega)
        rw [HM1.out] at HFO
        clear hr hbt hp hz2 hrr ht hc hfold hf hM HM1 HR HC HROW2
        go_wp2_with fail
        refine (HL.out _).mono ?_
        rintro e w3 ⟨rfl, rfl⟩
        go_wp2_with fail
        go_roundw
        case rel => exact ⟨t, c + 1, f, M.set a z, HN.out.1, by go_num, rfl, HN.out.2.1, HML.out, HN.out.2.2.1, HFO.out, by rw [← ints_set]; exact HRW.out.set a _ HAL.out, HBT.out.setCell a _⟩
        case measure => have := HN.out; simp [intOf]; omega
      · have hltz : ¬ (a : Int) < (l.length : Int) := by omega
        rw [up_nil hlt] at hc hfold
        have HE : Hid (c = C ∧ M = R) := Lib.hid ⟨hc, hfold⟩
        have HBW : Hid (Below w.heap.size w wr) := Lib.hid (HB2.out.trans (HBT.out.below (by have := HG2.out.1; omega) HB2.out.size))
        have HYW : Hid (Boxed wr (w.heap.size + 1) 53 (.slice none 0 0)) := Lib.hid ((HBT.out.block _ (Boxed.lt HY3.out) (by have := HG2.out.1; omega)).trans HY3.out)
        have hcy := Boxed.cell HYW.out
        have hfy := Boxed.frozen HYW.out
        have HRES : Hid (RetFE2 (addF l i b) w (.returned (.tuple #[.agg #[.slice (some ⟨g2, 0, none⟩) l.length cg2], .int .i64 (c : Int), .bool true])) (wr.setCell ⟨w.heap.size + 1, 0, none⟩ (.slice (some ⟨g2, 0, none⟩) l.length cg2))) := Lib.hid (by
          rw [HADD.out, HE.out.1]
          refine .inl ⟨g2, cg2, by simp only [HRL.out], by simp only [HRL.out]; exact HG2.out.2, by have := HG2.out.1; omega, ?_, HBW.out.setCell (p := ⟨w.heap.size + 1, 0, none⟩) (Nat.le_succ _) _⟩
          rw [← HE.out.2]
          exact HRW.out.but ((But.refl (w.heap.size + 1) wr).setCell 0 _) (by have := HG2.out.1; omega))
        clear hr hbt hc hfold hf hM HR HC HROW2 HYW
        go_wp2_with fail
        refine bodyPost_ret (fen_res3 rfl _ _ rfl (World.cell?_setCell_same' _ _ _ (by simp [go_sem, hcy]))) rfl ?_
        exact HRES.out
  · rw [valF_no hok] at HF
    have HN := Lib.hid (HNO.out (fun h => hok h.1))
    clear hok
    go_enter Try.func49, Try.ntmps49
    go_wp2_with fail
    rw [← hW]
    refine HF.out.mono ?_
    rintro e w1 ⟨g, cg, rfl, hcg, hg, hrow, hb1⟩
    have hcy := (boxed_below HY.out hb1 (by omega)).cell
    have hfy := (boxed_below HY.out hb1 (by omega)).frozen
    have HB1 := Lib.hid (HB.out.trans (hb1.mono (by omega)))
    clear hcg hg hrow hb1 HF HX
    go_wp2_with fail
    refine bodyPost_ret (fen_res3 rfl _ _ rfl (World.cell?_setCell_same' _ _ _ (by simp [go_sem, hcy]))) rfl ?_
    exact HN.out _ HB1.out

end Go.Proofs.Ytgfdpjmhdijdiaa
