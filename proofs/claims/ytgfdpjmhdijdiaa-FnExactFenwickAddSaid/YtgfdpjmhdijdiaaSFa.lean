/- The model's FenwickAdd, by its contract. -/
import Derived.Test.YtgfdpjmhdijdiaaSFp
import Derived.Test.YtgfdpjmhdijdiaaAddF
namespace Go.Proofs.Ytgfdpjmhdijdiaa
open Go.RowKit Fw
set_option linter.unusedVariables false

theorem nds_low (i : Nat) : ((List.range i).filter (cov i)).length = 0 := by
  rw [List.length_eq_zero_iff, List.filter_eq_nil_iff]
  intro t ht
  simp at ht
  simp [cov]; omega
theorem nds_step (i k : Nat) (hik : i ≤ k) : ((List.range (k + 1)).filter (cov i)).length = ((List.range k).filter (cov i)).length + if k + 1 - lo (k + 1) ≤ i then 1 else 0 := by
  rw [List.range_succ, List.filter_append, List.length_append]
  by_cases c : k + 1 - lo (k + 1) ≤ i
  · rw [if_pos c]; simp [cov, c, hik]
  · rw [if_neg c]; simp [cov, c]

set_option maxRecDepth 100000 in
set_option maxHeartbeats 1000000 in
theorem specFa_any (x o k : Nat) (l : List Int) (n b : Int) (w : World) (hv : FlatAt w (.slice (some ⟨x, o, none⟩) l.length k) l.length (ints l)) (hn : l.length ≤ 1048576) (hi : IsW l) (hb64 : -9223372036854775808 ≤ b ∧ b < 9223372036854775808) :
    Calls Try.prog 62 #[.agg #[.slice (some ⟨x, o, none⟩) l.length k], .int .i64 n, .int .i64 b] w (RetFE2 (addF l n b) w) := by
  obtain ⟨W, hW, hx, hy, hz, hbW⟩ := box2 w 53 53 (.slice (some ⟨x, o, none⟩) l.length k) (.slice none 0 0)
  have HV := Lib.hid (hv.below hbW)
  have HB := Lib.hid hbW
  have HX := Lib.hid hx
  have HY := Lib.hid hy
  have hc0 := hx.cell
  clear hv hbW hx hy
  have HF := Lib.hid (l10Fenwick_any _ l W HV.out hn hi)
  have HNO : Hid (¬ (OkF l ∧ (0 ≤ n ∧ n < l.length) ∧ (0 ≤ (vl l).getD n.toNat 0 + b ∧ (vl l).getD n.toNat 0 + b ≤ 1000)) → ∀ w1, Below w.heap.size w w1 → RetFE2 (addF l n b) w (.returned (.tuple #[.agg #[.slice none 0 0], .int .i64 0, .bool false])) (w1.setCell ⟨w.heap.size + 1, 0, none⟩ (.slice none 0 0))) := Lib.hid (fun h w1 h1 => by
    rw [addF_no h]
    exact .inr ⟨rfl, none, 0, rfl, h1.setCell (p := ⟨w.heap.size + 1, 0, none⟩) (Nat.le_succ _) _⟩)
  by_cases hok : OkF l
  · rw [decide_eq_true hok] at HF
    have h64 := hok.len
    have HI := Lib.hid (fun W => l1In_any n 0 ((l.length : Int) - 1) W)
    have hw0 : IntKind.i64.wrap ((l.length : Int) - 1) = (l.length : Int) - 1 := by rw [IntKind.wrap_i64]; omega
    by_cases h0 : 0 ≤ n ∧ n ≤ (l.length : Int) - 1
    · rw [decide_eq_true h0] at HI
      have HJ := Lib.hid (fun W => l1In_any b (-1000) 1000 W)
      by_cases h1 : -1000 ≤ b ∧ b ≤ 1000
      · rw [decide_eq_true h1] at HJ
        obtain ⟨i, rfl⟩ : ∃ i : Nat, n = i := ⟨n.toNat, by omega⟩
        have hil : i < l.length := by omega
        have hilz : (i : Int) < (l.length : Int) := by omega
        rw [Int.toNat_natCast] at HNO
        have hy0 := OkM.at hok i
        obtain ⟨y, hyy⟩ : ∃ y, y = (vl l).getD i 0 := ⟨_, rfl⟩
        have HVAL : Hid (∀ w1, Below W.heap.size W w1 → Calls Try.prog 118 #[.slice (some ⟨x, o, none⟩) l.length k] w1 fun e w' => ∃ g cg, e = .returned (.slice (some ⟨g, 0, none⟩) l.length cg) ∧ l.length ≤ cg ∧ w1.heap.size ≤ g ∧ CellRow w' g (ints (vl l)) ∧ w'.cell? ⟨g, i, none⟩ = some (.int .i64 y) ∧ w'.frozen? ⟨g, i, none⟩ = false ∧ Below w1.heap.size w1 w') := Lib.hid (fun w1 hb1 => by
          have h := l10Values_any _ l w1 (HV.out.below hb1) (by omega)
          rw [sv_all hi (by omega)] at h
          refine h.mono ?_
          rintro e w' ⟨g, cg, rfl, h1, h2, h3, h4⟩
          obtain ⟨h5, h6⟩ := h3.2 _ _ (ints_getD (l := vl l) (k := i) (by rw [vl_len]; exact hil))
          exact ⟨g, cg, by rw [vl_len], by rw [vl_len] at h1; exact h1, h2, h3, by rw [hyy]; exact h5, h6, h4⟩)
        rw [← hyy] at HNO hy0
        have hw1 : IntKind.i64.wrap (y + b) = y + b := by rw [IntKind.wrap_i64]; omega
        obtain ⟨v2, hv2⟩ : ∃ v2, v2 = (vl l).set i (y + b) := ⟨_, rfl⟩
        have hv2l : v2.length = l.length := by rw [hv2, List.length_set, vl_len]
        have HCNT : Hid (∀ W2 g cg, l.length ≤ cg → CellRow W2 g (ints v2) → Calls Try.prog 111 #[.slice (some ⟨g, 0, none⟩) l.length cg] W2 fun e w' => e = .returned (.bool (decide (OkM v2))) ∧ Below W2.heap.size W2 w') := Lib.hid (fun W2 g cg hc hr => by
          have h := l10Counts_any (.slice (some ⟨g, 0, none⟩) v2.length cg) v2 W2 (hr.flat (by rw [hv2l]; exact hc)) (by rw [hv2l]; exact hn)
          rwa [hv2l] at h)
        have HSET : Hid (ints v2 = (ints (vl l)).set i (.int .i64 (y + b)) ∧ i < (ints (vl l)).length) := Lib.hid ⟨by rw [hv2, ints_set], by rw [ints_length, vl_len]; exact hil⟩
        by_cases h2 : 0 ≤ y + b ∧ y + b ≤ 1000
        · have hok2 : OkM v2 := by rw [hv2]; exact OkM.set hok i h2
          have HSUM : Hid (∀ W2 g cg, l.length ≤ cg → CellRow W2 g (ints v2) → Calls Try.prog 112 #[.slice (some ⟨g, 0, none⟩) l.length cg] W2 fun e w' => ∃ g3 c3, e = .returned (.slice (some ⟨g3, 0, none⟩) l.length c3) ∧ l.length ≤ c3 ∧ W2.heap.size ≤ g3 ∧ CellRow w' g3 (ints (bs v2)) ∧ Below W2.heap.size W2 w') := Lib.hid (fun W2 g cg hc hr => by
            have h := l10Sums_any (.slice (some ⟨g, 0, none⟩) v2.length cg) v2 W2 (hr.flat (by rw [hv2l]; exact hc)) (by rw [hv2l]; omega)
            rw [sm_all, hok2.wbs, hv2l] at h
            refine h.mono ?_
            rintro e w' ⟨g3, c3, rfl, h1, h2, h3, h4⟩
            rw [bs_len, hv2l] at h1
            exact ⟨g3, c3, by rw [bs_len, hv2l], h1, h2, h3, h4⟩)
          have HADD : Hid (addF l i b = (bs v2, ((nds l.length i : Nat) : Int), true) ∧ (bs v2).length = l.length) := Lib.hid ⟨by rw [addF_yes hok ⟨by omega, by omega⟩ (by rw [Int.toNat_natCast, ← hyy]; exact h2), Int.toNat_natCast, ← hyy, ← hv2], by rw [bs_len, hv2l]⟩
          rw [decide_eq_true hok2] at HCNT
          clear hok hyy hv2 hok2 HNO hv2l
          go_enter Try.func62, Try.ntmps62
          go_wp2_with fail
          rw [← hW]
          refine HF.out.mono ?_
          rintro e w1 ⟨rfl, hb1⟩
          have HVAL1 := Lib.hid (HVAL.out w1 hb1)
          have hc1 := (boxed_below HX.out hb1 (by omega)).cell
          have HY1 := Lib.hid (boxed_below HY.out hb1 (by omega))
          have HB1 := Lib.hid (HB.out.trans (hb1.mono (by omega)))
          have HZ1 : Hid (w.heap.size + 2 ≤ w1.heap.size) := Lib.hid (by have := hb1.size; omega)
          clear hb1 HF HX HVAL
          go_wp2_with fail
          refine (HI.out _).mono ?_
          rintro e w2 ⟨rfl, rfl⟩
          go_wp2_with fail
          refine (HJ.out _).mono ?_
          rintro e w3 ⟨rfl, rfl⟩
          go_wp2_with fail
          refine HVAL1.out.mono ?_
          rintro e w4 ⟨g, cg, rfl, hcg, hg, hrow, hwi, hfi, hb4⟩
          have HY4 := Lib.hid (boxed_below HY1.out hb4 (by have := HZ1.out; omega))
          have HB4 := Lib.hid (HB1.out.trans (hb4.mono HB1.out.size))
          have HG : Hid (w.heap.size + 2 ≤ g ∧ l.length ≤ cg) := Lib.hid ⟨Nat.le_trans HZ1.out hg, hcg⟩
          have HROW : Hid (CellRow (w4.setCell ⟨g, i, none⟩ (.int .i64 (y + b))) g (ints v2)) := Lib.hid (by rw [HSET.out.1]; exact hrow.set i _ HSET.out.2)
          have HBT : Hid (But g w4 (w4.setCell ⟨g, i, none⟩ (.int .i64 (y + b)))) := Lib.hid ((But.refl g w4).setCell i _)
          clear hcg hg hrow hb4 HVAL1 HB1 HY1 hc1
          go_wp2_with fail
          obtain ⟨w5, hw5⟩ : ∃ w5, w5 = w4.setCell ⟨g, i, none⟩ (.int .i64 (y + b)) := ⟨_, rfl⟩
          rw [← hw5] at HROW HBT ⊢
          clear hw5
          refine (HCNT.out _ _ _ HG.out.2 HROW.out).mono ?_
          rintro e w6 ⟨rfl, hb6⟩
          have HROW6 := Lib.hid (HROW.out.below hb6 HROW.out.1)
          have HY6 : Hid (Boxed w6 (w.heap.size + 1) 53 (.slice none 0 0)) := Lib.hid (boxed_below ((HBT.out.block _ (Boxed.lt HY4.out) (by have := HG.out.1; omega)).trans HY4.out) hb6 (by have := HROW.out.1; have := HG.out.1; omega))
          have HB6 : Hid (Below w.heap.size w w6) := Lib.hid ((HB4.out.trans (HBT.out.below (by have := HG.out.1; omega) HB4.out.size)).trans (hb6.mono (by have := HROW.out.1; have := HG.out.1; omega)))
          clear hb6 HROW HBT HY4 HB4 hwi hfi
          go_wp2_with fail
          go_loopw [10, 11] (fun cv kv wr => ∃ c q : Nat, i ≤ q ∧ q ≤ l.length ∧ cv = .int .i64 (c : Int) ∧ kv = .int .i64 (q : Int) ∧ c = ((List.range q).filter (cov i)).length ∧ wr = w6) (fun _ kv _ => l.length - (intOf kv).toNat)
          case atStart => exact ⟨0, i, Nat.le_refl _, by omega, rfl, rfl, (nds_low i).symm, rfl⟩
          case round =>
            obtain ⟨c, q, hiq, hql, rfl, rfl, hc, rfl⟩ := hrel
            have hc64 : c ≤ 64 := by
              have := List.length_filter_le (cov i) (List.range q)
              rw [List.length_range] at this
              omega
            by_cases hlt : q < l.length
            · have hltz : (q : Int) < (l.length : Int) := by omega
              have hst := nds_step i q hiq
              rw [← hc] at hst
              have HL : Hid (∀ W, Calls Try.prog 119 #[.int .i64 ((q : Int) + 1)] W fun e w' => e = .returned (.int .i64 ((lo (q + 1) : Nat) : Int)) ∧ w' = W) := Lib.hid (fun W => by rw [show (q : Int) + 1 = ((q + 1 : Nat) : Int) by omega]; exact l10Low_any (q + 1) (by omega) (by omega) W)
              have hle := lo_le (q + 1)
              have hpo := lo_pos (n := q + 1) (by omega) (by omega)
              obtain ⟨r, hrr⟩ : ∃ r, r = lo (q + 1) := ⟨_, rfl⟩
              rw [← hrr] at HL hle hpo hst
              obtain ⟨u, hu⟩ : ∃ u : Int, u = (q : Int) - (r : Int) := ⟨_, rfl⟩
              have hw2 : IntKind.i64.wrap ((q : Int) - (r : Int)) = u := by rw [IntKind.wrap_i64]; omega
              obtain ⟨t, ht⟩ : ∃ t, t = q + 1 - r := ⟨_, rfl⟩
              have hw3 : IntKind.i64.wrap (u + 1) = (t : Int) := by rw [IntKind.wrap_i64]; omega
              rw [← ht] at hst
              by_cases hti : t ≤ i
              · have htz : (t : Int) ≤ (i : Int) := by omega
                rw [if_pos hti] at hst
                have HST := Lib.hid hst
                clear hst hc hu ht hrr
                go_wp2_with fail
                refine (HL.out _).mono ?_
                rintro e w7 ⟨rfl, rfl⟩
                go_wp2_with fail
                go_roundw
                case rel => exact ⟨c + 1, q + 1, by omega, by omega, by go_num, by go_num, HST.out.symm, by first | rfl | trivial⟩
                case measure => simp [intOf]; omega
              · have htz : ¬ (t : Int) ≤ (i : Int) := by omega
                rw [if_neg hti] at hst
                have HST := Lib.hid hst
                clear hst hc hu ht hrr
                go_wp2_with fail
                refine (HL.out _).mono ?_
                rintro e w7 ⟨rfl, rfl⟩
                go_wp2_with fail
                go_roundw
                case rel => exact ⟨c, q + 1, by omega, by omega, rfl, by go_num, HST.out.symm, by first | rfl | trivial⟩
                case measure => simp [intOf]; omega
            · have hltz : ¬ (q : Int) < (l.length : Int) := by omega
              have HCC : Hid (c = nds l.length i) := Lib.hid (by rw [hc, nds, show q = l.length by omega])
              have HSUM1 := Lib.hid (HSUM.out _ _ _ HG.out.2 HROW6.out)
              clear hc
              go_wp2_with fail
              refine HSUM1.out.mono ?_
              rintro e w8 ⟨g3, c3, rfl, hc3, hg3, hrow3, hb8⟩
              have hcy := (boxed_below HY6.out hb8 (Boxed.lt HY6.out)).cell
              have hfy := (boxed_below HY6.out hb8 (Boxed.lt HY6.out)).frozen
              have HRES : Hid (RetFE2 (addF l i b) w (.returned (.tuple #[.agg #[.slice (some ⟨g3, 0, none⟩) l.length c3], .int .i64 (c : Int), .bool true])) (w8.setCell ⟨w.heap.size + 1, 0, none⟩ (.slice (some ⟨g3, 0, none⟩) l.length c3))) := Lib.hid (by
                have hlt6 := Boxed.lt HY6.out
                rw [HADD.out.1, HCC.out]
                refine .inl ⟨g3, c3, by simp only [HADD.out.2], by simp only [HADD.out.2]; exact hc3, by omega, ?_, (HB6.out.trans (hb8.mono HB6.out.size)).setCell (p := ⟨w.heap.size + 1, 0, none⟩) (Nat.le_succ _) _⟩
                exact hrow3.but ((But.refl (w.heap.size + 1) w8).setCell 0 _) (by omega))
              clear hc3 hg3 hrow3 hb8
              go_wp2_with fail
              refine bodyPost_ret (fen_res3 rfl _ _ rfl (World.cell?_setCell_same' _ _ _ (by simp [go_sem, hcy]))) rfl ?_
              exact HRES.out
        · have hok2 : ¬ OkM v2 := fun h => h2 (by
            have := h.at i
            rwa [hv2, List.getD_eq_getElem?_getD, List.getElem?_set_self (by rw [vl_len]; exact hil)] at this)
          rw [decide_eq_false hok2] at HCNT
          have HN := Lib.hid (HNO.out (fun h => h2 h.2.2))
          clear hok hyy hv2 hok2 HNO hv2l
          go_enter Try.func62, Try.ntmps62
          go_wp2_with fail
          rw [← hW]
          refine HF.out.mono ?_
          rintro e w1 ⟨rfl, hb1⟩
          have HVAL1 := Lib.hid (HVAL.out w1 hb1)
          have hc1 := (boxed_below HX.out hb1 (by omega)).cell
          have HY1 := Lib.hid (boxed_below HY.out hb1 (by omega))
          have HB1 := Lib.hid (HB.out.trans (hb1.mono (by omega)))
          have HZ1 : Hid (w.heap.size + 2 ≤ w1.heap.size) := Lib.hid (by have := hb1.size; omega)
          clear hb1 HF HX HVAL
          go_wp2_with fail
          refine (HI.out _).mono ?_
          rintro e w2 ⟨rfl, rfl⟩
          go_wp2_with fail
          refine (HJ.out _).mono ?_
          rintro e w3 ⟨rfl, rfl⟩
          go_wp2_with fail
          refine HVAL1.out.mono ?_
          rintro e w4 ⟨g, cg, rfl, hcg, hg, hrow, hwi, hfi, hb4⟩
          have HY4 := Lib.hid (boxed_below HY1.out hb4 (by have := HZ1.out; omega))
          have HB4 := Lib.hid (HB1.out.trans (hb4.mono HB1.out.size))
          have HG : Hid (w.heap.size + 2 ≤ g ∧ l.length ≤ cg) := Lib.hid ⟨Nat.le_trans HZ1.out hg, hcg⟩
          have HROW : Hid (CellRow (w4.setCell ⟨g, i, none⟩ (.int .i64 (y + b))) g (ints v2)) := Lib.hid (by rw [HSET.out.1]; exact hrow.set i _ HSET.out.2)
          have HBT : Hid (But g w4 (w4.setCell ⟨g, i, none⟩ (.int .i64 (y + b)))) := Lib.hid ((But.refl g w4).setCell i _)
          clear hcg hg hrow hb4 HVAL1 HB1 HY1 hc1
          go_wp2_with fail
          obtain ⟨w5, hw5⟩ : ∃ w5, w5 = w4.setCell ⟨g, i, none⟩ (.int .i64 (y + b)) := ⟨_, rfl⟩
          rw [← hw5] at HROW HBT ⊢
          clear hw5
          refine (HCNT.out _ _ _ HG.out.2 HROW.out).mono ?_
          rintro e w6 ⟨rfl, hb6⟩
          have HY6 : Hid (Boxed w6 (w.heap.size + 1) 53 (.slice none 0 0)) := Lib.hid (boxed_below ((HBT.out.block _ (Boxed.lt HY4.out) (by have := HG.out.1; omega)).trans HY4.out) hb6 (by have := HROW.out.1; have := HG.out.1; omega))
          have HB6 : Hid (Below w.heap.size w w6) := Lib.hid ((HB4.out.trans (HBT.out.below (by have := HG.out.1; omega) HB4.out.size)).trans (hb6.mono (by have := HROW.out.1; have := HG.out.1; omega)))
          have hcy := Boxed.cell HY6.out
          have hfy := Boxed.frozen HY6.out
          clear hb6 HROW HBT HY4 HB4 hwi hfi
          go_wp2_with fail
          refine bodyPost_ret (fen_res3 rfl _ _ rfl (World.cell?_setCell_same' _ _ _ (by simp [go_sem, hcy]))) rfl ?_
          exact HN.out _ HB6.out
      · rw [decide_eq_false h1] at HJ
        have HN := Lib.hid (HNO.out (fun h => h1 (by have := OkM.at hok n.toNat; have := h.2.2; omega)))
        clear hok h1
        go_enter Try.func62, Try.ntmps62
        go_wp2_with fail
        rw [← hW]
        refine HF.out.mono ?_
        rintro e w1 ⟨rfl, hb1⟩
        have hc1 := (boxed_below HX.out hb1 (by omega)).cell
        have hcy := (boxed_below HY.out hb1 (by omega)).cell
        have hfy := (boxed_below HY.out hb1 (by omega)).frozen
        have HB1 := Lib.hid (HB.out.trans (hb1.mono (by omega)))
        clear hb1 HF HX
        go_wp2_with fail
        refine (HI.out _).mono ?_
        rintro e w2 ⟨rfl, rfl⟩
        go_wp2_with fail
        refine (HJ.out _).mono ?_
        rintro e w3 ⟨rfl, rfl⟩
        go_wp2_with fail
        refine bodyPost_ret (fen_res3 rfl _ _ rfl (World.cell?_setCell_same' _ _ _ (by simp [go_sem, hcy]))) rfl ?_
        exact HN.out _ HB1.out
    · rw [decide_eq_false h0] at HI
      have HN := Lib.hid (HNO.out (fun h => h0 (by have := h.2.1; omega)))
      clear hok h0
      go_enter Try.func62, Try.ntmps62
      go_wp2_with fail
      rw [← hW]
      refine HF.out.mono ?_
      rintro e w1 ⟨rfl, hb1⟩
      have hc1 := (boxed_below HX.out hb1 (by omega)).cell
      have hcy := (boxed_below HY.out hb1 (by omega)).cell
      have hfy := (boxed_below HY.out hb1 (by omega)).frozen
      have HB1 := Lib.hid (HB.out.trans (hb1.mono (by omega)))
      clear hb1 HF HX
      go_wp2_with fail
      refine (HI.out _).mono ?_
      rintro e w2 ⟨rfl, rfl⟩
      go_wp2_with fail
      refine bodyPost_ret (fen_res3 rfl _ _ rfl (World.cell?_setCell_same' _ _ _ (by simp [go_sem, hcy]))) rfl ?_
      exact HN.out _ HB1.out
  · rw [decide_eq_false hok] at HF
    have HN := Lib.hid (HNO.out (fun h => hok h.1))
    clear hok
    go_enter Try.func62, Try.ntmps62
    go_wp2_with fail
    rw [← hW]
    refine HF.out.mono ?_
    rintro e w1 ⟨rfl, hb1⟩
    have hcy := (boxed_below HY.out hb1 (by omega)).cell
    have hfy := (boxed_below HY.out hb1 (by omega)).frozen
    have HB1 := Lib.hid (HB.out.trans (hb1.mono (by omega)))
    clear hb1 HF HX
    go_wp2_with fail
    refine bodyPost_ret (fen_res3 rfl _ _ rfl (World.cell?_setCell_same' _ _ _ (by simp [go_sem, hcy]))) rfl ?_
    exact HN.out _ HB1.out

end Go.Proofs.Ytgfdpjmhdijdiaa
