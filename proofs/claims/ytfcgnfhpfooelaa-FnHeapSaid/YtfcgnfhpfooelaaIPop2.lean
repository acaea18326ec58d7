/- The program's PopHeap, by its contract. -/
import Derived.Test.YtfcgnfhpfooelaaIPop
namespace Go.Proofs.Ytfcgnfhpfooelaa
open Go.RowKit P El Hp
set_option linter.unusedVariables false

set_option maxRecDepth 100000 in
set_option maxHeartbeats 4000000 in
theorem implPop_any (v : Value) (l : List Int) (d : Int) (w : World) (hv : FlatAt w v l.length (ints l)) (hn : l.length ≤ 1048576) :
    Calls Try.prog 41 #[v, .int .i64 d] w (RetE2 (popAll l d) w) := by
  have HV := Lib.hid (isAry_any _ l d w hv hn)
  have HNONE : Hid (¬ (IsHp l d ∧ 0 < l.length) → ∀ w1, Below w.heap.size w w1 → RetE2 (popAll l d) w (.returned (.tuple #[.slice (some ⟨w1.heap.size, 0, none⟩) 0 0, .int .i64 0, .int .i64 0, .bool false])) (w1.alloc (.cells #[] 3))) := Lib.hid (fun h w1 hb => by rw [popAll_no h]; exact .inl (RetI2.none w w1 hb))
  by_cases hok : IsHp l d
  · rw [decide_eq_true hok] at HV
    by_cases h0 : l.length = 0
    · have HN := Lib.hid (HNONE.out (fun h => by omega))
      obtain rfl := List.eq_nil_of_length_eq_zero h0
      obtain ⟨a, c, rfl, _, _⟩ := hv
      clear hok HNONE h0
      rw [List.length_nil] at HV ⊢
      go_enter Try.func41, Try.ntmps41
      go_wp2_with fail
      refine HV.out.mono ?_
      rintro e w1 ⟨rfl, hb1⟩
      have HRES := Lib.hid (HN.out w1 hb1)
      clear hb1 HV HN
      go_wp2_with fail
      refine bodyPost_ret (results_tmp4 rfl _ _ _) rfl ?_
      exact HRES.out
    · have h0z : ((l.length : Int) == 0) = false := beq_eq_false_iff_ne.2 (by omega)
      have h0z2 : ¬ (l.length : Int) = 0 := by omega
      have hl0 : 0 < l.length := by omega
      obtain ⟨b, o, c, rfl⟩ : ∃ b o c, v = .slice (some ⟨b, o, none⟩) l.length c := by
        obtain ⟨a, c, rfl, _, h⟩ := hv
        obtain ⟨b, o, e, _, _⟩ := h 0 _ (ints_at (at_getD hl0))
        exact ⟨b, o, c, by rw [e]⟩
      obtain ⟨k, rfl, hk0, hk2, hk8⟩ := hok.2.1.nat
      have HF := Lib.hid (popAll_yes ⟨hok, hl0⟩)
      rw [hk0] at HF
      have h64 := hok.1.1
      obtain ⟨n, hn1⟩ : ∃ n, n = l.length - 1 := ⟨_, rfl⟩
      have hwn : IntKind.i64.wrap ((l.length : Int) - 1) = (n : Int) := by rw [IntKind.wrap_i64]; omega
      have hln : (l.length : Int) - 1 = (n : Int) := by omega
      have hnl : n < l.length := by omega
      have hnc : n ≤ c := by
        obtain ⟨a', c', e, hc', _⟩ := hv
        simp at e; obtain ⟨_, rfl⟩ := e; omega
      obtain ⟨y, hy⟩ : ∃ y, y = l.getD 0 0 := ⟨_, rfl⟩
      obtain ⟨x, hx⟩ : ∃ x, x = l.getD n 0 := ⟨_, rfl⟩
      have HC1 := Lib.hid (flat_first hv hl0)
      have HCN := Lib.hid (flat_first hv hnl)
      rw [← hy] at HC1 HF
      rw [← hx] at HCN
      have hlt : (l.take n).length = n := by rw [List.length_take]; omega
      have hpop : popF k l = down k n 0 ((l.take n).set 0 x, 0) := by
        rw [hx, hn1, pop_list]; rfl
      have HLN : Hid ((popF k l).1.length = n) := Lib.hid (by rw [popF_length (by omega), hn1])
      have HFV : Hid ((Part.mk (some ⟨b, o, none⟩) c (l.take n)).ok w) := Lib.hid ⟨by
        have := flat_front hv (n := n) (by omega)
        unfold Part.val; simp only; rw [hlt]; exact this, fun e => by simp at e⟩
      have HMK := Lib.hid (fun W (h : (Part.mk (some ⟨b, o, none⟩) c (l.take n)).ok W) => by
        have := mk1_any k (some ⟨b, o, none⟩) c (l.take n) W h (by omega)
        rw [hlt] at this; exact this)
      have hno : ¬ (n : Int) < 0 := by omega
      have hln2 : (n : Int) ≤ (l.length : Int) := by omega
      obtain ⟨LT, hLT⟩ : ∃ LT, LT = l.take n := ⟨_, rfl⟩
      rw [← hLT] at HMK HFV hlt hpop
      have HLT := Lib.hid hlt
      by_cases hn0 : n = 0
      · subst hn0
        have hLT0 : LT = [] := List.eq_nil_of_length_eq_zero hlt
        subst hLT0
        have hR0 : popF k l = ([], 0) := by
          rw [hpop]; exact down_stop (by omega)
        rw [hR0] at HF
        have HSD := Lib.hid (fun (s : Nat) W (h : W.cell? ⟨s, 1, none⟩ = some (.int .i64 (k : Int))) => sdNo_any 0 0 W h hk8 (by omega) (by omega) (by omega))
        have hl1 : l.length = 1 := by omega
        clear hok hv HNONE h0 hy hx hn1 hlt hpop hR0 hLT HLN HCN h0z h0z2 hwn hno hln2 hl0 h64 hnl
        rw [hl1] at HV ⊢
        clear hln hn hl1
        go_enter Try.func41, Try.ntmps41
        go_wp2_with fail
        refine HV.out.mono ?_
        rintro e w1 ⟨rfl, hb1⟩
        have HB1 := Lib.hid hb1
        clear hb1 HV
        go_wp2_with fail
        refine (HMK.out _ (HFV.out.below HB1.out)).mono ?_
        rintro e w2 ⟨s, v, rfl, hH, hb2⟩
        have HB2 := Lib.hid (HB1.out.trans (hb2.mono HB1.out.size))
        obtain ⟨va, vc, rfl⟩ := hH.small
        have HH := Lib.hid hH
        clear hH hb2 HMK HFV HB1
        go_wp2_with fail
        refine (HSD.out s w2 HH.out.c0.2.1).mono ?_
        rintro e w3 ⟨rfl, hb3⟩
        have HB3 := Lib.hid (HB2.out.trans (hb3.mono HB2.out.size))
        have hcy : w3.cell? ⟨b, o, none⟩ = some (.int .i64 y) := (HB3.out.cell (p := ⟨b, o, none⟩) HC1.out.1).trans HC1.out.2
        obtain ⟨hc0, _, hc2⟩ := (HH.out.below hb3).c0
        have hc2' : w3.cell? ⟨s, 2, none⟩ = some (.int .i64 0) := hc2
        have HRES : Hid (∀ t, RetE2 (popAll l (k : Int)) w (.returned (.tuple #[.slice va 0 vc, .int .i64 y, .int .i64 0, .bool true])) (w3.drewN t)) := Lib.hid (fun t => by
          rw [HF.out]
          exact .inr ⟨rfl, va, vc, rfl, HB3.out.trans ⟨rfl, rfl, rfl, Nat.le_refl _, fun _ _ => rfl⟩⟩)
        clear hb3 hc2 HSD
        go_wp2_with fail
        go_quiet (fail)
        go_wp2_with fail
        refine bodyPost_ret (results_tmp4 rfl _ _ _) rfl ?_
        exact HRES.out _
      · have hnp : 0 < n := by omega
        have hnz : decide ((0 : Int) < (n : Int)) = true := decide_eq_true (by omega)
        have hnz2 : (0 : Int) < (n : Int) := by omega
        have hset : (LT.set 0 x).length = n := by rw [List.length_set]; exact hlt
        have HSD := Lib.hid (fun (s g cap : Nat) W (h : HpG w.heap.size s g cap (LT.set 0 x) k 0 W) => sd_any 0 n W h hk2 hk8 (Nat.zero_le _) (by omega) (by omega) (by omega))
        rw [← hpop] at HSD
        generalize popF k l = R at HSD HF HLN hpop
        clear hok hv HNONE h0 hy hx hn1 hset hpop hLT hn0 hlt
        go_enter Try.func41, Try.ntmps41
        go_wp2_with fail
        refine HV.out.mono ?_
        rintro e w1 ⟨rfl, hb1⟩
        have HB1 := Lib.hid hb1
        clear hb1 HV
        go_wp2_with fail
        refine (HMK.out _ (HFV.out.below HB1.out)).mono ?_
        rintro e w2 ⟨s, v, rfl, hH, hb2⟩
        have HB2 := Lib.hid (HB1.out.trans (hb2.mono HB1.out.size))
        obtain ⟨g, cap, rfl, hG⟩ := (hH.lower HB1.out.size).big (by rw [HLT.out]; exact hnp)
        have hLT0 : 0 < LT.length := by rw [HLT.out]; exact hnp
        have HG := Lib.hid hG
        obtain ⟨hs0, _⟩ := hG.c0
        rw [HLT.out] at hs0
        obtain ⟨z, hcz⟩ : ∃ z, w2.cell? ⟨g, 0, none⟩ = some (.int .i64 z) := ⟨_, (hG.at hLT0).1⟩
        have hfz := (hG.at hLT0).2
        have HG3 := Lib.hid (hG.put 0 x hLT0)
        have HB3 : Hid (Below w.heap.size w (w2.setCell ⟨g, 0, none⟩ (.int .i64 x))) := Lib.hid (HB2.out.setCell (p := ⟨g, 0, none⟩) hG.bg _)
        have hcn : w2.cell? ⟨b, o + n, none⟩ = some (.int .i64 x) := (HB2.out.cell (p := ⟨b, o + n, none⟩) HCN.out.1).trans HCN.out.2
        have hgs : ¬ g = s := hG.ne
        have hgb : ¬ g = b := fun e => by have := hG.bg; have := HCN.out.1; omega
        have HG3T : Hid (HpG w.heap.size s g cap (LT.set 0 x) k 0 (w2.setCell ⟨g, 0, none⟩ (.int .i64 x)).drew) := Lib.hid (HG3.out.drewN 1)
        have HB3T : Hid (Below w.heap.size w (w2.setCell ⟨g, 0, none⟩ (.int .i64 x)).drew) := Lib.hid (HB3.out.trans ⟨rfl, rfl, rfl, Nat.le_refl _, fun _ _ => rfl⟩)
        clear hH hb2 hG HMK HFV HB1 hLT0 HG3 HB3
        go_wp2_with fail
        go_region
        go_wp2_with fail
        refine (HSD.out s g cap _ HG3T.out).mono ?_
        rintro e w3 ⟨rfl, hg4, hb4⟩
        have HB4 : Hid (Below w.heap.size w w3) := Lib.hid (HB3T.out.trans (hb4.below hg4.bs hg4.bg HB3T.out.size))
        have hcy : w3.cell? ⟨b, o, none⟩ = some (.int .i64 y) := (HB4.out.cell (p := ⟨b, o, none⟩) HC1.out.1).trans HC1.out.2
        obtain ⟨hc0, _, hc2, _⟩ := hg4.c0
        have HRES : Hid (∀ t, RetE2 (popAll l (k : Int)) w (.returned (.tuple #[.slice (some ⟨g, 0, none⟩) R.1.length cap, .int .i64 y, .int .i64 (R.2 : Int), .bool true])) (w3.drewN t)) := Lib.hid (fun t => by
          rw [HF.out]
          exact .inl ⟨g, cap, rfl, hg4.cap, hg4.bg, hg4.row.same rfl (Nat.le_refl _), HB4.out.trans ⟨rfl, rfl, rfl, Nat.le_refl _, fun _ _ => rfl⟩⟩)
        clear hb4 hg4 HSD hcz hfz hs0
        go_wp2_with fail
        go_quiet (fail)
        go_wp2_with fail
        refine bodyPost_ret (results_tmp4 rfl _ _ _) rfl ?_
        exact HRES.out _
  · rw [decide_eq_false hok] at HV
    have HN := Lib.hid (HNONE.out (fun h => hok h.1))
    obtain ⟨a, c, rfl, _, _⟩ := hv
    clear hok HNONE
    go_enter Try.func41, Try.ntmps41
    go_wp2_with fail
    refine HV.out.mono ?_
    rintro e w1 ⟨rfl, hb1⟩
    have HRES := Lib.hid (HN.out w1 hb1)
    clear hb1 HV HN
    go_wp2_with fail
    refine bodyPost_ret (results_tmp4 rfl _ _ _) rfl ?_
    exact HRES.out

end Go.Proofs.Ytfcgnfhpfooelaa
