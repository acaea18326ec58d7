/- The model's NextPermutation, by its contract. -/
import Derived.Test.YtckogbmaahenhaaSPermV
import Derived.Test.YtckogbmaahenhaaRetI
import Derived.BigQuiet
import Derived.Deep.QuietTactic
import Derived.Laws.BitsLemmas
namespace Go.Proofs.Ytckogbmaahenhaa
open Go.RowKit P

attribute [local go_sem ↓ high] builtin_append_held

set_option maxRecDepth 100000 in
theorem l1Own_any (b o c : Nat) (l : List Int) (w : World) (hv : FlatAt w (.slice (some ⟨b, o, none⟩) l.length c) l.length (ints l)) (hn : l.length ≤ 1048576) :
    Calls Try.prog 91 #[.slice (some ⟨b, o, none⟩) l.length c] w (RowI l w) := by
  obtain ⟨a, c', he, _, h⟩ := hv
  simp at he
  obtain ⟨rfl, rfl⟩ := he
  have hst := Held.start w w.heap.size (Nat.le_refl _)
  have hb0 : Below w.heap.size w (w.alloc (.cells #[] 3)) := (Below.refl _ _).alloc (Nat.le_refl _) _
  obtain ⟨v1, w1, hrun, hH, hb1⟩ := appendMany w.heap.size _ [] b o c l _ hst hb0.size (by simp; omega) (fun j u hu => by
    obtain ⟨b', o', e, hbb, hcell⟩ := h j u hu
    simp at e
    obtain ⟨rfl, rfl⟩ := e
    exact (hb0.cell (p := ⟨b, o + j, none⟩) hbb).trans hcell)
  rw [List.nil_append] at hH
  obtain ⟨g, cg, rfl, hg, hcg, hrow⟩ := hH.row
  have HRES : Hid (RowI l w (.returned (.slice (some ⟨g, 0, none⟩) l.length cg)) w1) := Lib.hid ⟨g, cg, rfl, hcg, hg, hrow, hb0.trans hb1⟩
  clear h hst hb0 hH hb1 hg hcg hrow
  go_enter Try.func91, Try.ntmps91
  go_wp2_with fail
  go_ret
  exact HRES.out

set_option maxRecDepth 100000 in
set_option maxHeartbeats 8000000 in
theorem specNext_any (b o c : Nat) (l : List Int) (w : World) (hv : FlatAt w (.slice (some ⟨b, o, none⟩) l.length c) l.length (ints l)) (hn : l.length ≤ 1048576) :
    Calls Try.prog 46 #[.slice (some ⟨b, o, none⟩) l.length c] w (RetI (nextF l) w) := by
  have HV := Lib.hid hv
  clear hv
  have HI := Lib.hid (fun W (h : FlatAt W (.slice (some ⟨b, o, none⟩) l.length c) l.length (ints l)) => l3Good_any _ l W h hn)
  have HNB : Hid (¬ OkP l → nextF l = ([], false)) := Lib.hid (fun h => nextF_no fun hh => h hh.1)
  have HNO : Hid (piv l (l.length - 1) = 0 → nextF l = ([], false)) := Lib.hid (fun h => nextF_no fun hh => by omega)
  have HYES : Hid (∀ i, OkP l → piv l (l.length - 1) = i + 1 → nextF l = (nextOf l, true)) := Lib.hid (fun i hok h => nextF_yes ⟨hok, by omega⟩)
  go_enter Try.func46, Try.ntmps46
  go_wp2_with fail
  refine (l1Own_any b o c l w HV.out hn).mono ?_
  rintro e w1 ⟨g, cg, rfl, hcg, hg, hrow, hb1⟩
  have HROW := Lib.hid hrow
  have HB1 := Lib.hid hb1
  have HV1 := Lib.hid (HV.out.below hb1)
  clear hrow hb1 HV
  have HRET : Hid (∀ W, Below w.heap.size w W → nextF l = ([], false) → RetI (nextF l) w (.returned (.tuple #[.slice (some ⟨W.heap.size, 0, none⟩) 0 0, .bool false])) (W.alloc (.cells #[] 3))) := Lib.hid (fun W hW h => by rw [h]; exact RetI.none w W hW)
  by_cases hz : l.length = 0
  · have HF := Lib.hid (HNO.out (by rw [hz]; rfl))
    have hw2 : IntKind.i64.wrap ((l.length : Int) - 2) = -2 := by rw [IntKind.wrap_i64]; omega
    clear hz
    go_wp2_with fail
    go_loopw [5] (fun iv wr => iv = .int .i64 (-2) ∧ ∃ m, wr = w1.drewN m) (fun _ _ => 0)
    case atStart => exact ⟨rfl, 0, rfl⟩
    case round =>
      obtain ⟨rfl, m, rfl⟩ := hrel
      have hg : decide ((0 : Int) ≤ -2) = false := by decide
      go_wp2_with fail
      go_quiet (fail)
      have HV2 : Hid (FlatAt ((w1.drewN m).drewN nq) (.slice (some ⟨b, o, none⟩) l.length c) l.length (ints l)) := Lib.hid (HV1.out.below ⟨rfl, rfl, rfl, Nat.le_refl _, fun _ _ => rfl⟩)
      have HB2 : Hid (Below w.heap.size w ((w1.drewN m).drewN nq)) := Lib.hid (HB1.out.trans ⟨rfl, rfl, rfl, Nat.le_refl _, fun _ _ => rfl⟩)
      generalize (w1.drewN m).drewN nq = w2 at HV2 HB2 ⊢
      go_wp2_with fail
      refine (HI.out _ HV2.out).mono ?_
      rintro e w3 ⟨rfl, hb3⟩
      have HRES := Lib.hid (HRET.out w3 (HB2.out.trans (hb3.mono HB2.out.size)) HF.out)
      generalize decide (OkP l) = ok
      clear hb3
      cases ok
      · go_wp2_with fail
        go_ret2
        exact HRES.out
      · go_wp2_with fail
        go_ret2
        exact HRES.out
  · have hw2 : IntKind.i64.wrap ((l.length : Int) - 2) = ((l.length - 1 : Nat) : Int) - 1 := by rw [IntKind.wrap_i64]; omega
    obtain ⟨n1, hn1⟩ : ∃ n1, l.length = n1 + 1 := ⟨l.length - 1, by omega⟩
    have HN1 := Lib.hid hn1
    have hnn : l.length - 1 = n1 := by omega
    rw [hnn] at hw2 HNO HYES
    clear hz hnn hn1
    go_wp2_with fail
    go_loopw [5] (fun iv wr => ∃ (k m : Nat), k ≤ n1 ∧ iv = .int .i64 ((k : Int) - 1) ∧ piv l n1 = piv l k ∧ wr = w1.drewN m) (fun iv _ => (intOf iv + 1).toNat)
    case atStart => exact ⟨n1, 0, Nat.le_refl _, rfl, rfl, rfl⟩
    case round =>
      obtain ⟨k, m, hk, rfl, hpiv, rfl⟩ := hrel
      have HPIV := Lib.hid hpiv
      clear hpiv hw2
      cases k with
      | zero =>
        have HF := Lib.hid (HNO.out HPIV.out)
        have he : ((0 : Nat) : Int) - 1 = -1 := by omega
        rw [he]
        have hg : decide ((0 : Int) ≤ -1) = false := by decide
        go_wp2_with fail
        go_quiet (fail)
        have HV2 : Hid (FlatAt ((w1.drewN m).drewN nq) (.slice (some ⟨b, o, none⟩) l.length c) l.length (ints l)) := Lib.hid (HV1.out.below ⟨rfl, rfl, rfl, Nat.le_refl _, fun _ _ => rfl⟩)
        have HB2 : Hid (Below w.heap.size w ((w1.drewN m).drewN nq)) := Lib.hid (HB1.out.trans ⟨rfl, rfl, rfl, Nat.le_refl _, fun _ _ => rfl⟩)
        generalize (w1.drewN m).drewN nq = w2 at HV2 HB2 ⊢
        go_wp2_with fail
        refine (HI.out _ HV2.out).mono ?_
        rintro e w3 ⟨rfl, hb3⟩
        have HRES := Lib.hid (HRET.out w3 (HB2.out.trans (hb3.mono HB2.out.size)) HF.out)
        generalize decide (OkP l) = ok
        clear hb3
        cases ok
        · go_wp2_with fail
          go_ret2
          exact HRES.out
        · go_wp2_with fail
          go_ret2
          exact HRES.out
      | succ j =>
        have he : ((j + 1 : Nat) : Int) - 1 = (j : Int) := by omega
        rw [he]
        clear he
        have hj1 : j + 1 < l.length := by have := HN1.out; omega
        have hj : j < l.length := by omega
        obtain ⟨x, hx⟩ : ∃ x, x = l.getD j 0 := ⟨_, rfl⟩
        obtain ⟨y, hy⟩ : ∃ y, y = l.getD (j + 1) 0 := ⟨_, rfl⟩
        have hcx := (HROW.out.2 _ _ (ints_at (at_getD hj))).1
        have hcy := (HROW.out.2 _ _ (ints_at (at_getD hj1))).1
        rw [← hx] at hcx
        rw [← hy] at hcy
        have HX := Lib.hid hx
        have HY := Lib.hid hy
        have hwj : IntKind.i64.wrap ((j : Int) + 1) = ((j + 1 : Nat) : Int) := by rw [IntKind.wrap_i64]; omega
        have hjz1 : (j : Int) + 1 < l.length := by omega
        clear hx hy
        by_cases hxy : y < x
        · have HP2 : Hid (piv l n1 = piv l j) := Lib.hid (by rw [HPIV.out]; exact piv_go (by rw [← HX.out, ← HY.out]; exact hxy))
          have hwm : IntKind.i64.wrap ((j : Int) - 1) = (j : Int) - 1 := by rw [IntKind.wrap_i64]; omega
          go_wp2_with fail
          go_quiet (fail)
          go_wp2_with fail
          go_roundw
          case rel => exact ⟨j, m + nq, by omega, rfl, HP2.out, by trivial⟩
          case measure => simp [intOf]
        · have HP2 : Hid (piv l n1 = j + 1) := Lib.hid (by rw [HPIV.out]; exact piv_stop (by rw [← HX.out, ← HY.out]; exact hxy))
          go_wp2_with fail
          go_quiet (fail)
          have HV2 : Hid (FlatAt ((w1.drewN m).drewN nq) (.slice (some ⟨b, o, none⟩) l.length c) l.length (ints l)) := Lib.hid (HV1.out.below ⟨rfl, rfl, rfl, Nat.le_refl _, fun _ _ => rfl⟩)
          have HB2 : Hid (Below w.heap.size w ((w1.drewN m).drewN nq)) := Lib.hid (HB1.out.trans ⟨rfl, rfl, rfl, Nat.le_refl _, fun _ _ => rfl⟩)
          have HR2 : Hid (CellRow ((w1.drewN m).drewN nq) g (ints l)) := Lib.hid (HROW.out.same rfl (Nat.le_refl _))
          generalize (w1.drewN m).drewN nq = w2 at HV2 HB2 HR2 ⊢
          clear hcx hcy HROW HB1 HV1
          go_wp2_with fail
          refine (HI.out _ HV2.out).mono ?_
          rintro e w3 ⟨rfl, hb3⟩
          have HR3 := Lib.hid (HR2.out.below hb3 HR2.out.1)
          have HB3 := Lib.hid (HB2.out.trans (hb3.mono HB2.out.size))
          have HRET3 := Lib.hid (fun h => HRET.out w3 HB3.out (HNB.out h))
          clear hb3 HR2 HB2 HV2
          by_cases hok : OkP l
          · rw [decide_eq_true hok]
            have HF := Lib.hid (HYES.out _ hok HP2.out)
            have HNX : Hid (nextOf l = (swapped l j (suc l x n1)).take (j + 1) ++ ((swapped l j (suc l x n1)).drop (j + 1)).reverse) := Lib.hid (by
              unfold nextOf
              simp only
              rw [show l.length - 1 = n1 by have := HN1.out; omega, HP2.out, Nat.add_sub_cancel, ← HX.out])
            have hwg := hg
            have hwl : IntKind.i64.wrap ((l.length : Int) - 1) = (n1 : Int) := by have := HN1.out; rw [IntKind.wrap_i64]; omega
            clear hok HRET3 HRET
            go_wp2_with fail
            go_loopw [6] (fun sv ws => ∃ (k q : Nat), j + 1 ≤ k ∧ k ≤ n1 ∧ sv = .int .i64 k ∧ suc l x n1 = suc l x k ∧ ws = w3.drewN q) (fun sv _ => (intOf sv).toNat)
            case atStart => exact ⟨n1, 0, by omega, Nat.le_refl _, rfl, rfl, rfl⟩
            case round =>
              obtain ⟨k, q, hjk, hkn, rfl, hsuc, rfl⟩ := hrel
              have hkl : k < l.length := by have := HN1.out; omega
              obtain ⟨z, hz⟩ : ∃ z, z = l.getD k 0 := ⟨_, rfl⟩
              have hlx := at_getD hj
              have hlz := at_getD hkl
              rw [← HX.out] at hlx
              rw [← hz] at hlz
              obtain ⟨hcx, hfx⟩ := HR3.out.2 _ _ (ints_at hlx)
              obtain ⟨hcz, hfz⟩ := HR3.out.2 _ _ (ints_at hlz)
              have HZ := Lib.hid hz
              have HSUC := Lib.hid hsuc
              have HLX := Lib.hid hlx
              have HLZ := Lib.hid hlz
              clear hz hsuc hlx hlz
              by_cases hzx : z < x
              · have hne : k ≠ j + 1 := fun e => by
                  subst e
                  rw [HY.out, ← HZ.out] at hxy
                  exact absurd hzx (by omega)
                obtain ⟨k', rfl⟩ : ∃ k', k = k' + 1 := ⟨k - 1, by omega⟩
                have HS2 : Hid (suc l x n1 = suc l x k') := Lib.hid (by rw [HSUC.out]; exact suc_go (by rw [← HZ.out]; exact hzx))
                have hwk : IntKind.i64.wrap (((k' + 1 : Nat) : Int) - 1) = (k' : Int) := by rw [IntKind.wrap_i64]; omega
                go_wp2_with fail
                go_quiet (fail)
                go_wp2_with fail
                go_roundw
                case rel => exact ⟨k', q + nq, by omega, by omega, by go_num, HS2.out, by trivial⟩
                case measure => simp [intOf]
              · have HS2 : Hid (suc l x n1 = k) := Lib.hid (by
                  rw [HSUC.out]
                  obtain ⟨k', rfl⟩ : ∃ k', k = k' + 1 := ⟨k - 1, by omega⟩
                  exact suc_stop (by rw [← HZ.out]; exact hzx))
                go_wp2_with fail
                go_quiet (fail)
                have HR4 : Hid (CellRow ((w3.drewN q).drewN nq) g (ints l)) := Lib.hid (HR3.out.same rfl (Nat.le_refl _))
                have HB4 : Hid (Below w.heap.size w ((w3.drewN q).drewN nq)) := Lib.hid (HB3.out.trans ⟨rfl, rfl, rfl, Nat.le_refl _, fun _ _ => rfl⟩)
                generalize (w3.drewN q).drewN nq = wq at HR4 HB4 ⊢
                clear hcx hfx hcz hfz HR3 HB3
                obtain ⟨hcx, hfx⟩ := HR4.out.2 _ _ (ints_at HLX.out)
                obtain ⟨hcz, hfz⟩ := HR4.out.2 _ _ (ints_at HLZ.out)
                have hne : ¬ j = k := by omega
                have hne2 : ¬ k = j := by omega
                obtain ⟨S, hS⟩ : ∃ S, S = swapped l j k := ⟨_, rfl⟩
                have hSl : S.length = n1 + 1 := by rw [hS, swapped_length]; exact HN1.out
                have HSW : Hid (CellRow ((wq.setCell ⟨g, j, none⟩ (.int .i64 z)).setCell ⟨g, k, none⟩ (.int .i64 x)) g (ints S)) := Lib.hid (by
                  have h1 := (HR4.out.set j (.int .i64 z) (by rw [ints_length]; exact hj)).set k (.int .i64 x) (by rw [List.length_set, ints_length]; exact hkl)
                  rw [ints_set, ints_set] at h1
                  have e : (l.set j z).set k x = S := by rw [hS]; unfold swapped; rw [← HX.out, ← HZ.out]
                  rw [e] at h1
                  exact h1)
                have HB5 : Hid (Below w.heap.size w ((wq.setCell ⟨g, j, none⟩ (.int .i64 z)).setCell ⟨g, k, none⟩ (.int .i64 x))) := Lib.hid ((HB4.out.setCell (p := ⟨g, j, none⟩) hwg _).setCell (p := ⟨g, k, none⟩) hwg _)
                have HNXX : Hid (nextOf l = S.take (j + 1) ++ (S.drop (j + 1)).reverse) := Lib.hid (by rw [HNX.out, HS2.out, hS])
                have hwj2 : IntKind.i64.wrap ((j : Int) + 1) = ((j + 1 : Nat) : Int) := by rw [IntKind.wrap_i64]; omega
                have HSL := Lib.hid hSl
                clear hS hSl HR4 HB4
                go_wp2_with fail
                generalize (wq.setCell ⟨g, j, none⟩ (.int .i64 z)).setCell ⟨g, k, none⟩ (.int .i64 x) = w5 at HSW HB5 ⊢
                clear hcx hfx hcz hfz
                go_loopw [8, 9, 10] (fun av bv _ wr => ∃ m : Nat, av = .int .i64 ((j + 1 + m : Nat) : Int) ∧ bv = .int .i64 ((n1 : Int) - m) ∧ j + 1 + m ≤ n1 + 1 ∧ CellRow wr g (ints (revTo S (j + 1) m)) ∧ Below w.heap.size w wr) (fun av _ _ _ => n1 + 2 - (intOf av).toNat)
                case atStart => exact ⟨0, by go_num, by simp, by omega, by rw [revTo_zero]; exact HSW.out, HB5.out⟩
                case round =>
                  obtain ⟨m, rfl, rfl, hm, hrow, hb⟩ := hrel
                  have HRW := Lib.hid hrow
                  have HBW := Lib.hid hb
                  clear hrow hb HSW HB5
                  by_cases hlt : j + 1 + m < n1 - m
                  · obtain ⟨bb, hbb⟩ : ∃ bb, bb = n1 - m := ⟨_, rfl⟩
                    have hbz : (n1 : Int) - m = (bb : Int) := by omega
                    rw [hbz]
                    obtain ⟨aa, haa⟩ : ∃ aa, aa = j + 1 + m := ⟨_, rfl⟩
                    rw [← haa] at hlt ⊢
                    rw [← hbb] at hlt
                    have hst := revTo_step (s := S) (a := j + 1) (m := m) (b := bb) (by rw [HSL.out]; omega) (by omega)
                    rw [← haa] at hst
                    obtain ⟨h1, h2, h3⟩ := hst
                    have H3 := Lib.hid h3
                    generalize S.getD aa 0 = p at *
                    generalize S.getD bb 0 = r at *
                    obtain ⟨hca, hfa⟩ := HRW.out.2 _ _ (ints_at h1)
                    obtain ⟨hcb, hfb⟩ := HRW.out.2 _ _ (ints_at h2)
                    have hlen := revTo_length S (j + 1) m
                    have hab : ¬ aa = bb := by omega
                    have hba : ¬ bb = aa := by omega
                    have HROW2 : Hid (CellRow ((wr.setCell ⟨g, aa, none⟩ (.int .i64 r)).setCell ⟨g, bb, none⟩ (.int .i64 p)) g (ints (revTo S (j + 1) (m + 1)))) := Lib.hid (by
                      have h4 := (HRW.out.set aa (.int .i64 r) (by rw [ints_length, hlen, HSL.out]; omega)).set bb (.int .i64 p) (by rw [List.length_set, ints_length, hlen, HSL.out]; omega)
                      rw [ints_set, ints_set, H3.out] at h4
                      exact h4)
                    have HB6 : Hid (Below w.heap.size w ((wr.setCell ⟨g, aa, none⟩ (.int .i64 r)).setCell ⟨g, bb, none⟩ (.int .i64 p))) := Lib.hid ((HBW.out.setCell (p := ⟨g, aa, none⟩) hwg _).setCell (p := ⟨g, bb, none⟩) hwg _)
                    have haz : aa < l.length := by have := HN1.out; omega
                    have hbz2 : bb < l.length := by have := HN1.out; omega
                    have hwa : IntKind.i64.wrap ((aa : Int) + 1) = ((j + 1 + (m + 1) : Nat) : Int) := by rw [IntKind.wrap_i64]; omega
                    have hwb : IntKind.i64.wrap ((bb : Int) - 1) = (n1 : Int) - ((m + 1 : Nat) : Int) := by rw [IntKind.wrap_i64]; omega
                    have habz : (aa : Int) < (bb : Int) := by omega
                    have HAA := Lib.hid haa
                    have hbn : bb ≤ n1 := by omega
                    clear hbz hbb haa h1 h2 h3 hlen HRW HBW
                    go_wp2_with fail
                    go_roundw
                    case rel => exact ⟨m + 1, by first | rfl | go_num, by first | rfl | go_num, by have := HAA.out; omega, HROW2.out, HB6.out⟩
                    case measure => have := HAA.out; simp [intOf]; omega
                  · have hm1 : m ≤ n1 + 1 := by omega
                    have hnz : ¬ ((j + 1 + m : Nat) : Int) < (n1 : Int) - m := by omega
                    have HEQ : Hid (revTo S (j + 1) m = nextOf l) := Lib.hid (by rw [HNXX.out]; exact revTo_done (by rw [HSL.out]; omega) (by rw [HSL.out]; omega) (by rw [HSL.out]; omega))
                    have HRES : Hid (RetI (nextF l) w (.returned (.tuple #[.slice (some ⟨g, 0, none⟩) l.length cg, .bool true])) wr) := Lib.hid (by
                      rw [HF.out]
                      have hlen := nextOf_length l
                      have h1 := HRW.out
                      rw [HEQ.out] at h1
                      exact ⟨g, cg, by rw [hlen], by rw [hlen]; exact hcg, hwg, h1, HBW.out⟩)
                    clear HRW HEQ
                    go_wp2_with fail
                    go_ret2
                    exact HRES.out
          · rw [decide_eq_false hok]
            have HRES := Lib.hid (HRET3.out hok)
            clear hok HRET3 HRET
            go_wp2_with fail
            go_ret2
            exact HRES.out

end Go.Proofs.Ytckogbmaahenhaa
