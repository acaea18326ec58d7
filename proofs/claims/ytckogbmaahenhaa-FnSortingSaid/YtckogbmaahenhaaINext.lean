/- The program's NextPermutation, by its contract. -/
import Derived.Test.YtckogbmaahenhaaIPermV
import Derived.Test.YtckogbmaahenhaaRetI
import Derived.Test.YtckogbmaahenhaaRowSet
import Derived.BigRegion
import Derived.BigQuiet
import Derived.Lib.SliceRun
import Derived.Deep.QuietTactic
import Derived.Laws.BitsLemmas
namespace Go.Proofs.Ytckogbmaahenhaa
open Go.RowKit P

attribute [local go_sem ↓ high] builtin_append_held

set_option maxRecDepth 100000 in
theorem cloneInts_any (b o c : Nat) (l : List Int) (w : World) (hv : FlatAt w (.slice (some ⟨b, o, none⟩) l.length c) l.length (ints l)) (hn : l.length ≤ 1048576) :
    Calls Try.prog 89 #[.slice (some ⟨b, o, none⟩) l.length c] w (RowI l w) := by
  obtain ⟨a, c', he, _, h⟩ := hv
  simp at he
  obtain ⟨rfl, rfl⟩ := he
  have hst := Held.start w w.heap.size (Nat.le_refl _)
  have hb0 : Below w.heap.size w (w.alloc (.cells #[] 3)) := (Below.refl _ _).alloc (Nat.le_refl _) _
  obtain ⟨v1, w1, hrun, hH, hb1⟩ := appendMany w.heap.size _ [] b o c l _ hst hb0.size (by simp; omega) (fun j u hu => by
    obtain ⟨b', o', e, hbb, hcell⟩ := h j u hu
    simp at e
    obtain ⟨rfl, rfl⟩ := e
    exact (hb0.cell (p := ⟨b, o + j, none⟩) hbb).trans hcell)
  rw [List.nil_append] at hH
  obtain ⟨g, cg, rfl, hg, hcg, hrow⟩ := hH.row
  have HRES : Hid (RowI l w (.returned (.slice (some ⟨g, 0, none⟩) l.length cg)) w1) := Lib.hid ⟨g, cg, rfl, hcg, hg, hrow, hb0.trans hb1⟩
  clear h hst hb0 hH hb1 hg hcg hrow
  have q22 : ∀ (w : World) (a : Option Addr) (n c n' c' : Nat), (binOp .eql 24 (.slice a n c) (.slice none n' c')).run Try.prog w = .ok (.bool a.isNone) w := fun w a n c n' c' => Lib.run_eql_slice_nil w _ _ a n c n' c' Try.underlying24
  go_enter Try.func89, Try.ntmps89
  go_wp2_with fail
  go_ret
  exact HRES.out

set_option maxRecDepth 100000 in
set_option maxHeartbeats 8000000 in
theorem implNext_any (b o c : Nat) (l : List Int) (w : World) (hv : FlatAt w (.slice (some ⟨b, o, none⟩) l.length c) l.length (ints l)) (hn : l.length ≤ 1048576) :
    Calls Try.prog 45 #[.slice (some ⟨b, o, none⟩) l.length c] w (RetI (nextF l) w) := by
  have HV := Lib.hid hv
  clear hv
  by_cases hok : OkP l
  · have hd : decide (OkP l) = true := decide_eq_true hok
    have HI := Lib.hid (fun W (h : FlatAt W (.slice (some ⟨b, o, none⟩) l.length c) l.length (ints l)) => by have := implValidPerm_any _ l W h hn; rw [hd] at this; exact this)
    have HOK := Lib.hid hok
    have HNO : Hid (piv l (l.length - 1) = 0 → nextF l = ([], false)) := Lib.hid (fun h => nextF_no fun hh => by omega)
    have HYES : Hid (∀ i, piv l (l.length - 1) = i + 1 → nextF l = (nextOf l, true)) := Lib.hid (fun i h => nextF_yes ⟨hok, by omega⟩)
    clear hok hd
    go_enter Try.func45, Try.ntmps45
    go_wp2_with fail
    refine (HI.out _ HV.out).mono ?_
    rintro e w1 ⟨rfl, hb1⟩
    have HB1 := Lib.hid hb1
    have HV1 := Lib.hid (HV.out.below hb1)
    obtain ⟨a1, c1, e1, _, hx⟩ := HV1.out
    simp at e1
    obtain ⟨rfl, rfl⟩ := e1
    have H : Hid (∀ (j : Nat) x, l[j]? = some x → b < w1.heap.size ∧ w1.cell? ⟨b, o + j, none⟩ = some (.int .i64 x)) := Lib.hid (fun j x hj => by
      obtain ⟨b', o', e, hbb, hh⟩ := hx _ _ (ints_at hj)
      simp at e
      obtain ⟨rfl, rfl⟩ := e
      exact ⟨hbb, hh⟩)
    clear hb1 HI HV hx
    by_cases hz : l.length = 0
    · have HF := Lib.hid (HNO.out (by rw [hz]; rfl))
      have hw2 : IntKind.i64.wrap ((l.length : Int) - 2) = -2 := by rw [IntKind.wrap_i64]; omega
      clear hz
      go_wp2_with fail
      go_loopw [4] (fun iv wr => iv = .int .i64 (-2) ∧ ∃ m, wr = w1.drewN m) (fun _ _ => 0)
      case atStart => exact ⟨rfl, 0, rfl⟩
      case round =>
        obtain ⟨rfl, m, rfl⟩ := hrel
        have HRES : Hid (∀ q, RetI (nextF l) w (.returned (.tuple #[.slice (some ⟨w1.heap.size, 0, none⟩) 0 0, .bool false])) ((w1.drewN q).alloc (.cells #[] 3))) := Lib.hid (fun q => by rw [HF.out]; exact RetI.none w (w1.drewN q) (HB1.out.trans ⟨rfl, rfl, rfl, Nat.le_refl _, fun _ _ => rfl⟩))
        have hg : decide ((0 : Int) ≤ -2) = false := by decide
        go_wp2_with fail
        go_quiet (fail)
        go_wp2_with fail
        go_ret2
        exact HRES.out (m + nq)
    · have hw2 : IntKind.i64.wrap ((l.length : Int) - 2) = ((l.length - 1 : Nat) : Int) - 1 := by rw [IntKind.wrap_i64]; omega
      obtain ⟨n1, hn1⟩ : ∃ n1, l.length = n1 + 1 := ⟨l.length - 1, by omega⟩
      have HN1 := Lib.hid hn1
      have hnn : l.length - 1 = n1 := by omega
      rw [hnn] at hw2 HNO HYES
      clear hz hnn hn1
      go_wp2_with fail
      go_loopw [4] (fun iv wr => ∃ (k m : Nat), k ≤ n1 ∧ iv = .int .i64 ((k : Int) - 1) ∧ piv l n1 = piv l k ∧ wr = w1.drewN m) (fun iv _ => (intOf iv + 1).toNat)
      case atStart => exact ⟨n1, 0, Nat.le_refl _, rfl, rfl, rfl⟩
      case round =>
        obtain ⟨k, m, hk, rfl, hpiv, rfl⟩ := hrel
        have HPIV := Lib.hid hpiv
        clear hpiv hw2
        cases k with
        | zero =>
          have HF := Lib.hid (HNO.out HPIV.out)
          have HRES : Hid (∀ q, RetI (nextF l) w (.returned (.tuple #[.slice (some ⟨w1.heap.size, 0, none⟩) 0 0, .bool false])) ((w1.drewN q).alloc (.cells #[] 3))) := Lib.hid (fun q => by rw [HF.out]; exact RetI.none w (w1.drewN q) (HB1.out.trans ⟨rfl, rfl, rfl, Nat.le_refl _, fun _ _ => rfl⟩))
          have he : ((0 : Nat) : Int) - 1 = -1 := by omega
          rw [he]
          have hg : decide ((0 : Int) ≤ -1) = false := by decide
          go_wp2_with fail
          go_quiet (fail)
          go_wp2_with fail
          go_ret2
          exact HRES.out (m + nq)
        | succ j =>
          have he : ((j + 1 : Nat) : Int) - 1 = (j : Int) := by omega
          rw [he]
          clear he
          have hj1 : j + 1 < l.length := by have := HN1.out; omega
          have hj : j < l.length := by omega
          obtain ⟨x, hx⟩ : ∃ x, x = l.getD j 0 := ⟨_, rfl⟩
          obtain ⟨y, hy⟩ : ∃ y, y = l.getD (j + 1) 0 := ⟨_, rfl⟩
          have hcx := (H.out _ _ (at_getD hj)).2
          have hcy := (H.out _ _ (at_getD hj1)).2
          rw [← hx] at hcx
          rw [← hy] at hcy
          have HX := Lib.hid hx
          have HY := Lib.hid hy
          have hwj : IntKind.i64.wrap ((j : Int) + 1) = ((j + 1 : Nat) : Int) := by rw [IntKind.wrap_i64]; omega
          have hjz1 : (j : Int) + 1 < l.length := by omega
          clear hx hy
          by_cases hxy : y < x
          · have HP2 : Hid (piv l n1 = piv l j) := Lib.hid (by rw [HPIV.out]; exact piv_go (by rw [← HX.out, ← HY.out]; exact hxy))
            have hwm : IntKind.i64.wrap ((j : Int) - 1) = (j : Int) - 1 := by rw [IntKind.wrap_i64]; omega
            go_wp2_with fail
            go_quiet (fail)
            go_wp2_with fail
            go_roundw
            case rel => exact ⟨j, m + nq, by omega, rfl, HP2.out, by trivial⟩
            case measure => simp [intOf]
          · have HP2 : Hid (piv l n1 = j + 1) := Lib.hid (by rw [HPIV.out]; exact piv_stop (by rw [← HX.out, ← HY.out]; exact hxy))
            have HF := Lib.hid (HYES.out _ HP2.out)
            have HCL := Lib.hid (fun q => cloneInts_any b o c l (w1.drewN q) (HV1.out.below ⟨rfl, rfl, rfl, Nat.le_refl _, fun _ _ => rfl⟩) hn)
            have HNX : Hid (nextOf l = (swapped l j (suc l x n1)).take (j + 1) ++ ((swapped l j (suc l x n1)).drop (j + 1)).reverse) := Lib.hid (by
              unfold nextOf
              simp only
              rw [show l.length - 1 = n1 by have := HN1.out; omega, HP2.out, Nat.add_sub_cancel, ← HX.out])
            go_wp2_with fail
            go_quiet (fail)
            go_wp2_with fail
            refine (HCL.out (m + nq)).mono ?_
            rintro e w2 ⟨g, cg, rfl, hcg, hg, hrow, hb⟩
            have HROW := Lib.hid hrow
            have HB2 : Hid (Below w.heap.size w w2) := Lib.hid (HB1.out.trans ((show Below w1.heap.size w1 w2 from ⟨hb.os, hb.tape, hb.output, hb.size, hb.block⟩).mono HB1.out.size))
            have hwg : w.heap.size ≤ g := Nat.le_trans HB1.out.size hg
            have hwl : IntKind.i64.wrap ((l.length : Int) - 1) = (n1 : Int) := by have := HN1.out; rw [IntKind.wrap_i64]; omega
            clear hrow hb hcx hcy hg HCL
            go_wp2_with fail
            go_loopw [6] (fun sv ws => ∃ (k q : Nat), j + 1 ≤ k ∧ k ≤ n1 ∧ sv = .int .i64 k ∧ suc l x n1 = suc l x k ∧ ws = w2.drewN q) (fun sv _ => (intOf sv).toNat)
            case atStart => exact ⟨n1, 0, by omega, Nat.le_refl _, rfl, rfl, rfl⟩
            case round =>
              obtain ⟨k, q, hjk, hkn, rfl, hsuc, rfl⟩ := hrel
              have hkl : k < l.length := by have := HN1.out; omega
              obtain ⟨z, hz⟩ : ∃ z, z = l.getD k 0 := ⟨_, rfl⟩
              have hlx := at_getD hj
              have hlz := at_getD hkl
              rw [← HX.out] at hlx
              rw [← hz] at hlz
              obtain ⟨hcx, hfx⟩ := HROW.out.2 _ _ (ints_at hlx)
              obtain ⟨hcz, hfz⟩ := HROW.out.2 _ _ (ints_at hlz)
              have HZ := Lib.hid hz
              have HSUC := Lib.hid hsuc
              have HLX := Lib.hid hlx
              have HLZ := Lib.hid hlz
              clear hz hsuc hlx hlz
              by_cases hzx : z < x
              · have hne : k ≠ j + 1 := fun e => by
                  subst e
                  rw [HY.out, ← HZ.out] at hxy
                  exact absurd hzx (by omega)
                obtain ⟨k', rfl⟩ : ∃ k', k = k' + 1 := ⟨k - 1, by omega⟩
                have HS2 : Hid (suc l x n1 = suc l x k') := Lib.hid (by rw [HSUC.out]; exact suc_go (by rw [← HZ.out]; exact hzx))
                have hwk : IntKind.i64.wrap (((k' + 1 : Nat) : Int) - 1) = (k' : Int) := by rw [IntKind.wrap_i64]; omega
                go_wp2_with fail
                go_quiet (fail)
                go_wp2_with fail
                go_roundw
                case rel => exact ⟨k', q + nq, by omega, by omega, by go_num, HS2.out, by trivial⟩
                case measure => simp [intOf]
              · have HS2 : Hid (suc l x n1 = k) := Lib.hid (by
                  rw [HSUC.out]
                  obtain ⟨k', rfl⟩ : ∃ k', k = k' + 1 := ⟨k - 1, by omega⟩
                  exact suc_stop (by rw [← HZ.out]; exact hzx))
                go_wp2_with fail
                go_quiet (fail)
                have HR3 : Hid (CellRow ((w2.drewN q).drewN nq) g (ints l)) := Lib.hid (HROW.out.same rfl (Nat.le_refl _))
                have HB3 : Hid (Below w.heap.size w ((w2.drewN q).drewN nq)) := Lib.hid (HB2.out.trans ⟨rfl, rfl, rfl, Nat.le_refl _, fun _ _ => rfl⟩)
                generalize (w2.drewN q).drewN nq = wq at HR3 HB3 ⊢
                clear hcx hfx hcz hfz HROW HB2
                obtain ⟨hcx, hfx⟩ := HR3.out.2 _ _ (ints_at HLX.out)
                obtain ⟨hcz, hfz⟩ := HR3.out.2 _ _ (ints_at HLZ.out)
                have hne : ¬ j = k := by omega
                have hne2 : ¬ k = j := by omega
                have HSW : Hid (CellRow ((wq.setCell ⟨g, j, none⟩ (.int .i64 z)).setCell ⟨g, k, none⟩ (.int .i64 x)).drew g (ints (swapped l j k))) := Lib.hid (by
                  have h1 := (HR3.out.set j (.int .i64 z) (by rw [ints_length]; exact hj)).set k (.int .i64 x) (by rw [List.length_set, ints_length]; exact hkl)
                  rw [ints_set, ints_set] at h1
                  have e : (l.set j z).set k x = swapped l j k := by unfold swapped; rw [← HX.out, ← HZ.out]
                  rw [e] at h1
                  exact h1.same rfl (Nat.le_refl _))
                have HB4 : Hid (Below w.heap.size w ((wq.setCell ⟨g, j, none⟩ (.int .i64 z)).setCell ⟨g, k, none⟩ (.int .i64 x)).drew) := Lib.hid ((HB3.out.setCell (p := ⟨g, j, none⟩) hwg _).setCell (p := ⟨g, k, none⟩) hwg _ |>.trans ⟨rfl, rfl, rfl, Nat.le_refl _, fun _ _ => rfl⟩)
                have HREV := Lib.hid (fun W (h : CellRow W g (ints (swapped l j k))) => reverse_row g (j + 1) (l.length - (j + 1)) (cg - (j + 1)) (swapped l j k) W h (by rw [swapped_length]; omega) (by omega))
                have hce : ¬ cg = j + 1 := by omega
                have HNXX : Hid (nextOf l = (swapped l j k).take (j + 1) ++ ((swapped l j k).drop (j + 1)).reverse) := Lib.hid (by rw [HNX.out, HS2.out])
                clear HR3 HB3
                go_wp2_with fail
                go_region
                generalize ((wq.setCell ⟨g, j, none⟩ (.int .i64 z)).setCell ⟨g, k, none⟩ (.int .i64 x)).drew = w5 at HSW HB4 ⊢
                clear hcx hfx hcz hfz
                go_wp2_with fail
                refine (HREV.out _ HSW.out).mono ?_
                rintro e w6 ⟨rfl, hr6, hb6⟩
                have HRES : Hid (RetI (nextF l) w (.returned (.tuple #[.slice (some ⟨g, 0, none⟩) l.length cg, .bool true])) w6) := Lib.hid (by
                  rw [HF.out]
                  have hlen := nextOf_length l
                  rw [← HNXX.out] at hr6
                  exact ⟨g, cg, by rw [hlen], by rw [hlen]; exact hcg, hwg, hr6, HB4.out.trans (hb6.below hwg HB4.out.size)⟩)
                clear hr6 hb6
                go_wp2_with fail
                go_ret2
                exact HRES.out
  · have hd : decide (OkP l) = false := decide_eq_false hok
    have HI := Lib.hid (fun W (h : FlatAt W (.slice (some ⟨b, o, none⟩) l.length c) l.length (ints l)) => by have := implValidPerm_any _ l W h hn; rw [hd] at this; exact this)
    have HF : Hid (nextF l = ([], false)) := Lib.hid (nextF_no fun h => hok h.1)
    clear hok hd
    go_enter Try.func45, Try.ntmps45
    go_wp2_with fail
    refine (HI.out _ HV.out).mono ?_
    rintro e w1 ⟨rfl, hb1⟩
    have HRES : Hid (RetI (nextF l) w (.returned (.tuple #[.slice (some ⟨w1.heap.size, 0, none⟩) 0 0, .bool false])) (w1.alloc (.cells #[] 3))) := Lib.hid (by rw [HF.out]; exact RetI.none w w1 hb1)
    clear hb1
    go_wp2_with fail
    go_ret2
    exact HRES.out

end Go.Proofs.Ytckogbmaahenhaa
