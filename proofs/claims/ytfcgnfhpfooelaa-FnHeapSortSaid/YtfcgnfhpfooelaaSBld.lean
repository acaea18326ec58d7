/- The model's BuildHeap and HeapSort, by contracts. -/
import Derived.Test.YtfcgnfhpfooelaaSHp2
import Derived.Test.YtfcgnfhpfooelaaOwnI
import Derived.Test.YtfcgnfhpfooelaaRet12
namespace Go.Proofs.Ytfcgnfhpfooelaa
open Go.RowKit P El Hp
set_option linter.unusedVariables false

theorem buildF_count {d : Nat} {l : List Int} (hd : 0 < d) (hl : l.length ≤ 64) : (buildF d l).2 ≤ 6000 := by
  have h1 := (bl_count (d := d) (n := l.length) hd l.length (l, 0)).2
  have h2 : l.length * l.length ≤ 64 * 64 := Nat.mul_le_mul hl hl
  simp only at h1; unfold buildF; omega

set_option maxRecDepth 100000 in
set_option maxHeartbeats 4000000 in
theorem specBld_any (b o c : Nat) (l : List Int) (d : Int) (w : World) (hv : FlatAt w (.slice (some ⟨b, o, none⟩) l.length c) l.length (ints l)) (hn : l.length ≤ 1048576) :
    Calls Try.prog 37 #[.slice (some ⟨b, o, none⟩) l.length c, .int .i64 d] w (RetI1 (bldAll l d) w) := by
  have HV := Lib.hid (l6Valid_any _ l d w hv hn)
  by_cases hok : OkL l ∧ OkD d
  · rw [decide_eq_true hok] at HV
    obtain ⟨k, rfl, hk0, hk2, hk8⟩ := hok.2.nat
    have HF := Lib.hid (bldAll_yes hok)
    rw [hk0] at HF
    have h64 := hok.1.1
    have HOWN := Lib.hid (fun W (h : FlatAt W (.slice (some ⟨b, o, none⟩) l.length c) l.length (ints l)) => l1Own_any b o c l W h hn)
    have HBD := Lib.hid (fun g c W (h : CellRow W g (ints l)) => sbuild_any (c := c) W h hk2 hk8 h64)
    have HLN := Lib.hid (buildF_length (d := k) (by omega) l)
    have HFV := Lib.hid hv
    clear hok hv
    go_enter Try.func37, Try.ntmps37
    go_wp2_with fail
    refine HV.out.mono ?_
    rintro e w1 ⟨rfl, hb1⟩
    have HV1 := Lib.hid (HFV.out.below hb1)
    have HB1 := Lib.hid hb1
    clear hb1 HV HFV
    go_wp2_with fail
    refine (HOWN.out _ HV1.out).mono ?_
    rintro e w2 ⟨g, cap, rfl, hcap, hg, hrow, hb2⟩
    have HG : Hid (w.heap.size ≤ g) := Lib.hid (Nat.le_trans HB1.out.size hg)
    have HB2 := Lib.hid (HB1.out.trans (hb2.mono HB1.out.size))
    have HD := Lib.hid (HBD.out g cap w2 hrow)
    clear hb2 hrow HOWN HV1 hg HBD
    go_wp2_with fail
    refine HD.out.mono ?_
    rintro e w3 ⟨rfl, hr3, hb3⟩
    have HRES : Hid (RetI1 (bldAll l (k : Int)) w (.returned (.tuple #[.slice (some ⟨g, 0, none⟩) l.length cap, .int .i64 (((buildF k l).2 : Nat) : Int), .bool true])) w3) := Lib.hid (by
      rw [HF.out]
      exact ⟨g, cap, by rw [HLN.out], by simp only; rw [HLN.out]; exact hcap, HG.out, hr3, HB2.out.trans (hb3.below HG.out HB2.out.size)⟩)
    clear hr3 hb3 HD
    go_wp2_with fail
    go_ret3
    exact HRES.out
  · rw [decide_eq_false hok] at HV
    have HF := Lib.hid (bldAll_no hok)
    clear hok hv
    go_enter Try.func37, Try.ntmps37
    go_wp2_with fail
    refine HV.out.mono ?_
    rintro e w1 ⟨rfl, hb1⟩
    have HRES : Hid (RetI1 (bldAll l d) w (.returned (.tuple #[.slice (some ⟨w1.heap.size, 0, none⟩) 0 0, .int .i64 0, .bool false])) (w1.alloc (.cells #[] 3))) := Lib.hid (by rw [HF.out]; exact RetI1.none w w1 hb1)
    clear hb1 HV
    go_wp2_with fail
    go_ret3
    exact HRES.out

set_option maxRecDepth 100000 in
set_option maxHeartbeats 4000000 in
theorem specHs_any (b o c : Nat) (l : List Int) (d : Int) (w : World) (hv : FlatAt w (.slice (some ⟨b, o, none⟩) l.length c) l.length (ints l)) (hn : l.length ≤ 1048576) :
    Calls Try.prog 52 #[.slice (some ⟨b, o, none⟩) l.length c, .int .i64 d] w (RetI1 (hsAll l d) w) := by
  have HV := Lib.hid (l6Valid_any _ l d w hv hn)
  by_cases hok : OkL l ∧ OkD d
  · rw [decide_eq_true hok] at HV
    obtain ⟨k, rfl, hk0, hk2, hk8⟩ := hok.2.nat
    have HF := Lib.hid (hsAll_yes hok)
    rw [hk0] at HF
    have h64 := hok.1.1
    have HOWN := Lib.hid (fun W (h : FlatAt W (.slice (some ⟨b, o, none⟩) l.length c) l.length (ints l)) => l1Own_any b o c l W h hn)
    have HBD := Lib.hid (fun g c W (h : CellRow W g (ints l)) => sbuild_any (c := c) W h hk2 hk8 h64)
    have HLN := Lib.hid (buildF_length (d := k) (by omega) l)
    have HLH := Lib.hid (hsF_length (d := k) (by omega) l)
    have hcb := buildF_count (d := k) (l := l) (by omega) h64
    have HFV := Lib.hid hv
    have HR0 : Hid (hsn k l.length ((buildF k l).1, (buildF k l).2) = hsF k l) := Lib.hid rfl
    have hrq : (hsF k l).2 ≤ 20000 := by
      have h1 := (hsn_count (d := k) (by omega) l.length l.length (buildF k l) (Nat.le_refl _)).2
      have h2 : l.length * (l.length + 1) ≤ 64 * 65 := Nat.mul_le_mul h64 (by omega)
      show (hsn k l.length (buildF k l)).2 ≤ _; omega
    generalize hsF k l = R at HR0 HF HLH hrq
    clear hok hv
    go_enter Try.func52, Try.ntmps52
    go_wp2_with fail
    refine HV.out.mono ?_
    rintro e w1 ⟨rfl, hb1⟩
    have HV1 := Lib.hid (HFV.out.below hb1)
    have HB1 := Lib.hid hb1
    clear hb1 HV HFV
    go_wp2_with fail
    refine (HOWN.out _ HV1.out).mono ?_
    rintro e w2 ⟨g, cap, rfl, hcap, hg, hrow, hb2⟩
    have HG : Hid (w.heap.size ≤ g) := Lib.hid (Nat.le_trans HB1.out.size hg)
    have HB2 := Lib.hid (HB1.out.trans (hb2.mono HB1.out.size))
    have HD := Lib.hid (HBD.out g cap w2 hrow)
    have HSW := Lib.hid (fun (j : Nat) (M : List Int) (W : World) (hW : CellRow W g (ints M)) (hM : M.length = l.length) (hj : j < l.length) (h0 : 0 < j) => by
      have := sswap_any (c := cap) 0 j W hW (by omega) (by omega) (by omega) (by omega); rw [hM] at this; exact this)
    have HSD := Lib.hid (fun (j : Nat) (M : List Int) (W : World) (hW : CellRow W g (ints M)) (hM : M.length = l.length) (hj : j ≤ l.length) => by
      have := sdown_any (c := cap) 0 j W hW hk2 hk8 (by omega) (by omega) (by omega); rw [hM] at this; exact this)
    clear hb2 hrow HOWN HV1 hg HBD
    go_wp2_with fail
    refine HD.out.mono ?_
    rintro e w3 ⟨rfl, hr3, hb3⟩
    have HR3 := Lib.hid hr3
    have HB3 : Hid (Below w.heap.size w w3) := Lib.hid (HB2.out.trans (hb3.below HG.out HB2.out.size))
    generalize buildF k l = B at *
    obtain ⟨B1, B2⟩ := B
    simp only at HR3 HLN hcb HR0 ⊢
    clear hr3 hb3 HD
    go_wp2_with fail
    go_loopw [8, 9] (fun qv nv wr => ∃ (m : Nat) (M : List Int) (p : Nat), nv = .int .i64 (m : Int) ∧ qv = .int .i64 (p : Int) ∧ hsn k m (M, p) = R ∧ M.length = l.length ∧ m ≤ l.length ∧ CellRow wr g (ints M) ∧ Below w.heap.size w wr) (fun _ nv _ => (intOf nv).toNat)
    case atStart => exact ⟨l.length, B1, B2, rfl, rfl, HR0.out, HLN.out, Nat.le_refl _, HR3.out, HB3.out⟩
    case round =>
      obtain ⟨m, M, p, rfl, rfl, hr, hML, hm, hg, hb⟩ := hrel
      have HGR := Lib.hid hg
      have HB := Lib.hid hb
      have HML := Lib.hid hML
      have HRR := Lib.hid hr
      have hp : p ≤ 20000 := by have := (hsn_count (d := k) (by omega) 64 m (M, p) (by omega)).1; rw [hr] at this; simp only at this; omega
      clear hr hg hb HR0 HR3 HB3 HLN hML
      by_cases h1 : 1 < m
      · obtain ⟨j, rfl⟩ : ∃ j, m = j + 1 := ⟨m - 1, by omega⟩
        have hj : ((j + 1 : Nat) : Int) - 1 = (j : Int) := by omega
        have h1z : (1 : Int) < ((j + 1 : Nat) : Int) := by omega
        have hwj : IntKind.i64.wrap (((j + 1 : Nat) : Int) - 1) = (j : Int) := by rw [hj, IntKind.wrap_i64]; omega
        have HS := Lib.hid (HSW.out j M wr HGR.out HML.out (by omega) (by omega))
        have HSL : Hid ((swapped M 0 j).length = l.length) := Lib.hid (by rw [swapped_length]; exact HML.out)
        have hdq := (down_count (d := k) (n := j) (i := 0) (by omega) (swapped M 0 j, 0)).2
        simp only at hdq
        have HRR2 : Hid (hsn k j ((down k j 0 (swapped M 0 j, 0)).1, p + 1 + (down k j 0 (swapped M 0 j, 0)).2) = R) := Lib.hid (by rw [← down_from, ← HRR.out, hsn_go (by omega)])
        have HLN : Hid ((down k j 0 (swapped M 0 j, 0)).1.length = l.length) := Lib.hid (by rw [down_length (by omega)]; exact HSL.out)
        have HDD := Lib.hid (fun W (hW : CellRow W g (ints (swapped M 0 j))) => HSD.out j _ W hW HSL.out (by omega))
        generalize down k j 0 (swapped M 0 j, 0) = D at *
        obtain ⟨D1, D2⟩ := D
        simp only at hdq HDD HLN HRR2
        clear HSD HSW HRR
        go_wp2_with fail
        refine HS.out.mono ?_
        rintro e w4 ⟨rfl, hr4, hb4⟩
        have HB4 := Lib.hid (HB.out.trans (hb4.below HG.out HB.out.size))
        have HD4 := Lib.hid (HDD.out w4 hr4)
        clear hr4 hb4 HS HDD
        go_wp2_with fail
        refine HD4.out.mono ?_
        rintro e w5 ⟨rfl, hr5, hb5⟩
        have HB5 := Lib.hid (HB4.out.trans (hb5.below HG.out HB4.out.size))
        have HR5 := Lib.hid hr5
        clear hr5 hb5 HD4
        go_wp2_with fail
        go_roundw
        case rel => exact ⟨j, D1, _, by go_num, by go_num, HRR2.out, HLN.out, by omega, HR5.out, HB5.out⟩
        case measure => simp [intOf]
      · have HE : Hid ((M, p) = R) := Lib.hid (by rw [← HRR.out, hsn_stop (by omega)])
        have HRES : Hid (RetI1 (hsAll l (k : Int)) w (.returned (.tuple #[.slice (some ⟨g, 0, none⟩) l.length cap, .int .i64 (p : Int), .bool true])) wr) := Lib.hid (by
          rw [HF.out, ← HE.out]
          exact ⟨g, cap, by rw [HML.out], by simp only; rw [HML.out]; exact hcap, HG.out, HGR.out, HB.out⟩)
        have h1z : ¬ (1 : Int) < (m : Int) := by omega
        clear HSD HSW HRR
        go_wp2_with fail
        go_ret3
        exact HRES.out
  · rw [decide_eq_false hok] at HV
    have HF := Lib.hid (hsAll_no hok)
    clear hok hv
    go_enter Try.func52, Try.ntmps52
    go_wp2_with fail
    refine HV.out.mono ?_
    rintro e w1 ⟨rfl, hb1⟩
    have HRES : Hid (RetI1 (hsAll l d) w (.returned (.tuple #[.slice (some ⟨w1.heap.size, 0, none⟩) 0 0, .int .i64 0, .bool false])) (w1.alloc (.cells #[] 3))) := Lib.hid (by rw [HF.out]; exact RetI1.none w w1 hb1)
    clear hb1 HV
    go_wp2_with fail
    go_ret3
    exact HRES.out

end Go.Proofs.Ytfcgnfhpfooelaa
