/- The program's BuildHeap and HeapSort, by contracts. -/
import Derived.Test.YtipdfmedbcafpaaHpMk1
namespace Go.Proofs.Ytipdfmedbcafpaa
open Go.RowKit P El Hp
set_option linter.unusedVariables false

theorem buildF_count1 {d : Nat} {l : List Int} (hd : 0 < d) (hl : l.length ≤ 64) : (buildF d l).2 ≤ 6000 := by
  have h1 := (bl_count (d := d) (n := l.length) hd l.length (l, 0)).2
  have h2 : l.length * l.length ≤ 64 * 64 := Nat.mul_le_mul hl hl
  simp only at h1; unfold buildF; omega

set_option maxRecDepth 100000 in
set_option maxHeartbeats 4000000 in
theorem implHs_any (a : Option Addr) (c : Nat) (l : List Int) (d : Int) (w : World) (hp : (Part.mk a c l).ok w) (hn : l.length ≤ 1048576) :
    Calls Try.prog 142 #[.slice a l.length c, .int .i64 d] w (RetE1 (hsAll l d) w) := by
  have HV := Lib.hid (implValidList_any (.slice a l.length c) l w hp.1 hn)
  have HA := Lib.hid (fun W => arity_any d W)
  have HNONE : Hid (¬ (OkL l ∧ OkD d) → ∀ w1, Below w.heap.size w w1 → RetE1 (hsAll l d) w (.returned (.tuple #[.slice (some ⟨w1.heap.size, 0, none⟩) 0 0, .int .i64 0, .bool false])) (w1.alloc (.cells #[] 3))) := Lib.hid (fun h w1 hb => by rw [hsAll_no h]; exact .inl (RetI1.none w w1 hb))
  by_cases hok : OkL l
  · rw [decide_eq_true hok] at HV
    by_cases hok2 : OkD d
    · rw [decide_eq_true hok2] at HA
      obtain ⟨k, rfl, hk0, hk2, hk8⟩ := hok2.nat
      have HF := Lib.hid (hsAll_yes ⟨hok, hok2⟩)
      rw [hk0] at HF
      have h64 := hok.1
      have HMK := Lib.hid (fun W (h : (Part.mk a c l).ok W) => mk1_any k a c l W h hn)
      have HPO := Lib.hid hp
      by_cases h0 : l.length = 0
      · obtain rfl := List.eq_nil_of_length_eq_zero h0
        clear hok hok2 HNONE hp h0 h64
        simp only [List.length_nil] at HV HMK HPO ⊢
        have HBD := Lib.hid (fun (s : Nat) (va : Option Addr) (vc : Nat) W (h0 : W.cell? ⟨s, 0, none⟩ = some (.slice va 0 vc)) (hs : s < W.heap.size) (h : W.cell? ⟨s, 1, none⟩ = some (.int .i64 (k : Int))) => bdNo_any W h0 hs h hk2 hk8)
        go_enter Try.func142, Try.ntmps142
        go_wp2_with fail
        refine HV.out.mono ?_
        rintro e w1 ⟨rfl, hb1⟩
        have HB1 := Lib.hid hb1
        clear hb1 HV
        go_wp2_with fail
        refine (HA.out _).mono ?_
        rintro e w1' ⟨rfl, rfl⟩
        clear HA
        go_wp2_with fail
        refine (HMK.out _ (HPO.out.below HB1.out)).mono ?_
        rintro e w2 ⟨s, v, rfl, hH, hb2⟩
        have HB2 := Lib.hid (HB1.out.trans (hb2.mono HB1.out.size))
        obtain ⟨va, vc, rfl⟩ := hH.small
        have HH := Lib.hid hH
        clear hH hb2 HMK HPO HB1
        go_wp2_with fail
        refine (HBD.out s va vc w2 HH.out.c0.1 HH.out.st.1 HH.out.c0.2.1).mono ?_
        rintro e w3 ⟨rfl, hb3⟩
        obtain ⟨hc0, _, hc2⟩ := (HH.out.below hb3).c0
        have hc2' : w3.cell? ⟨s, 2, none⟩ = some (.int .i64 0) := hc2
        have HRES : Hid (∀ t, RetE1 (hsAll [] (k : Int)) w (.returned (.tuple #[.slice va 0 vc, .int .i64 0, .bool true])) (w3.drewN t)) := Lib.hid (fun t => by
          have hbb : Below w.heap.size w (w3.drewN t) := (HB2.out.trans (hb3.mono HB2.out.size)).trans ⟨rfl, rfl, rfl, Nat.le_refl _, fun _ _ => rfl⟩
          rw [HF.out]
          refine .inr ⟨rfl, ⟨va, vc, rfl, hbb⟩, fun c' e => ?_⟩
          simp at e
          rcases HH.out.own.2 with ⟨e2, _⟩ | ⟨g, cap, _, e2, _⟩
          · simp at e2; omega
          · simp at e2; rw [e.1.1] at e2; simp at e2)
        have HC : Hid (w3.cell? ⟨s, 0, none⟩ = some (.slice va 0 vc) ∧ w3.cell? ⟨s, 2, none⟩ = some (.int .i64 0)) := Lib.hid ⟨hc0, hc2'⟩
        clear hb3 hc2 hc0 hc2'
        go_wp2_with fail
        go_loopw [8] (fun nv wr => nv = .int .i64 0 ∧ wr = w3) (fun _ _ => 0)
        case atStart => exact ⟨rfl, rfl⟩
        case round =>
          obtain ⟨rfl, rfl⟩ := hrel
          obtain ⟨hc0, hc2⟩ := HC.out
          clear HC
          go_wp2_with fail
          go_quiet (fail)
          go_wp2_with fail
          go_ret3
          exact HRES.out _
      · have hl0 : 0 < l.length := by omega
        have HBD := Lib.hid (fun (s g cap : Nat) W (h : HpG w.heap.size s g cap l k 0 W) => bd_any W h hk2 hk8 hl0 h64 (by omega))
        have HBF : Hid (bl k l.length l.length (l, 0) = buildF k l) := Lib.hid rfl
        have HLN := Lib.hid (buildF_length (d := k) (by omega) l)
        have hcb := buildF_count1 (d := k) (l := l) (by omega) h64
        have HR0 : Hid (hsn k l.length ((buildF k l).1, (buildF k l).2) = hsF k l) := Lib.hid rfl
        have hrq : (hsF k l).2 ≤ 20000 := by
          have h1 := (hsn_count (d := k) (by omega) l.length l.length (buildF k l) (Nat.le_refl _)).2
          have h2 : l.length * (l.length + 1) ≤ 64 * 65 := Nat.mul_le_mul h64 (by omega)
          show (hsn k l.length (buildF k l)).2 ≤ _; omega
        rw [HBF.out] at HBD
        generalize buildF k l = B at *
        obtain ⟨B1, B2⟩ := B
        simp only at HLN hcb HR0
        generalize hsF k l = R at HR0 HF hrq
        have HSW := Lib.hid (fun (s g cap j q : Nat) (M : List Int) (W : World) (hW : HpG w.heap.size s g cap M k q W) (hM : M.length = l.length) (hj : j < l.length) (h0 : 0 < j) (hq : q ≤ 20000) => hswap_any 0 j W hW (by omega) (by omega) (by omega) (by omega))
        have HSD := Lib.hid (fun (s g cap j q : Nat) (M : List Int) (W : World) (hW : HpG w.heap.size s g cap M k q W) (hM : M.length = l.length) (hj : j ≤ l.length) (hq : q ≤ 20001) => sd_any 0 j W hW hk2 hk8 (by omega) (by omega) (by omega) (by omega))
        clear hok hok2 HNONE hp h0 HBF
        go_enter Try.func142, Try.ntmps142
        go_wp2_with fail
        refine HV.out.mono ?_
        rintro e w1 ⟨rfl, hb1⟩
        have HB1 := Lib.hid hb1
        clear hb1 HV
        go_wp2_with fail
        refine (HA.out _).mono ?_
        rintro e w1' ⟨rfl, rfl⟩
        clear HA
        go_wp2_with fail
        refine (HMK.out _ (HPO.out.below HB1.out)).mono ?_
        rintro e w2 ⟨s, v, rfl, hH, hb2⟩
        have HB2 := Lib.hid (HB1.out.trans (hb2.mono HB1.out.size))
        obtain ⟨g, cap, rfl, hG⟩ := (hH.lower HB1.out.size).big hl0
        have HH := Lib.hid hG
        clear hH hb2 hG HMK HPO HB1
        go_wp2_with fail
        refine (HBD.out s g cap w2 HH.out).mono ?_
        rintro e w3 ⟨rfl, hg3, hb3⟩
        have HG3 := Lib.hid hg3
        have HB3 := Lib.hid (HB2.out.trans (hb3.below hg3.bs hg3.bg HB2.out.size))
        clear hg3 hb3 HBD HB2 HH
        go_wp2_with fail
        go_loopw [8] (fun nv wr => ∃ (m : Nat) (M : List Int) (p : Nat), nv = .int .i64 (m : Int) ∧ hsn k m (M, p) = R ∧ M.length = l.length ∧ m ≤ l.length ∧ HpG w.heap.size s g cap M k p wr ∧ Below w.heap.size w wr) (fun nv _ => (intOf nv).toNat)
        case atStart => exact ⟨l.length, B1, B2, rfl, HR0.out, HLN.out, Nat.le_refl _, HG3.out, HB3.out⟩
        case round =>
          obtain ⟨m, M, p, rfl, hr, hML, hm, hg, hb⟩ := hrel
          have HGR := Lib.hid hg
          have HB := Lib.hid hb
          have HML := Lib.hid hML
          have HRR := Lib.hid hr
          have hp : p ≤ 20000 := by have := (hsn_count (d := k) (by omega) 64 m (M, p) (by omega)).1; rw [hr] at this; simp only at this; omega
          clear hr hg hb HR0 HG3 HB3 HLN hML
          by_cases h1 : 2 ≤ m
          · obtain ⟨j, rfl⟩ : ∃ j, m = j + 1 := ⟨m - 1, by omega⟩
            have hj : ((j + 1 : Nat) : Int) - 1 = (j : Int) := by omega
            have h1z : (2 : Int) ≤ ((j + 1 : Nat) : Int) := by omega
            have hwj : IntKind.i64.wrap (((j + 1 : Nat) : Int) - 1) = (j : Int) := by rw [hj, IntKind.wrap_i64]; omega
            have HS := Lib.hid (HSW.out s g cap j p M wr HGR.out HML.out (by omega) (by omega) hp)
            have HSL : Hid ((swapped M 0 j).length = l.length) := Lib.hid (by rw [swapped_length]; exact HML.out)
            have HRR2 : Hid (hsn k j (down k j 0 (swapped M 0 j, p + 1)) = R) := Lib.hid (by rw [← HRR.out, hsn_go (by omega)])
            have HLN : Hid ((down k j 0 (swapped M 0 j, p + 1)).1.length = l.length) := Lib.hid (by rw [down_length (by omega)]; exact HSL.out)
            have HDD := Lib.hid (fun W (hW : HpG w.heap.size s g cap (swapped M 0 j) k (p + 1) W) => HSD.out s g cap j (p + 1) _ W hW HSL.out (by omega) (by omega))
            generalize down k j 0 (swapped M 0 j, p + 1) = D at *
            obtain ⟨D1, D2⟩ := D
            simp only at HLN
            clear HSD HSW HRR
            go_wp2_with fail
            refine HS.out.mono ?_
            rintro e w4 ⟨rfl, hr4, hb4⟩
            have HB4 := Lib.hid (HB.out.trans (hb4.below hr4.bs hr4.bg HB.out.size))
            have HD4 := Lib.hid (HDD.out w4 hr4)
            clear hr4 hb4 HS HDD
            go_wp2_with fail
            refine HD4.out.mono ?_
            rintro e w5 ⟨rfl, hr5, hb5⟩
            have HB5 := Lib.hid (HB4.out.trans (hb5.below hr5.bs hr5.bg HB4.out.size))
            have HR5 := Lib.hid hr5
            clear hr5 hb5 HD4
            go_wp2_with fail
            go_roundw
            case rel => exact ⟨j, D1, D2, by go_num, HRR2.out, HLN.out, by omega, HR5.out, HB5.out⟩
            case measure => simp [intOf]
          · have HE : Hid ((M, p) = R) := Lib.hid (by rw [← HRR.out, hsn_stop (by omega)])
            have HRES : Hid (∀ t, RetE1 (hsAll l (k : Int)) w (.returned (.tuple #[.slice (some ⟨g, 0, none⟩) M.length cap, .int .i64 (p : Int), .bool true])) (wr.drewN t)) := Lib.hid (fun t => by
              rw [HF.out, ← HE.out]
              exact .inl ⟨g, cap, rfl, HGR.out.cap, HGR.out.bg, HGR.out.row.same rfl (Nat.le_refl _), HB.out.trans ⟨rfl, rfl, rfl, Nat.le_refl _, fun _ _ => rfl⟩⟩)
            have h1z : ¬ (2 : Int) ≤ (m : Int) := by omega
            obtain ⟨hc0, _, hc2, _⟩ := HGR.out.c0
            clear HSD HSW HRR
            go_wp2_with fail
            go_quiet (fail)
            go_wp2_with fail
            go_ret3
            exact HRES.out _
    · rw [decide_eq_false hok2] at HA
      have HN := Lib.hid (HNONE.out (fun h => hok2 h.2))
      clear hok hok2 HNONE hp
      go_enter Try.func142, Try.ntmps142
      go_wp2_with fail
      refine HV.out.mono ?_
      rintro e w1 ⟨rfl, hb1⟩
      have HRES := Lib.hid (HN.out w1 hb1)
      clear hb1 HV HN
      go_wp2_with fail
      refine (HA.out _).mono ?_
      rintro e w1' ⟨rfl, rfl⟩
      go_wp2_with fail
      go_ret3
      exact HRES.out
  · rw [decide_eq_false hok] at HV
    have HN := Lib.hid (HNONE.out (fun h => hok h.1))
    clear hok HNONE hp
    go_enter Try.func142, Try.ntmps142
    go_wp2_with fail
    refine HV.out.mono ?_
    rintro e w1 ⟨rfl, hb1⟩
    have HRES := Lib.hid (HN.out w1 hb1)
    clear hb1 HV HN
    go_wp2_with fail
    go_ret3
    exact HRES.out

end Go.Proofs.Ytipdfmedbcafpaa
