/- The model's UnrankPermutation, by its contract. -/
import Derived.Test.YtckogbmaahenhaaSRank
import Derived.Test.YtckogbmaahenhaaRetI
import Derived.Test.YtckogbmaahenhaaOwnFlat
import Derived.BigRegion
namespace Go.Proofs.Ytckogbmaahenhaa
open Go.RowKit P

attribute [local go_sem ↓ high] builtin_append_held

set_option maxRecDepth 100000 in
set_option maxHeartbeats 8000000 in
theorem specUnr_any (a0 a1 : Int) (w : World) (w1 : (Lit.int .i64 a1).wf = true) :
    Calls Try.prog 49 #[.int .i64 a0, .int .i64 a1] w (RetI (unrF a0 a1) w) := by
  have hbig : a1 < 9223372036854775808 := by
    have h := w1
    simp only [Lit.wf, Bool.and_eq_true, decide_eq_true_eq] at h
    have e : IntKind.i64.max = 9223372036854775807 := by kernel_rfl
    omega
  clear w1
  have HRET := Lib.hid (RetI.none w w (Below.refl _ _))
  by_cases h0 : 0 ≤ a0 ∧ a0 ≤ 10
  · obtain ⟨n, rfl⟩ : ∃ n : Nat, a0 = n := ⟨a0.toNat, by omega⟩
    have hn10 : n ≤ 10 := by omega
    have HI1 := Lib.hid (fun W => l1In_yes (n : Int) 0 10 W h0.1 h0.2)
    have HFA := Lib.hid (fun W => l3Factorial_any n W hn10)
    have hfb := fact_le hn10
    have hfp := fact_pos n
    have hwf : IntKind.i64.wrap (((fact n : Nat) : Int) - 1) = ((fact n : Nat) : Int) - 1 := by rw [IntKind.wrap_i64]; omega
    by_cases hr : 0 ≤ a1 ∧ a1 ≤ ((fact n : Nat) : Int) - 1
    · have HI2 := Lib.hid (fun W => l1In_yes a1 0 (((fact n : Nat) : Int) - 1) W hr.1 hr.2)
      obtain ⟨r, rfl⟩ : ∃ r : Nat, a1 = r := ⟨a1.toNat, by omega⟩
      have HF : Hid (unrF n r = ((pickSt (digit n r) (iota n) n).1, true)) := Lib.hid (unrF_yes (n := n) (r := r) hn10 (by omega))
      have HRN : Hid (r < fact n) := Lib.hid (by omega)
      have HS1 : Hid (Held (w.heap.size + 1) ((w.alloc (.cells #[] 3)).alloc (.cells #[] 3)) (.slice (some ⟨w.heap.size + 1, 0, none⟩) 0 0) []) := Lib.hid (by have := Held.start (w.alloc (.cells #[] 3)) (w.heap.size + 1) (by simp); simpa using this)
      have HS0 : Hid (Held w.heap.size ((w.alloc (.cells #[] 3)).alloc (.cells #[] 3)) (.slice (some ⟨w.heap.size, 0, none⟩) 0 0) []) := Lib.hid ((Held.start w w.heap.size (Nat.le_refl _)).alloc _)
      have HB0 : Hid (Below w.heap.size w ((w.alloc (.cells #[] 3)).alloc (.cells #[] 3))) := Lib.hid (((Below.refl _ _).alloc (Nat.le_refl _) _).alloc (by simp) _)
      clear h0 hr
      generalize hfn : fact n = F at *
      have HFN := Lib.hid hfn
      clear hfn
      go_enter Try.func49, Try.ntmps49
      go_wp2_with fail
      refine (HI1.out _).mono ?_
      rintro e w1 ⟨rfl, rfl⟩
      go_wp2_with fail
      refine (HFA.out _).mono ?_
      rintro e w1 ⟨rfl, rfl⟩
      go_wp2_with fail
      refine (HI2.out _).mono ?_
      rintro e w1 ⟨rfl, rfl⟩
      clear HI1 HI2 HFA
      go_wp2_with fail
      -- the elements in order
      go_loopw [7, 8] (fun left i wr => ∃ k : Nat, k ≤ n ∧ i = .int .i64 k ∧ Held (w.heap.size + 1) wr left (iota k) ∧ Held w.heap.size wr (.slice (some ⟨w.heap.size, 0, none⟩) 0 0) [] ∧ Below w.heap.size w wr) (fun _ i _ => n - (intOf i).toNat)
      case atStart => exact ⟨0, Nat.zero_le _, rfl, HS1.out, HS0.out, HB0.out⟩
      case round =>
        obtain ⟨k, hk, rfl, hL, hO, hb⟩ := hrel
        have HL := Lib.hid hL
        have HO := Lib.hid hO
        have HB := Lib.hid hb
        clear hL hO hb HS1 HS0 HB0
        by_cases hlt : k < n
        · obtain ⟨v2, w2, hrun, hheld, hbel⟩ := appendOne (w.heap.size + 1) _ _ (k : Int) wr HL.out (by obtain ⟨g, c, _, hg, _, hr⟩ := HL.out.row; have := hr.1; omega) (by rw [iota_length]; omega)
          rw [← iota_succ] at hheld
          have HH := Lib.hid hheld
          have HO2 := Lib.hid (HO.out.own (w' := w2) (fun j c e hj => by
            simp at e
            exact hbel.block j (by omega)))
          have HB2 := Lib.hid (HB.out.trans (hbel.mono (by omega)))
          clear hheld hbel HL HO HB
          go_wp2_with fail
          go_roundw
          case rel => exact ⟨k + 1, by omega, by go_num, HH.out, HO2.out, HB2.out⟩
          case measure => simp [intOf]; omega
        · obtain rfl : k = n := by omega
          go_wp2_with fail
          -- the elements by the digits
          go_loopw [1, 6, 7, 9, 10] (fun rv out left _ _ wr => ∃ (j bl : Nat) (go co : Nat), j ≤ k ∧ rv = .int .i64 ((r % fact (k - j) : Nat) : Int) ∧ out = .slice (some ⟨go, 0, none⟩) (pickSt (digit k r) (iota k) j).1.length co ∧ go < bl ∧ bl ≤ wr.heap.size ∧
            Held w.heap.size wr out (pickSt (digit k r) (iota k) j).1 ∧ w.heap.size ≤ bl ∧ Held bl wr left (pickSt (digit k r) (iota k) j).2 ∧ Below w.heap.size w wr) (fun _ _ left _ _ _ => lenV left)
          case atStart => exact ⟨0, w.heap.size + 1, w.heap.size, 0, Nat.zero_le _, by rw [Nat.sub_zero, HFN.out, Nat.mod_eq_of_lt HRN.out], rfl, by omega, by obtain ⟨g, c, _, hg, _, hr⟩ := HL.out.row; have := hr.1; omega, HO.out, by omega, HL.out, HB.out⟩
          case round =>
            obtain ⟨j, bl, go, co, hj, rfl, rfl, hgo, hbl, hO, hwb, hL, hb⟩ := hrel
            have HLL := Lib.hid hL
            have HOO := Lib.hid hO
            have HBB := Lib.hid hb
            clear hL hO hb HL HO HB
            obtain ⟨gl, cl, rfl, hgl, hcl, hrow⟩ := HLL.out.row
            have HROW := Lib.hid hrow
            have hgllt : gl < wr.heap.size := hrow.1
            clear hrow
            have hlen : (pickSt (digit k r) (iota k) j).2.length = k - j := by
              have := pickSt_rest (digit k r) (iota k) j (by rw [iota_length]; exact hj) (by rw [iota_length]; exact fun i hi => digit_lt (by omega))
              rw [iota_length] at this; exact this
            have hol := pickSt_out (digit k r) (iota k) j
            by_cases hjk : j < k
            · have HSK := Lib.hid (pickSt_succ (digit k r) (iota k) j)
              have hdl := digit_lt (n := k) (r := r) hjk
              have hm10 : k - 1 - j ≤ 10 := by omega
              have HFA2 := Lib.hid (fun W => l3Factorial_any (k - 1 - j) W hm10)
              have hf2 := fact_le hm10
              have hf2p := fact_pos (k - 1 - j)
              have hq : (r % fact (k - j)) / fact (k - 1 - j) = digit k r j := by
                rw [fact_step hjk, Nat.mod_mul_left_div_self]; rfl
              have hrm : (r % fact (k - j)) % fact (k - 1 - j) = r % fact (k - (j + 1)) := by
                rw [fact_step hjk, Nat.mod_mod_of_dvd _ (Nat.dvd_mul_left _ _), show k - (j + 1) = k - 1 - j by omega]
              have hrb : r % fact (k - j) < fact (k - j) := Nat.mod_lt _ (fact_pos _)
              have hrb2 := fact_le (show k - j ≤ 10 by omega)
              obtain ⟨L, hL⟩ : ∃ L, L = (pickSt (digit k r) (iota k) j).2 := ⟨_, rfl⟩
              obtain ⟨O, hO⟩ : ∃ O, O = (pickSt (digit k r) (iota k) j).1 := ⟨_, rfl⟩
              rw [← hL] at HLL HROW hlen hcl HSK ⊢
              rw [← hO] at HOO hol HSK ⊢
              obtain ⟨e, he⟩ : ∃ e, e = digit k r j := ⟨_, rfl⟩
              rw [← he] at hdl hq HSK
              obtain ⟨x, hx⟩ : ∃ x, x = L.getD e 0 := ⟨_, rfl⟩
              have hLe := at_getD (l := L) (k := e) (by omega)
              rw [← hx] at hLe HSK
              generalize fact (k - 1 - j) = f at *
              generalize r % fact (k - j) = ρ at *
              obtain ⟨ρ2, hρ2⟩ : ∃ ρ2, ρ2 = r % fact (k - (j + 1)) := ⟨_, rfl⟩
              rw [← hρ2] at hrm
              have HR2 := Lib.hid hρ2
              clear hρ2
              clear hL hO he hx
              have hcx : wr.cell? ⟨gl, e, none⟩ = some (.int .i64 x) := (HROW.out.2 _ _ (ints_at hLe)).1
              obtain ⟨v2, w2, hrun0, hH2, hb2, hk2⟩ := appendOne2 w.heap.size _ O x wr HOO.out HBB.out.size (by omega)
              have hrow2 : CellRow w2 gl (ints L) := HROW.out.same (hk2 gl hgllt (fun g n c e => by simp at e; omega)) hb2.size
              obtain ⟨O2, hO2⟩ : ∃ O2, O2 = O ++ [x] := ⟨_, rfl⟩
              obtain ⟨L2, hL2⟩ : ∃ L2, L2 = L.eraseIdx e := ⟨_, rfl⟩
              rw [← hO2] at hH2 HSK
              rw [← hL2] at HSK
              obtain ⟨g2, c2, rfl, hg2, hc2, hr2⟩ := hH2.row
              have hg2lt := hr2.1
              obtain ⟨v3, w3, hrun1, hH3, hb3⟩ := copyFront gl cl e L w2 hrow2 (by omega) (by omega)
              have HE : Hid (L.take e ++ L.drop (e + 1) = L2) := Lib.hid (by rw [hL2]; exact (List.eraseIdx_eq_take_drop_succ _ _).symm)
              have HLE : Hid (L2.length < L.length) := Lib.hid (by rw [hL2, List.length_eraseIdx, if_pos (by omega)]; omega)
              clear hO2 hL2
              have hwq : IntKind.i64.wrap ((ρ : Int) / (f : Int)) = (e : Int) := by
                rw [show (ρ : Int) / (f : Int) = ((ρ / f : Nat) : Int) from rfl, hq, IntKind.wrap_i64]; omega
              have HRM : Hid (((ρ : Int) % (f : Int)) = (ρ2 : Int)) := Lib.hid (by rw [← hrm]; rfl)
              have hwl : IntKind.i64.wrap ((L.length : Int) - 1) = ((k - 1 - j : Nat) : Int) := by rw [IntKind.wrap_i64]; omega
              have hwe : IntKind.i64.wrap ((e : Int) + 1) = ((e + 1 : Nat) : Int) := by rw [IntKind.wrap_i64]; omega
              have hfz : 0 < (f : Int) := by omega
              have hlz : 0 < (L.length : Int) := by omega
              have hel : e < L.length := by omega
              have hl1 : L.length = k - 1 - j + 1 := by omega
              generalize k - 1 - j = m1 at *
              have HL1 := Lib.hid hl1
              have HLN := Lib.hid hlen
              have HOL := Lib.hid hol
              have HD := Lib.hid hdl
              have hb20 : O.length ≤ 10 := by omega
              have hl20 : L.length ≤ 10 := by omega
              clear hl1 hlen hol hdl
              have HH2 := Lib.hid hH2
              have HB2 := Lib.hid (HBB.out.trans hb2)
              have HB3 := Lib.hid hb3
              have hs3 := hb3.size
              clear hLe hq hrm hk2 hr2 hH2 hb2 hb3 HOO HROW HBB
              by_cases hce : cl = e + 1
              · subst hce
                obtain ⟨v4, w4, hrun2, hH4, hb4⟩ := copyBack w2.heap.size gl 0 0 (e + 1) 0 v3 (L.take e) L w2 w3 hrow2 hH3 (Nat.le_refl _) hs3 HB3.out (by omega) (fun h => by omega) (by rw [List.length_take]; omega)
                rw [HE.out] at hH4
                have HH4 := Lib.hid hH4
                obtain ⟨g4, c4, rfl, _, _, _⟩ := hH4.row
                have HB4 := Lib.hid (HB3.out.trans hb4)
                have hs4 := hb4.size
                clear hrow2 hH3 hH4 hb4 hbig hwf
                go_wp2_with fail
                refine (HFA2.out _).mono ?_
                rintro e' w5 ⟨rfl, rfl⟩
                go_wp2_with fail
                go_region
                all_goals (
                  go_wp2_with fail
                  go_roundw
                  case rel => exact ⟨j + 1, w2.heap.size, g2, c2, by omega, by rw [← HR2.out]; first | rfl | rw [HRM.out], by rw [HSK.out], hg2lt, by omega, by rw [HSK.out]; exact HH2.out.below HB4.out, by have := HB2.out.size; omega, by rw [HSK.out]; exact HH4.out, HB2.out.trans (HB4.out.mono HB2.out.size)⟩
                  case measure => exact HLE.out)
              · obtain ⟨v4, w4, hrun2, hH4, hb4⟩ := copyBack w2.heap.size gl (e + 1) (cl - (e + 1)) (e + 1) (L.length - (e + 1)) v3 (L.take e) L w2 w3 hrow2 hH3 (Nat.le_refl _) hs3 HB3.out rfl (fun _ => rfl) (by rw [List.length_take]; omega)
                rw [HE.out] at hH4
                have HH4 := Lib.hid hH4
                obtain ⟨g4, c4, rfl, _, _, _⟩ := hH4.row
                have HB4 := Lib.hid (HB3.out.trans hb4)
                have hs4 := hb4.size
                clear hrow2 hH3 hH4 hb4 hbig hwf
                go_wp2_with fail
                refine (HFA2.out _).mono ?_
                rintro e' w5 ⟨rfl, rfl⟩
                go_wp2_with fail
                go_region
                all_goals (
                  go_wp2_with fail
                  go_roundw
                  case rel => exact ⟨j + 1, w2.heap.size, g2, c2, by omega, by rw [← HR2.out]; first | rfl | rw [HRM.out], by rw [HSK.out], hg2lt, by omega, by rw [HSK.out]; exact HH2.out.below HB4.out, by have := HB2.out.size; omega, by rw [HSK.out]; exact HH4.out, HB2.out.trans (HB4.out.mono HB2.out.size)⟩
                  case measure => exact HLE.out)
            · obtain rfl : j = k := by omega
              have hl0 : (pickSt (digit j r) (iota j) j).2.length = 0 := by omega
              have hlz : ((pickSt (digit j r) (iota j) j).2.length : Int) = 0 := by omega
              obtain ⟨g, c, he, hg, hc, hrow⟩ := HOO.out.row
              simp at he
              obtain ⟨rfl, rfl⟩ := he
              have HRES : Hid (RetI (unrF j r) w (.returned (.tuple #[.slice (some ⟨go, 0, none⟩) (pickSt (digit j r) (iota j) j).1.length co, .bool true])) wr) := Lib.hid (by rw [HF.out]; exact ⟨go, co, rfl, hc, hg, hrow, HBB.out⟩)
              clear hc hg hrow HOO HLL HROW hl0 hlen
              go_wp2_with fail
              go_ret2
              exact HRES.out
    · have HI2 := Lib.hid (fun W => l1In_no a1 0 (((fact n : Nat) : Int) - 1) W (by omega))
      have HF : Hid (unrF n a1 = ([], false)) := Lib.hid (unrF_no (fun hh => hr (by simp at hh; omega)))
      have HRES : Hid (RetI (unrF n a1) w (.returned (.tuple #[.slice (some ⟨w.heap.size, 0, none⟩) 0 0, .bool false])) (w.alloc (.cells #[] 3))) := Lib.hid (by rw [HF.out]; exact HRET.out)
      clear h0 hr
      generalize fact n = F at *
      go_enter Try.func49, Try.ntmps49
      go_wp2_with fail
      refine (HI1.out _).mono ?_
      rintro e w1 ⟨rfl, rfl⟩
      go_wp2_with fail
      refine (HFA.out _).mono ?_
      rintro e w1 ⟨rfl, rfl⟩
      go_wp2_with fail
      refine (HI2.out _).mono ?_
      rintro e w1 ⟨rfl, rfl⟩
      go_wp2_with fail
      go_ret2
      exact HRES.out
  · have HI1 := Lib.hid (fun W => l1In_no a0 0 10 W (by omega))
    have HF : Hid (unrF a0 a1 = ([], false)) := Lib.hid (unrF_no fun hh => h0 ⟨hh.1, hh.2.1⟩)
    have HRES : Hid (RetI (unrF a0 a1) w (.returned (.tuple #[.slice (some ⟨w.heap.size, 0, none⟩) 0 0, .bool false])) (w.alloc (.cells #[] 3))) := Lib.hid (by rw [HF.out]; exact HRET.out)
    clear h0
    go_enter Try.func49, Try.ntmps49
    go_wp2_with fail
    refine (HI1.out _).mono ?_
    rintro e w1 ⟨rfl, rfl⟩
    go_wp2_with fail
    go_ret2
    exact HRES.out

end Go.Proofs.Ytckogbmaahenhaa
