/- The model's l3Factorial and RankPermutation, by their contracts. -/
import Derived.Test.YtckogbmaahenhaaSPermV
import Derived.Test.YtckogbmaahenhaaIRank
namespace Go.Proofs.Ytckogbmaahenhaa
open Go.RowKit P

theorem fact_le {n : Nat} (h : n ≤ 10) : fact n ≤ 3628800 := by have := fact_mono h; rw [fact10] at this; exact this

set_option maxRecDepth 100000 in
theorem l3Factorial_any (n : Nat) (w : World) (hn : n ≤ 10) :
    Calls Try.prog 88 #[.int .i64 (n : Int)] w fun e w' => e = .returned (.int .i64 (fact n : Nat)) ∧ w' = w := by
  have HF : Hid (∀ f k : Nat, k ≤ n → f * fact k = fact n → f ≤ 3628800) := Lib.hid (fun f k hk h => by
    have h1 := fact_le hn
    have h2 : f ≤ f * fact k := Nat.le_mul_of_pos_right _ (fact_pos _)
    omega)
  have HS : Hid (∀ f k : Nat, 1 ≤ k → f * fact k = fact n → (f * k) * fact (k - 1) = fact n) := Lib.hid (fun f k h1 h => by
    obtain ⟨j, rfl⟩ : ∃ j, k = j + 1 := ⟨k - 1, by omega⟩
    rw [Nat.add_sub_cancel, Nat.mul_assoc, ← fact_succ]; exact h)
  have H1 : Hid (∀ f k : Nat, k ≤ 1 → f * fact k = fact n → f = fact n) := Lib.hid (fun f k hk h => by
    have : fact k = 1 := by
      obtain rfl | rfl : k = 0 ∨ k = 1 := by omega
      · rfl
      · rfl
    rw [this, Nat.mul_one] at h; exact h)
  go_enter Try.func88, Try.ntmps88
  go_wp2
  go_loopw [0, 3] (fun nv fv wr => ∃ k f : Nat, k ≤ n ∧ nv = .int .i64 k ∧ fv = .int .i64 f ∧ f * fact k = fact n ∧ wr = w) (fun nv _ _ => (intOf nv).toNat)
  case atStart => exact ⟨n, 1, Nat.le_refl _, rfl, rfl, by rw [Nat.one_mul], rfl⟩
  case round =>
    obtain ⟨k, f, hk, rfl, rfl, hf, rfl⟩ := hrel
    have HFF := Lib.hid hf
    clear hf
    by_cases h1 : 1 < (k : Int)
    · have hstep := HS.out f k (by omega) HFF.out
      have hb := HF.out _ _ (by omega) hstep
      have hm : ((f : Int) * (k : Int)) = ((f * k : Nat) : Int) := by simp
      have HM := Lib.hid hm
      have HST := Lib.hid hstep
      clear hm hstep
      generalize f * k = t at *
      have hw1 : IntKind.i64.wrap ((f : Int) * (k : Int)) = (t : Int) := by rw [HM.out, IntKind.wrap_i64]; omega
      have hw2 : IntKind.i64.wrap ((k : Int) - 1) = ((k - 1 : Nat) : Int) := by rw [IntKind.wrap_i64]; omega
      go_wp2
      go_roundw
      case rel => exact ⟨k - 1, t, by omega, by go_num, by go_num, HST.out, by trivial⟩
      case measure => simp [intOf]; omega
    · have hf := H1.out f k (by omega) HFF.out
      go_wp2
      go_ret
      exact ⟨by first | rfl | rw [hf], by trivial⟩

set_option maxRecDepth 100000 in
set_option maxHeartbeats 4000000 in
theorem specRank_any (v : Value) (l : List Int) (w : World) (hv : FlatAt w v l.length (ints l)) (hn : l.length ≤ 1048576) :
    Calls Try.prog 44 #[v] w fun e w' => e = .returned (.tuple #[.int .i64 (rankF l).1, .bool (rankF l).2]) ∧ Below w.heap.size w w' := by
  have HV := Lib.hid hv
  obtain ⟨a, c, rfl, _, _⟩ := hv
  by_cases hok : OkP l
  · have hd : decide (OkP l) = true := decide_eq_true hok
    have HI := Lib.hid (fun W (h : FlatAt W (.slice a l.length c) l.length (ints l)) => by have := l3Good_any _ l W h hn; rw [hd] at this; exact this)
    by_cases h10 : l.length ≤ 10
    · have hz : ¬ (10 : Int) < l.length := by omega
      have HF : Hid (rankF l = (((sumTo l.length (later l) l.length : Nat) : Int), true)) := Lib.hid (by rw [rankF_yes ⟨hok, h10⟩, horn_all])
      have HB : Hid (∀ i, i ≤ l.length → sumTo l.length (later l) i < 3628800) := Lib.hid (fun i hi => by
        have h1 := horn_lt l.length (later l) (fun i _ => later_le l i) l.length (Nat.le_refl _)
        rw [horn_all] at h1
        have h2 := sum_mono l.length (later l) hi
        have h3 := fact_le h10
        omega)
      have HL : Hid (∀ i, i < l.length → later l i < 10) := Lib.hid (fun i hi => by have := later_lt (p := l) hi; omega)
      have HS : Hid (∀ i, sumTo l.length (later l) (i + 1) = sumTo l.length (later l) i + later l i * fact (l.length - 1 - i)) := Lib.hid (fun i => sum_succ _ _ i)
      clear hok hd
      go_enter Try.func44, Try.ntmps44
      go_wp2_with fail
      refine (HI.out _ HV.out).mono ?_
      rintro e w1 ⟨rfl, hb1⟩
      have HB1 := Lib.hid hb1
      obtain ⟨a1, c1, e1, _, hx⟩ := HV.out.below hb1
      simp at e1
      obtain ⟨rfl, rfl⟩ := e1
      have HX := Lib.hid hx
      clear hb1 HI HV hx
      go_wp2_with fail
      go_loopw [4, 5, 6, 7] (fun r i _ _ wr => ∃ k : Nat, k ≤ l.length ∧ i = .int .i64 k ∧ r = .int .i64 (sumTo l.length (later l) k : Nat) ∧ Below w1.heap.size w1 wr) (fun _ i _ _ _ => l.length - (intOf i).toNat)
      case atStart => exact ⟨0, Nat.zero_le _, rfl, rfl, Below.refl _ _⟩
      case round =>
        obtain ⟨k, hk, rfl, rfl, hb⟩ := hrel
        have HBW := Lib.hid hb
        clear hb
        by_cases hlt : k < l.length
        · have hw0 : IntKind.i64.wrap ((k : Int) + 1) = (k : Int) + 1 := by rw [IntKind.wrap_i64]; omega
          obtain ⟨q, hq⟩ : ∃ q, q = l.getD k 0 := ⟨_, rfl⟩
          have hpk := at_getD hlt
          rw [← hq] at hpk
          obtain ⟨b, o, rfl, hbb, hck⟩ := HX.out _ _ (ints_at hpk)
          have HCK := Lib.hid hck
          have HQ := Lib.hid hq
          clear hck hpk hq
          have hs := HS.out k
          have hb0 := HB.out k hk
          have hb1 := HB.out (k + 1) (by omega)
          have hl := HL.out k hlt
          have HLA := Lib.hid (laterTo_all l k)
          have HLS := Lib.hid (fun j x (h : l[k + 1 + j]? = some x) => laterTo_step h)
          generalize hr1 : sumTo l.length (later l) (k + 1) = r1 at *
          generalize sumTo l.length (later l) k = r0 at *
          have HR1 := Lib.hid hr1
          have HSS := Lib.hid hs
          clear hr1 hs
          go_wp2_with fail
          go_loopw [6, 7] (fun n j ws => ∃ m : Nat, m ≤ l.length - (k + 1) ∧ j = .int .i64 ((k + 1 + m : Nat) : Int) ∧ n = .int .i64 (laterTo l k m : Nat) ∧ Below w1.heap.size w1 ws) (fun _ j _ => l.length - (intOf j).toNat)
          case atStart => exact ⟨0, Nat.zero_le _, by go_num, by rw [laterTo_zero]; rfl, HBW.out⟩
          case round =>
            obtain ⟨m, hm, rfl, rfl, hb⟩ := hrel
            have HBS := Lib.hid hb
            clear hb
            have hck : wr.cell? ⟨b, o + k, none⟩ = some (.int .i64 q) := (HBS.out.cell (p := ⟨b, o + k, none⟩) hbb).trans HCK.out
            by_cases hlm : m < l.length - (k + 1)
            · obtain ⟨x, hx⟩ : ∃ x, l[k + 1 + m]? = some x := ⟨_, List.getElem?_eq_getElem (by omega)⟩
              obtain ⟨b2, o2, e2, _, hcx⟩ := HX.out _ _ (ints_at hx)
              simp at e2
              obtain ⟨rfl, rfl⟩ := e2
              have hcx2 : wr.cell? ⟨b, o + (k + 1 + m), none⟩ = some (.int .i64 x) := (HBS.out.cell (p := ⟨b, o + (k + 1 + m), none⟩) hbb).trans hcx
              have hstep := HLS.out m x hx
              rw [← HQ.out] at hstep
              have hle := laterTo_le l k m
              clear hx hcx
              generalize hn1 : laterTo l k (m + 1) = n1 at *
              generalize laterTo l k m = n0 at *
              have HN1 := Lib.hid hn1
              clear hn1
              have hjz : ((k + 1 + m : Nat) : Int) < l.length := by omega
              generalize hj : k + 1 + m = j at *
              have HJ := Lib.hid hj
              clear hj
              by_cases hlx : x < q
              · rw [if_pos hlx] at hstep
                go_wp2_with fail
                go_region_with (fail)
                all_goals (
                  go_wp2_with fail
                  go_roundw
                  case rel => exact ⟨m + 1, by have := HJ.out; omega, by rw [show k + 1 + (m + 1) = j + 1 by have := HJ.out; omega]; go_num, by rw [HN1.out]; go_num, ⟨HBS.out.os, HBS.out.tape, HBS.out.output, HBS.out.size, HBS.out.block⟩⟩
                  case measure => simp [intOf]; omega)
              · rw [if_neg hlx, Nat.add_zero] at hstep
                go_wp2_with fail
                go_region_with (fail)
                all_goals (
                  go_wp2_with fail
                  go_roundw
                  case rel => exact ⟨m + 1, by have := HJ.out; omega, by rw [show k + 1 + (m + 1) = j + 1 by have := HJ.out; omega]; go_num, by rw [HN1.out]; go_num, ⟨HBS.out.os, HBS.out.tape, HBS.out.output, HBS.out.size, HBS.out.block⟩⟩
                  case measure => simp [intOf]; omega)
            · obtain rfl : m = l.length - (k + 1) := by omega
              have hjz : ¬ ((k + 1 + (l.length - (k + 1)) : Nat) : Int) < l.length := by omega
              rw [HLA.out]
              have hl2 := hl
              generalize later l k = d at *
              have hfk : l.length - 1 - k ≤ 10 := by omega
              have HFA := Lib.hid (fun W => l3Factorial_any (l.length - 1 - k) W hfk)
              have hm1 : d * fact (l.length - 1 - k) ≤ r1 := by have := HSS.out; omega
              have hfb : fact (l.length - 1 - k) ≤ 3628800 := fact_le hfk
              have hmz : ((d : Int) * ((fact (l.length - 1 - k) : Nat) : Int)) = ((d * fact (l.length - 1 - k) : Nat) : Int) := by simp
              have hss2 := HSS.out
              clear HSS hck
              generalize fact (l.length - 1 - k) = f at *
              generalize d * f = t at *
              have HMZ := Lib.hid hmz
              have HS2 := Lib.hid hss2
              clear hmz hss2
              have hwa : IntKind.i64.wrap ((l.length : Int) - 1) = (l.length : Int) - 1 := by rw [IntKind.wrap_i64]; omega
              have hwb : IntKind.i64.wrap ((l.length : Int) - 1 - k) = ((l.length - 1 - k : Nat) : Int) := by rw [IntKind.wrap_i64]; omega
              have hwc : IntKind.i64.wrap ((d : Int) * (f : Int)) = (t : Int) := by rw [HMZ.out, IntKind.wrap_i64]; omega
              have hwd : IntKind.i64.wrap ((r0 : Int) + (t : Int)) = (r1 : Int) := by have := HS2.out; rw [IntKind.wrap_i64]; omega
              go_wp2_with fail
              refine (HFA.out _).mono ?_
              rintro e w2 ⟨rfl, rfl⟩
              clear HFA
              go_wp2_with fail
              go_roundw
              case rel => exact ⟨k + 1, by omega, by go_num, by rw [HR1.out], HBS.out⟩
              case measure => simp [intOf]; omega
        · obtain rfl : k = l.length := by omega
          have HRES : Hid (∀ r : Int, r = (sumTo l.length (later l) l.length : Nat) → Ending.returned (.tuple #[.int .i64 r, .bool true]) = .returned (.tuple #[.int .i64 (rankF l).1, .bool (rankF l).2])) := Lib.hid (fun r hr => by rw [HF.out, hr])
          generalize hgen : ((sumTo l.length (later l) l.length : Nat) : Int) = r at *
          have HG := Lib.hid hgen
          clear hgen
          go_wp2_with fail
          go_ret2
          exact ⟨HRES.out _ rfl, HB1.out.trans (HBW.out.mono HB1.out.size)⟩
    · have hz : (10 : Int) < l.length := by omega
      have HF : Hid (rankF l = (0, false)) := Lib.hid (rankF_no fun h => h10 h.2)
      clear hok hd h10
      go_enter Try.func44, Try.ntmps44
      go_wp2_with fail
      refine (HI.out _ HV.out).mono ?_
      rintro e w1 ⟨rfl, hb1⟩
      have HRES : Hid (Ending.returned (.tuple #[.int .i64 0, .bool false]) = .returned (.tuple #[.int .i64 (rankF l).1, .bool (rankF l).2]) ∧ Below w.heap.size w w1) := Lib.hid ⟨by rw [HF.out], hb1⟩
      clear hb1
      go_wp2_with fail
      go_ret2
      exact HRES.out
  · have hd : decide (OkP l) = false := decide_eq_false hok
    have HI := Lib.hid (fun W (h : FlatAt W (.slice a l.length c) l.length (ints l)) => by have := l3Good_any _ l W h hn; rw [hd] at this; exact this)
    have HF : Hid (rankF l = (0, false)) := Lib.hid (rankF_no fun h => hok h.1)
    clear hok hd
    go_enter Try.func44, Try.ntmps44
    go_wp2_with fail
    refine (HI.out _ HV.out).mono ?_
    rintro e w1 ⟨rfl, hb1⟩
    have HRES : Hid (Ending.returned (.tuple #[.int .i64 0, .bool false]) = .returned (.tuple #[.int .i64 (rankF l).1, .bool (rankF l).2]) ∧ Below w.heap.size w w1) := Lib.hid ⟨by rw [HF.out], hb1⟩
    clear hb1
    go_wp2_with fail
    go_ret2
    exact HRES.out

end Go.Proofs.Ytckogbmaahenhaa
