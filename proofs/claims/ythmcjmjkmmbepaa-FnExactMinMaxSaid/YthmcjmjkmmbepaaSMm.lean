/- The model's MinMax, by its contract. -/
import Derived.Test.YthmcjmjkmmbepaaMmP
import Derived.Test.YthmcjmjkmmbepaaSrt
import Derived.Test.YthmcjmjkmmbepaaRes4
import Derived.BigQuiet
import Derived.Deep.QuietTactic
namespace Go.Proofs.Ythmcjmjkmmbepaa
open Go.RowKit P El Qk Sl
set_option linter.unusedVariables false

set_option maxRecDepth 100000 in
set_option maxHeartbeats 4000000 in
theorem specMm_any (b o c : Nat) (l : List Int) (w : World) (hv : FlatAt w (.slice (some ⟨b, o, none⟩) l.length c) l.length (ints l)) (hn : l.length ≤ 1048576) :
    Calls Try.prog 33 #[.slice (some ⟨b, o, none⟩) l.length c] w fun e w' => e = .returned (.tuple #[.int .i64 (mmAll l).1, .int .i64 (mmAll l).2.1, .int .i64 (mmAll l).2.2.1, .bool (mmAll l).2.2.2]) ∧ Below w.heap.size w w' := by
  have HVL := Lib.hid (l2List_any _ l w hv hn)
  have HV := Lib.hid hv
  clear hv
  by_cases hok : OkL l
  · rw [decide_eq_true hok] at HVL
    by_cases h0 : 0 < l.length
    · have hz : ((l.length : Int) == 0) = false := by rw [beq_eq_false_iff_ne]; omega
      have hne : ¬ l.length = 0 := by omega
      have h64 := hok.1
      have hF := mmAll_yes ⟨hok, h0⟩
      have HSR := Lib.hid (fun W (h : FlatAt W (.slice (some ⟨b, o, none⟩) l.length c) l.length (ints l)) => l2Sorted_any b o c l W h h64)
      obtain ⟨x, hx⟩ : ∃ x, x = (srt l).getD 0 0 := ⟨_, rfl⟩
      obtain ⟨y, hy⟩ : ∃ y, y = (srt l).getD (l.length - 1) 0 := ⟨_, rfl⟩
      have hat0 := at_getD (l := srt l) (k := 0) (by rw [srt_length]; exact h0)
      have hat1 := at_getD (l := srt l) (k := l.length - 1) (by rw [srt_length]; omega)
      rw [← hx] at hat0 hF
      rw [← hy] at hat1 hF
      obtain ⟨m, hm⟩ : ∃ m, m = l.length - 1 := ⟨_, rfl⟩
      obtain ⟨d, hd⟩ : ∃ d, d = l.length / 2 := ⟨_, rfl⟩
      obtain ⟨t, ht⟩ : ∃ t, t = 3 * d := ⟨_, rfl⟩
      rw [← hm] at hat1
      have HA0 := Lib.hid hat0
      have HA1 := Lib.hid hat1
      have HSL := Lib.hid (srt_length l)
      have HF := Lib.hid hF
      have ewm : IntKind.i64.wrap ((l.length : Int) - 1) = (m : Int) := by rw [IntKind.wrap_i64]; omega
      have ewd : (l.length : Int) / 2 = (d : Int) := by omega
      have ewd2 : IntKind.i64.wrap (d : Int) = (d : Int) := by rw [IntKind.wrap_i64]; omega
      have ewt0 : (3 : Int) * (d : Int) = (t : Int) := by omega
      have ewt : IntKind.i64.wrap (t : Int) = (t : Int) := by rw [IntKind.wrap_i64]; omega
      have hmz : (m : Int) < (l.length : Int) := by omega
      have h0z : (0 : Int) < (l.length : Int) := by omega
      by_cases he : l.length % 2 = 0
      · have hC : Hid (mmC l.length = t - 2) := Lib.hid (by unfold mmC; rw [if_pos he, ht, hd])
        have ep : (l.length : Int) % 2 = 0 := by omega
        have ep2 : Int.tmod (l.length : Int) 2 = 0 := by rw [Int.tmod_eq_emod_of_nonneg (by omega)]; exact ep
        obtain ⟨u, hu⟩ : ∃ u, u = t - 2 := ⟨_, rfl⟩
        have ewu : IntKind.i64.wrap ((t : Int) - 2) = (u : Int) := by rw [IntKind.wrap_i64]; omega
        have HC2 : Hid (mmC l.length = u) := Lib.hid (by rw [hC.out, hu])
        clear hok h0 hx hy hm hd ht hu hat0 hat1 hF he hC hne
        go_enter Try.func33, Try.ntmps33
        go_wp2_with fail
        refine HVL.out.mono ?_
        rintro e w1 ⟨rfl, hb1⟩
        have HV1 := Lib.hid (HV.out.below hb1)
        have HB1 := Lib.hid hb1
        clear hb1 HV HVL
        go_wp2_with fail
        refine (HSR.out _ HV1.out).mono ?_
        rintro e w2 ⟨g, cap, rfl, hcap, hg, hrow, hb2⟩
        have HB2 := Lib.hid (HB1.out.trans (hb2.mono HB1.out.size))
        obtain ⟨hc0, _⟩ := hrow.2 _ _ (ints_at HA0.out)
        obtain ⟨hc1, _⟩ := hrow.2 _ _ (ints_at HA1.out)
        rw [HSL.out] at hcap ⊢
        clear hb2 hrow hg HSR HV1 HB1 hz
        go_wp2_with fail
        first | go_quiet (fail) | skip
        first | go_wp2_with fail | skip
        refine bodyPost_ret (results_tmp4 rfl _ _ _) rfl ?_
        exact ⟨by rw [HF.out, HC2.out]; rfl, HB2.out.trans ⟨rfl, rfl, rfl, Nat.le_refl _, fun _ _ => rfl⟩⟩
      · have hC : Hid (mmC l.length = t) := Lib.hid (by unfold mmC; rw [if_neg he, ht, hd])
        have ep : (l.length : Int) % 2 = 1 := by omega
        have ep2 : Int.tmod (l.length : Int) 2 = 1 := by rw [Int.tmod_eq_emod_of_nonneg (by omega)]; exact ep
        clear hok h0 hx hy hm hd ht hat0 hat1 hF he hne
        go_enter Try.func33, Try.ntmps33
        go_wp2_with fail
        refine HVL.out.mono ?_
        rintro e w1 ⟨rfl, hb1⟩
        have HV1 := Lib.hid (HV.out.below hb1)
        have HB1 := Lib.hid hb1
        clear hb1 HV HVL
        go_wp2_with fail
        refine (HSR.out _ HV1.out).mono ?_
        rintro e w2 ⟨g, cap, rfl, hcap, hg, hrow, hb2⟩
        have HB2 := Lib.hid (HB1.out.trans (hb2.mono HB1.out.size))
        obtain ⟨hc0, _⟩ := hrow.2 _ _ (ints_at HA0.out)
        obtain ⟨hc1, _⟩ := hrow.2 _ _ (ints_at HA1.out)
        rw [HSL.out] at hcap ⊢
        clear hb2 hrow hg HSR HV1 HB1 hz
        go_wp2_with fail
        first | go_quiet (fail) | skip
        first | go_wp2_with fail | skip
        refine bodyPost_ret (results_tmp4 rfl _ _ _) rfl ?_
        exact ⟨by rw [HF.out, hC.out]; rfl, HB2.out.trans ⟨rfl, rfl, rfl, Nat.le_refl _, fun _ _ => rfl⟩⟩
    · have HF := Lib.hid (mmAll_no (l := l) (fun h => h0 h.2))
      obtain rfl : l = [] := List.eq_nil_of_length_eq_zero (by omega)
      clear hok h0
      rw [List.length_nil] at HVL HV ⊢
      go_enter Try.func33, Try.ntmps33
      go_wp2_with fail
      refine HVL.out.mono ?_
      rintro e w1 ⟨rfl, hb1⟩
      have HB1 := Lib.hid hb1
      clear hb1 HV HVL
      go_wp2_with fail
      refine bodyPost_ret (results_tmp4 rfl _ _ _) rfl ?_
      exact ⟨by rw [HF.out]; rfl, HB1.out⟩
  · rw [decide_eq_false hok] at HVL
    have HF := Lib.hid (mmAll_no (l := l) (fun h => hok h.1))
    clear hok
    go_enter Try.func33, Try.ntmps33
    go_wp2_with fail
    refine HVL.out.mono ?_
    rintro e w1 ⟨rfl, hb1⟩
    have HB1 := Lib.hid hb1
    clear hb1 HV HVL
    go_wp2_with fail
    refine bodyPost_ret (results_tmp4 rfl _ _ _) rfl ?_
    exact ⟨by rw [HF.out]; rfl, HB1.out⟩

end Go.Proofs.Ythmcjmjkmmbepaa
