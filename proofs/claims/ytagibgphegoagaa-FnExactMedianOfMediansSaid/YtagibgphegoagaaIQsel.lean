/- The program's QuickSelect, MedianOfMedians and SelectByMedians, by contracts. -/
import Derived.Test.YtagibgphegoagaaISbp
import Derived.Test.YtagibgphegoagaaIMom
namespace Go.Proofs.Ytagibgphegoagaa
open Go.RowKit P El Qk Sl
set_option linter.unusedVariables false

set_option maxRecDepth 100000 in
theorem first_any (b o c : Nat) (L : List Int) (W : World) (h0 : L ≠ []) (hv : FlatAt W (.slice (some ⟨b, o, none⟩) L.length c) L.length (ints L)) :
    Calls Try.prog 107 #[.slice (some ⟨b, o, none⟩) L.length c] W fun e w' => e = .returned (.int .i64 (fstF L)) ∧ Below W.heap.size W w' := by
  cases L with
  | nil => exact absurd rfl h0
  | cons x L =>
    obtain ⟨a0, c0, e0, _, h⟩ := hv
    simp at e0
    obtain ⟨rfl, rfl⟩ := e0
    obtain ⟨b2, o2, e2, _, hc⟩ := h 0 (.int .i64 x) rfl
    simp at e2
    obtain ⟨rfl, rfl⟩ := e2
    rw [Nat.add_zero] at hc
    have h0z : (0 : Int) < ((x :: L).length : Int) := by simp only [List.length_cons]; omega
    have HF : Hid (fstF (x :: L) = x) := Lib.hid rfl
    rw [HF.out]
    generalize (x :: L).length = n at *
    clear h
    go_enter Try.func107, Try.ntmps107
    go_wp2_with fail
    go_ret
    exact ⟨rfl, Below.refl _ _⟩

theorem enters_first : ∀ args w, (callFunc 107 args).run Try.prog w = .ok (.enter 107 args) w := enters_of Try.func107 (by kernel_rfl) rfl

set_option maxRecDepth 100000 in
set_option maxHeartbeats 4000000 in
theorem implQsel_any (b o c : Nat) (l : List Int) (k : Int) (w : World) (hv : FlatAt w (.slice (some ⟨b, o, none⟩) l.length c) l.length (ints l)) (hn : l.length ≤ 1048576) :
    Calls Try.prog 38 #[.slice (some ⟨b, o, none⟩) l.length c, .int .i64 k] w fun e w' => e = .returned (.tuple #[.int .i64 (qsAll1 l k).1, .int .i64 (qsAll1 l k).2.1, .bool (qsAll1 l k).2.2]) ∧ Below w.heap.size w w' := by
  have HRK := Lib.hid (rank_any _ l (some ⟨b, o, none⟩) c rfl k w hv hn)
  have HV := Lib.hid hv
  clear hv
  by_cases hok : OkK l k
  · rw [decide_eq_true hok] at HRK
    obtain ⟨K, rfl⟩ : ∃ K : Nat, k = (K : Int) := ⟨k.toNat, by have := hok.2.1; omega⟩
    have hK : K < l.length := by have := hok.2.2; omega
    have hok1 := hok.1
    have HF := Lib.hid (qsAll1_yes hok.1 hK)
    have HS := Lib.hid (fun W (h : FlatAt W (.slice (some ⟨b, o, none⟩) l.length c) l.length (ints l)) => sbp_any fstF fst_mem 107 enters_first (fun b o c L W _ h0 h => first_any b o c L W h0 h) b o c l K W h hok1 hK)
    clear hok hok1
    generalize qk fstF l.length l K 0 0 = R at *
    go_enter Try.func38, Try.ntmps38
    go_wp2_with fail
    refine HRK.out.mono ?_
    rintro e w1 ⟨rfl, hb1⟩
    have HV1 := Lib.hid (HV.out.below hb1)
    have HB1 := Lib.hid hb1
    clear hb1 HV HRK
    go_wp2_with fail
    refine (HS.out _ HV1.out).mono ?_
    rintro e w2 ⟨rfl, hb2⟩
    have HB2 := Lib.hid (HB1.out.trans (hb2.mono HB1.out.size))
    clear hb2 HS HV1 HB1
    go_wp2_with fail
    go_ret3
    exact ⟨by rw [HF.out]; rfl, HB2.out⟩
  · rw [decide_eq_false hok] at HRK
    have HF := Lib.hid (qsAll1_no hok)
    clear hok
    go_enter Try.func38, Try.ntmps38
    go_wp2_with fail
    refine HRK.out.mono ?_
    rintro e w1 ⟨rfl, hb1⟩
    have HB1 := Lib.hid hb1
    clear hb1 HV HRK
    go_wp2_with fail
    go_ret3
    exact ⟨by rw [HF.out]; rfl, HB1.out⟩

theorem enters_mom : ∀ args w, (callFunc 111 args).run Try.prog w = .ok (.enter 111 args) w := enters_of Try.func111 (by kernel_rfl) rfl

set_option maxRecDepth 100000 in
set_option maxHeartbeats 4000000 in
theorem implSelM_any (b o c : Nat) (l : List Int) (k : Int) (w : World) (hv : FlatAt w (.slice (some ⟨b, o, none⟩) l.length c) l.length (ints l)) (hn : l.length ≤ 1048576) :
    Calls Try.prog 42 #[.slice (some ⟨b, o, none⟩) l.length c, .int .i64 k] w fun e w' => e = .returned (.tuple #[.int .i64 (smAll l k).1, .int .i64 (smAll l k).2.1, .bool (smAll l k).2.2]) ∧ Below w.heap.size w w' := by
  have HRK := Lib.hid (rank_any _ l (some ⟨b, o, none⟩) c rfl k w hv hn)
  have HV := Lib.hid hv
  clear hv
  by_cases hok : OkK l k
  · rw [decide_eq_true hok] at HRK
    obtain ⟨K, rfl⟩ : ∃ K : Nat, k = (K : Int) := ⟨k.toNat, by have := hok.2.1; omega⟩
    have hK : K < l.length := by have := hok.2.2; omega
    have hok1 := hok.1
    have HF := Lib.hid (smAll_yes hok.1 hK)
    have HS := Lib.hid (fun W (h : FlatAt W (.slice (some ⟨b, o, none⟩) l.length c) l.length (ints l)) => sbp_any momF momF_mem 111 enters_mom (fun b o c L W hok h0 h => momI_any _ b o c L W (Nat.le_refl _) h hok h0) b o c l K W h hok1 hK)
    clear hok hok1
    generalize qk momF l.length l K 0 0 = R at *
    go_enter Try.func42, Try.ntmps42
    go_wp2_with fail
    refine HRK.out.mono ?_
    rintro e w1 ⟨rfl, hb1⟩
    have HV1 := Lib.hid (HV.out.below hb1)
    have HB1 := Lib.hid hb1
    clear hb1 HV HRK
    go_wp2_with fail
    refine (HS.out _ HV1.out).mono ?_
    rintro e w2 ⟨rfl, hb2⟩
    have HB2 := Lib.hid (HB1.out.trans (hb2.mono HB1.out.size))
    clear hb2 HS HV1 HB1
    go_wp2_with fail
    go_ret3
    exact ⟨by rw [HF.out]; rfl, HB2.out⟩
  · rw [decide_eq_false hok] at HRK
    have HF := Lib.hid (smAll_no hok)
    clear hok
    go_enter Try.func42, Try.ntmps42
    go_wp2_with fail
    refine HRK.out.mono ?_
    rintro e w1 ⟨rfl, hb1⟩
    have HB1 := Lib.hid hb1
    clear hb1 HV HRK
    go_wp2_with fail
    go_ret3
    exact ⟨by rw [HF.out]; rfl, HB1.out⟩

set_option maxRecDepth 100000 in
set_option maxHeartbeats 4000000 in
theorem implMom_any (b o c : Nat) (l : List Int) (w : World) (hv : FlatAt w (.slice (some ⟨b, o, none⟩) l.length c) l.length (ints l)) (hn : l.length ≤ 1048576) :
    Calls Try.prog 55 #[.slice (some ⟨b, o, none⟩) l.length c] w fun e w' => e = .returned (.tuple #[.int .i64 (momAll l).1, .bool (momAll l).2]) ∧ Below w.heap.size w w' := by
  have HVL := Lib.hid (implValidList_any _ l w hv hn)
  have HV := Lib.hid hv
  clear hv
  by_cases hok : OkL l
  · rw [decide_eq_true hok] at HVL
    by_cases h0 : 0 < l.length
    · have hz : ((l.length : Int) == 0) = false := by rw [beq_eq_false_iff_ne]; omega
      have hne : ¬ l.length = 0 := by omega
      have HF := Lib.hid (momAll_yes ⟨hok, h0⟩)
      have HM := Lib.hid (fun W (h : FlatAt W (.slice (some ⟨b, o, none⟩) l.length c) l.length (ints l)) => momI_any _ b o c l W (Nat.le_refl _) h hok (fun e => by rw [e] at h0; simp at h0))
      clear hok h0
      go_enter Try.func55, Try.ntmps55
      go_wp2_with fail
      refine HVL.out.mono ?_
      rintro e w1 ⟨rfl, hb1⟩
      have HV1 := Lib.hid (HV.out.below hb1)
      have HB1 := Lib.hid hb1
      clear hb1 HV HVL
      go_wp2_with fail
      refine (HM.out _ HV1.out).mono ?_
      rintro e w2 ⟨rfl, hb2⟩
      have HB2 := Lib.hid (HB1.out.trans (hb2.mono HB1.out.size))
      clear hb2 HM HV1 HB1
      go_wp2_with fail
      go_ret2
      exact ⟨by rw [HF.out]; rfl, HB2.out⟩
    · have HF := Lib.hid (momAll_no (l := l) (fun h => h0 h.2))
      obtain rfl : l = [] := List.eq_nil_of_length_eq_zero (by omega)
      clear hok h0
      rw [List.length_nil] at HVL HV ⊢
      go_enter Try.func55, Try.ntmps55
      go_wp2_with fail
      refine HVL.out.mono ?_
      rintro e w1 ⟨rfl, hb1⟩
      have HB1 := Lib.hid hb1
      clear hb1 HV HVL
      go_wp2_with fail
      go_ret2
      exact ⟨by rw [HF.out]; rfl, HB1.out⟩
  · rw [decide_eq_false hok] at HVL
    have HF := Lib.hid (momAll_no (l := l) (fun h => hok h.1))
    clear hok
    go_enter Try.func55, Try.ntmps55
    go_wp2_with fail
    refine HVL.out.mono ?_
    rintro e w1 ⟨rfl, hb1⟩
    have HB1 := Lib.hid hb1
    clear hb1 HV HVL
    go_wp2_with fail
    go_ret2
    exact ⟨by rw [HF.out]; rfl, HB1.out⟩

end Go.Proofs.Ytagibgphegoagaa
