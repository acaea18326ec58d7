/- The model's MedianOfMedians, by its contract. -/
import Derived.Test.YtagibgphegoagaaSPiv
namespace Go.Proofs.Ytagibgphegoagaa
open Go.RowKit P El Qk Sl
set_option linter.unusedVariables false

set_option maxRecDepth 100000 in
set_option maxHeartbeats 4000000 in
theorem specMom_any (b o c : Nat) (l : List Int) (w : World) (hv : FlatAt w (.slice (some ⟨b, o, none⟩) l.length c) l.length (ints l)) (hn : l.length ≤ 1048576) :
    Calls Try.prog 54 #[.slice (some ⟨b, o, none⟩) l.length c] w fun e w' => e = .returned (.tuple #[.int .i64 (momAll l).1, .bool (momAll l).2]) ∧ Below w.heap.size w w' := by
  have HVL := Lib.hid (l2List_any _ l w hv hn)
  have HV := Lib.hid hv
  clear hv
  by_cases hok : OkL l
  · rw [decide_eq_true hok] at HVL
    by_cases h0 : 0 < l.length
    · have hz : ((l.length : Int) == 0) = false := by rw [beq_eq_false_iff_ne]; omega
      have hne : ¬ l.length = 0 := by omega
      have HF := Lib.hid (momAll_yes ⟨hok, h0⟩)
      have HM := Lib.hid (fun W (h : FlatAt W (.slice (some ⟨b, o, none⟩) l.length c) l.length (ints l)) => l9Pivot_any b o c l W h hok.1 (fun e => by rw [e] at h0; simp at h0))
      clear hok h0
      go_enter Try.func54, Try.ntmps54
      go_wp2_with fail
      refine HVL.out.mono ?_
      rintro e w1 ⟨rfl, hb1⟩
      have HV1 := Lib.hid (HV.out.below hb1)
      have HB1 := Lib.hid hb1
      clear hb1 HV HVL
      go_wp2_with fail
      refine (HM.out _ HV1.out).mono ?_
      rintro e w2 ⟨rfl, hb2⟩
      have HB2 := Lib.hid (HB1.out.trans (hb2.mono HB1.out.size))
      clear hb2 HM HV1 HB1
      go_wp2_with fail
      go_ret2
      exact ⟨by rw [HF.out]; rfl, HB2.out⟩
    · have HF := Lib.hid (momAll_no (l := l) (fun h => h0 h.2))
      obtain rfl : l = [] := List.eq_nil_of_length_eq_zero (by omega)
      clear hok h0
      rw [List.length_nil] at HVL HV ⊢
      go_enter Try.func54, Try.ntmps54
      go_wp2_with fail
      refine HVL.out.mono ?_
      rintro e w1 ⟨rfl, hb1⟩
      have HB1 := Lib.hid hb1
      clear hb1 HV HVL
      go_wp2_with fail
      go_ret2
      exact ⟨by rw [HF.out]; rfl, HB1.out⟩
  · rw [decide_eq_false hok] at HVL
    have HF := Lib.hid (momAll_no (l := l) (fun h => hok h.1))
    clear hok
    go_enter Try.func54, Try.ntmps54
    go_wp2_with fail
    refine HVL.out.mono ?_
    rintro e w1 ⟨rfl, hb1⟩
    have HB1 := Lib.hid hb1
    clear hb1 HV HVL
    go_wp2_with fail
    go_ret2
    exact ⟨by rw [HF.out]; rfl, HB1.out⟩

end Go.Proofs.Ytagibgphegoagaa
