/- The model's MedianIndex, by its contract. -/
import Derived.Test.YtipdfmedbcafpaaSMed
namespace Go.Proofs.Ytipdfmedbcafpaa
open Go.RowKit P El Qk
set_option linter.unusedVariables false

set_option maxRecDepth 100000 in
theorem specMed_any (b o c : Nat) (l : List Int) (w : World) (hv : FlatAt w (.slice (some ⟨b, o, none⟩) l.length c) l.length (ints l)) (hn : l.length ≤ 1048576) :
    Calls Try.prog 54 #[.slice (some ⟨b, o, none⟩) l.length c] w fun e w' => e = .returned (.tuple #[.int .i64 (medAll l).1, .bool (medAll l).2]) ∧ Below w.heap.size w w' := by
  have HV := Lib.hid (l2List_any _ l w hv hn)
  by_cases hok : OkL l
  · rw [decide_eq_true hok] at HV
    by_cases h0 : l.length = 0
    · have HN := Lib.hid (medAll_no (l := l) (fun h => by omega))
      obtain rfl := List.eq_nil_of_length_eq_zero h0
      clear hok hv h0
      rw [List.length_nil] at HV ⊢
      go_enter Try.func54, Try.ntmps54
      go_wp2_with fail
      refine HV.out.mono ?_
      rintro e w1 ⟨rfl, hb1⟩
      have HB1 := Lib.hid hb1
      clear hb1 HV
      go_wp2_with fail
      go_ret2
      exact ⟨by rw [HN.out]; rfl, HB1.out⟩
    · have hl0 : 0 < l.length := by omega
      have h0z : ((l.length : Int) == 0) = false := beq_eq_false_iff_ne.2 (by omega)
      have h0z2 : ¬ (l.length : Int) = 0 := by omega
      have HF := Lib.hid (medAll_yes ⟨hok, hl0⟩)
      have HS := Lib.hid (FlatRd.of_flat hv)
      have HM := Lib.hid (fun W (h : FlatRd W b o (ints l)) => smedR_any (c := c) (n := l.length) W h rfl hn hl0)
      clear hok hv h0
      go_enter Try.func54, Try.ntmps54
      go_wp2_with fail
      refine HV.out.mono ?_
      rintro e w1 ⟨rfl, hb1⟩
      have HS1 := Lib.hid (HS.out.below hb1)
      have HB1 := Lib.hid hb1
      clear hb1 HV HS
      go_wp2_with fail
      refine (HM.out _ HS1.out).mono ?_
      rintro e w2 ⟨rfl, hb2⟩
      have HB2 := Lib.hid (HB1.out.trans (hb2.mono HB1.out.size))
      clear hb2
      go_wp2_with fail
      go_ret2
      exact ⟨by rw [HF.out]; rfl, HB2.out⟩
  · rw [decide_eq_false hok] at HV
    have HN := Lib.hid (medAll_no (l := l) (fun h => hok h.1))
    clear hok hv
    go_enter Try.func54, Try.ntmps54
    go_wp2_with fail
    refine HV.out.mono ?_
    rintro e w1 ⟨rfl, hb1⟩
    have HB1 := Lib.hid hb1
    clear hb1 HV
    go_wp2_with fail
    go_ret2
    exact ⟨by rw [HN.out]; rfl, HB1.out⟩

end Go.Proofs.Ytipdfmedbcafpaa
