/- The model's QuickSort, by its contract. -/
import Derived.Test.YtipdfmedbcafpaaSQs
namespace Go.Proofs.Ytipdfmedbcafpaa
open Go.RowKit P El Qk
set_option linter.unusedVariables false

set_option maxRecDepth 100000 in
set_option maxHeartbeats 4000000 in
theorem specQk_any (b o c : Nat) (l : List Int) (w : World) (hv : FlatAt w (.slice (some ⟨b, o, none⟩) l.length c) l.length (ints l)) (hn : l.length ≤ 1048576) :
    Calls Try.prog 49 #[.slice (some ⟨b, o, none⟩) l.length c] w (RetI1 (qsAll l) w) := by
  have HV := Lib.hid (l2List_any _ l w hv hn)
  have HNONE : Hid (¬ OkL l → ∀ w1, Below w.heap.size w w1 → RetI1 (qsAll l) w (.returned (.tuple #[.slice (some ⟨w1.heap.size, 0, none⟩) 0 0, .int .i64 0, .bool false])) (w1.alloc (.cells #[] 3))) := Lib.hid (fun h w1 hb => by rw [qsAll_no h]; exact RetI1.none w w1 hb)
  by_cases hok : OkL l
  · rw [decide_eq_true hok] at HV
    have HF := Lib.hid (qsAll_yes hok)
    have HOWN := Lib.hid (fun W (h : FlatAt W (.slice (some ⟨b, o, none⟩) l.length c) l.length (ints l)) => l1Own_any b o c l W h hn)
    have h64 := hok.1
    have HTH := Lib.hid (fun (g cap : Nat) W (h : CellRow W g (ints l)) (hc : l.length ≤ cap) => sqs_any l.length g 0 cap l.length l W (Seg.of_row h) rfl (Nat.le_refl _) h64 hc)
    have HLN : Hid ((qs l.length l).1.length = l.length) := Lib.hid (by rw [(qs_spec _ l (Nat.le_refl _)).1, srt_length])
    have HQF : Hid (qsF l = qs l.length l) := Lib.hid rfl
    rw [HQF.out] at HF
    have HFV := Lib.hid hv
    clear hok hv HNONE
    clear HQF
    generalize qs l.length l = R at *
    obtain ⟨M, q⟩ := R
    simp only at HF HTH HLN
    go_enter Try.func49, Try.ntmps49
    go_wp2_with fail
    refine HV.out.mono ?_
    rintro e w1 ⟨rfl, hb1⟩
    have HV1 := Lib.hid (HFV.out.below hb1)
    have HB1 := Lib.hid hb1
    clear hb1 HV HFV
    go_wp2_with fail
    refine (HOWN.out _ HV1.out).mono ?_
    rintro e w2 ⟨g, cap, rfl, hcap, hg, hrow, hb2⟩
    have HG : Hid (w.heap.size ≤ g) := Lib.hid (Nat.le_trans HB1.out.size hg)
    have HCAP := Lib.hid hcap
    have HB2 := Lib.hid (HB1.out.trans (hb2.mono HB1.out.size))
    have HS := Lib.hid (HTH.out g cap w2 hrow hcap)
    clear hb2 hrow HOWN HV1 hg hcap HTH HB1
    go_wp2_with fail
    refine HS.out.mono ?_
    rintro e w3 ⟨rfl, hr3, hb3⟩
    have HRES : Hid (RetI1 (qsAll l) w (.returned (.tuple #[.slice (some ⟨g, 0, none⟩) l.length cap, .int .i64 (q : Int), .bool true])) w3) := Lib.hid (by
      rw [HF.out]
      exact ⟨g, cap, by simp only; rw [HLN.out], by simp only; rw [HLN.out]; exact HCAP.out, HG.out, hr3.row, HB2.out.trans (hb3.below HG.out HB2.out.size)⟩)
    clear hr3 hb3 HS
    go_wp2_with fail
    go_ret3
    exact HRES.out
  · rw [decide_eq_false hok] at HV
    have HN := Lib.hid (HNONE.out hok)
    clear hok HNONE hv
    go_enter Try.func49, Try.ntmps49
    go_wp2_with fail
    refine HV.out.mono ?_
    rintro e w1 ⟨rfl, hb1⟩
    have HRES := Lib.hid (HN.out w1 hb1)
    clear hb1 HV HN
    go_wp2_with fail
    go_ret3
    exact HRES.out

end Go.Proofs.Ytipdfmedbcafpaa
