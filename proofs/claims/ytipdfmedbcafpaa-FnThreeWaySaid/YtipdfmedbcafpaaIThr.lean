/- The program's three-way partition, in place and of a copy, by contracts. -/
import Derived.Test.YtipdfmedbcafpaaQuickA
import Derived.Test.YtipdfmedbcafpaaIExch
import Derived.Test.YtipdfmedbcafpaaIList
import Derived.Test.YtipdfmedbcafpaaCloneI
import Derived.Test.YtipdfmedbcafpaaRet12
import Derived.Test.YtipdfmedbcafpaaRes4
namespace Go.Proofs.Ytipdfmedbcafpaa
open Go.RowKit P El Qk
set_option linter.unusedVariables false

set_option maxRecDepth 100000 in
set_option maxHeartbeats 8000000 in
theorem ithree_any {g o c n : Nat} {L : List Int} (x : Int) (w : World) (h : Seg w g o (ints L)) (hL : L.length = n) (hn : n ≤ 1048576) :
    Calls Try.prog 97 #[.slice (some ⟨g, o, none⟩) n c, .int .i64 x] w fun e w' => e = .returned (.tuple #[.int .i64 (((thF L x).2.1 : Nat) : Int), .int .i64 (((thF L x).2.2 : Nat) : Int)]) ∧ SegP g o n (thF L x).1 w w' := by
  have HSW := Lib.hid (fun (i k : Nat) (M : List Int) W (h : Seg W g o (ints M)) (hM : M.length = n) (hi : i < n) (hk : k < n) => iexch_any (c := c) i k W h hM hn hi hk)
  have HT0 : Hid (Thr L x L 0 0 n) := Lib.hid (hL ▸ Thr.start L x)
  obtain ⟨R, hR⟩ : ∃ R, thF L x = R := ⟨_, rfl⟩
  have HR0 : Hid (th x L 0 0 n = R) := Lib.hid (by rw [← hR, ← hL]; rfl)
  have HS0 := Lib.hid h
  have HL := Lib.hid hL
  rw [hR]
  clear hR h hL
  go_enter Try.func97, Try.ntmps97
  go_wp2_with fail
  go_loopw [6, 7, 8] (fun lv iv gv wr => ∃ (lt i gt : Nat) (M : List Int), lv = .int .i64 (lt : Int) ∧ iv = .int .i64 (i : Int) ∧ gv = .int .i64 (gt : Int) ∧ th x M lt i gt = R ∧ Thr L x M lt i gt ∧ Seg wr g o (ints M) ∧ ButS g o n w wr) (fun _ iv gv _ => (intOf gv).toNat - (intOf iv).toNat)
  case atStart => exact ⟨0, 0, n, L, rfl, rfl, rfl, HR0.out, HT0.out, HS0.out, ButS.refl _ _ _ _⟩
  case round =>
    obtain ⟨lt, i, gt, M, rfl, rfl, rfl, hr, hT, hg, hb⟩ := hrel
    have HRR := Lib.hid hr
    have HT := Lib.hid hT
    have HG := Lib.hid hg
    have HB := Lib.hid hb
    have HML : Hid (M.length = n) := Lib.hid (hT.perm.length_eq.trans HL.out)
    have hlti := hT.h1
    have hig := hT.h2
    have hgn : gt ≤ n := by have := hT.h3; rw [HL.out] at this; exact this
    clear hr hT hg hb HR0 HT0 HS0
    by_cases hlt : i < gt
    · have hltd : decide ((i : Int) < (gt : Int)) = true := decide_eq_true (by omega)
      have hin : i < n := by omega
      have hiz : (i : Int) < (n : Int) := by omega
      obtain ⟨y, hy⟩ : ∃ y, y = M.getD i 0 := ⟨_, rfl⟩
      obtain ⟨hcy, _⟩ := HG.out.at (k := i) (by rw [HML.out]; exact hin)
      rw [← hy] at hcy
      by_cases h1 : y < x
      · have hd : decide (y < x) = true := decide_eq_true h1
        have HN := Lib.hid (HT.out.less hlt (by rw [← hy]; exact h1))
        have HRN : Hid (th x (swapped M i lt) (lt + 1) (i + 1) gt = R) := Lib.hid (by rw [← th_lt hlt (by rw [← hy]; exact h1)]; exact HRR.out)
        have HS := Lib.hid (HSW.out i lt M wr HG.out HML.out hin (by omega))
        clear hy HSW HT HRR HG
        go_wp2_with fail
        refine HS.out.mono ?_
        rintro e w2 ⟨rfl, hr2, hb2⟩
        have HR2 := Lib.hid hr2
        have HB2 := Lib.hid (HB.out.trans hb2)
        clear hr2 hb2 HS HB
        go_wp2_with fail
        go_roundw
        case rel => exact ⟨lt + 1, i + 1, gt, _, by go_num, by go_num, rfl, HRN.out, HN.out, HR2.out, HB2.out⟩
        case measure => simp [intOf]; omega
      · have hd : decide (y < x) = false := decide_eq_false h1
        by_cases h2 : x < y
        · have hd2 : decide (x < y) = true := decide_eq_true h2
          have HN := Lib.hid (HT.out.more hlt (by rw [← hy]; exact h2))
          have HRN : Hid (th x (swapped M i (gt - 1)) lt i (gt - 1) = R) := Lib.hid (by rw [← th_gt hlt (by rw [← hy]; exact h2)]; exact HRR.out)
          have HS := Lib.hid (HSW.out i (gt - 1) M wr HG.out HML.out hin (by omega))
          obtain ⟨g1, hg1⟩ : ∃ g1, g1 = gt - 1 := ⟨_, rfl⟩
          rw [← hg1] at HN HRN HS
          have hwg : IntKind.i64.wrap ((gt : Int) - 1) = (g1 : Int) := by rw [IntKind.wrap_i64]; omega
          have HG1 : Hid (g1 + 1 = gt) := Lib.hid (by omega)
          clear hy HSW HT HRR HG hg1
          go_wp2_with fail
          refine HS.out.mono ?_
          rintro e w2 ⟨rfl, hr2, hb2⟩
          have HR2 := Lib.hid hr2
          have HB2 := Lib.hid (HB.out.trans hb2)
          clear hr2 hb2 HS HB
          go_wp2_with fail
          go_roundw
          case rel => exact ⟨lt, i, g1, _, rfl, rfl, rfl, HRN.out, HN.out, HR2.out, HB2.out⟩
          case measure => have := HG1.out; simp [intOf]; omega
        · have hd2 : decide (x < y) = false := decide_eq_false h2
          have HN := Lib.hid (HT.out.same hlt (by rw [← hy]; exact h1) (by rw [← hy]; exact h2))
          have HRN : Hid (th x M lt (i + 1) gt = R) := Lib.hid (by rw [← th_eq hlt (by rw [← hy]; exact h1) (by rw [← hy]; exact h2)]; exact HRR.out)
          clear hy HSW HT HRR
          go_wp2_with fail
          go_roundw
          case rel => exact ⟨lt, i + 1, gt, M, rfl, by go_num, rfl, HRN.out, HN.out, HG.out, HB.out⟩
          case measure => simp [intOf]; omega
    · have hltd : decide ((i : Int) < (gt : Int)) = false := decide_eq_false (by omega)
      have HE : Hid ((M, lt, gt) = R) := Lib.hid (by rw [← HRR.out, th_end hlt])
      have HRES : Hid (Ending.returned (.tuple #[.int .i64 (lt : Int), .int .i64 (gt : Int)]) = .returned (.tuple #[.int .i64 ((R.2.1 : Nat) : Int), .int .i64 ((R.2.2 : Nat) : Int)]) ∧ SegP g o n R.1 w wr) := Lib.hid (by rw [← HE.out]; exact ⟨rfl, HG.out, HB.out⟩)
      clear HSW HT HRR
      go_wp2_with fail
      go_ret2
      exact HRES.out

set_option maxRecDepth 100000 in
set_option maxHeartbeats 4000000 in
theorem implThr_any (b o c : Nat) (l : List Int) (x : Int) (w : World) (hv : FlatAt w (.slice (some ⟨b, o, none⟩) l.length c) l.length (ints l)) (hn : l.length ≤ 1048576) :
    Calls Try.prog 42 #[.slice (some ⟨b, o, none⟩) l.length c, .int .i64 x] w (RetI2 (thAll l x) w) := by
  have HV := Lib.hid (implValidList_any _ l w hv hn)
  have HNONE : Hid (¬ OkL l → ∀ w1, Below w.heap.size w w1 → RetI2 (thAll l x) w (.returned (.tuple #[.slice (some ⟨w1.heap.size, 0, none⟩) 0 0, .int .i64 0, .int .i64 0, .bool false])) (w1.alloc (.cells #[] 3))) := Lib.hid (fun h w1 hb => by rw [thAll_no h]; exact RetI2.none w w1 hb)
  by_cases hok : OkL l
  · rw [decide_eq_true hok] at HV
    have HF := Lib.hid (thAll_yes (x := x) hok)
    have HOWN := Lib.hid (fun W (h : FlatAt W (.slice (some ⟨b, o, none⟩) l.length c) l.length (ints l)) => cloneInts_any b o c l W h hn)
    have HTH := Lib.hid (fun (g cap : Nat) W (h : CellRow W g (ints l)) => ithree_any (c := cap) (n := l.length) x W (Seg.of_row h) rfl hn)
    have HLN : Hid ((thF l x).1.length = l.length) := Lib.hid (thF_length l x)
    have HFV := Lib.hid hv
    clear hok hv HNONE
    generalize thF l x = R at *
    obtain ⟨M, lt, gt⟩ := R
    simp only at HF HTH HLN
    go_enter Try.func42, Try.ntmps42
    go_wp2_with fail
    refine HV.out.mono ?_
    rintro e w1 ⟨rfl, hb1⟩
    have HV1 := Lib.hid (HFV.out.below hb1)
    have HB1 := Lib.hid hb1
    clear hb1 HV HFV
    go_wp2_with fail
    refine (HOWN.out _ HV1.out).mono ?_
    rintro e w2 ⟨g, cap, rfl, hcap, hg, hrow, hb2⟩
    have HG : Hid (w.heap.size ≤ g) := Lib.hid (Nat.le_trans HB1.out.size hg)
    have HCAP := Lib.hid hcap
    have HB2 := Lib.hid (HB1.out.trans (hb2.mono HB1.out.size))
    have HS := Lib.hid (HTH.out g cap w2 hrow)
    clear hb2 hrow HOWN HV1 hg hcap HTH HB1
    go_wp2_with fail
    refine HS.out.mono ?_
    rintro e w3 ⟨rfl, hr3, hb3⟩
    have HRES : Hid (RetI2 (thAll l x) w (.returned (.tuple #[.slice (some ⟨g, 0, none⟩) l.length cap, .int .i64 (lt : Int), .int .i64 (gt : Int), .bool true])) w3) := Lib.hid (by
      rw [HF.out]
      exact ⟨g, cap, by simp only; rw [HLN.out], by simp only; rw [HLN.out]; exact HCAP.out, HG.out, hr3.row, HB2.out.trans (hb3.below HG.out HB2.out.size)⟩)
    clear hr3 hb3 HS
    go_wp2_with fail
    refine bodyPost_ret (results_tmp4 rfl _ _ _) rfl ?_
    exact HRES.out
  · rw [decide_eq_false hok] at HV
    have HN := Lib.hid (HNONE.out hok)
    clear hok HNONE hv
    go_enter Try.func42, Try.ntmps42
    go_wp2_with fail
    refine HV.out.mono ?_
    rintro e w1 ⟨rfl, hb1⟩
    have HRES := Lib.hid (HN.out w1 hb1)
    clear hb1 HV HN
    go_wp2_with fail
    refine bodyPost_ret (results_tmp4 rfl _ _ _) rfl ?_
    exact HRES.out

end Go.Proofs.Ytipdfmedbcafpaa
