/- The model's ShellSort, by its contract. -/
import Derived.Test.YtjmmhakmidddoaaSIns
import Derived.Test.YtjmmhakmidddoaaOwnI
import Derived.Test.YtjmmhakmidddoaaRet12
import Derived.Test.YtjmmhakmidddoaaGap
namespace Go.Proofs.Ytjmmhakmidddoaa
open Go.RowKit P El
set_option linter.unusedVariables false

/-- The loop over the gaps. -/
structure ShW (base g : Nat) (gs l : List Int) (j : Nat) (M : List Int) (c : Nat) (w W : World) : Prop where
  run : ∃ m, gapsF ((gs.drop j).map Int.toNat) (M, c, m) = gapsF (gs.map Int.toNat) (l, 0, 0)
  len : M.length = l.length
  le : j ≤ gs.length
  cb : c ≤ 4096 * j
  row : CellRow W g (ints M)
  b : Below base w W

set_option maxRecDepth 100000 in
set_option maxHeartbeats 4000000 in
theorem specShell_any (b o c : Nat) (l : List Int) (v : Value) (gs : List Int) (w : World) (hv : FlatAt w (.slice (some ⟨b, o, none⟩) l.length c) l.length (ints l)) (hn : l.length ≤ 1048576) (hg : FlatAt w v gs.length (ints gs)) (hgn : gs.length ≤ 1048576) :
    Calls Try.prog 56 #[.slice (some ⟨b, o, none⟩) l.length c, v] w (RetI1 (shellAll l gs) w) := by
  have HV := Lib.hid hv
  have HGV := Lib.hid hg
  obtain ⟨ga, gc, rfl, _, _⟩ := hg
  clear hv
  by_cases hok : OkL l
  · have hd : decide (OkL l) = true := decide_eq_true hok
    have HI := Lib.hid (fun W (h : FlatAt W (.slice (some ⟨b, o, none⟩) l.length c) l.length (ints l)) => by have := l2List_any _ l W h hn; rw [hd] at this; exact this)
    by_cases hgo : OkG gs
    · have hd2 : decide (OkG gs) = true := decide_eq_true hgo
      have HG := Lib.hid (fun W (h : FlatAt W (.slice ga gs.length gc) gs.length (ints gs)) => by have := specGaps_any _ gs W h hgn; rw [hd2] at this; exact this)
      have HOWN := Lib.hid (fun W (h : FlatAt W (.slice (some ⟨b, o, none⟩) l.length c) l.length (ints l)) => l1Own_any b o c l W h hn)
      have HF := Lib.hid (shellAll_yes ⟨hok, hgo⟩)
      have HOG := Lib.hid hgo
      have h64 := hok.1
      have hg10 := hgo.2.1
      clear hok hd hgo hd2
      go_enter Try.func56, Try.ntmps56
      go_wp2_with fail
      refine (HI.out _ HV.out).mono ?_
      rintro e w1 ⟨rfl, hb1⟩
      have HV1 := Lib.hid (HV.out.below hb1)
      have HGV1 := Lib.hid (HGV.out.below hb1)
      have HB1 := Lib.hid hb1
      clear hb1 HV HI HGV
      go_wp2_with fail
      refine (HG.out _ HGV1.out).mono ?_
      rintro e w2 ⟨rfl, hb2⟩
      have HV2 := Lib.hid (HV1.out.below hb2)
      have HGV2 := Lib.hid (HGV1.out.below hb2)
      have HB2 := Lib.hid (HB1.out.trans (hb2.mono HB1.out.size))
      clear hb2 HV1 HG HGV1 HB1
      go_wp2_with fail
      refine (HOWN.out _ HV2.out).mono ?_
      rintro e w3 ⟨g, cap, rfl, hcap, hg, hrow, hb3⟩
      have HS0 : Hid (ShW w2.heap.size g gs l 0 l 0 w2 w3) := Lib.hid ⟨⟨0, rfl⟩, rfl, Nat.zero_le _, Nat.zero_le _, hrow, hb3⟩
      have HGC : Hid (∀ (j : Nat) x, gs[j]? = some x → ∃ bb oo, ga = some ⟨bb, oo, none⟩ ∧ bb < w2.heap.size ∧ w2.cell? ⟨bb, oo + j, none⟩ = some (.int .i64 x)) := Lib.hid (fun j x hj => by
        obtain ⟨a0, c0, e0, _, h⟩ := HGV2.out
        simp at e0
        obtain ⟨rfl, rfl⟩ := e0
        exact h _ _ (ints_at hj))
      have HGLO := Lib.hid hg
      have HWG : Hid (w.heap.size ≤ g) := Lib.hid (Nat.le_trans HB2.out.size hg)
      clear hb3 hrow HOWN HV2 hg HGV2
      go_wp2_with fail
      go_loopw [8, 9, 10] (fun cv jv _ wr => ∃ (j : Nat) (M : List Int) (c : Nat), cv = .int .i64 c ∧ jv = .int .i64 j ∧ ShW w2.heap.size g gs l j M c w2 wr) (fun _ jv _ _ => gs.length - (intOf jv).toNat)
      case atStart => exact ⟨0, l, 0, rfl, rfl, HS0.out⟩
      case round =>
        obtain ⟨j, M, d, rfl, rfl, ho⟩ := hrel
        have HO := Lib.hid ho
        have hjl := ho.le
        have hdb : d ≤ 50000 := by have := ho.cb; omega
        have hlM := ho.len
        clear ho HS0
        by_cases hlt : j < gs.length
        · obtain ⟨x, hx⟩ : ∃ x, gs[j]? = some x := ⟨_, List.getElem?_eq_getElem hlt⟩
          obtain ⟨hx1, hx2⟩ := HOG.out.2.2.1 x (List.mem_of_getElem? hx)
          obtain ⟨gap, rfl⟩ : ∃ gap : Nat, x = gap := ⟨x.toNat, by omega⟩
          obtain ⟨bb, oo, rfl, hbb, hcg⟩ := HGC.out j _ hx
          have hcx : wr.cell? ⟨bb, oo + j, none⟩ = some (.int .i64 (gap : Int)) := (HO.out.b.cell (p := ⟨bb, oo + j, none⟩) hbb).trans hcg
          have HIN := Lib.hid (l4Insert_any g cap gap M wr HO.out.row (by omega) (by omega) (by omega))
          rw [hlM] at HIN
          have hgb := gapF_bounds (M, 0, 0) gap (by simp only; omega)
          have hgl := gapF_length (M, 0, 0) gap
          have HSTEP : Hid (∀ m, gapsF ((gs.drop j).map Int.toNat) (M, d, m) = gapsF ((gs.drop (j + 1)).map Int.toNat) ((gapF (M, 0, 0) gap).1, d + (gapF (M, 0, 0) gap).2.1, m + (gapF (M, 0, 0) gap).2.2)) := Lib.hid (fun m => by
            obtain ⟨h1, h2⟩ := List.getElem?_eq_some_iff.1 hx
            rw [List.drop_eq_getElem_cons h1, h2, ← gapF_from]; rfl)
          generalize gapF (M, 0, 0) gap = R at *
          simp only at hgb hgl
          have hR1 : R.2.1 ≤ 4096 := by omega
          have hjz : (j : Int) < gs.length := by omega
          have HLM := Lib.hid hlM
          have HGL := Lib.hid hgl
          clear hx hx1 hx2 hcg hgb hgl hlM
          go_wp2_with fail
          refine (HIN.out).mono ?_
          rintro e w4 ⟨rfl, hrow, hbut⟩
          have HN : Hid (ShW w2.heap.size g gs l (j + 1) R.1 (d + R.2.1) w2 w4) := Lib.hid (by
            obtain ⟨m, hm⟩ := HO.out.run
            rw [HSTEP.out m] at hm
            have hc := HO.out.cb
            exact ⟨⟨_, hm⟩, by rw [HGL.out]; exact HLM.out, by omega, by omega, hrow, HO.out.b.trans (hbut.below HGLO.out HO.out.b.size)⟩)
          clear hrow hbut HIN hcx
          go_wp2_with fail
          go_roundw
          case rel => exact ⟨j + 1, _, d + R.2.1, by go_num, by go_num, HN.out⟩
          case measure => simp [intOf]; omega
        · have HRES : Hid (RetI1 (shellAll l gs) w (.returned (.tuple #[.slice (some ⟨g, 0, none⟩) l.length cap, .int .i64 (d : Int), .bool true])) wr) := Lib.hid (by
            obtain ⟨m, hm⟩ := HO.out.run
            rw [List.drop_of_length_le (by omega)] at hm
            have hm2 : (M, d, m) = gapsF (gs.map Int.toNat) (l, 0, 0) := hm
            rw [HF.out, ← hm2]
            exact ⟨g, cap, by rw [hlM], by simp only; rw [hlM]; exact hcap, HWG.out, HO.out.row, HB2.out.trans (HO.out.b.mono HB2.out.size)⟩)
          clear hlM
          go_wp2_with fail
          go_ret3
          exact HRES.out
    · have hd2 : decide (OkG gs) = false := decide_eq_false hgo
      have HG := Lib.hid (fun W (h : FlatAt W (.slice ga gs.length gc) gs.length (ints gs)) => by have := specGaps_any _ gs W h hgn; rw [hd2] at this; exact this)
      have HF := Lib.hid (shellAll_no (fun h : OkL l ∧ OkG gs => hgo h.2))
      clear hok hd hgo hd2
      go_enter Try.func56, Try.ntmps56
      go_wp2_with fail
      refine (HI.out _ HV.out).mono ?_
      rintro e w1 ⟨rfl, hb1⟩
      have HGV1 := Lib.hid (HGV.out.below hb1)
      have HB1 := Lib.hid hb1
      clear hb1 HV HI HGV
      go_wp2_with fail
      refine (HG.out _ HGV1.out).mono ?_
      rintro e w2 ⟨rfl, hb2⟩
      have HRES : Hid (RetI1 (shellAll l gs) w (.returned (.tuple #[.slice (some ⟨w2.heap.size, 0, none⟩) 0 0, .int .i64 0, .bool false])) (w2.alloc (.cells #[] 3))) := Lib.hid (by rw [HF.out]; exact RetI1.none w w2 (HB1.out.trans (hb2.mono HB1.out.size)))
      clear hb2 HG
      go_wp2_with fail
      go_ret3
      exact HRES.out
  · have hd : decide (OkL l) = false := decide_eq_false hok
    have HI := Lib.hid (fun W (h : FlatAt W (.slice (some ⟨b, o, none⟩) l.length c) l.length (ints l)) => by have := l2List_any _ l W h hn; rw [hd] at this; exact this)
    have HF := Lib.hid (shellAll_no (fun h : OkL l ∧ OkG gs => hok h.1))
    clear hok hd
    go_enter Try.func56, Try.ntmps56
    go_wp2_with fail
    refine (HI.out _ HV.out).mono ?_
    rintro e w1 ⟨rfl, hb1⟩
    have HRES : Hid (RetI1 (shellAll l gs) w (.returned (.tuple #[.slice (some ⟨w1.heap.size, 0, none⟩) 0 0, .int .i64 0, .bool false])) (w1.alloc (.cells #[] 3))) := Lib.hid (by rw [HF.out]; exact RetI1.none w w1 hb1)
    clear hb1 HI
    go_wp2_with fail
    go_ret3
    exact HRES.out

end Go.Proofs.Ytjmmhakmidddoaa
