/- The program's ShellSort, by its contract. -/
import Derived.Test.YtjmmhakmidddoaaIInsF
import Derived.Test.YtjmmhakmidddoaaGap
namespace Go.Proofs.Ytjmmhakmidddoaa
open Go.RowKit P El
set_option linter.unusedVariables false

set_option maxRecDepth 100000 in
set_option maxHeartbeats 4000000 in
theorem implShell_any (b o c : Nat) (l : List Int) (v : Value) (gs : List Int) (w : World) (hv : FlatAt w (.slice (some ⟨b, o, none⟩) l.length c) l.length (ints l)) (hn : l.length ≤ 1048576) (hg : FlatAt w v gs.length (ints gs)) (hgn : gs.length ≤ 1048576) :
    Calls Try.prog 55 #[.slice (some ⟨b, o, none⟩) l.length c, v] w (RetI1 (shellAll l gs) w) := by
  have HV := Lib.hid hv
  have HGV := Lib.hid hg
  obtain ⟨ga, gc, rfl, _, _⟩ := hg
  clear hv
  by_cases hok : OkL l
  · have hd : decide (OkL l) = true := decide_eq_true hok
    have HI := Lib.hid (fun W (h : FlatAt W (.slice (some ⟨b, o, none⟩) l.length c) l.length (ints l)) => by have := implValidList_any _ l W h hn; rw [hd] at this; exact this)
    by_cases hgo : OkG gs
    · have hd2 : decide (OkG gs) = true := decide_eq_true hgo
      have HG := Lib.hid (fun W (h : FlatAt W (.slice ga gs.length gc) gs.length (ints gs)) => by have := implGaps_any _ gs W h hgn; rw [hd2] at this; exact this)
      have HCL := Lib.hid (fun W (h : FlatAt W (.slice (some ⟨b, o, none⟩) l.length c) l.length (ints l)) => counted_any b o c l W h hn)
      have HF := Lib.hid (shellAll_yes ⟨hok, hgo⟩)
      have HOG := Lib.hid hgo
      have h64 := hok.1
      clear hok hd hgo hd2
      go_enter Try.func55, Try.ntmps55
      go_wp2_with fail
      refine (HI.out _ HV.out).mono ?_
      rintro e w1 ⟨rfl, hb1⟩
      have HV1 := Lib.hid (HV.out.below hb1)
      have HGV1 := Lib.hid (HGV.out.below hb1)
      have HB1 := Lib.hid hb1
      clear hb1 HV HI HGV
      go_wp2_with fail
      refine (HG.out _ HGV1.out).mono ?_
      rintro e w2 ⟨rfl, hb2⟩
      have HV2 := Lib.hid (HV1.out.below hb2)
      have HGV2 := Lib.hid (HGV1.out.below hb2)
      have HB2 := Lib.hid (HB1.out.trans (hb2.mono HB1.out.size))
      clear hb2 HV1 HG HGV1 HB1
      go_wp2_with fail
      refine (HCL.out _ HV2.out).mono ?_
      rintro e w3 ⟨s, g, cap, rfl, hcn, hb3⟩
      have HB3 := Lib.hid (HB2.out.trans (hb3.mono HB2.out.size))
      have HIN := Lib.hid (insertAtGaps_any (.slice ga gs.length gc) gs w3 hcn (HGV2.out.below hb3) (fun bb oo n cc e => by
        obtain ⟨a0, c0, e0, _, h⟩ := HGV2.out
        simp at e0
        obtain ⟨rfl, rfl⟩ := e0
        simp at e
        obtain ⟨rfl, _⟩ := e
        obtain ⟨b', o', e', hlt, _⟩ := h 0 _ (ints_at (at_getD (l := gs) (k := 0) (by have := HOG.out.1; omega)))
        simp at e'
        obtain ⟨rfl, rfl⟩ := e'
        have h1 := hcn.bs
        have h2 := hcn.bg
        omega) h64 HOG.out.2.1 HOG.out.2.2.1 rfl rfl)
      have HLO : Hid (w.heap.size ≤ s ∧ w.heap.size ≤ g) := Lib.hid ⟨Nat.le_trans HB2.out.size hcn.bs, Nat.le_trans HB2.out.size hcn.bg⟩
      clear hb3 hcn HCL HV2 HGV2 HB2
      go_wp2_with fail
      refine (HIN.out).mono ?_
      rintro e w4 ⟨rfl, hcn, hbut⟩
      obtain ⟨hs0, hs1, _⟩ := hcn.c0
      have HB4 := Lib.hid (HB3.out.trans (hbut.below HLO.out.1 HLO.out.2 HB3.out.size))
      have HRES : Hid (∀ n, RetI1 (shellAll l gs) w (.returned (.tuple #[.slice (some ⟨g, 0, none⟩) (gapsF (gs.map Int.toNat) (l, 0, 0)).1.length cap, .int .i64 ((gapsF (gs.map Int.toNat) (l, 0, 0)).2.1 : Nat), .bool true])) (w4.drewN n)) := Lib.hid (fun n => by
        rw [HF.out]
        exact ⟨g, cap, rfl, hcn.cap, HLO.out.2, hcn.row.same rfl (Nat.le_refl _), HB4.out.trans ⟨rfl, rfl, rfl, Nat.le_refl _, fun _ _ => rfl⟩⟩)
      clear hcn hbut HB4 HB3 HIN HLO HF
      generalize gapsF (gs.map Int.toNat) (l, 0, 0) = R at *
      go_wp2_with fail
      go_quiet (fail)
      go_wp2_with fail
      go_ret3
      exact HRES.out _
    · have hd2 : decide (OkG gs) = false := decide_eq_false hgo
      have HG := Lib.hid (fun W (h : FlatAt W (.slice ga gs.length gc) gs.length (ints gs)) => by have := implGaps_any _ gs W h hgn; rw [hd2] at this; exact this)
      have HF := Lib.hid (shellAll_no (fun h : OkL l ∧ OkG gs => hgo h.2))
      clear hok hd hgo hd2
      go_enter Try.func55, Try.ntmps55
      go_wp2_with fail
      refine (HI.out _ HV.out).mono ?_
      rintro e w1 ⟨rfl, hb1⟩
      have HGV1 := Lib.hid (HGV.out.below hb1)
      have HB1 := Lib.hid hb1
      clear hb1 HV HI HGV
      go_wp2_with fail
      refine (HG.out _ HGV1.out).mono ?_
      rintro e w2 ⟨rfl, hb2⟩
      have HRES : Hid (RetI1 (shellAll l gs) w (.returned (.tuple #[.slice (some ⟨w2.heap.size, 0, none⟩) 0 0, .int .i64 0, .bool false])) (w2.alloc (.cells #[] 3))) := Lib.hid (by rw [HF.out]; exact RetI1.none w w2 (HB1.out.trans (hb2.mono HB1.out.size)))
      clear hb2 HG
      go_wp2_with fail
      go_ret3
      exact HRES.out
  · have hd : decide (OkL l) = false := decide_eq_false hok
    have HI := Lib.hid (fun W (h : FlatAt W (.slice (some ⟨b, o, none⟩) l.length c) l.length (ints l)) => by have := implValidList_any _ l W h hn; rw [hd] at this; exact this)
    have HF := Lib.hid (shellAll_no (fun h : OkL l ∧ OkG gs => hok h.1))
    clear hok hd
    go_enter Try.func55, Try.ntmps55
    go_wp2_with fail
    refine (HI.out _ HV.out).mono ?_
    rintro e w1 ⟨rfl, hb1⟩
    have HRES : Hid (RetI1 (shellAll l gs) w (.returned (.tuple #[.slice (some ⟨w1.heap.size, 0, none⟩) 0 0, .int .i64 0, .bool false])) (w1.alloc (.cells #[] 3))) := Lib.hid (by rw [HF.out]; exact RetI1.none w w1 hb1)
    clear hb1 HI
    go_wp2_with fail
    go_ret3
    exact HRES.out

end Go.Proofs.Ytjmmhakmidddoaa
