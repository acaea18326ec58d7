/- The model's InsertionSort, by its contract. -/
import Derived.Test.YtjmmhakmidddoaaSIns
import Derived.Test.YtjmmhakmidddoaaOwnI
import Derived.Test.YtjmmhakmidddoaaRet12
import Derived.Test.YtjmmhakmidddoaaInsP
namespace Go.Proofs.Ytjmmhakmidddoaa
open Go.RowKit P El

set_option maxRecDepth 100000 in
theorem specIns_any (b o c : Nat) (l : List Int) (w : World) (hv : FlatAt w (.slice (some ⟨b, o, none⟩) l.length c) l.length (ints l)) (hn : l.length ≤ 1048576) :
    Calls Try.prog 40 #[.slice (some ⟨b, o, none⟩) l.length c] w (RetI2 (insAll l) w) := by
  have HV := Lib.hid hv
  clear hv
  by_cases hok : OkL l
  · have hd : decide (OkL l) = true := decide_eq_true hok
    have HI := Lib.hid (fun W (h : FlatAt W (.slice (some ⟨b, o, none⟩) l.length c) l.length (ints l)) => by have := l2List_any _ l W h hn; rw [hd] at this; exact this)
    have HOWN := Lib.hid (fun W (h : FlatAt W (.slice (some ⟨b, o, none⟩) l.length c) l.length (ints l)) => l1Own_any b o c l W h hn)
    have HINS := Lib.hid (fun g cap W (h : CellRow W g (ints l)) => l4Insert_any g cap 1 l W h hok.1 (by omega) (by omega))
    have HF := Lib.hid (insAll_yes hok)
    clear hok hd
    go_enter Try.func40, Try.ntmps40
    go_wp2_with fail
    refine (HI.out _ HV.out).mono ?_
    rintro e w1 ⟨rfl, hb1⟩
    have HV1 := Lib.hid (HV.out.below hb1)
    have HB1 := Lib.hid hb1
    clear hb1 HV HI
    go_wp2_with fail
    refine (HOWN.out _ HV1.out).mono ?_
    rintro e w2 ⟨g, cap, rfl, hcap, hg, hrow, hb2⟩
    have HROW := Lib.hid hrow
    have HB2 := Lib.hid (HB1.out.trans (hb2.mono HB1.out.size))
    have HG : Hid (w.heap.size ≤ g) := Lib.hid (Nat.le_trans HB1.out.size hg)
    clear hrow hb2 hg HOWN HB1 HV1
    go_wp2_with fail
    refine (HINS.out g cap w2 HROW.out).mono ?_
    rintro e w3 ⟨rfl, hrow, hbut⟩
    have HRES : Hid (RetI2 (insAll l) w (.returned (.tuple #[.slice (some ⟨g, 0, none⟩) l.length cap, .int .i64 ((gapF (l, 0, 0) 1).2.1 : Nat), .int .i64 ((gapF (l, 0, 0) 1).2.2 : Nat), .bool true])) w3) := Lib.hid (by
      rw [HF.out]
      exact ⟨g, cap, by rw [srt_length]; rfl, by rw [srt_length]; exact hcap, HG.out, hrow, HB2.out.trans (hbut.below HG.out HB2.out.size)⟩)
    clear hrow hbut HINS hcap
    go_wp2_with fail
    refine bodyPost_ret (v := .tuple #[.slice (some ⟨g, 0, none⟩) l.length cap, .int .i64 ((gapF (l, 0, 0) 1).2.1 : Nat), .int .i64 ((gapF (l, 0, 0) 1).2.2 : Nat), .bool true]) (by simp [results, Try.results40, go_sem]) rfl ?_
    exact HRES.out
  · have hd : decide (OkL l) = false := decide_eq_false hok
    have HI := Lib.hid (fun W (h : FlatAt W (.slice (some ⟨b, o, none⟩) l.length c) l.length (ints l)) => by have := l2List_any _ l W h hn; rw [hd] at this; exact this)
    have HF := Lib.hid (insAll_no hok)
    clear hok hd
    go_enter Try.func40, Try.ntmps40
    go_wp2_with fail
    refine (HI.out _ HV.out).mono ?_
    rintro e w1 ⟨rfl, hb1⟩
    have HRES : Hid (RetI2 (insAll l) w (.returned (.tuple #[.slice (some ⟨w1.heap.size, 0, none⟩) 0 0, .int .i64 0, .int .i64 0, .bool false])) (w1.alloc (.cells #[] 3))) := Lib.hid (by rw [HF.out]; exact RetI2.none w w1 hb1)
    clear hb1 HI
    go_wp2_with fail
    refine bodyPost_ret (v := .tuple #[.slice (some ⟨w1.heap.size, 0, none⟩) 0 0, .int .i64 0, .int .i64 0, .bool false]) (by simp [results, Try.results40, go_sem]) rfl ?_
    exact HRES.out

end Go.Proofs.Ytjmmhakmidddoaa
