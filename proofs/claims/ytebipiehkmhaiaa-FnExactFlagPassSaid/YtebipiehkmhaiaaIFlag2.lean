/- The program's FlagPass, by its contract. -/
import Derived.Test.YtebipiehkmhaiaaIFlag
import Derived.Test.YtebipiehkmhaiaaIDgA
import Derived.Test.YtebipiehkmhaiaaIList
import Derived.Test.YtebipiehkmhaiaaCloneI
import Derived.Test.YtebipiehkmhaiaaRetZ
namespace Go.Proofs.Ytebipiehkmhaiaa
open Go.RowKit Rx P
set_option linter.unusedVariables false

theorem RetE1.none0 (w w1 : World) (hb : Below w.heap.size w w1) : RetE1 ([], 0, false) w (.returned (.tuple #[.slice none 0 0, .int .i64 0, .bool false])) w1 := .inr ⟨rfl, ⟨_, _, rfl, hb⟩, fun c h => by simp at h; exact h.symm⟩

set_option maxRecDepth 100000 in
set_option maxHeartbeats 4000000 in
theorem implFp_any (b' o c : Nat) (l : List Int) (b p : Int) (w : World) (hv : FlatAt w (.slice (some ⟨b', o, none⟩) l.length c) l.length (ints l)) (hn : l.length ≤ 1048576) :
    Calls Try.prog 37 #[.slice (some ⟨b', o, none⟩) l.length c, .int .i64 b, .int .i64 p] w (RetE1 (fpAll l b p) w) := by
  have HV := Lib.hid (implValidList_any _ l w hv hn)
  have HB := Lib.hid (fun W => isBP_any b p W)
  have HNONE := Lib.hid (fun (h : ¬ (OkL l ∧ OkBP b p)) => fpAll_no h)
  by_cases hok : OkL l
  · rw [decide_eq_true hok] at HV
    by_cases hbp : OkBP b p
    · rw [decide_eq_true hbp] at HB
      have HF := Lib.hid (fpAll_yes ⟨hok, hbp⟩)
      obtain ⟨⟨hb1, hb2⟩, hp1, hp2⟩ := hbp
      obtain ⟨b, rfl⟩ : ∃ n : Nat, b = n := ⟨b.toNat, by omega⟩
      obtain ⟨p, rfl⟩ : ∃ n : Nat, p = n := ⟨p.toNat, by omega⟩
      rw [HF.out]
      simp only [Int.toNat_natCast]
      have HCL := Lib.hid (fun W (hW : Below w.heap.size w W) => cloneInts_any b' o c l W (hv.below hW) hn)
      have HDA := Lib.hid (fun W => digitAt_any (b : Int) (p : Int) W)
      have HBX := Lib.hid (fun (W : World) => digit_boxes (b : Int) (p : Int) W)
      obtain ⟨R, hR⟩ : ∃ R, R = flagR (dgI b p) b l := ⟨_, rfl⟩
      have HLEN : Hid (R.L.length = l.length) := Lib.hid (by rw [hR]; exact flag_len l p (by omega))
      have HGR := Lib.hid (fun (g cg : Nat) (W W2 : World) (h2 : W2 = (W.alloc (.cells #[.int .i64 (b : Int)] 3)).alloc (.cells #[.int .i64 (p : Int)] 3)) (hr : CellRow W g (ints l)) (hc : l.length ≤ cg) =>
        group_any (dgI b p) 1001 g cg 127 #[.pointer (some ⟨W.heap.size, 0, none⟩), .pointer (some ⟨W.heap.size + 1, 0, none⟩)] enters_digit l R W2 rfl (by rw [h2]; exact hr.below (HBX.out W).1 hr.1) hc hok.1 (fun x _ => Nat.lt_of_lt_of_le (dg_lt (by omega) p _) (by omega))
          (by rw [hR]; exact flagR_wide (dgI_lt (by omega) p l) (by omega)) (fun W3 x hx hW => by
            have hgl := hr.1
            have hs2 : W2.heap.size = W.heap.size + 2 := by rw [h2]; simp
            have hcs := (HBX.out W).2 W2 (by rw [← h2]; exact Below.refl _ _)
            have e1 := World.cell?_of_block (w := W2) (w' := W3) (a := ⟨W.heap.size, 0, none⟩) (hW.block W.heap.size (by omega) (by omega))
            have e2 := World.cell?_of_block (w := W2) (w' := W3) (a := ⟨W.heap.size + 1, 0, none⟩) (hW.block (W.heap.size + 1) (by omega) (by omega))
            exact digitFn_any x b p W.heap.size (W.heap.size + 1) W3 (e1.trans hcs.1) (e2.trans hcs.2) (hok.2 x hx).1 (hok.2 x hx).2 (by omega) (by omega) (by omega)))
      rw [← hR]
      clear hok hv hb1 hb2 hp1 hp2 HF HNONE hR
      go_enter Try.func37, Try.ntmps37
      go_wp2_with fail
      refine HV.out.mono ?_
      rintro e w1 ⟨rfl, hb1⟩
      have HB1 := Lib.hid hb1
      clear hb1 HV
      go_wp2_with fail
      refine (HB.out _).mono ?_
      rintro e w1' ⟨rfl, rfl⟩
      clear HB
      go_wp2_with fail
      refine (HCL.out _ HB1.out).mono ?_
      rintro e w2 ⟨g, cg, rfl, hcg, hg, hrow, hb2⟩
      have HB2 := Lib.hid (HB1.out.trans (hb2.mono HB1.out.size))
      have HR2 := Lib.hid hrow
      have HCG := Lib.hid hcg
      have HG : Hid (w.heap.size ≤ g) := Lib.hid (Nat.le_trans HB1.out.size hg)
      clear hcg hg hrow hb2 HB1 HCL
      go_wp2_with fail
      refine (HDA.out _).mono ?_
      rintro e w3 ⟨rfl, hw3⟩
      have HC := Lib.hid (HGR.out g cg w2 w3 hw3 HR2.out HCG.out)
      have HB3 : Hid (Below w.heap.size w w3) := Lib.hid (by rw [hw3]; exact HB2.out.trans ((HBX.out w2).1.mono HB2.out.size))
      clear hw3 HGR HBX HB2 HR2 HDA
      go_wp2_with fail
      refine HC.out.mono ?_
      rintro e w4 ⟨rfl, hrow, hbut⟩
      have HRES : Hid (RetE1 (R.L, (R.sw : Int), true) w (.returned (.tuple #[.slice (some ⟨g, 0, none⟩) l.length cg, .int .i64 (R.sw : Int), .bool true])) w4) := Lib.hid (.inl ⟨g, cg, by rw [HLEN.out], by rw [HLEN.out]; exact HCG.out, HG.out, hrow, HB3.out.trans (hbut.below HG.out HB3.out.size)⟩)
      clear hrow hbut HC HB3
      go_wp2_with fail
      go_ret3
      exact HRES.out
    · rw [decide_eq_false hbp] at HB
      rw [HNONE.out fun h => hbp h.2]
      clear hok hbp hv HNONE
      go_enter Try.func37, Try.ntmps37
      go_wp2_with fail
      refine HV.out.mono ?_
      rintro e w1 ⟨rfl, hb1⟩
      have HRES := Lib.hid (RetE1.none0 w w1 hb1)
      clear hb1 HV
      go_wp2_with fail
      refine (HB.out _).mono ?_
      rintro e w1' ⟨rfl, rfl⟩
      go_wp2_with fail
      go_ret3
      exact HRES.out
  · rw [decide_eq_false hok] at HV
    rw [HNONE.out fun h => hok h.1]
    clear hok hv HNONE
    go_enter Try.func37, Try.ntmps37
    go_wp2_with fail
    refine HV.out.mono ?_
    rintro e w1 ⟨rfl, hb1⟩
    have HRES := Lib.hid (RetE1.none0 w w1 hb1)
    clear hb1 HV
    go_wp2_with fail
    go_ret3
    exact HRES.out

end Go.Proofs.Ytebipiehkmhaiaa
