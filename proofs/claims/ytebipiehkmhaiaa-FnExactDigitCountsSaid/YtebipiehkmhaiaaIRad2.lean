/- The program's DigitCounts, by its contract. -/
import Derived.Test.YtebipiehkmhaiaaIRad
namespace Go.Proofs.Ytebipiehkmhaiaa
open Go.RowKit Rx P
set_option linter.unusedVariables false
attribute [local go_sem ↓ high] alloc_tab load_tab store_tab box_tab
attribute [local go_sem] run_tabNew

theorem tab_ints (f : Nat → Nat) {b : Nat} (hb : b ≤ 1001) {w : World} {g : Nat} (h : TabAt w g f) : FlatAt w (.slice (some ⟨g, 0, none⟩) b 1001) b (ints ((List.range b).map fun d => (f d : Int))) :=
  ⟨_, 1001, rfl, hb, fun j u hu => by
    have hj := (List.getElem?_eq_some_iff.1 hu).1
    rw [ints_length, List.length_map, List.length_range] at hj
    refine ⟨g, 0, rfl, h.lt, ?_⟩
    rw [Nat.zero_add, (h.at (k := j) (by omega)).1]
    rw [← hu]
    exact (ints_at (show ((List.range b).map fun d => (f d : Int))[j]? = some (f j : Int) by simp [hj])).symm⟩

set_option maxRecDepth 100000 in
set_option maxHeartbeats 8000000 in
theorem implDc_any (b' o c : Nat) (l : List (Int × Int)) (b p : Int) (w : World) (hv : FlatAt w (.slice (some ⟨b', o, none⟩) l.length c) l.length (recs l)) (hn : l.length ≤ 1048576) :
    Calls Try.prog 28 #[.slice (some ⟨b', o, none⟩) l.length c, .int .i64 b, .int .i64 p] w (RetIE (dcAll l b p) w) := by
  have HV := Lib.hid (implValidRecs_any _ l w hv hn)
  have HB := Lib.hid (fun W => isBP_any b p W)
  have HNONE := Lib.hid (fun (h : ¬ (OkR l ∧ OkBP b p)) => dcAll_no h)
  by_cases hok : OkR l
  · rw [decide_eq_true hok] at HV
    by_cases hbp : OkBP b p
    · rw [decide_eq_true hbp] at HB
      have HF := Lib.hid (dcAll_yes ⟨hok, hbp⟩)
      obtain ⟨⟨hb1, hb2⟩, hp1, hp2⟩ := hbp
      obtain ⟨b, rfl⟩ : ∃ n : Nat, b = n := ⟨b.toNat, by omega⟩
      obtain ⟨p, rfl⟩ : ∃ n : Nat, p = n := ⟨p.toNat, by omega⟩
      have HKEYS := Lib.hid (fun W (h : Below w.heap.size w W) => keysOf_any _ l W (hv.below h) hn)
      have HDA := Lib.hid (fun W => digitAt_any (b : Int) (p : Int) W)
      have hmlen : (l.map (·.1)).length = l.length := by simp
      have HBC := Lib.hid (fun (gk : Nat) (W W2 : World) (hk : CellRow W gk (ints (l.map (·.1)))) (h2 : W2 = (W.alloc (.cells #[.int .i64 (b : Int)] 3)).alloc (.cells #[.int .i64 (p : Int)] 3)) =>
        bucketCounts_any (dgI b p) 127 #[.pointer (some ⟨W.heap.size, 0, none⟩), .pointer (some ⟨W.heap.size + 1, 0, none⟩)] enters_digit (.slice (some ⟨gk, 0, none⟩) l.length l.length) (l.map (·.1)) W2
          (by rw [h2, hmlen]; exact (hk.below (digit_boxes (b : Int) (p : Int) W).1 hk.1).flat (Nat.le_refl _)) (by rw [hmlen]; exact hn) (fun x _ => Nat.lt_of_lt_of_le (dg_lt (by omega) p _) (by omega)) (fun W3 x hx hW => by
            obtain ⟨q, hq, rfl⟩ := List.mem_map.1 hx
            obtain ⟨c1, c2⟩ := (digit_boxes (b : Int) (p : Int) W).2 W3 (by rw [← h2]; exact hW)
            exact digitFn_any q.1 b p W.heap.size (W.heap.size + 1) W3 c1 c2 (hok.key hq).1 (hok.key hq).2 (by omega) (by omega) (by omega)))
      have HBX := Lib.hid (fun (W : World) => (digit_boxes (b : Int) (p : Int) W).1)
      have HCN : Hid (∀ d, cnt (dgI b p) (l.map (·.1)) d = cnt (dgR b p) l d) := Lib.hid (fun d => cnt_map (dgI b p) l d)
      have hbn : b ≤ 256 := by omega
      have hb1001 : (b : Int) ≤ 1001 := by omega
      have hb0 : (0 : Int) ≤ (b : Int) := by omega
      have hbz : ¬ (b : Int) < 0 := by omega
      have hbz1 : ¬ (1001 : Int) < (b : Int) := by omega
      have hbz2 : ¬ 1001 = b := by omega
      have hbpos : 0 < b := by omega
      rw [HF.out]
      simp only [Int.toNat_natCast]
      clear hok hv hb1 hb2 hp1 hp2 HF HNONE hmlen
      generalize dgR b p = fR at *
      generalize dgI b p = fI at *
      obtain ⟨M, hM⟩ : ∃ M, M = (List.range b).map fun d => (cnt fR l d : Int) := ⟨_, rfl⟩
      rw [← hM]
      have HE : Hid (((List.range b).map fun d => (cnt fI (l.map (·.1)) d : Int)) = M) := Lib.hid (by rw [hM]; exact List.map_congr_left fun d _ => by rw [HCN.out])
      have HLEN : Hid (M.length = b) := Lib.hid (by rw [hM]; simp)
      clear hM HCN
      go_enter Try.func28, Try.ntmps28
      go_wp2_with fail
      refine HV.out.mono ?_
      rintro e w1 ⟨rfl, hb1⟩
      have HB1 := Lib.hid hb1
      clear hb1 HV
      go_wp2_with fail
      refine (HB.out _).mono ?_
      rintro e w1' ⟨rfl, rfl⟩
      go_wp2_with fail
      refine (HKEYS.out _ HB1.out).mono ?_
      rintro e w2 ⟨gk, rfl, hgk, hrk, hb2⟩
      have HB2 := Lib.hid (HB1.out.trans (hb2.mono HB1.out.size))
      have HRK := Lib.hid hrk
      clear hb2 hrk hgk HB1 HKEYS HB
      go_wp2_with fail
      refine (HDA.out _).mono ?_
      rintro e w3 ⟨rfl, hw3⟩
      have HC := Lib.hid (HBC.out gk w2 w3 HRK.out hw3)
      have HB3 : Hid (Below w.heap.size w w3) := Lib.hid (by rw [hw3]; exact HB2.out.trans ((HBX.out w2).mono HB2.out.size))
      clear hw3 HBC HBX HB2 HDA HRK
      go_wp2_with fail
      refine HC.out.mono ?_
      rintro e w4 ⟨rfl, hb4⟩
      have HB4 := Lib.hid (HB3.out.trans (hb4.mono HB3.out.size))
      clear hb4 HC HB3
      obtain ⟨hr1, hr2⟩ := (TabAt.new w4 (fun _ => 0)).row (cnt fI (l.map (·.1)))
      have hst := run_tabStore (cnt fI (l.map (·.1))) (TabAt.new w4 (fun _ => 0))
      obtain ⟨W5, hW5⟩ : ∃ W5, W5 = (w4.alloc (.cells (tabA fun _ => 0) 95)).setRow w4.heap.size (tabA (cnt fI (l.map (·.1)))) := ⟨_, rfl⟩
      rw [← hW5] at hr1 hr2 hst
      have hb5 : Below w4.heap.size w4 W5 := ((Below.refl _ _).alloc (Nat.le_refl _) _).trans (hr2.below (Nat.le_refl _) (by simp))
      have HB5 := Lib.hid (HB4.out.trans (hb5.mono HB4.out.size))
      have HCL := Lib.hid (cloneInts_any w4.heap.size 0 1001 ((List.range b).map fun d => (cnt fI (l.map (·.1)) d : Int)) W5 (by rw [show ((List.range b).map fun d => (cnt fI (l.map (·.1)) d : Int)).length = b by simp]; exact tab_ints _ (by omega) hr1) (by simp; omega))
      rw [show ((List.range b).map fun d => (cnt fI (l.map (·.1)) d : Int)).length = b by simp] at HCL
      rw [HE.out] at HCL
      clear hr1 hr2 hW5 hb5 HB4 HE
      go_wp2_with fail
      refine HCL.out.mono ?_
      rintro e w6 ⟨g, cg, rfl, hcg, hg, hrow, hb6⟩
      have HRES : Hid (RetIE (M, true) w (.returned (.tuple #[.slice (some ⟨g, 0, none⟩) M.length cg, .bool true])) w6) := Lib.hid (.inl ⟨g, cg, rfl, hcg, Nat.le_trans HB5.out.size hg, hrow, HB5.out.trans (hb6.mono HB5.out.size)⟩)
      clear hcg hg hrow hb6 HCL HB5 hst
      go_wp2_with fail
      go_ret2
      exact HRES.out
    · rw [decide_eq_false hbp] at HB
      rw [HNONE.out fun h => hbp h.2]
      clear hok hbp hv HNONE
      go_enter Try.func28, Try.ntmps28
      go_wp2_with fail
      refine HV.out.mono ?_
      rintro e w1 ⟨rfl, hb1⟩
      have HRES := Lib.hid (RetIE.none0 w w1 hb1)
      clear hb1 HV
      go_wp2_with fail
      refine (HB.out _).mono ?_
      rintro e w1' ⟨rfl, rfl⟩
      go_wp2_with fail
      go_ret2
      exact HRES.out
  · rw [decide_eq_false hok] at HV
    rw [HNONE.out fun h => hok h.1]
    clear hok hv HNONE
    go_enter Try.func28, Try.ntmps28
    go_wp2_with fail
    refine HV.out.mono ?_
    rintro e w1 ⟨rfl, hb1⟩
    have HRES := Lib.hid (RetIE.none0 w w1 hb1)
    clear hb1 HV
    go_wp2_with fail
    go_ret2
    exact HRES.out

end Go.Proofs.Ytebipiehkmhaiaa
