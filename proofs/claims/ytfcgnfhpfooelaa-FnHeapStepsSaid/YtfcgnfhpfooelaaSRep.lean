/- The model's ReplaceTop and PopHeap, by contracts. -/
import Derived.Test.YtfcgnfhpfooelaaSHp2
import Derived.Test.YtfcgnfhpfooelaaOwnI
import Derived.Test.YtfcgnfhpfooelaaRes4
namespace Go.Proofs.Ytfcgnfhpfooelaa
open Go.RowKit P El Hp
set_option linter.unusedVariables false

set_option maxRecDepth 100000 in
set_option maxHeartbeats 4000000 in
theorem specRep_any (b o c : Nat) (l : List Int) (d x : Int) (w : World) (hv : FlatAt w (.slice (some ⟨b, o, none⟩) l.length c) l.length (ints l)) (hn : l.length ≤ 1048576) :
    Calls Try.prog 46 #[.slice (some ⟨b, o, none⟩) l.length c, .int .i64 d, .int .i64 x] w (RetI1 (repAll l d x) w) := by
  have HV := Lib.hid (l6Heap_any _ l d w hv hn)
  have HNONE : Hid (¬ (IsHp l d ∧ 0 < l.length ∧ -100000 ≤ x ∧ x ≤ 100000) → ∀ w1, Below w.heap.size w w1 → RetI1 (repAll l d x) w (.returned (.tuple #[.slice (some ⟨w1.heap.size, 0, none⟩) 0 0, .int .i64 0, .bool false])) (w1.alloc (.cells #[] 3))) := Lib.hid (fun h w1 hb => by rw [repAll_no h]; exact RetI1.none w w1 hb)
  by_cases hok : IsHp l d
  · rw [decide_eq_true hok] at HV
    by_cases h0 : l.length = 0
    · have HN := Lib.hid (HNONE.out (fun h => by omega))
      obtain rfl := List.eq_nil_of_length_eq_zero h0
      clear hok HNONE hv h0
      rw [List.length_nil] at HV ⊢
      go_enter Try.func46, Try.ntmps46
      go_wp2_with fail
      refine HV.out.mono ?_
      rintro e w1 ⟨rfl, hb1⟩
      have HRES := Lib.hid (HN.out w1 hb1)
      clear hb1 HV HN
      go_wp2_with fail
      go_ret3
      exact HRES.out
    · have h0z : ((l.length : Int) == 0) = false := beq_eq_false_iff_ne.2 (by omega)
      have h0z2 : ¬ (l.length : Int) = 0 := by omega
      have hl0 : 0 < l.length := by omega
      by_cases hx : -100000 ≤ x ∧ x ≤ 100000
      · have HX := Lib.hid (fun W => l1In_yes x (-100000) 100000 W hx.1 hx.2)
        obtain ⟨k, rfl, hk0, hk2, hk8⟩ := hok.2.1.nat
        have HF := Lib.hid (repAll_yes ⟨hok, hl0, hx⟩)
        rw [hk0] at HF
        have h64 := hok.1.1
        have HOWN := Lib.hid (fun W (h : FlatAt W (.slice (some ⟨b, o, none⟩) l.length c) l.length (ints l)) => l1Own_any b o c l W h hn)
        have HSD := Lib.hid (fun g c W (h : CellRow W g (ints (l.set 0 x))) => by
          have := sdown_any (c := c) 0 (l.set 0 x).length W h hk2 hk8 (Nat.zero_le _) (Nat.le_refl _) (by rw [List.length_set]; omega); rw [List.length_set] at this; exact this)
        have HLN := Lib.hid (repF_length (d := k) (by omega) l x)
        have HFV := Lib.hid hv
        have HH : Hid (∃ y, y = l.getD 0 0) := Lib.hid ⟨_, rfl⟩
        obtain ⟨y, hy⟩ := HH.out
        have hy1 := hy
        obtain ⟨b1, o1, e1, hbb, hc1⟩ : ∃ b1 o1, some (⟨b, o, none⟩ : Addr) = some ⟨b1, o1, none⟩ ∧ b1 < w.heap.size ∧ w.cell? ⟨b1, o1 + 0, none⟩ = some (.int .i64 y) := by
          obtain ⟨a, c', e, _, h⟩ := hv
          simp at e; obtain ⟨rfl, _⟩ := e
          rw [hy]; exact h 0 _ (ints_at (at_getD hl0))
        simp at e1
        obtain ⟨rfl, rfl⟩ := e1
        have HC1 := Lib.hid hc1
        have HBB := Lib.hid hbb
        rw [← hy] at HF
        clear hok hv HNONE hx h0 hy hy1 HH hc1 hbb
        go_enter Try.func46, Try.ntmps46
        go_wp2_with fail
        refine HV.out.mono ?_
        rintro e w1 ⟨rfl, hb1⟩
        have HV1 := Lib.hid (HFV.out.below hb1)
        have HB1 := Lib.hid hb1
        clear hb1 HV HFV
        go_wp2_with fail
        refine (HX.out _).mono ?_
        rintro e w1' ⟨rfl, rfl⟩
        clear HX
        go_wp2_with fail
        refine (HOWN.out _ HV1.out).mono ?_
        rintro e w2 ⟨g, cap, rfl, hcap, hg, hrow, hb2⟩
        have HG : Hid (w.heap.size ≤ g) := Lib.hid (Nat.le_trans HB1.out.size hg)
        have HB2 := Lib.hid (HB1.out.trans (hb2.mono HB1.out.size))
        have hfz := (hrow.2 0 _ (ints_at (at_getD hl0))).2
        obtain ⟨z, hcz⟩ : ∃ z, w2.cell? ⟨g, 0, none⟩ = some z := ⟨_, (hrow.2 0 _ (ints_at (at_getD hl0))).1⟩
        have HR3 : Hid (CellRow (w2.setCell ⟨g, 0, none⟩ (.int .i64 x)) g (ints (l.set 0 x))) := Lib.hid (by rw [← ints_set]; exact hrow.set 0 _ (by rw [ints_length]; exact hl0))
        have HB3 : Hid (Below w.heap.size w (w2.setCell ⟨g, 0, none⟩ (.int .i64 x))) := Lib.hid (HB2.out.setCell (p := ⟨g, 0, none⟩) HG.out _)
        have HD := Lib.hid (HSD.out g cap _ HR3.out)
        have hlz : (0 : Int) < l.length := by omega
        clear hb2 hrow HOWN HV1 hg HSD
        go_wp2_with fail
        refine HD.out.mono ?_
        rintro e w3 ⟨rfl, hr3, hb3⟩
        have HB4 : Hid (Below w.heap.size w w3) := Lib.hid (HB3.out.trans (hb3.below HG.out HB3.out.size))
        have hcy : w3.cell? ⟨b, o, none⟩ = some (.int .i64 y) := (HB4.out.cell (p := ⟨b, o, none⟩) HBB.out).trans HC1.out
        have HRES : Hid (∀ t, RetI1 (repAll l (k : Int) x) w (.returned (.tuple #[.slice (some ⟨g, 0, none⟩) l.length cap, .int .i64 y, .bool true])) (w3.drewN t)) := Lib.hid (fun t => by
          rw [HF.out]
          exact ⟨g, cap, by rw [HLN.out], by simp only; rw [HLN.out]; exact hcap, HG.out, hr3.same rfl (Nat.le_refl _), HB4.out.trans ⟨rfl, rfl, rfl, Nat.le_refl _, fun _ _ => rfl⟩⟩)
        clear hr3 hb3 HD hfz hcz
        go_wp2_with fail
        go_quiet (fail)
        go_wp2_with fail
        go_ret3
        exact HRES.out _
      · have HX := Lib.hid (fun W => l1In_no x (-100000) 100000 W (by omega))
        have HN := Lib.hid (HNONE.out (fun h => hx h.2.2))
        clear hok HNONE hv hx h0
        go_enter Try.func46, Try.ntmps46
        go_wp2_with fail
        refine HV.out.mono ?_
        rintro e w1 ⟨rfl, hb1⟩
        have HRES := Lib.hid (HN.out w1 hb1)
        clear hb1 HV HN
        go_wp2_with fail
        refine (HX.out _).mono ?_
        rintro e w1' ⟨rfl, rfl⟩
        go_wp2_with fail
        go_ret3
        exact HRES.out
  · rw [decide_eq_false hok] at HV
    have HN := Lib.hid (HNONE.out (fun h => hok h.1))
    clear hok HNONE hv
    go_enter Try.func46, Try.ntmps46
    go_wp2_with fail
    refine HV.out.mono ?_
    rintro e w1 ⟨rfl, hb1⟩
    have HRES := Lib.hid (HN.out w1 hb1)
    clear hb1 HV HN
    go_wp2_with fail
    go_ret3
    exact HRES.out

set_option maxRecDepth 100000 in
set_option maxHeartbeats 4000000 in
theorem specPop_any (b o c : Nat) (l : List Int) (d : Int) (w : World) (hv : FlatAt w (.slice (some ⟨b, o, none⟩) l.length c) l.length (ints l)) (hn : l.length ≤ 1048576) :
    Calls Try.prog 48 #[.slice (some ⟨b, o, none⟩) l.length c, .int .i64 d] w (RetI2 (popAll l d) w) := by
  have HV := Lib.hid (l6Heap_any _ l d w hv hn)
  have HNONE : Hid (¬ (IsHp l d ∧ 0 < l.length) → ∀ w1, Below w.heap.size w w1 → RetI2 (popAll l d) w (.returned (.tuple #[.slice (some ⟨w1.heap.size, 0, none⟩) 0 0, .int .i64 0, .int .i64 0, .bool false])) (w1.alloc (.cells #[] 3))) := Lib.hid (fun h w1 hb => by rw [popAll_no h]; exact RetI2.none w w1 hb)
  by_cases hok : IsHp l d
  · rw [decide_eq_true hok] at HV
    by_cases h0 : l.length = 0
    · have HN := Lib.hid (HNONE.out (fun h => by omega))
      obtain rfl := List.eq_nil_of_length_eq_zero h0
      clear hok HNONE hv h0
      rw [List.length_nil] at HV ⊢
      go_enter Try.func48, Try.ntmps48
      go_wp2_with fail
      refine HV.out.mono ?_
      rintro e w1 ⟨rfl, hb1⟩
      have HRES := Lib.hid (HN.out w1 hb1)
      clear hb1 HV HN
      go_wp2_with fail
      refine bodyPost_ret (results_tmp4 rfl _ _ _) rfl ?_
      exact HRES.out
    · have h0z : ((l.length : Int) == 0) = false := beq_eq_false_iff_ne.2 (by omega)
      have h0z2 : ¬ (l.length : Int) = 0 := by omega
      have hl0 : 0 < l.length := by omega
      obtain ⟨k, rfl, hk0, hk2, hk8⟩ := hok.2.1.nat
      have HF := Lib.hid (popAll_yes ⟨hok, hl0⟩)
      rw [hk0] at HF
      have h64 := hok.1.1
      have HOWN := Lib.hid (fun W (h : FlatAt W (.slice (some ⟨b, o, none⟩) l.length c) l.length (ints l)) => l1Own_any b o c l W h hn)
      obtain ⟨n, hn1⟩ : ∃ n, n = l.length - 1 := ⟨_, rfl⟩
      obtain ⟨x, hx⟩ : ∃ x, x = l.getD n 0 := ⟨_, rfl⟩
      have hpop : popF k l = down k n 0 ((l.set 0 x).take n, 0) := by rw [hx, hn1]; rfl
      have hlt : ((l.set 0 x).take n).length = n := by simp; omega
      have HSD := Lib.hid (fun g c W (h : CellRow W g (ints ((l.set 0 x).take n))) => by
        have := sdown_any (c := c) 0 n W h hk2 hk8 (Nat.zero_le _) (by omega) (by omega); rw [hlt, ← hpop] at this; exact this)
      have HLN : Hid ((popF k l).1.length = n) := Lib.hid (by rw [popF_length (by omega), hn1])
      have HFV := Lib.hid hv
      obtain ⟨y, hy⟩ : ∃ y, y = l.getD 0 0 := ⟨_, rfl⟩
      obtain ⟨b1, o1, e1, hbb, hc1⟩ : ∃ b1 o1, some (⟨b, o, none⟩ : Addr) = some ⟨b1, o1, none⟩ ∧ b1 < w.heap.size ∧ w.cell? ⟨b1, o1 + 0, none⟩ = some (.int .i64 y) := by
        obtain ⟨a, c', e, _, h⟩ := hv
        simp at e; obtain ⟨rfl, _⟩ := e
        rw [hy]; exact h 0 _ (ints_at (at_getD hl0))
      simp at e1
      obtain ⟨rfl, rfl⟩ := e1
      have HC1 := Lib.hid hc1
      have HBB := Lib.hid hbb
      have HY := Lib.hid hy
      have HX := Lib.hid hx
      have HN1 := Lib.hid hn1
      have hwn : IntKind.i64.wrap ((l.length : Int) - 1) = (n : Int) := by rw [IntKind.wrap_i64]; omega
      have hln : (l.length : Int) - 1 = (n : Int) := by omega
      have hnl : n < l.length := by omega
      rw [← hy] at HF
      clear hok hv HNONE hx h0 hy hc1 hbb hlt hpop hn1
      go_enter Try.func48, Try.ntmps48
      go_wp2_with fail
      refine HV.out.mono ?_
      rintro e w1 ⟨rfl, hb1⟩
      have HV1 := Lib.hid (HFV.out.below hb1)
      have HB1 := Lib.hid hb1
      clear hb1 HV HFV
      go_wp2_with fail
      refine (HOWN.out _ HV1.out).mono ?_
      rintro e w2 ⟨g, cap, rfl, hcap, hg, hrow, hb2⟩
      have HG : Hid (w.heap.size ≤ g) := Lib.hid (Nat.le_trans HB1.out.size hg)
      have HB2 := Lib.hid (HB1.out.trans (hb2.mono HB1.out.size))
      have hfz := (hrow.2 0 _ (ints_at (at_getD hl0))).2
      obtain ⟨z, hcz⟩ : ∃ z, w2.cell? ⟨g, 0, none⟩ = some (.int .i64 z) := ⟨_, (hrow.2 0 _ (ints_at (at_getD hl0))).1⟩
      have hcn : w2.cell? ⟨g, n, none⟩ = some (.int .i64 x) := by rw [HX.out]; exact (hrow.2 n _ (ints_at (at_getD hnl))).1
      have HR3 : Hid (CellRow (w2.setCell ⟨g, 0, none⟩ (.int .i64 x)) g (ints ((l.set 0 x).take n))) := Lib.hid (by
        have h := hrow.set 0 (.int .i64 x) (by rw [ints_length]; exact hl0)
        rw [ints_set] at h
        refine ⟨h.1, fun j u hu => h.2 j u ?_⟩
        have hj := (List.getElem?_eq_some_iff.1 hu).1
        rw [ints_length, List.length_take] at hj
        unfold ints at hu ⊢
        rw [List.getElem?_map, List.getElem?_take_of_lt (by omega)] at hu
        rw [List.getElem?_map]; exact hu)
      have HB3 : Hid (Below w.heap.size w (w2.setCell ⟨g, 0, none⟩ (.int .i64 x))) := Lib.hid (HB2.out.setCell (p := ⟨g, 0, none⟩) HG.out _)
      have HD := Lib.hid (HSD.out g cap _ HR3.out)
      have hlz : (0 : Int) < l.length := by omega
      clear hb2 hrow HOWN HV1 hg HSD
      go_wp2_with fail
      refine HD.out.mono ?_
      rintro e w3 ⟨rfl, hr3, hb3⟩
      have HB4 : Hid (Below w.heap.size w w3) := Lib.hid (HB3.out.trans (hb3.below HG.out HB3.out.size))
      have hcy : w3.cell? ⟨b, o, none⟩ = some (.int .i64 y) := (HB4.out.cell (p := ⟨b, o, none⟩) HBB.out).trans HC1.out
      have HRES : Hid (∀ t, RetI2 (popAll l (k : Int)) w (.returned (.tuple #[.slice (some ⟨g, 0, none⟩) n cap, .int .i64 y, .int .i64 (((popF k l).2 : Nat) : Int), .bool true])) (w3.drewN t)) := Lib.hid (fun t => by
        rw [HF.out]
        exact ⟨g, cap, by rw [HLN.out], by simp only; rw [HLN.out]; omega, HG.out, hr3.same rfl (Nat.le_refl _), HB4.out.trans ⟨rfl, rfl, rfl, Nat.le_refl _, fun _ _ => rfl⟩⟩)
      clear hr3 hb3 HD hfz hcz hcn
      go_wp2_with fail
      go_quiet (fail)
      go_wp2_with fail
      refine bodyPost_ret (results_tmp4 rfl _ _ _) rfl ?_
      exact HRES.out _
  · rw [decide_eq_false hok] at HV
    have HN := Lib.hid (HNONE.out (fun h => hok h.1))
    clear hok HNONE hv
    go_enter Try.func48, Try.ntmps48
    go_wp2_with fail
    refine HV.out.mono ?_
    rintro e w1 ⟨rfl, hb1⟩
    have HRES := Lib.hid (HN.out w1 hb1)
    clear hb1 HV HN
    go_wp2_with fail
    refine bodyPost_ret (results_tmp4 rfl _ _ _) rfl ?_
    exact HRES.out

end Go.Proofs.Ytfcgnfhpfooelaa
