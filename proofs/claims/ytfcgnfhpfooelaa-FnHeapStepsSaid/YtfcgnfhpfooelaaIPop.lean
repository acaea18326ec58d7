/- The program's PopHeap, ReplaceTop, PushHeap and MergeHeaps, by contracts. -/
import Derived.Test.YtfcgnfhpfooelaaHpMk1
import Derived.Test.YtfcgnfhpfooelaaRes4
namespace Go.Proofs.Ytfcgnfhpfooelaa
open Go.RowKit P El Hp
set_option linter.unusedVariables false

/-- The first element of a list at an address. -/
theorem flat_first {b o c : Nat} {l : List Int} {w : World} (hv : FlatAt w (.slice (some ⟨b, o, none⟩) l.length c) l.length (ints l)) {j : Nat} (hj : j < l.length) : b < w.heap.size ∧ w.cell? ⟨b, o + j, none⟩ = some (.int .i64 (l.getD j 0)) := by
  obtain ⟨a, c', e, _, h⟩ := hv
  simp at e; obtain ⟨rfl, _⟩ := e
  obtain ⟨b', o', e, hb, hc⟩ := h j _ (ints_at (at_getD hj))
  simp at e; obtain ⟨rfl, rfl⟩ := e
  exact ⟨hb, hc⟩
/-- A front part of it. -/
theorem flat_front {b o c : Nat} {l : List Int} {w : World} (hv : FlatAt w (.slice (some ⟨b, o, none⟩) l.length c) l.length (ints l)) {n : Nat} (hn : n ≤ l.length) : FlatAt w (.slice (some ⟨b, o, none⟩) n c) n (ints (l.take n)) := by
  obtain ⟨a, c', e, hc, h⟩ := hv
  simp at e; obtain ⟨rfl, rfl⟩ := e
  refine ⟨_, _, rfl, by omega, fun j u hu => ?_⟩
  have hj := (List.getElem?_eq_some_iff.1 hu).1
  rw [ints_length, List.length_take] at hj
  unfold ints at hu
  rw [List.getElem?_map, List.getElem?_take_of_lt (by omega)] at hu
  exact h j u (by unfold ints; rw [List.getElem?_map]; exact hu)

set_option maxRecDepth 100000 in
set_option maxHeartbeats 4000000 in
theorem implRep_any (b o c : Nat) (l : List Int) (d x : Int) (w : World) (hv : FlatAt w (.slice (some ⟨b, o, none⟩) l.length c) l.length (ints l)) (hn : l.length ≤ 1048576) :
    Calls Try.prog 45 #[.slice (some ⟨b, o, none⟩) l.length c, .int .i64 d, .int .i64 x] w (RetI1 (repAll l d x) w) := by
  have HV := Lib.hid (isAry_any _ l d w hv hn)
  have HNONE : Hid (¬ (IsHp l d ∧ 0 < l.length ∧ -100000 ≤ x ∧ x ≤ 100000) → ∀ w1, Below w.heap.size w w1 → RetI1 (repAll l d x) w (.returned (.tuple #[.slice (some ⟨w1.heap.size, 0, none⟩) 0 0, .int .i64 0, .bool false])) (w1.alloc (.cells #[] 3))) := Lib.hid (fun h w1 hb => by rw [repAll_no h]; exact RetI1.none w w1 hb)
  by_cases hok : IsHp l d
  · rw [decide_eq_true hok] at HV
    by_cases h0 : l.length = 0
    · have HN := Lib.hid (HNONE.out (fun h => by omega))
      obtain rfl := List.eq_nil_of_length_eq_zero h0
      clear hok HNONE hv h0
      rw [List.length_nil] at HV ⊢
      go_enter Try.func45, Try.ntmps45
      go_wp2_with fail
      refine HV.out.mono ?_
      rintro e w1 ⟨rfl, hb1⟩
      have HRES := Lib.hid (HN.out w1 hb1)
      clear hb1 HV HN
      go_wp2_with fail
      go_ret3
      exact HRES.out
    · have h0z : ((l.length : Int) == 0) = false := beq_eq_false_iff_ne.2 (by omega)
      have h0z2 : ¬ (l.length : Int) = 0 := by omega
      have hl0 : 0 < l.length := by omega
      have HX := Lib.hid (fun W => isOutside_any x W)
      by_cases hx : -100000 ≤ x ∧ x ≤ 100000
      · have hout : outK x = false := by unfold outK; simp; omega
        rw [hout] at HX
        obtain ⟨k, rfl, hk0, hk2, hk8⟩ := hok.2.1.nat
        have HF := Lib.hid (repAll_yes ⟨hok, hl0, hx⟩)
        rw [hk0] at HF
        have h64 := hok.1.1
        have HMK := Lib.hid (fun W (h : (Part.mk (some ⟨b, o, none⟩) c l).ok W) => mk1_any k (some ⟨b, o, none⟩) c l W h hn)
        have hlen : (l.set 0 x).length = l.length := List.length_set
        have HSD := Lib.hid (fun (s g cap : Nat) W (h : HpG w.heap.size s g cap (l.set 0 x) k 0 W) => sd_any 0 l.length W h hk2 hk8 (Nat.zero_le _) (by omega) (by omega) (by omega))
        have HRF : Hid (down k l.length 0 (l.set 0 x, 0) = repF k l x) := Lib.hid rfl
        have HLN := Lib.hid (repF_length (d := k) (by omega) l x)
        rw [HRF.out] at HSD
        generalize repF k l x = R at HSD HF HLN HRF
        have HFV : Hid ((Part.mk (some ⟨b, o, none⟩) c l).ok w) := Lib.hid ⟨hv, fun e => by simp at e⟩
        obtain ⟨y, hy⟩ : ∃ y, y = l.getD 0 0 := ⟨_, rfl⟩
        have HC1 := Lib.hid (flat_first hv hl0)
        rw [← hy] at HC1 HF
        clear hok hv HNONE hx h0 hy hout hlen HRF
        go_enter Try.func45, Try.ntmps45
        go_wp2_with fail
        refine HV.out.mono ?_
        rintro e w1 ⟨rfl, hb1⟩
        have HB1 := Lib.hid hb1
        clear hb1 HV
        go_wp2_with fail
        refine (HX.out _).mono ?_
        rintro e w1' ⟨rfl, rfl⟩
        clear HX
        go_wp2_with fail
        refine (HMK.out _ (HFV.out.below HB1.out)).mono ?_
        rintro e w2 ⟨s, v, rfl, hH, hb2⟩
        have HB2 := Lib.hid (HB1.out.trans (hb2.mono HB1.out.size))
        obtain ⟨g, cap, rfl, hG⟩ := (hH.lower HB1.out.size).big hl0
        have HH := Lib.hid hG
        obtain ⟨hs0, _⟩ := hG.c0
        obtain ⟨z, hcz⟩ : ∃ z, w2.cell? ⟨g, 0, none⟩ = some (.int .i64 z) := ⟨_, (hG.at hl0).1⟩
        have hfz := (hG.at hl0).2
        have HG3 := Lib.hid (hG.put 0 x hl0)
        have HB3 : Hid (Below w.heap.size w (w2.setCell ⟨g, 0, none⟩ (.int .i64 x))) := Lib.hid (HB2.out.setCell (p := ⟨g, 0, none⟩) hG.bg _)
        have hlz : (0 : Int) < l.length := by omega
        have hgs : ¬ g = s := hG.ne
        clear hH hb2 hG HMK HFV HB1
        go_wp2_with fail
        refine (HSD.out s g cap _ HG3.out).mono ?_
        rintro e w3 ⟨rfl, hg4, hb4⟩
        have HB4 : Hid (Below w.heap.size w w3) := Lib.hid (HB3.out.trans (hb4.below hg4.bs hg4.bg HB3.out.size))
        have hcy : w3.cell? ⟨b, o, none⟩ = some (.int .i64 y) := (HB4.out.cell (p := ⟨b, o, none⟩) HC1.out.1).trans HC1.out.2
        obtain ⟨hc0, _⟩ := hg4.c0
        have HRES : Hid (∀ t, RetI1 (repAll l (k : Int) x) w (.returned (.tuple #[.slice (some ⟨g, 0, none⟩) R.1.length cap, .int .i64 y, .bool true])) (w3.drewN t)) := Lib.hid (fun t => by
          rw [HF.out]
          exact ⟨g, cap, rfl, hg4.cap, hg4.bg, hg4.row.same rfl (Nat.le_refl _), HB4.out.trans ⟨rfl, rfl, rfl, Nat.le_refl _, fun _ _ => rfl⟩⟩)
        clear hb4 hg4 HSD hcz hfz hs0
        go_wp2_with fail
        go_quiet (fail)
        go_wp2_with fail
        go_ret3
        exact HRES.out _
      · have hout : outK x = true := by unfold outK; simp; omega
        rw [hout] at HX
        have HN := Lib.hid (HNONE.out (fun h => hx h.2.2))
        clear hok HNONE hv hx h0 hout
        go_enter Try.func45, Try.ntmps45
        go_wp2_with fail
        refine HV.out.mono ?_
        rintro e w1 ⟨rfl, hb1⟩
        have HRES := Lib.hid (HN.out w1 hb1)
        clear hb1 HV HN
        go_wp2_with fail
        refine (HX.out _).mono ?_
        rintro e w1' ⟨rfl, rfl⟩
        go_wp2_with fail
        go_ret3
        exact HRES.out
  · rw [decide_eq_false hok] at HV
    have HN := Lib.hid (HNONE.out (fun h => hok h.1))
    clear hok HNONE hv
    go_enter Try.func45, Try.ntmps45
    go_wp2_with fail
    refine HV.out.mono ?_
    rintro e w1 ⟨rfl, hb1⟩
    have HRES := Lib.hid (HN.out w1 hb1)
    clear hb1 HV HN
    go_wp2_with fail
    go_ret3
    exact HRES.out

end Go.Proofs.Ytfcgnfhpfooelaa
