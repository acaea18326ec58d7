/- ComposePermutations and ApplyPermutation, the program's and the model's, by one contract each. -/
import Derived.Test.YtckogbmaahenhaaIPermV
import Derived.Test.YtckogbmaahenhaaSPermV
import Derived.Test.YtckogbmaahenhaaRetI
import Derived.Test.YtckogbmaahenhaaIList
import Derived.Test.YtckogbmaahenhaaList
namespace Go.Proofs.Ytckogbmaahenhaa
open Go.RowKit P

/-- Applying, and whether it can be done. -/
def applyF (p l : List Int) : List Int × Bool := if OkP p ∧ OkL l ∧ p.length = l.length then (pickAt l p, true) else ([], false)
theorem applyF_yes {p l : List Int} (h : OkP p ∧ OkL l ∧ p.length = l.length) : applyF p l = (pickAt l p, true) := if_pos h
theorem applyF_no {p l : List Int} (h : ¬ (OkP p ∧ OkL l ∧ p.length = l.length)) : applyF p l = ([], false) := if_neg h
theorem applyF_len (p l : List Int) : (applyF p l).1.length ≤ 1048576 := by
  unfold applyF; split
  · rename_i h; simp only [pickAt_length]; have := h.1.1; omega
  · simp

set_option maxRecDepth 100000 in
set_option maxHeartbeats 4000000 in
theorem elementsAt_any (v v' : Value) (l idx : List Int) (w : World) (hv : FlatAt w v l.length (ints l)) (hv' : FlatAt w v' idx.length (ints idx)) (hn : idx.length ≤ 1048576)
    (hin : ∀ (k : Nat) i, idx[k]? = some i → 0 ≤ i ∧ i < l.length) :
    Calls Try.prog 74 #[v, v'] w (RowI (pickAt l idx) w) := by
  obtain ⟨a, c, rfl, _, h⟩ := hv
  obtain ⟨a', c', rfl, _, h'⟩ := hv'
  have H := Lib.hid h
  have H' := Lib.hid h'
  have HIN := Lib.hid hin
  clear h h' hin
  have hmk := makeInts idx.length hn
  have HPL := Lib.hid (pickAt_length l idx)
  have hrow : RowIs (w.alloc (.cells (ints (List.replicate idx.length 0)).toArray 3)) w.heap.size 3 (ints (fill (pickAt l idx) 0 0)) := by
    rw [fill_zero, HPL.out]; exact heap_alloc_new w _
  have hb0 : Below w.heap.size w (w.alloc (.cells (ints (List.replicate idx.length 0)).toArray 3)) := (Below.refl _ _).alloc (Nat.le_refl _) _
  have HROW := Lib.hid hrow
  have HB0 := Lib.hid hb0
  clear hrow hb0
  go_enter Try.func74, Try.ntmps74
  go_wp2
  go_loopw [6, 7, 13] (fun _ _ i wr => ∃ k : Nat, k ≤ idx.length ∧ i = .int .i64 k ∧ RowIs wr w.heap.size 3 (ints (fill (pickAt l idx) 0 k)) ∧ Below w.heap.size w wr) (fun _ _ i _ => idx.length - (intOf i).toNat)
  case atStart => exact ⟨0, Nat.zero_le _, rfl, HROW.out, HB0.out⟩
  case round =>
    obtain ⟨k, hk, rfl, hr, hb⟩ := hrel
    have HR := Lib.hid hr
    have HB := Lib.hid hb
    clear hr hb hmk HROW HB0
    by_cases hlt : k < idx.length
    · obtain ⟨p, hp⟩ : ∃ p, idx[k]? = some p := ⟨_, List.getElem?_eq_getElem hlt⟩
      obtain ⟨b', o', rfl, hbb', hc1'⟩ := H'.out _ _ (ints_at hp)
      have hw1' : wr.cell? ⟨b', o' + k, none⟩ = some (.int .i64 p) := (HB.out.cell (p := ⟨b', o' + k, none⟩) hbb').trans hc1'
      have hv := HIN.out _ _ hp
      obtain ⟨e, rfl⟩ : ∃ e : Nat, p = e := ⟨p.toNat, by omega⟩
      have he : e < l.length := by omega
      obtain ⟨x, hx⟩ : ∃ x, l[e]? = some x := ⟨_, List.getElem?_eq_getElem he⟩
      obtain ⟨b, o, rfl, hbb, hc1⟩ := H.out _ _ (ints_at hx)
      have hw1 : wr.cell? ⟨b, o + e, none⟩ = some (.int .i64 x) := (HB.out.cell (p := ⟨b, o + e, none⟩) hbb).trans hc1
      have HP := Lib.hid (pickAt_at hp hx)
      have hg1 : wr.cell? ⟨w.heap.size, k, none⟩ = some (.int .i64 0) := (HR.out.cell _).trans (ints_at (fill_at (d := (0 : Int)) (by rw [HPL.out]; exact hlt)))
      have hf1 := HR.out.frozen k
      clear hc1 hc1' hp hx hv
      go_wp2
      go_roundw
      case rel => exact ⟨k + 1, by omega, by go_num, by rw [← fill_set HP.out, ← ints_set]; exact HR.out.stored k _, HB.out.setCell (p := ⟨w.heap.size, k, none⟩) (Nat.le_refl _) _⟩
      case measure => simp [intOf]; omega
    · obtain rfl : k = idx.length := by omega
      have HR2 : Hid (RowIs wr w.heap.size 3 (ints (pickAt l idx))) := Lib.hid (by have h := HR.out; rw [← HPL.out, fill_all] at h; exact h)
      have HRES : Hid (RowI (pickAt l idx) w (.returned (.slice (some ⟨w.heap.size, 0, none⟩) idx.length idx.length)) wr) :=
        Lib.hid ⟨w.heap.size, idx.length, by rw [HPL.out], by rw [HPL.out]; exact Nat.le_refl _, Nat.le_refl _, CellRow.of_row HR2.out, HB.out⟩
      go_wp2
      go_ret
      exact HRES.out

attribute [local go_sem ↓ high] builtin_append_held

set_option maxRecDepth 100000 in
set_option maxHeartbeats 4000000 in
theorem l3Apply_any (v v' : Value) (l idx : List Int) (w : World) (hv : FlatAt w v l.length (ints l)) (hv' : FlatAt w v' idx.length (ints idx)) (hn : idx.length ≤ 1048576)
    (hin : ∀ (k : Nat) i, idx[k]? = some i → 0 ≤ i ∧ i < l.length) :
    Calls Try.prog 76 #[v', v] w (RowI (pickAt l idx) w) := by
  obtain ⟨a, c, rfl, _, h⟩ := hv
  obtain ⟨a', c', rfl, _, h'⟩ := hv'
  have H := Lib.hid h
  have H' := Lib.hid h'
  have HIN := Lib.hid hin
  clear h h' hin
  have HS := Lib.hid (Held.start w w.heap.size (Nat.le_refl _))
  have HB0 : Hid (Below w.heap.size w (w.alloc (.cells #[] 3))) := Lib.hid ((Below.refl _ _).alloc (Nat.le_refl _) _)
  go_enter Try.func76, Try.ntmps76
  go_wp2_with fail
  go_loopw [5, 6] (fun u i wr => ∃ k : Nat, k ≤ idx.length ∧ i = .int .i64 k ∧ Held w.heap.size wr u (pickAt l (idx.take k)) ∧ Below w.heap.size w wr) (fun _ i _ => idx.length - (intOf i).toNat)
  case atStart => exact ⟨0, Nat.zero_le _, rfl, by simpa [pickAt] using HS.out, HB0.out⟩
  case round =>
    obtain ⟨k, hk, rfl, hr, hb⟩ := hrel
    have HR := Lib.hid hr
    have HB := Lib.hid hb
    clear hr hb HS HB0
    by_cases hlt : k < idx.length
    · obtain ⟨p, hp⟩ : ∃ p, idx[k]? = some p := ⟨_, List.getElem?_eq_getElem hlt⟩
      obtain ⟨b', o', rfl, hbb', hc1'⟩ := H'.out _ _ (ints_at hp)
      have hw1' : wr.cell? ⟨b', o' + k, none⟩ = some (.int .i64 p) := (HB.out.cell (p := ⟨b', o' + k, none⟩) hbb').trans hc1'
      have hv := HIN.out _ _ hp
      obtain ⟨e, rfl⟩ : ∃ e : Nat, p = e := ⟨p.toNat, by omega⟩
      have he : e < l.length := by omega
      obtain ⟨x, hx⟩ : ∃ x, l[e]? = some x := ⟨_, List.getElem?_eq_getElem he⟩
      obtain ⟨b, o, rfl, hbb, hc1⟩ := H.out _ _ (ints_at hx)
      have hw1 : wr.cell? ⟨b, o + e, none⟩ = some (.int .i64 x) := (HB.out.cell (p := ⟨b, o + e, none⟩) hbb).trans hc1
      have HP := Lib.hid (pickAt_take hp hx)
      obtain ⟨v2, w2, hrun, hheld, hbel⟩ := appendOne w.heap.size _ _ x wr HR.out HB.out.size (by rw [pickAt_length, List.length_take]; omega)
      have HH := Lib.hid hheld
      have HB2 := Lib.hid (HB.out.trans hbel)
      clear hc1 hc1' hp hx hv hheld hbel HR HB
      go_wp2_with fail
      go_roundw
      case rel => exact ⟨k + 1, by omega, by go_num, by rw [HP.out]; exact HH.out, HB2.out⟩
      case measure => simp [intOf]; omega
    · obtain rfl : k = idx.length := by omega
      rw [List.take_length] at HR
      obtain ⟨g, cg, rfl, hg, hcg, hrow⟩ := HR.out.row
      have HRES : Hid (RowI (pickAt l idx) w (.returned (.slice (some ⟨g, 0, none⟩) (pickAt l idx).length cg)) wr) := Lib.hid ⟨g, cg, rfl, hcg, hg, hrow, HB.out⟩
      clear hg hcg hrow HR
      go_wp2_with fail
      go_ret
      exact HRES.out

set_option maxRecDepth 100000 in
set_option maxHeartbeats 4000000 in
theorem implComp_any (v : Value) (l : List Int) (v' : Value) (m : List Int) (w : World) (hv : FlatAt w v l.length (ints l)) (hn : l.length ≤ 1048576) (hv' : FlatAt w v' m.length (ints m)) (hn' : m.length ≤ 1048576) :
    Calls Try.prog 29 #[v, v'] w (RetI (compF l m) w) := by
  have HV := Lib.hid hv
  have HV' := Lib.hid hv'
  obtain ⟨a, c, rfl, _, _⟩ := hv
  obtain ⟨a', c', rfl, _, _⟩ := hv'
  by_cases h1 : OkP l
  · have hd := decide_eq_true h1
    by_cases h2 : OkP m
    · have hd2 := decide_eq_true h2
      by_cases h3 : l.length = m.length
      · have HF : Hid (compF l m = (pickAt l m, true)) := Lib.hid (compF_yes ⟨h1, h2, h3⟩)
        have HE : Hid (∀ (k : Nat) i, m[k]? = some i → 0 ≤ i ∧ i < l.length) := Lib.hid (fun k i hi => by rw [h3]; exact h2.at hi)
        have h3z : (l.length : Int) = m.length := by omega
        have HI1 := Lib.hid (fun W (h : FlatAt W (.slice a l.length c) l.length (ints l)) => by have := implValidPerm_any _ l W h hn; rw [hd] at this; exact this)
        have HI2 := Lib.hid (fun W (h : FlatAt W (.slice a' m.length c') m.length (ints m)) => by have := implValidPerm_any _ m W h hn'; rw [hd2] at this; exact this)
        clear h1 h2 hd hd2 h3
        go_enter Try.func29, Try.ntmps29
        go_wp2_with fail
        refine (HI1.out _ HV.out).mono ?_
        rintro e w1 ⟨rfl, hb1⟩
        have HB1 := Lib.hid hb1
        clear hb1
        go_wp2_with fail
        refine (HI2.out _ (HV'.out.below HB1.out)).mono ?_
        rintro e w2 ⟨rfl, hb2⟩
        have HB2 := Lib.hid (HB1.out.trans (hb2.mono HB1.out.size))
        clear hb2
        go_wp2_with fail
        refine (elementsAt_any _ _ l m w2 (HV.out.below HB2.out) (HV'.out.below HB2.out) hn' HE.out).mono ?_
        rintro e w3 ⟨g, cg, rfl, hc, hg, hr, hb⟩
        have HRES : Hid (RetI (compF l m) w (.returned (.tuple #[.slice (some ⟨g, 0, none⟩) (pickAt l m).length cg, .bool true])) w3) := Lib.hid (by
          rw [HF.out]; exact ⟨g, cg, rfl, hc, Nat.le_trans HB2.out.size hg, hr, HB2.out.trans (hb.mono HB2.out.size)⟩)
        clear hc hg hr hb
        go_wp2_with fail
        go_ret2
        exact HRES.out
      · have HF : Hid (compF l m = ([], false)) := Lib.hid (compF_no fun h => h3 h.2.2)
        have h3z : ¬ (l.length : Int) = m.length := by omega
        have HI1 := Lib.hid (fun W (h : FlatAt W (.slice a l.length c) l.length (ints l)) => by have := implValidPerm_any _ l W h hn; rw [hd] at this; exact this)
        have HI2 := Lib.hid (fun W (h : FlatAt W (.slice a' m.length c') m.length (ints m)) => by have := implValidPerm_any _ m W h hn'; rw [hd2] at this; exact this)
        clear h1 h2 hd hd2 h3
        go_enter Try.func29, Try.ntmps29
        go_wp2_with fail
        refine (HI1.out _ HV.out).mono ?_
        rintro e w1 ⟨rfl, hb1⟩
        have HB1 := Lib.hid hb1
        clear hb1
        go_wp2_with fail
        refine (HI2.out _ (HV'.out.below HB1.out)).mono ?_
        rintro e w2 ⟨rfl, hb2⟩
        have HRES : Hid (RetI (compF l m) w (.returned (.tuple #[.slice (some ⟨w2.heap.size, 0, none⟩) 0 0, .bool false])) (w2.alloc (.cells #[] 3))) := Lib.hid (by rw [HF.out]; exact RetI.none w w2 (HB1.out.trans (hb2.mono HB1.out.size)))
        clear hb2
        go_wp2_with fail
        go_ret2
        exact HRES.out
    · have hd2 := decide_eq_false h2
      have HF : Hid (compF l m = ([], false)) := Lib.hid (compF_no fun h => h2 h.2.1)
      have HI1 := Lib.hid (fun W (h : FlatAt W (.slice a l.length c) l.length (ints l)) => by have := implValidPerm_any _ l W h hn; rw [hd] at this; exact this)
      have HI2 := Lib.hid (fun W (h : FlatAt W (.slice a' m.length c') m.length (ints m)) => by have := implValidPerm_any _ m W h hn'; rw [hd2] at this; exact this)
      clear h1 h2 hd hd2
      go_enter Try.func29, Try.ntmps29
      go_wp2_with fail
      refine (HI1.out _ HV.out).mono ?_
      rintro e w1 ⟨rfl, hb1⟩
      have HB1 := Lib.hid hb1
      clear hb1
      go_wp2_with fail
      refine (HI2.out _ (HV'.out.below HB1.out)).mono ?_
      rintro e w2 ⟨rfl, hb2⟩
      have HRES : Hid (RetI (compF l m) w (.returned (.tuple #[.slice (some ⟨w2.heap.size, 0, none⟩) 0 0, .bool false])) (w2.alloc (.cells #[] 3))) := Lib.hid (by rw [HF.out]; exact RetI.none w w2 (HB1.out.trans (hb2.mono HB1.out.size)))
      clear hb2
      go_wp2_with fail
      go_ret2
      exact HRES.out
  · have hd := decide_eq_false h1
    have HF : Hid (compF l m = ([], false)) := Lib.hid (compF_no fun h => h1 h.1)
    have HI1 := Lib.hid (fun W (h : FlatAt W (.slice a l.length c) l.length (ints l)) => by have := implValidPerm_any _ l W h hn; rw [hd] at this; exact this)
    clear h1 hd
    go_enter Try.func29, Try.ntmps29
    go_wp2_with fail
    refine (HI1.out _ HV.out).mono ?_
    rintro e w1 ⟨rfl, hb1⟩
    have HRES : Hid (RetI (compF l m) w (.returned (.tuple #[.slice (some ⟨w1.heap.size, 0, none⟩) 0 0, .bool false])) (w1.alloc (.cells #[] 3))) := Lib.hid (by rw [HF.out]; exact RetI.none w w1 hb1)
    clear hb1
    go_wp2_with fail
    go_ret2
    exact HRES.out

set_option maxRecDepth 100000 in
set_option maxHeartbeats 4000000 in
theorem implApply_any (v : Value) (l : List Int) (v' : Value) (m : List Int) (w : World) (hv : FlatAt w v l.length (ints l)) (hn : l.length ≤ 1048576) (hv' : FlatAt w v' m.length (ints m)) (hn' : m.length ≤ 1048576) :
    Calls Try.prog 27 #[v, v'] w (RetI (applyF l m) w) := by
  have HV := Lib.hid hv
  have HV' := Lib.hid hv'
  obtain ⟨a, c, rfl, _, _⟩ := hv
  obtain ⟨a', c', rfl, _, _⟩ := hv'
  by_cases h1 : OkP l
  · have hd := decide_eq_true h1
    by_cases h2 : OkL m
    · have hd2 := decide_eq_true h2
      by_cases h3 : l.length = m.length
      · have HF : Hid (applyF l m = (pickAt m l, true)) := Lib.hid (applyF_yes ⟨h1, h2, h3⟩)
        have HE : Hid (∀ (k : Nat) i, l[k]? = some i → 0 ≤ i ∧ i < m.length) := Lib.hid (fun k i hi => by rw [← h3]; exact h1.at hi)
        have h3z : (l.length : Int) = m.length := by omega
        have HI1 := Lib.hid (fun W (h : FlatAt W (.slice a l.length c) l.length (ints l)) => by have := implValidPerm_any _ l W h hn; rw [hd] at this; exact this)
        have HI2 := Lib.hid (fun W (h : FlatAt W (.slice a' m.length c') m.length (ints m)) => by have := implValidList_any _ m W h hn'; rw [hd2] at this; exact this)
        clear h1 h2 hd hd2 h3
        go_enter Try.func27, Try.ntmps27
        go_wp2_with fail
        refine (HI1.out _ HV.out).mono ?_
        rintro e w1 ⟨rfl, hb1⟩
        have HB1 := Lib.hid hb1
        clear hb1
        go_wp2_with fail
        refine (HI2.out _ (HV'.out.below HB1.out)).mono ?_
        rintro e w2 ⟨rfl, hb2⟩
        have HB2 := Lib.hid (HB1.out.trans (hb2.mono HB1.out.size))
        clear hb2
        go_wp2_with fail
        refine (elementsAt_any _ _ m l w2 (HV'.out.below HB2.out) (HV.out.below HB2.out) hn HE.out).mono ?_
        rintro e w3 ⟨g, cg, rfl, hc, hg, hr, hb⟩
        have HRES : Hid (RetI (applyF l m) w (.returned (.tuple #[.slice (some ⟨g, 0, none⟩) (pickAt m l).length cg, .bool true])) w3) := Lib.hid (by
          rw [HF.out]; exact ⟨g, cg, rfl, hc, Nat.le_trans HB2.out.size hg, hr, HB2.out.trans (hb.mono HB2.out.size)⟩)
        clear hc hg hr hb
        go_wp2_with fail
        go_ret2
        exact HRES.out
      · have HF : Hid (applyF l m = ([], false)) := Lib.hid (applyF_no fun h => h3 h.2.2)
        have h3z : ¬ (l.length : Int) = m.length := by omega
        have HI1 := Lib.hid (fun W (h : FlatAt W (.slice a l.length c) l.length (ints l)) => by have := implValidPerm_any _ l W h hn; rw [hd] at this; exact this)
        have HI2 := Lib.hid (fun W (h : FlatAt W (.slice a' m.length c') m.length (ints m)) => by have := implValidList_any _ m W h hn'; rw [hd2] at this; exact this)
        clear h1 h2 hd hd2 h3
        go_enter Try.func27, Try.ntmps27
        go_wp2_with fail
        refine (HI1.out _ HV.out).mono ?_
        rintro e w1 ⟨rfl, hb1⟩
        have HB1 := Lib.hid hb1
        clear hb1
        go_wp2_with fail
        refine (HI2.out _ (HV'.out.below HB1.out)).mono ?_
        rintro e w2 ⟨rfl, hb2⟩
        have HRES : Hid (RetI (applyF l m) w (.returned (.tuple #[.slice (some ⟨w2.heap.size, 0, none⟩) 0 0, .bool false])) (w2.alloc (.cells #[] 3))) := Lib.hid (by rw [HF.out]; exact RetI.none w w2 (HB1.out.trans (hb2.mono HB1.out.size)))
        clear hb2
        go_wp2_with fail
        go_ret2
        exact HRES.out
    · have hd2 := decide_eq_false h2
      have HF : Hid (applyF l m = ([], false)) := Lib.hid (applyF_no fun h => h2 h.2.1)
      have HI1 := Lib.hid (fun W (h : FlatAt W (.slice a l.length c) l.length (ints l)) => by have := implValidPerm_any _ l W h hn; rw [hd] at this; exact this)
      have HI2 := Lib.hid (fun W (h : FlatAt W (.slice a' m.length c') m.length (ints m)) => by have := implValidList_any _ m W h hn'; rw [hd2] at this; exact this)
      clear h1 h2 hd hd2
      go_enter Try.func27, Try.ntmps27
      go_wp2_with fail
      refine (HI1.out _ HV.out).mono ?_
      rintro e w1 ⟨rfl, hb1⟩
      have HB1 := Lib.hid hb1
      clear hb1
      go_wp2_with fail
      refine (HI2.out _ (HV'.out.below HB1.out)).mono ?_
      rintro e w2 ⟨rfl, hb2⟩
      have HRES : Hid (RetI (applyF l m) w (.returned (.tuple #[.slice (some ⟨w2.heap.size, 0, none⟩) 0 0, .bool false])) (w2.alloc (.cells #[] 3))) := Lib.hid (by rw [HF.out]; exact RetI.none w w2 (HB1.out.trans (hb2.mono HB1.out.size)))
      clear hb2
      go_wp2_with fail
      go_ret2
      exact HRES.out
  · have hd := decide_eq_false h1
    have HF : Hid (applyF l m = ([], false)) := Lib.hid (applyF_no fun h => h1 h.1)
    have HI1 := Lib.hid (fun W (h : FlatAt W (.slice a l.length c) l.length (ints l)) => by have := implValidPerm_any _ l W h hn; rw [hd] at this; exact this)
    clear h1 hd
    go_enter Try.func27, Try.ntmps27
    go_wp2_with fail
    refine (HI1.out _ HV.out).mono ?_
    rintro e w1 ⟨rfl, hb1⟩
    have HRES : Hid (RetI (applyF l m) w (.returned (.tuple #[.slice (some ⟨w1.heap.size, 0, none⟩) 0 0, .bool false])) (w1.alloc (.cells #[] 3))) := Lib.hid (by rw [HF.out]; exact RetI.none w w1 hb1)
    clear hb1
    go_wp2_with fail
    go_ret2
    exact HRES.out

set_option maxRecDepth 100000 in
set_option maxHeartbeats 4000000 in
theorem specApply_any (v : Value) (l : List Int) (v' : Value) (m : List Int) (w : World) (hv : FlatAt w v l.length (ints l)) (hn : l.length ≤ 1048576) (hv' : FlatAt w v' m.length (ints m)) (hn' : m.length ≤ 1048576) :
    Calls Try.prog 28 #[v, v'] w (RetI (applyF l m) w) := by
  have HV := Lib.hid hv
  have HV' := Lib.hid hv'
  obtain ⟨a, c, rfl, _, _⟩ := hv
  obtain ⟨a', c', rfl, _, _⟩ := hv'
  by_cases h1 : OkP l
  · have hd := decide_eq_true h1
    by_cases h2 : OkL m
    · have hd2 := decide_eq_true h2
      by_cases h3 : l.length = m.length
      · have HF : Hid (applyF l m = (pickAt m l, true)) := Lib.hid (applyF_yes ⟨h1, h2, h3⟩)
        have HE : Hid (∀ (k : Nat) i, l[k]? = some i → 0 ≤ i ∧ i < m.length) := Lib.hid (fun k i hi => by rw [← h3]; exact h1.at hi)
        have h3z : (l.length : Int) = m.length := by omega
        have HI1 := Lib.hid (fun W (h : FlatAt W (.slice a l.length c) l.length (ints l)) => by have := l3Good_any _ l W h hn; rw [hd] at this; exact this)
        have HI2 := Lib.hid (fun W (h : FlatAt W (.slice a' m.length c') m.length (ints m)) => by have := l2List_any _ m W h hn'; rw [hd2] at this; exact this)
        clear h1 h2 hd hd2 h3
        go_enter Try.func28, Try.ntmps28
        go_wp2_with fail
        refine (HI1.out _ HV.out).mono ?_
        rintro e w1 ⟨rfl, hb1⟩
        have HB1 := Lib.hid hb1
        clear hb1
        go_wp2_with fail
        refine (HI2.out _ (HV'.out.below HB1.out)).mono ?_
        rintro e w2 ⟨rfl, hb2⟩
        have HB2 := Lib.hid (HB1.out.trans (hb2.mono HB1.out.size))
        clear hb2
        go_wp2_with fail
        refine (l3Apply_any _ _ m l w2 (HV'.out.below HB2.out) (HV.out.below HB2.out) hn HE.out).mono ?_
        rintro e w3 ⟨g, cg, rfl, hc, hg, hr, hb⟩
        have HRES : Hid (RetI (applyF l m) w (.returned (.tuple #[.slice (some ⟨g, 0, none⟩) (pickAt m l).length cg, .bool true])) w3) := Lib.hid (by
          rw [HF.out]; exact ⟨g, cg, rfl, hc, Nat.le_trans HB2.out.size hg, hr, HB2.out.trans (hb.mono HB2.out.size)⟩)
        clear hc hg hr hb
        go_wp2_with fail
        go_ret2
        exact HRES.out
      · have HF : Hid (applyF l m = ([], false)) := Lib.hid (applyF_no fun h => h3 h.2.2)
        have h3z : ¬ (l.length : Int) = m.length := by omega
        have HI1 := Lib.hid (fun W (h : FlatAt W (.slice a l.length c) l.length (ints l)) => by have := l3Good_any _ l W h hn; rw [hd] at this; exact this)
        have HI2 := Lib.hid (fun W (h : FlatAt W (.slice a' m.length c') m.length (ints m)) => by have := l2List_any _ m W h hn'; rw [hd2] at this; exact this)
        clear h1 h2 hd hd2 h3
        go_enter Try.func28, Try.ntmps28
        go_wp2_with fail
        refine (HI1.out _ HV.out).mono ?_
        rintro e w1 ⟨rfl, hb1⟩
        have HB1 := Lib.hid hb1
        clear hb1
        go_wp2_with fail
        refine (HI2.out _ (HV'.out.below HB1.out)).mono ?_
        rintro e w2 ⟨rfl, hb2⟩
        have HRES : Hid (RetI (applyF l m) w (.returned (.tuple #[.slice (some ⟨w2.heap.size, 0, none⟩) 0 0, .bool false])) (w2.alloc (.cells #[] 3))) := Lib.hid (by rw [HF.out]; exact RetI.none w w2 (HB1.out.trans (hb2.mono HB1.out.size)))
        clear hb2
        go_wp2_with fail
        go_ret2
        exact HRES.out
    · have hd2 := decide_eq_false h2
      have HF : Hid (applyF l m = ([], false)) := Lib.hid (applyF_no fun h => h2 h.2.1)
      have HI1 := Lib.hid (fun W (h : FlatAt W (.slice a l.length c) l.length (ints l)) => by have := l3Good_any _ l W h hn; rw [hd] at this; exact this)
      have HI2 := Lib.hid (fun W (h : FlatAt W (.slice a' m.length c') m.length (ints m)) => by have := l2List_any _ m W h hn'; rw [hd2] at this; exact this)
      clear h1 h2 hd hd2
      go_enter Try.func28, Try.ntmps28
      go_wp2_with fail
      refine (HI1.out _ HV.out).mono ?_
      rintro e w1 ⟨rfl, hb1⟩
      have HB1 := Lib.hid hb1
      clear hb1
      go_wp2_with fail
      refine (HI2.out _ (HV'.out.below HB1.out)).mono ?_
      rintro e w2 ⟨rfl, hb2⟩
      have HRES : Hid (RetI (applyF l m) w (.returned (.tuple #[.slice (some ⟨w2.heap.size, 0, none⟩) 0 0, .bool false])) (w2.alloc (.cells #[] 3))) := Lib.hid (by rw [HF.out]; exact RetI.none w w2 (HB1.out.trans (hb2.mono HB1.out.size)))
      clear hb2
      go_wp2_with fail
      go_ret2
      exact HRES.out
  · have hd := decide_eq_false h1
    have HF : Hid (applyF l m = ([], false)) := Lib.hid (applyF_no fun h => h1 h.1)
    have HI1 := Lib.hid (fun W (h : FlatAt W (.slice a l.length c) l.length (ints l)) => by have := l3Good_any _ l W h hn; rw [hd] at this; exact this)
    clear h1 hd
    go_enter Try.func28, Try.ntmps28
    go_wp2_with fail
    refine (HI1.out _ HV.out).mono ?_
    rintro e w1 ⟨rfl, hb1⟩
    have HRES : Hid (RetI (applyF l m) w (.returned (.tuple #[.slice (some ⟨w1.heap.size, 0, none⟩) 0 0, .bool false])) (w1.alloc (.cells #[] 3))) := Lib.hid (by rw [HF.out]; exact RetI.none w w1 hb1)
    clear hb1
    go_wp2_with fail
    go_ret2
    exact HRES.out

end Go.Proofs.Ytckogbmaahenhaa
