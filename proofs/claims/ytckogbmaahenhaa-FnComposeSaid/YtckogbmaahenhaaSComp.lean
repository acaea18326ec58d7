/- The model's ComposePermutations, by its contract. -/
import Derived.Test.YtckogbmaahenhaaIComp
namespace Go.Proofs.Ytckogbmaahenhaa
open Go.RowKit P

attribute [local go_sem ↓ high] builtin_append_held

set_option maxRecDepth 100000 in
set_option maxHeartbeats 4000000 in
theorem specComp_any (v : Value) (l : List Int) (v' : Value) (m : List Int) (w : World) (hv : FlatAt w v l.length (ints l)) (hn : l.length ≤ 1048576) (hv' : FlatAt w v' m.length (ints m)) (hn' : m.length ≤ 1048576) :
    Calls Try.prog 31 #[v, v'] w (RetI (compF l m) w) := by
  have HV := Lib.hid hv
  have HV' := Lib.hid hv'
  obtain ⟨a, c, rfl, _, _⟩ := hv
  obtain ⟨a', c', rfl, _, _⟩ := hv'
  have HB0 : Hid (Below w.heap.size w (w.alloc (.cells #[] 3))) := Lib.hid ((Below.refl _ _).alloc (Nat.le_refl _) _)
  have HS0 := Lib.hid (Held.start w w.heap.size (Nat.le_refl _))
  have HRET : Hid (∀ w1, Below (w.alloc (.cells #[] 3)).heap.size (w.alloc (.cells #[] 3)) w1 → RetI ([], false) w (.returned (.tuple #[.slice (some ⟨w.heap.size, 0, none⟩) 0 0, .bool false])) w1) := Lib.hid (fun w1 hb => by
    obtain ⟨g, c, e, hg, hc, hr⟩ := (HS0.out.below hb).row
    simp at e
    obtain ⟨rfl, rfl⟩ := e
    exact ⟨_, _, rfl, hc, hg, hr, HB0.out.trans (hb.mono HB0.out.size)⟩)
  by_cases h1 : OkP l
  · have hd := decide_eq_true h1
    by_cases h2 : OkP m
    · have hd2 := decide_eq_true h2
      by_cases h3 : l.length = m.length
      · have HF : Hid (compF l m = (pickAt l m, true)) := Lib.hid (compF_yes ⟨h1, h2, h3⟩)
        have HE : Hid (∀ (k : Nat) i, m[k]? = some i → 0 ≤ i ∧ i < l.length) := Lib.hid (fun k i hi => by rw [h3]; exact h2.at hi)
        have h3z : (l.length : Int) = m.length := by omega
        have HI1 := Lib.hid (fun W (h : FlatAt W (.slice a l.length c) l.length (ints l)) => by have := l3Good_any _ l W h hn; rw [hd] at this; exact this)
        have HI2 := Lib.hid (fun W (h : FlatAt W (.slice a' m.length c') m.length (ints m)) => by have := l3Good_any _ m W h hn'; rw [hd2] at this; exact this)
        clear h1 h2 hd hd2 h3
        go_enter Try.func31, Try.ntmps31
        go_wp2_with fail
        refine (HI1.out _ (HV.out.below HB0.out)).mono ?_
        rintro e w1 ⟨rfl, hb1⟩
        have HB1 := Lib.hid hb1
        clear hb1
        go_wp2_with fail
        refine (HI2.out _ ((HV'.out.below HB0.out).below HB1.out)).mono ?_
        rintro e w2 ⟨rfl, hb2⟩
        have HB2 := Lib.hid (HB1.out.trans (hb2.mono HB1.out.size))
        clear hb2
        go_wp2_with fail
        obtain ⟨a1, a2, e1, _, hx⟩ := HV.out
        obtain ⟨a1', a2', e1', _, hx'⟩ := HV'.out
        simp at e1 e1'
        obtain ⟨rfl, rfl⟩ := e1
        obtain ⟨rfl, rfl⟩ := e1'
        have H := Lib.hid hx
        have H' := Lib.hid hx'
        have HS2 := Lib.hid (HS0.out.below HB2.out)
        have HB3 := Lib.hid (HB0.out.trans (HB2.out.mono HB0.out.size))
        clear hx hx' HS0 HB0 HB1 HB2 HRET
        go_loopw [6, 7] (fun u i wr => ∃ k : Nat, k ≤ m.length ∧ i = .int .i64 k ∧ Held w.heap.size wr u (pickAt l (m.take k)) ∧ Below w.heap.size w wr) (fun _ i _ => m.length - (intOf i).toNat)
        case atStart => exact ⟨0, Nat.zero_le _, rfl, by simpa [pickAt] using HS2.out, HB3.out⟩
        case round =>
          obtain ⟨k, hk, rfl, hr, hb⟩ := hrel
          have HR := Lib.hid hr
          have HB := Lib.hid hb
          clear hr hb HS2 HB3
          by_cases hlt : k < m.length
          · obtain ⟨p, hp⟩ : ∃ p, m[k]? = some p := ⟨_, List.getElem?_eq_getElem hlt⟩
            obtain ⟨b', o', rfl, hbb', hc1'⟩ := H'.out _ _ (ints_at hp)
            have hw1' : wr.cell? ⟨b', o' + k, none⟩ = some (.int .i64 p) := (HB.out.cell (p := ⟨b', o' + k, none⟩) hbb').trans hc1'
            have hv := HE.out _ _ hp
            obtain ⟨e, rfl⟩ : ∃ e : Nat, p = e := ⟨p.toNat, by omega⟩
            have he : e < l.length := by omega
            obtain ⟨x, hx⟩ : ∃ x, l[e]? = some x := ⟨_, List.getElem?_eq_getElem he⟩
            obtain ⟨b, o, rfl, hbb, hc1⟩ := H.out _ _ (ints_at hx)
            have hw1 : wr.cell? ⟨b, o + e, none⟩ = some (.int .i64 x) := (HB.out.cell (p := ⟨b, o + e, none⟩) hbb).trans hc1
            have HP := Lib.hid (pickAt_take hp hx)
            obtain ⟨v2, w2, hrun, hheld, hbel⟩ := appendOne w.heap.size _ _ x wr HR.out HB.out.size (by rw [pickAt_length, List.length_take]; omega)
            have HH := Lib.hid hheld
            have HB2 := Lib.hid (HB.out.trans hbel)
            clear hc1 hc1' hp hx hv hheld hbel HR HB
            go_wp2_with fail
            go_roundw
            case rel => exact ⟨k + 1, by omega, by go_num, by rw [HP.out]; exact HH.out, HB2.out⟩
            case measure => simp [intOf]; omega
          · obtain rfl : k = m.length := by omega
            rw [List.take_length] at HR
            obtain ⟨g, cg, rfl, hg, hcg, hrow⟩ := HR.out.row
            have HRES : Hid (RetI (compF l m) w (.returned (.tuple #[.slice (some ⟨g, 0, none⟩) (pickAt l m).length cg, .bool true])) wr) := Lib.hid (by rw [HF.out]; exact ⟨g, cg, rfl, hcg, hg, hrow, HB.out⟩)
            clear hg hcg hrow HR
            go_wp2_with fail
            go_ret2
            exact HRES.out
      · have HF : Hid (compF l m = ([], false)) := Lib.hid (compF_no fun h => h3 h.2.2)
        have h3z : ¬ (l.length : Int) = m.length := by omega
        have HI1 := Lib.hid (fun W (h : FlatAt W (.slice a l.length c) l.length (ints l)) => by have := l3Good_any _ l W h hn; rw [hd] at this; exact this)
        have HI2 := Lib.hid (fun W (h : FlatAt W (.slice a' m.length c') m.length (ints m)) => by have := l3Good_any _ m W h hn'; rw [hd2] at this; exact this)
        clear h1 h2 hd hd2 h3
        go_enter Try.func31, Try.ntmps31
        go_wp2_with fail
        refine (HI1.out _ (HV.out.below HB0.out)).mono ?_
        rintro e w1 ⟨rfl, hb1⟩
        have HB1 := Lib.hid hb1
        clear hb1
        go_wp2_with fail
        refine (HI2.out _ ((HV'.out.below HB0.out).below HB1.out)).mono ?_
        rintro e w2 ⟨rfl, hb2⟩
        have HRES : Hid (RetI (compF l m) w (.returned (.tuple #[.slice (some ⟨w.heap.size, 0, none⟩) 0 0, .bool false])) w2) := Lib.hid (by rw [HF.out]; exact HRET.out w2 (HB1.out.trans (hb2.mono HB1.out.size)))
        clear hb2
        go_wp2_with fail
        go_ret2
        exact HRES.out
    · have hd2 := decide_eq_false h2
      have HF : Hid (compF l m = ([], false)) := Lib.hid (compF_no fun h => h2 h.2.1)
      have HI1 := Lib.hid (fun W (h : FlatAt W (.slice a l.length c) l.length (ints l)) => by have := l3Good_any _ l W h hn; rw [hd] at this; exact this)
      have HI2 := Lib.hid (fun W (h : FlatAt W (.slice a' m.length c') m.length (ints m)) => by have := l3Good_any _ m W h hn'; rw [hd2] at this; exact this)
      clear h1 h2 hd hd2
      go_enter Try.func31, Try.ntmps31
      go_wp2_with fail
      refine (HI1.out _ (HV.out.below HB0.out)).mono ?_
      rintro e w1 ⟨rfl, hb1⟩
      have HB1 := Lib.hid hb1
      clear hb1
      go_wp2_with fail
      refine (HI2.out _ ((HV'.out.below HB0.out).below HB1.out)).mono ?_
      rintro e w2 ⟨rfl, hb2⟩
      have HRES : Hid (RetI (compF l m) w (.returned (.tuple #[.slice (some ⟨w.heap.size, 0, none⟩) 0 0, .bool false])) w2) := Lib.hid (by rw [HF.out]; exact HRET.out w2 (HB1.out.trans (hb2.mono HB1.out.size)))
      clear hb2
      go_wp2_with fail
      go_ret2
      exact HRES.out
  · have hd := decide_eq_false h1
    have HF : Hid (compF l m = ([], false)) := Lib.hid (compF_no fun h => h1 h.1)
    have HI1 := Lib.hid (fun W (h : FlatAt W (.slice a l.length c) l.length (ints l)) => by have := l3Good_any _ l W h hn; rw [hd] at this; exact this)
    clear h1 hd
    go_enter Try.func31, Try.ntmps31
    go_wp2_with fail
    refine (HI1.out _ (HV.out.below HB0.out)).mono ?_
    rintro e w1 ⟨rfl, hb1⟩
    have HRES : Hid (RetI (compF l m) w (.returned (.tuple #[.slice (some ⟨w.heap.size, 0, none⟩) 0 0, .bool false])) w1) := Lib.hid (by rw [HF.out]; exact HRET.out w1 hb1)
    clear hb1
    go_wp2_with fail
    go_ret2
    exact HRES.out

end Go.Proofs.Ytckogbmaahenhaa
