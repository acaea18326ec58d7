/- The model's MergeHeaps, by its contract. -/
import Derived.Test.YtfcgnfhpfooelaaSHp2
import Derived.Test.YtfcgnfhpfooelaaOwnH
import Derived.Test.YtfcgnfhpfooelaaRet12
namespace Go.Proofs.Ytfcgnfhpfooelaa
open Go.RowKit P El Hp
set_option linter.unusedVariables false

attribute [local go_sem ↓ high] builtin_append_held

theorem buildF_count2 {d : Nat} {l : List Int} (hd : 0 < d) (hl : l.length ≤ 64) : (buildF d l).2 ≤ 6000 := by
  have h1 := (bl_count (d := d) (n := l.length) hd l.length (l, 0)).2
  have h2 : l.length * l.length ≤ 64 * 64 := Nat.mul_le_mul hl hl
  simp only at h1; unfold buildF; omega

set_option maxRecDepth 100000 in
set_option maxHeartbeats 4000000 in
theorem specMrg_any (b o c : Nat) (l : List Int) (b2 o2 c2 : Nat) (l2 : List Int) (d : Int) (w : World) (hv : FlatAt w (.slice (some ⟨b, o, none⟩) l.length c) l.length (ints l)) (hn : l.length ≤ 1048576)
    (hv2 : FlatAt w (.slice (some ⟨b2, o2, none⟩) l2.length c2) l2.length (ints l2)) (hn2 : l2.length ≤ 1048576) :
    Calls Try.prog 57 #[.slice (some ⟨b, o, none⟩) l.length c, .slice (some ⟨b2, o2, none⟩) l2.length c2, .int .i64 d] w (RetI1 (mrgAll l l2 d) w) := by
  have HOWN := Lib.hid (l1OwnH_any b o c l w hv hn)
  have HFV := Lib.hid hv
  have HFV2 := Lib.hid hv2
  have HNONE : Hid (¬ (IsHp l d ∧ IsHp l2 d ∧ OkL (l ++ l2)) → ∀ w1, Below w.heap.size w w1 → RetI1 (mrgAll l l2 d) w (.returned (.tuple #[.slice (some ⟨w1.heap.size, 0, none⟩) 0 0, .int .i64 0, .bool false])) (w1.alloc (.cells #[] 3))) := Lib.hid (fun h w1 hb => by rw [mrgAll_no h]; exact RetI1.none w w1 hb)
  have HHP := Lib.hid (fun W (h : FlatAt W (.slice (some ⟨b, o, none⟩) l.length c) l.length (ints l)) => l6Heap_any _ l d W h hn)
  have HHP2 := Lib.hid (fun W (h : FlatAt W (.slice (some ⟨b2, o2, none⟩) l2.length c2) l2.length (ints l2)) => l6Heap_any _ l2 d W h hn2)
  obtain ⟨P1, hP⟩ : ∃ P1, P1 = l ++ l2 := ⟨_, rfl⟩
  have hPL : P1.length = l.length + l2.length := by rw [hP]; simp
  have HAP := Lib.hid (fun g k W (h : Held w.heap.size W (.slice (some ⟨g, 0, none⟩) l.length k) l) (hB : w.heap.size ≤ W.heap.size) (hf : FlatAt W (.slice (some ⟨b2, o2, none⟩) l2.length c2) l2.length (ints l2)) => appendMany w.heap.size _ l b2 o2 c2 l2 W h hB (by omega) (fun j u hu => by
    obtain ⟨a, c', e, _, hc⟩ := hf
    simp at e; obtain ⟨rfl, _⟩ := e
    obtain ⟨b', o', e, _, hcell⟩ := hc j u hu
    simp at e; obtain ⟨rfl, rfl⟩ := e
    exact hcell))
  have HLI := Lib.hid (fun v W (h : FlatAt W v P1.length (ints P1)) (h1 : P1.length ≤ 1048576) => l2List_any v P1 W h h1)
  rw [← hP] at HAP HNONE
  have HPL := Lib.hid hPL
  by_cases hok : IsHp l d
  · rw [decide_eq_true hok] at HHP
    have h64 := hok.1.1
    by_cases hokb : IsHp l2 d
    · rw [decide_eq_true hokb] at HHP2
      have h642 := hokb.1.1
      obtain ⟨k, rfl, hk0, hk2, hk8⟩ := hok.2.1.nat
      by_cases hok2 : OkL P1
      · rw [decide_eq_true hok2] at HLI
        have HF := Lib.hid (mrgAll_yes (a := l) (b := l2) (d := (k : Int)) ⟨hok, hokb, by rw [← hP]; exact hok2⟩)
        rw [hk0, ← hP] at HF
        have HBD := Lib.hid (fun g c W (h : CellRow W g (ints P1)) => sbuild_any (c := c) W h hk2 hk8 hok2.1)
        have HLN := Lib.hid (buildF_length (d := k) (by omega) P1)
        have hP64 : P1.length ≤ 64 := hok2.1
        clear hok hokb hok2 hv hv2 hP hPL HNONE
        go_enter Try.func57, Try.ntmps57
        go_wp2_with fail
        refine HOWN.out.mono ?_
        rintro e w1 ⟨g0, c0, rfl, hH, hb1⟩
        obtain ⟨v2, w2, hrun, hH2, hb2⟩ := HAP.out g0 c0 w1 hH hb1.size (HFV2.out.below hb1)
        have HB2 := Lib.hid (hb1.trans hb2)
        obtain ⟨g, cap, rfl, hg, hcap, hrow⟩ := hH2.row
        have HG : Hid (w.heap.size ≤ g) := Lib.hid hg
        have HROW := Lib.hid hrow
        clear hH hb1 hH2 hb2 HOWN HAP hg hrow
        go_wp2_with fail
        refine (HHP.out _ (HFV.out.below HB2.out)).mono ?_
        rintro e w3 ⟨rfl, hb3⟩
        have HB3 := Lib.hid (HB2.out.trans (hb3.mono HB2.out.size))
        have HROW3 := Lib.hid (HROW.out.below hb3 HROW.out.1)
        clear hb3 HROW HB2 HHP
        go_wp2_with fail
        refine (HHP2.out _ (HFV2.out.below HB3.out)).mono ?_
        rintro e w4 ⟨rfl, hb4⟩
        have HB4 := Lib.hid (HB3.out.trans (hb4.mono HB3.out.size))
        have HROW4 := Lib.hid (HROW3.out.below hb4 HROW3.out.1)
        clear hb4 HROW3 HB3 HHP2
        go_wp2_with fail
        refine (HLI.out _ _ (HROW4.out.flat hcap) (by omega)).mono ?_
        rintro e w5 ⟨rfl, hb5⟩
        have HB5 := Lib.hid (HB4.out.trans (hb5.mono HB4.out.size))
        have HD := Lib.hid (HBD.out g cap _ (HROW4.out.below hb5 HROW4.out.1))
        clear hb5 HROW4 HB4 HLI HBD
        go_wp2_with fail
        refine HD.out.mono ?_
        rintro e w6 ⟨rfl, hr6, hb6⟩
        have HRES : Hid (RetI1 (mrgAll l l2 (k : Int)) w (.returned (.tuple #[.slice (some ⟨g, 0, none⟩) P1.length cap, .int .i64 (((buildF k P1).2 : Nat) : Int), .bool true])) w6) := Lib.hid (by
          rw [HF.out]
          exact ⟨g, cap, by rw [HLN.out], by simp only; rw [HLN.out]; exact hcap, HG.out, hr6, HB5.out.trans (hb6.below HG.out HB5.out.size)⟩)
        clear hr6 hb6 HD
        go_wp2_with fail
        go_ret3
        exact HRES.out
      · rw [decide_eq_false hok2] at HLI
        have HN := Lib.hid (HNONE.out (fun h => hok2 h.2.2))
        have hP64 : P1.length ≤ 1048576 := by omega
        clear hok hokb hok2 hv hv2 hP hPL HNONE
        go_enter Try.func57, Try.ntmps57
        go_wp2_with fail
        refine HOWN.out.mono ?_
        rintro e w1 ⟨g0, c0, rfl, hH, hb1⟩
        obtain ⟨v2, w2, hrun, hH2, hb2⟩ := HAP.out g0 c0 w1 hH hb1.size (HFV2.out.below hb1)
        have HB2 := Lib.hid (hb1.trans hb2)
        obtain ⟨g, cap, rfl, hg, hcap, hrow⟩ := hH2.row
        have HROW := Lib.hid hrow
        clear hH hb1 hH2 hb2 HOWN HAP hg hrow
        go_wp2_with fail
        refine (HHP.out _ (HFV.out.below HB2.out)).mono ?_
        rintro e w3 ⟨rfl, hb3⟩
        have HB3 := Lib.hid (HB2.out.trans (hb3.mono HB2.out.size))
        have HROW3 := Lib.hid (HROW.out.below hb3 HROW.out.1)
        clear hb3 HROW HB2 HHP
        go_wp2_with fail
        refine (HHP2.out _ (HFV2.out.below HB3.out)).mono ?_
        rintro e w4 ⟨rfl, hb4⟩
        have HB4 := Lib.hid (HB3.out.trans (hb4.mono HB3.out.size))
        have HROW4 := Lib.hid (HROW3.out.below hb4 HROW3.out.1)
        clear hb4 HROW3 HB3 HHP2
        go_wp2_with fail
        refine (HLI.out _ _ (HROW4.out.flat hcap) hP64).mono ?_
        rintro e w5 ⟨rfl, hb5⟩
        have HRES := Lib.hid (HN.out w5 (HB4.out.trans (hb5.mono HB4.out.size)))
        clear hb5 HROW4 HB4 HLI HN
        go_wp2_with fail
        go_ret3
        exact HRES.out
    · rw [decide_eq_false hokb] at HHP2
      have HN := Lib.hid (HNONE.out (fun h => hokb h.2.1))
      clear hok hokb hv hv2 hP hPL HNONE
      go_enter Try.func57, Try.ntmps57
      go_wp2_with fail
      refine HOWN.out.mono ?_
      rintro e w1 ⟨g0, c0, rfl, hH, hb1⟩
      obtain ⟨v2, w2, hrun, hH2, hb2⟩ := HAP.out g0 c0 w1 hH hb1.size (HFV2.out.below hb1)
      have HB2 := Lib.hid (hb1.trans hb2)
      obtain ⟨g, cap, rfl, hg, hcap, hrow⟩ := hH2.row
      clear hH hb1 hH2 hb2 HOWN HAP hg hrow
      go_wp2_with fail
      refine (HHP.out _ (HFV.out.below HB2.out)).mono ?_
      rintro e w3 ⟨rfl, hb3⟩
      have HB3 := Lib.hid (HB2.out.trans (hb3.mono HB2.out.size))
      clear hb3 HB2 HHP
      go_wp2_with fail
      refine (HHP2.out _ (HFV2.out.below HB3.out)).mono ?_
      rintro e w4 ⟨rfl, hb4⟩
      have HRES := Lib.hid (HN.out w4 (HB3.out.trans (hb4.mono HB3.out.size)))
      clear hb4 HB3 HHP2 HN
      go_wp2_with fail
      go_ret3
      exact HRES.out
  · rw [decide_eq_false hok] at HHP
    have HN := Lib.hid (HNONE.out (fun h => hok h.1))
    clear hok hv hv2 hP hPL HNONE
    go_enter Try.func57, Try.ntmps57
    go_wp2_with fail
    refine HOWN.out.mono ?_
    rintro e w1 ⟨g0, c0, rfl, hH, hb1⟩
    obtain ⟨v2, w2, hrun, hH2, hb2⟩ := HAP.out g0 c0 w1 hH hb1.size (HFV2.out.below hb1)
    have HB2 := Lib.hid (hb1.trans hb2)
    obtain ⟨g, cap, rfl, hg, hcap, hrow⟩ := hH2.row
    clear hH hb1 hH2 hb2 HOWN HAP hg hrow
    go_wp2_with fail
    refine (HHP.out _ (HFV.out.below HB2.out)).mono ?_
    rintro e w3 ⟨rfl, hb3⟩
    have HRES := Lib.hid (HN.out w3 (HB2.out.trans (hb3.mono HB2.out.size)))
    clear hb3 HB2 HHP HN
    go_wp2_with fail
    go_ret3
    exact HRES.out

end Go.Proofs.Ytfcgnfhpfooelaa
