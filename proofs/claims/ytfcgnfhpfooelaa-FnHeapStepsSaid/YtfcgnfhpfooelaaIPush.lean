/- The program's PushHeap, by its contract. -/
import Derived.Test.YtfcgnfhpfooelaaHpMk1
namespace Go.Proofs.Ytfcgnfhpfooelaa
open Go.RowKit P El Hp
set_option linter.unusedVariables false

theorem okL_push {l : List Int} {x : Int} (h : OkL l) : OkL (l ++ [x]) ↔ ¬ l.length = 64 ∧ -100000 ≤ x ∧ x ≤ 100000 := by
  constructor
  · rintro ⟨h1, h2⟩
    have := h2 x (by simp)
    simp at h1
    exact ⟨by omega, this⟩
  · rintro ⟨h1, h2⟩
    have := h.1
    refine ⟨by simp; omega, fun p hp => ?_⟩
    rcases List.mem_append.1 hp with hp | hp
    · exact h.2 p hp
    · simp at hp; subst hp; exact h2

set_option maxRecDepth 100000 in
set_option maxHeartbeats 4000000 in
theorem implPush_any (b o c : Nat) (l : List Int) (d x : Int) (w : World) (hv : FlatAt w (.slice (some ⟨b, o, none⟩) l.length c) l.length (ints l)) (hn : l.length ≤ 1048576) :
    Calls Try.prog 43 #[.slice (some ⟨b, o, none⟩) l.length c, .int .i64 d, .int .i64 x] w (RetI1 (pushAll l d x) w) := by
  have HV := Lib.hid (isAry_any _ l d w hv hn)
  have HNONE : Hid (¬ (IsHp l d ∧ OkL (l ++ [x])) → ∀ w1, Below w.heap.size w w1 → RetI1 (pushAll l d x) w (.returned (.tuple #[.slice (some ⟨w1.heap.size, 0, none⟩) 0 0, .int .i64 0, .bool false])) (w1.alloc (.cells #[] 3))) := Lib.hid (fun h w1 hb => by rw [pushAll_no h]; exact RetI1.none w w1 hb)
  by_cases hok : IsHp l d
  · rw [decide_eq_true hok] at HV
    by_cases h0 : l.length = 64
    · have HN := Lib.hid (HNONE.out (fun h => absurd h0 ((okL_push hok.1).1 h.2).1))
      clear hok HNONE hv
      rw [h0] at HV ⊢
      clear h0 hn
      go_enter Try.func43, Try.ntmps43
      go_wp2_with fail
      refine HV.out.mono ?_
      rintro e w1 ⟨rfl, hb1⟩
      have HRES := Lib.hid (HN.out w1 hb1)
      clear hb1 HV HN
      go_wp2_with fail
      go_ret3
      exact HRES.out
    · have h0z : ((l.length : Int) == 64) = false := beq_eq_false_iff_ne.2 (by omega)
      have h0z2 : ¬ (l.length : Int) = 64 := by omega
      have HX := Lib.hid (fun W => isOutside_any x W)
      by_cases hx : -100000 ≤ x ∧ x ≤ 100000
      · have hout : outK x = false := by unfold outK; simp; omega
        rw [hout] at HX
        have hok2 := (okL_push hok.1).2 ⟨h0, hx⟩
        obtain ⟨k, rfl, hk0, hk2, hk8⟩ := hok.2.1.nat
        have HF := Lib.hid (pushAll_yes ⟨hok, hok2⟩)
        rw [hk0] at HF
        have h64 := hok.1.1
        have HMK := Lib.hid (fun W (h : (Part.mk (some ⟨b, o, none⟩) c l).ok W) => mk2_any k (some ⟨b, o, none⟩) c l x W h (by omega))
        have hlen : (l ++ [x]).length = l.length + 1 := by simp
        have HSU := Lib.hid (fun (s g cap : Nat) W (h : HpG w.heap.size s g cap (l ++ [x]) k 0 W) => su_any l.length W h hk2 hk8 (by omega) (by omega) (by omega))
        have HRF : Hid (up k l.length (l ++ [x], 0) = pushF k l x) := Lib.hid rfl
        rw [HRF.out] at HSU
        generalize pushF k l x = R at HSU HF HRF
        have HFV : Hid ((Part.mk (some ⟨b, o, none⟩) c l).ok w) := Lib.hid ⟨hv, fun e => by simp at e⟩
        clear hok hok2 hv HNONE hx h0 hout hlen HRF
        go_enter Try.func43, Try.ntmps43
        go_wp2_with fail
        refine HV.out.mono ?_
        rintro e w1 ⟨rfl, hb1⟩
        have HB1 := Lib.hid hb1
        clear hb1 HV
        go_wp2_with fail
        refine (HX.out _).mono ?_
        rintro e w1' ⟨rfl, rfl⟩
        clear HX
        go_wp2_with fail
        refine (HMK.out _ (HFV.out.below HB1.out)).mono ?_
        rintro e w2 ⟨s, v, rfl, hH, hb2⟩
        have HB2 := Lib.hid (HB1.out.trans (hb2.mono HB1.out.size))
        obtain ⟨g, cap, rfl, hG⟩ := (hH.lower HB1.out.size).big (by simp)
        have HH := Lib.hid hG
        clear hH hb2 hG HMK HFV HB1
        go_wp2_with fail
        refine (HSU.out s g cap _ HH.out).mono ?_
        rintro e w3 ⟨rfl, hg4, hb4⟩
        have HB4 : Hid (Below w.heap.size w w3) := Lib.hid (HB2.out.trans (hb4.below hg4.bs hg4.bg HB2.out.size))
        obtain ⟨hc0, _, hc2, _⟩ := hg4.c0
        have HRES : Hid (∀ t, RetI1 (pushAll l (k : Int) x) w (.returned (.tuple #[.slice (some ⟨g, 0, none⟩) R.1.length cap, .int .i64 (R.2 : Int), .bool true])) (w3.drewN t)) := Lib.hid (fun t => by
          rw [HF.out]
          exact ⟨g, cap, rfl, hg4.cap, hg4.bg, hg4.row.same rfl (Nat.le_refl _), HB4.out.trans ⟨rfl, rfl, rfl, Nat.le_refl _, fun _ _ => rfl⟩⟩)
        clear hb4 hg4 HSU
        go_wp2_with fail
        go_quiet (fail)
        go_wp2_with fail
        go_ret3
        exact HRES.out _
      · have hout : outK x = true := by unfold outK; simp; omega
        rw [hout] at HX
        have HN := Lib.hid (HNONE.out (fun h => hx ((okL_push h.1.1).1 h.2).2))
        clear hok HNONE hv hx h0 hout
        go_enter Try.func43, Try.ntmps43
        go_wp2_with fail
        refine HV.out.mono ?_
        rintro e w1 ⟨rfl, hb1⟩
        have HRES := Lib.hid (HN.out w1 hb1)
        clear hb1 HV HN
        go_wp2_with fail
        refine (HX.out _).mono ?_
        rintro e w1' ⟨rfl, rfl⟩
        go_wp2_with fail
        go_ret3
        exact HRES.out
  · rw [decide_eq_false hok] at HV
    have HN := Lib.hid (HNONE.out (fun h => hok h.1))
    clear hok HNONE hv
    go_enter Try.func43, Try.ntmps43
    go_wp2_with fail
    refine HV.out.mono ?_
    rintro e w1 ⟨rfl, hb1⟩
    have HRES := Lib.hid (HN.out w1 hb1)
    clear hb1 HV HN
    go_wp2_with fail
    go_ret3
    exact HRES.out

end Go.Proofs.Ytfcgnfhpfooelaa
