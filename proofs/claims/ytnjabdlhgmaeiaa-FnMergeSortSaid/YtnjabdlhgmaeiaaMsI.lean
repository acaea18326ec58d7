/- The program's sort by merging, by its contract. -/
import Derived.Test.YtnjabdlhgmaeiaaMgI
import Derived.Test.YtnjabdlhgmaeiaaMgAll
import Derived.Test.YtnjabdlhgmaeiaaISort
namespace Go.Proofs.Ytnjabdlhgmaeiaa
open Go.RowKit Mg
set_option linter.unusedVariables false

theorem recs_take (L : List (Int × Int)) (m : Nat) {j : Nat} {u : Value} (h : (recs (L.take m))[j]? = some u) : (recs L)[j]? = some u := by
  have e : recs L = recs (L.take m) ++ recs (L.drop m) := by rw [← recs_append, List.take_append_drop]
  rw [e, List.getElem?_append_left (List.getElem?_eq_some_iff.1 h).1]; exact h
theorem recs_drop (L : List (Int × Int)) (m : Nat) (hm : m ≤ L.length) {j : Nat} {u : Value} (h : (recs (L.drop m))[j]? = some u) : (recs L)[m * 2 + j]? = some u := by
  have e : recs L = recs (L.take m) ++ recs (L.drop m) := by rw [← recs_append, List.take_append_drop]
  have hl : (recs (L.take m)).length = m * 2 := by rw [recs_length, List.length_take, Nat.min_eq_left hm]
  rw [e, List.getElem?_append_right (by omega), hl, show m * 2 + j - m * 2 = j by omega]; exact h
theorem Src.take {s b o c : Nat} {w : World} {L : List (Int × Int)} (h : Src s w b o c L) (m : Nat) : Src s w b o c (L.take m) :=
  ⟨by have := h.1; rw [List.length_take]; omega, fun j u hu => h.2 j u (recs_take L m hu)⟩
theorem Src.drop {s b o c : Nat} {w : World} {L : List (Int × Int)} (h : Src s w b o c L) (m : Nat) (hm : m ≤ L.length) : Src s w b (o + m * 2) (c - m) (L.drop m) :=
  ⟨by have := h.1; rw [List.length_drop]; omega, fun j u hu => by have := h.2 (m * 2 + j) u (recs_drop L m hm hu); rw [show o + m * 2 + j = o + (m * 2 + j) by omega]; exact this⟩
theorem Src.flat {s b o c : Nat} {w : World} {L : List (Int × Int)} (h : Src s w b o c L) : FlatAt w (.slice (some ⟨b, o, none⟩) L.length c) L.length (recs L) :=
  ⟨_, c, rfl, h.1, fun j u hu => ⟨b, o, rfl, (h.2 j u hu).1, (h.2 j u hu).2.2⟩⟩

theorem ms_two (l : List (Int × Int)) (h64 : l.length ≤ 64) : (ms l).2 ≤ 6 * l.length := ms_six h64

set_option maxRecDepth 100000 in
set_option maxHeartbeats 16000000 in
theorem sort_any : ∀ (n : Nat) (s k b o c : Nat) (l : List (Int × Int)) (w : World), l.length ≤ n → l.length ≤ 64 → Merg s k w → Src s w b o c l → k + 7 * l.length ≤ 5000 →
    Calls Try.prog 79 #[.pointer (some ⟨s, 0, none⟩), .slice (some ⟨b, o, none⟩) l.length c] w (MergeC s k (ms l) w) := by
  intro n
  induction n with
  | zero =>
    intro s k b o c l w hn h64 hm hs hk
    have h2 : l.length < 2 := by omega
    have HC := Lib.hid (cloneRecs_any b o c l w hs.flat (by omega))
    have HM := Lib.hid hm
    rw [ms_few h2]
    clear hm hs
    go_enter Try.func79, Try.ntmps79
    go_wp2_with fail
    refine (HC.out).mono ?_
    rintro e w1 ⟨g, cap, rfl, hcap, hg, hrow, hb⟩
    have HRES : Hid (MergeC s k (l, 0) w (.returned (.slice (some ⟨g, 0, none⟩) l.length cap)) w1) := Lib.hid ⟨g, cap, rfl, hcap, hg, hrow, HM.out.keep hb, But.ofBelow hb (Nat.le_refl _)⟩
    clear hcap hg hrow hb HC HM
    go_wp2_with fail
    go_ret
    exact HRES.out
  | succ n ih =>
    intro s k b o c l w hn h64 hm hs hk
    by_cases h2 : l.length < 2
    · have HC := Lib.hid (cloneRecs_any b o c l w hs.flat (by omega))
      have HM := Lib.hid hm
      rw [ms_few h2]
      have h2z : (l.length : Int) < 2 := by omega
      clear hm hs ih
      go_enter Try.func79, Try.ntmps79
      go_wp2_with fail
      refine (HC.out).mono ?_
      rintro e w1 ⟨g, cap, rfl, hcap, hg, hrow, hb⟩
      have HRES : Hid (MergeC s k (l, 0) w (.returned (.slice (some ⟨g, 0, none⟩) l.length cap)) w1) := Lib.hid ⟨g, cap, rfl, hcap, hg, hrow, HM.out.keep hb, But.ofBelow hb (Nat.le_refl _)⟩
      clear hcap hg hrow hb HC HM
      go_wp2_with fail
      go_ret
      exact HRES.out
    · obtain ⟨m, hmm⟩ : ∃ m, m = l.length / 2 := ⟨_, rfl⟩
      obtain ⟨t1, ht1⟩ : ∃ t, t = l.take m := ⟨_, rfl⟩
      obtain ⟨t2, ht2⟩ : ∃ t, t = l.drop m := ⟨_, rfl⟩
      have l1 : t1.length = m := by rw [ht1, List.length_take]; omega
      have l2 : t2.length = l.length - m := by rw [ht2, List.length_drop]
      have hms : ms l = ((mg (ms t1).1 (ms t2).1).1, (ms t1).2 + (ms t2).2 + (mg (ms t1).1 (ms t2).1).2) := by rw [ms_more h2, ← hmm, ← ht1, ← ht2]
      have s1 : Src s w b o c t1 := by rw [ht1]; exact hs.take m
      have s2 : Src s w b (o + m * 2) (c - m) t2 := by rw [ht2]; exact hs.drop m (by omega)
      have k1 := ms_two t1 (by omega)
      have k2 := ms_two t2 (by omega)
      have e1 := ms_length t1
      have e2 := ms_length t2
      have HS1 : Hid (∀ W, Merg s k W → But s w W → Calls Try.prog 79 #[.pointer (some ⟨s, 0, none⟩), .slice (some ⟨b, o, none⟩) m c] W (MergeC s k (ms t1) W)) := Lib.hid (fun W h1 h2 => by
        have := ih s k b o c t1 W (by omega) (by omega) h1 (s1.but h2) (by omega)
        rw [l1] at this; exact this)
      have HS2 : Hid (∀ W, Merg s (k + (ms t1).2) W → But s w W → Calls Try.prog 79 #[.pointer (some ⟨s, 0, none⟩), .slice (some ⟨b, o + m * 2, none⟩) (l.length - m) (c - m)] W (MergeC s (k + (ms t1).2) (ms t2) W)) := Lib.hid (fun W h1 h2 => by
        have := ih s (k + (ms t1).2) b (o + m * 2) (c - m) t2 W (by omega) (by omega) h1 (s2.but h2) (by omega)
        rw [l2] at this; exact this)
      have HMG : Hid (∀ W g1 c1 g2 c2, Merg s (k + (ms t1).2 + (ms t2).2) W → Src s W g1 0 c1 (ms t1).1 → Src s W g2 0 c2 (ms t2).1 → Calls Try.prog 71 #[.pointer (some ⟨s, 0, none⟩), .slice (some ⟨g1, 0, none⟩) (ms t1).1.length c1, .slice (some ⟨g2, 0, none⟩) (ms t2).1.length c2] W (MergeC s (k + (ms t1).2 + (ms t2).2) (mg (ms t1).1 (ms t2).1) W)) := Lib.hid (fun W g1 c1 g2 c2 h1 h2 h3 =>
        merge_any s (k + (ms t1).2 + (ms t2).2) g1 0 c1 g2 0 c2 (ms t1).1 (ms t2).1 W h1 h2 h3 (by omega) (by omega))
      rw [hms]
      have hcl := hs.1
      have hsl := hm.1
      have HM := Lib.hid hm
      have HW0 : Hid (∀ n, Merg s k (w.drewN n) ∧ But s w (w.drewN n)) := Lib.hid (fun n => ⟨hm.drewN n, (But.refl s w).drewN n⟩)
      have hml : m < l.length := by omega
      have hm64 : m ≤ 64 := by omega
      have hmc : m < c := by omega
      have hmcn : ¬ c = m := by omega
      have hmcn' : ¬ c - m = 0 := by omega
      have hq : (l.length : Int) / 2 = (m : Int) := by omega
      have h2z : ¬ (l.length : Int) < 2 := by omega
      generalize ms t1 = R1 at *
      generalize ms t2 = R2 at *
      obtain ⟨A, K1⟩ := R1
      obtain ⟨B, K2⟩ := R2
      simp only at *
      clear hm hs ih ht1 ht2 l1 l2 hms s1 s2 k1 k2 e1 e2 hmm
      generalize mg A B = R at *
      go_enter Try.func79, Try.ntmps79
      go_wp2_with fail
      go_region_with (first
        | (go_at_call 71; refine (HMG.out w2 g1 c1 g2 c2 hm2 (Src.of_row (hrow1.but hb2 (by have h : w.heap.size ≤ g1 := hg1; omega)) hc1 (by have h : w.heap.size ≤ g1 := hg1; omega)) (Src.of_row hrow2 hc2 (by have h := hm1.1; omega))).mono ?_; rintro e w3 ⟨g3, c3, rfl, hc3, hg3, hrow3, hm3, hb3⟩)
        | (go_at_call 79; refine (HS2.out w1 hm1 ((HW0.out 1).2.trans hb1)).mono ?_; rintro e w2 ⟨g2, c2, rfl, hc2, hg2, hrow2, hm2, hb2⟩)
        | (go_at_call 79; refine (HS1.out _ (HW0.out 1).1 (HW0.out 1).2).mono ?_; rintro e w1 ⟨g1, c1, rfl, hc1, hg1, hrow1, hm1, hb1⟩))
      all_goals (
        have HRES : Hid (MergeC s k (R.1, K1 + K2 + R.2) w (.returned (.slice (some ⟨g3, 0, none⟩) R.1.length c3)) w3) := Lib.hid (by
          have hbb : But s w w1 := (HW0.out 1).2.trans hb1
          refine ⟨g3, c3, rfl, hc3, Nat.le_trans hbb.size (Nat.le_trans hb2.size hg3), hrow3, ?_, hbb.trans (hb2.trans hb3)⟩
          rw [show k + (K1 + K2 + R.2) = k + K1 + K2 + R.2 by omega]; exact hm3)
        clear hc1 hg1 hrow1 hm1 hb1 hc2 hg2 hrow2 hm2 hb2 hc3 hg3 hrow3 hm3 hb3 HS1 HS2 HMG HM HW0
        go_wp2_with fail
        go_ret
        exact HRES.out)

set_option maxRecDepth 100000 in
set_option maxHeartbeats 8000000 in
theorem implMs_any (b o c : Nat) (l : List (Int × Int)) (w : World) (hv : FlatAt w (.slice (some ⟨b, o, none⟩) l.length c) l.length (recs l)) (hn : l.length ≤ 1048576) :
    Calls Try.prog 29 #[.slice (some ⟨b, o, none⟩) l.length c] w (Ret1C (msAll l) w) := by
  have HV := Lib.hid hv
  clear hv
  have HA := Lib.hid (fun W (h : FlatAt W (.slice (some ⟨b, o, none⟩) l.length c) l.length (recs l)) => implValidRecs_any _ l W h hn)
  by_cases h0 : OkR l
  · rw [decide_eq_true h0] at HA
    have HF := Lib.hid (msAll_yes h0)
    have h64 := h0.1
    clear h0
    go_enter Try.func29, Try.ntmps29
    go_wp2_with fail
    refine (HA.out _ HV.out).mono ?_
    rintro e w2 ⟨rfl, hb⟩
    have HV2 := Lib.hid (HV.out.below hb)
    have HBL2 := Lib.hid hb
    clear hb HA HV
    go_wp2_with fail
    obtain ⟨W, hW⟩ : ∃ W, W = w2.alloc (.cells #[.int .i64 0] 88) := ⟨_, rfl⟩
    have hbW : Below w2.heap.size w2 W := by rw [hW]; exact (Below.refl _ _).alloc (Nat.le_refl _) _
    have hM : Merg w2.heap.size 0 W := by rw [hW]; exact CellRow.of_row (heap_alloc_new w2 _)
    have hS0 : Src w2.heap.size W b o c l := (Src.of_flat HV2.out (Nat.le_refl _)).but (But.ofBelow hbW (Nat.le_refl _))
    have HMG := Lib.hid (sort_any l.length w2.heap.size 0 b o c l W (Nat.le_refl _) h64 hM hS0 (by omega))
    have HBW := Lib.hid (HBL2.out.trans (hbW.mono HBL2.out.size))
    have hlow := HBL2.out.size
    clear hbW hM hS0 HV2 HBL2
    rw [← hW]
    clear hW
    obtain ⟨R, hR⟩ : ∃ R, R = ms l := ⟨_, rfl⟩
    rw [← hR] at HMG HF
    clear hR
    refine (HMG.out).mono ?_
    rintro e w3 ⟨g, c', rfl, hc, hg, hrow, hm, hbut⟩
    obtain ⟨hc0, _⟩ := hm.c0
    rw [Nat.zero_add] at hc0
    have HRES : Hid (∀ n, Ret1C (msAll l) w (.returned (.tuple #[.slice (some ⟨g, 0, none⟩) R.1.length c', .int .i64 (R.2 : Nat), .bool true])) (w3.drewN n)) := Lib.hid (fun n => by
      rw [HF.out]
      exact ⟨g, c', rfl, hc, Nat.le_trans HBW.out.size hg, hrow.same rfl (Nat.le_refl _), (HBW.out.trans (hbut.below hlow HBW.out.size)).trans ⟨rfl, rfl, rfl, Nat.le_refl _, fun _ _ => rfl⟩⟩)
    clear HMG hc hg hrow hm hbut HBW HF
    go_wp2_with fail
    go_quiet (fail)
    go_wp2_with fail
    go_ret3
    exact HRES.out _
  · rw [decide_eq_false h0] at HA
    have HF := Lib.hid (msAll_no h0)
    clear h0
    go_enter Try.func29, Try.ntmps29
    go_wp2_with fail
    refine (HA.out _ HV.out).mono ?_
    rintro e w1 ⟨rfl, hb⟩
    have HRES : Hid (Ret1C (msAll l) w (.returned (.tuple #[.slice (some ⟨w1.heap.size, 0, none⟩) 0 0, .int .i64 0, .bool false])) (w1.alloc (.cells #[] 50))) := Lib.hid (by rw [HF.out]; exact Ret1C.none w w1 hb)
    clear hb HA HV
    go_wp2_with fail
    go_ret3
    exact HRES.out

end Go.Proofs.Ytnjabdlhgmaeiaa
