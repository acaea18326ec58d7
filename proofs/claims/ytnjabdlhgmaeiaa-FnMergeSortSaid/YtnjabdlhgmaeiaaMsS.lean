/- The model's sort by merging, by its contract. -/
import Derived.Test.YtnjabdlhgmaeiaaMgS
import Derived.Test.YtnjabdlhgmaeiaaMgAll
import Derived.Test.YtnjabdlhgmaeiaaMsI
namespace Go.Proofs.Ytnjabdlhgmaeiaa
open Go.RowKit Mg
set_option linter.unusedVariables false

attribute [local go_sem ↓ high] builtin_append_held

set_option maxRecDepth 100000 in
set_option maxHeartbeats 16000000 in
theorem l5Sort_any : ∀ (n : Nat) (b o c : Nat) (l : List (Int × Int)) (w : World), l.length ≤ n → l.length ≤ 64 → Src w.heap.size w b o c l →
    Calls Try.prog 80 #[.slice (some ⟨b, o, none⟩) l.length c] w (MergeSC (ms l) w) := by
  intro n
  induction n with
  | zero =>
    intro b o c l w hn h64 hs
    have h2 : l.length < 2 := by omega
    obtain ⟨g, cap, w1, hrun, hcap, hg, hrow, hb1⟩ := appendRecs b o c l w hs.flat (by omega)
    have HRES : Hid (MergeSC (l, 0) w (.returned (.tuple #[.slice (some ⟨g, 0, none⟩) l.length cap, .int .i64 0])) w1) := Lib.hid ⟨g, cap, rfl, hcap, hg, hrow, hb1⟩
    rw [ms_few h2]
    clear hcap hg hrow hb1 hs
    go_enter Try.func80, Try.ntmps80
    go_wp2_with fail
    go_ret2
    exact HRES.out
  | succ n ih =>
    intro b o c l w hn h64 hs
    by_cases h2 : l.length < 2
    · obtain ⟨g, cap, w1, hrun, hcap, hg, hrow, hb1⟩ := appendRecs b o c l w hs.flat (by omega)
      have HRES : Hid (MergeSC (l, 0) w (.returned (.tuple #[.slice (some ⟨g, 0, none⟩) l.length cap, .int .i64 0])) w1) := Lib.hid ⟨g, cap, rfl, hcap, hg, hrow, hb1⟩
      rw [ms_few h2]
      have h2z : (l.length : Int) < 2 := by omega
      clear hcap hg hrow hb1 hs ih
      go_enter Try.func80, Try.ntmps80
      go_wp2_with fail
      go_ret2
      exact HRES.out
    · obtain ⟨m, hmm⟩ : ∃ m, m = l.length / 2 := ⟨_, rfl⟩
      obtain ⟨t1, ht1⟩ : ∃ t, t = l.take m := ⟨_, rfl⟩
      obtain ⟨t2, ht2⟩ : ∃ t, t = l.drop m := ⟨_, rfl⟩
      have l1 : t1.length = m := by rw [ht1, List.length_take]; omega
      have l2 : t2.length = l.length - m := by rw [ht2, List.length_drop]
      have hms : ms l = ((mg (ms t1).1 (ms t2).1).1, (ms t1).2 + (ms t2).2 + (mg (ms t1).1 (ms t2).1).2) := by rw [ms_more h2, ← hmm, ← ht1, ← ht2]
      have s1 : Src w.heap.size w b o c t1 := by rw [ht1]; exact hs.take m
      have s2 : Src w.heap.size w b (o + m * 2) (c - m) t2 := by rw [ht2]; exact hs.drop m (by omega)
      have k1 := ms_two t1 (by omega)
      have k2 := ms_two t2 (by omega)
      have k3 := (mg_count (ms t1).1 (ms t2).1).1
      have e1 := ms_length t1
      have e2 := ms_length t2
      have up : ∀ (s b o c : Nat) (L : List (Int × Int)) (W : World), Src s w b o c L → Below w.heap.size w W → s = w.heap.size → Src W.heap.size W b o c L := fun s b o c L W h hb _ =>
        ⟨h.1, fun j u hu => by obtain ⟨h1, h2, h3⟩ := h.2 j u hu; exact ⟨Nat.lt_of_lt_of_le h1 hb.size, by have := hb.size; omega, (hb.cell (p := ⟨b, o + j, none⟩) h1).trans h3⟩⟩
      have HS1 : Hid (Calls Try.prog 80 #[.slice (some ⟨b, o, none⟩) m c] w (MergeSC (ms t1) w)) := Lib.hid (by
        have := ih b o c t1 w (by omega) (by omega) s1
        rw [l1] at this; exact this)
      have HS2 : Hid (∀ W, Below w.heap.size w W → Calls Try.prog 80 #[.slice (some ⟨b, o + m * 2, none⟩) (l.length - m) (c - m)] W (MergeSC (ms t2) W)) := Lib.hid (fun W h1 => by
        have := ih b (o + m * 2) (c - m) t2 W (by omega) (by omega) (up _ _ _ _ _ W s2 h1 rfl)
        rw [l2] at this; exact this)
      have HMG : Hid (∀ W g1 c1 g2 c2, CellRow W g1 (recs (ms t1).1) → (ms t1).1.length ≤ c1 → CellRow W g2 (recs (ms t2).1) → (ms t2).1.length ≤ c2 → Calls Try.prog 74 #[.slice (some ⟨g1, 0, none⟩) (ms t1).1.length c1, .slice (some ⟨g2, 0, none⟩) (ms t2).1.length c2] W (MergeSC (mg (ms t1).1 (ms t2).1) W)) := Lib.hid (fun W g1 c1 g2 c2 h1 h2 h3 h4 =>
        specMerge_any g1 0 c1 g2 0 c2 (ms t1).1 (ms t2).1 W (Src.of_row h1 h2 (by have := h1.1; omega)) (Src.of_row h3 h4 (by have := h3.1; omega)) (by omega))
      rw [hms]
      have hcl := hs.1
      have hml : m < l.length := by omega
      have hm64 : m ≤ 64 := by omega
      have hmc : m < c := by omega
      have hmcn : ¬ c = m := by omega
      have hmcn' : ¬ c - m = 0 := by omega
      have hq : (l.length : Int) / 2 = (m : Int) := by omega
      have h2z : ¬ (l.length : Int) < 2 := by omega
      have hk1 : (ms t1).2 ≤ 400 := by omega
      have hk2 : (ms t2).2 ≤ 400 := by omega
      have hk3 : (mg (ms t1).1 (ms t2).1).2 ≤ 400 := by omega
      generalize ms t1 = R1 at *
      generalize ms t2 = R2 at *
      obtain ⟨A, K1⟩ := R1
      obtain ⟨B, K2⟩ := R2
      simp only at *
      clear hs ih ht1 ht2 l1 l2 hms s1 s2 k1 k2 k3 e1 e2 hmm up
      generalize mg A B = R at *
      go_enter Try.func80, Try.ntmps80
      go_wp2_with fail
      refine (HS1.out).mono ?_
      rintro e w1 ⟨g1, c1, rfl, hc1, hg1, hrow1, hb1⟩
      have HB1 := Lib.hid hb1
      have HROW1 := Lib.hid hrow1
      simp only at hc1
      clear hb1 hrow1 HS1
      go_wp2_with fail
      refine (HS2.out w1 HB1.out).mono ?_
      rintro e w2 ⟨g2, c2, rfl, hc2, hg2, hrow2, hb2⟩
      have HB2 := Lib.hid (HB1.out.trans (hb2.mono HB1.out.size))
      have HROW12 := Lib.hid (HROW1.out.below hb2 HROW1.out.1)
      have HROW2 := Lib.hid hrow2
      simp only at hc2
      clear hb2 hrow2 HS2 HROW1 HB1
      go_wp2_with fail
      refine (HMG.out w2 g1 c1 g2 c2 HROW12.out hc1 HROW2.out hc2).mono ?_
      rintro e w3 ⟨g3, c3, rfl, hc3, hg3, hrow3, hb3⟩
      have HRES : Hid (MergeSC (R.1, K1 + K2 + R.2) w (.returned (.tuple #[.slice (some ⟨g3, 0, none⟩) R.1.length c3, .int .i64 ((K1 : Int) + (K2 : Int) + (R.2 : Nat))])) w3) := Lib.hid
        ⟨g3, c3, by simp only; rw [Int.natCast_add, Int.natCast_add], hc3, Nat.le_trans HB2.out.size hg3, hrow3, HB2.out.trans (hb3.mono HB2.out.size)⟩
      clear hc1 hg1 hc2 hg2 hc3 hg3 hrow3 hb3 HMG HB2 HROW12 HROW2
      go_wp2_with fail
      go_ret2
      exact HRES.out

set_option maxRecDepth 100000 in
set_option maxHeartbeats 8000000 in
theorem specMs_any (b o c : Nat) (l : List (Int × Int)) (w : World) (hv : FlatAt w (.slice (some ⟨b, o, none⟩) l.length c) l.length (recs l)) (hn : l.length ≤ 1048576) :
    Calls Try.prog 30 #[.slice (some ⟨b, o, none⟩) l.length c] w (Ret1C (msAll l) w) := by
  have HV := Lib.hid hv
  clear hv
  have HA := Lib.hid (fun W (h : FlatAt W (.slice (some ⟨b, o, none⟩) l.length c) l.length (recs l)) => l2Records_any _ l W h hn)
  by_cases h0 : OkR l
  · rw [decide_eq_true h0] at HA
    have HF := Lib.hid (msAll_yes h0)
    have h64 := h0.1
    clear h0
    go_enter Try.func30, Try.ntmps30
    go_wp2_with fail
    refine (HA.out _ HV.out).mono ?_
    rintro e w2 ⟨rfl, hb⟩
    have HV2 := Lib.hid (HV.out.below hb)
    have HBL2 := Lib.hid hb
    clear hb HA HV
    have HMG := Lib.hid (l5Sort_any l.length b o c l w2 (Nat.le_refl _) h64 (Src.of_flat HV2.out (Nat.le_refl _)))
    obtain ⟨R, hR⟩ : ∃ R, R = ms l := ⟨_, rfl⟩
    rw [← hR] at HMG HF
    clear hR HV2
    go_wp2_with fail
    refine (HMG.out).mono ?_
    rintro e w3 ⟨g, c', rfl, hc, hg, hrow, hbel⟩
    have HRES : Hid (Ret1C (msAll l) w (.returned (.tuple #[.slice (some ⟨g, 0, none⟩) R.1.length c', .int .i64 (R.2 : Nat), .bool true])) w3) := Lib.hid (by
      rw [HF.out]
      exact ⟨g, c', rfl, hc, Nat.le_trans HBL2.out.size hg, hrow, HBL2.out.trans (hbel.mono HBL2.out.size)⟩)
    clear HMG hc hg hrow hbel HBL2 HF
    go_wp2_with fail
    go_ret3
    exact HRES.out
  · rw [decide_eq_false h0] at HA
    have HF := Lib.hid (msAll_no h0)
    clear h0
    go_enter Try.func30, Try.ntmps30
    go_wp2_with fail
    refine (HA.out _ HV.out).mono ?_
    rintro e w1 ⟨rfl, hb⟩
    have HRES : Hid (Ret1C (msAll l) w (.returned (.tuple #[.slice (some ⟨w1.heap.size, 0, none⟩) 0 0, .int .i64 0, .bool false])) (w1.alloc (.cells #[] 50))) := Lib.hid (by rw [HF.out]; exact Ret1C.none w w1 hb)
    clear hb HA HV
    go_wp2_with fail
    go_ret3
    exact HRES.out

end Go.Proofs.Ytnjabdlhgmaeiaa
