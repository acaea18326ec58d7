/- The check of the gaps, the program's and the model's, by contracts. -/
import Derived.Test.YtjmmhakmidddoaaInsP
import Derived.BigQuiet
import Derived.Deep.QuietTactic
import Derived.Laws.BitsLemmas
namespace Go.Proofs.Ytjmmhakmidddoaa
open Go.RowKit P El
set_option linter.unusedVariables false

/-- Decreasing gaps lie between the first and the last. -/
theorem gap_first {gs : List Int} (h : ∀ i, i < gs.length - 1 → gs.getD (i + 1) 0 < gs.getD i 0) : ∀ i, i < gs.length → gs.getD i 0 ≤ gs.getD 0 0
  | 0, _ => Int.le_refl _
  | i + 1, hi => by have := gap_first h i (by omega); have := h i (by omega); omega
theorem gap_last {gs : List Int} (h : ∀ i, i < gs.length - 1 → gs.getD (i + 1) 0 < gs.getD i 0) : ∀ n i, i + n + 1 = gs.length → gs.getD (gs.length - 1) 0 ≤ gs.getD i 0
  | 0, i, hi => by rw [show gs.length - 1 = i by omega]; exact Int.le_refl _
  | n + 1, i, hi => by have := gap_last h n (i + 1) (by omega); have := h i (by omega); omega
theorem okG_ends (gs : List Int) : OkG gs ↔ 1 ≤ gs.length ∧ gs.length ≤ 10 ∧ (∀ i, i < gs.length - 1 → gs.getD (i + 1) 0 < gs.getD i 0) ∧ gs.getD 0 0 ≤ 64 ∧ gs.getD (gs.length - 1) 0 = 1 := by
  constructor
  · rintro ⟨h1, h2, h3, h4, h5⟩
    exact ⟨h1, h2, h4, (h3 _ (List.mem_of_getElem? (at_getD (by omega)))).2, h5⟩
  · rintro ⟨h1, h2, h3, h4, h5⟩
    refine ⟨h1, h2, fun x hx => ?_, h3, h5⟩
    obtain ⟨i, hi, rfl⟩ := List.getElem_of_mem hx
    have e : gs[i] = gs.getD i 0 := (getD_at (List.getElem?_eq_getElem hi)).symm
    have a := gap_first h3 i hi
    have b := gap_last h3 (gs.length - 1 - i) i (by omega)
    rw [e]; omega

set_option maxRecDepth 100000 in
set_option maxHeartbeats 4000000 in
theorem implGaps_any (v : Value) (gs : List Int) (w : World) (hv : FlatAt w v gs.length (ints gs)) (hn : gs.length ≤ 1048576) :
    Calls Try.prog 96 #[v] w fun e w' => e = .returned (.bool (decide (OkG gs))) ∧ Below w.heap.size w w' := by
  obtain ⟨a, c, rfl, _, h⟩ := hv
  have H := Lib.hid h
  clear h
  by_cases h1 : 1 ≤ gs.length
  · by_cases h10 : gs.length ≤ 10
    · have h1z : ¬ (gs.length : Int) < 1 := by omega
      have h10z : ¬ (10 : Int) < gs.length := by omega
      have hg1 : decide ((gs.length : Int) < 1) = false := decide_eq_false h1z
      have hg10 : decide ((10 : Int) < gs.length) = false := decide_eq_false h10z
      obtain ⟨b, o, ha, _, _⟩ := H.out 0 _ (ints_at (at_getD (l := gs) (k := 0) (by omega)))
      have HC : Hid (∀ (j : Nat), j < gs.length → w.cell? ⟨b, o + j, none⟩ = some (.int .i64 (gs.getD j 0))) := Lib.hid (fun j hj => by
        obtain ⟨b', o', e', _, hc⟩ := H.out j _ (ints_at (at_getD hj))
        rw [ha] at e'; simp at e'
        obtain ⟨rfl, rfl⟩ := e'; exact hc)
      subst ha
      clear H
      go_enter Try.func96, Try.ntmps96
      go_wp2_with fail
      go_loopw [3] (fun iv wr => ∃ (k m : Nat), k < gs.length ∧ iv = .int .i64 ((k + 1 : Nat) : Int) ∧ (∀ i, i < k → gs.getD (i + 1) 0 < gs.getD i 0) ∧ wr = w.drewN m) (fun iv _ => gs.length + 1 - (intOf iv).toNat)
      case atStart => exact ⟨0, 0, by omega, rfl, fun i hi => absurd hi (Nat.not_lt_zero _), rfl⟩
      case round =>
        obtain ⟨k, m, hk, rfl, hall, rfl⟩ := hrel
        have HALL := Lib.hid hall
        clear hall
        have hwk : IntKind.i64.wrap (((k + 1 : Nat) : Int) - 1) = (k : Int) := by rw [IntKind.wrap_i64]; omega
        have hwk2 : IntKind.i64.wrap (((k + 1 : Nat) : Int) + 1) = ((k + 2 : Nat) : Int) := by rw [IntKind.wrap_i64]; omega
        obtain ⟨k1, hk1⟩ : ∃ k1, k1 = k + 1 := ⟨_, rfl⟩
        obtain ⟨k2, hk2⟩ : ∃ k2, k2 = k + 2 := ⟨_, rfl⟩
        rw [← hk1] at hwk hwk2 ⊢
        rw [← hk2] at hwk2
        have HK1 := Lib.hid hk1
        have HK2 := Lib.hid hk2
        have hkk : k1 ≤ 11 := by omega
        by_cases hlt : k1 < gs.length
        · obtain ⟨x, hx⟩ : ∃ x, x = gs.getD k 0 := ⟨_, rfl⟩
          obtain ⟨y, hy⟩ : ∃ y, y = gs.getD k1 0 := ⟨_, rfl⟩
          have hcx := HC.out k hk
          have hcy := HC.out k1 hlt
          rw [← hx] at hcx
          rw [← hy] at hcy
          have HX := Lib.hid hx
          have HY := Lib.hid hy
          have hkz : (k : Int) < gs.length := by omega
          have hk1z : (k1 : Int) < gs.length := by omega
          clear hx hy hk1 hk2
          by_cases hxy : x ≤ y
          · have hle : decide (x ≤ y) = true := decide_eq_true hxy
            have HN : Hid (decide (OkG gs) = false) := Lib.hid (decide_eq_false fun h => by
              have := h.2.2.2.1 k (by have := HK1.out; omega)
              rw [← HK1.out, ← HX.out, ← HY.out] at this; omega)
            go_wp2_with fail
            go_quiet (fail)
            go_wp2_with fail
            go_ret
            exact ⟨by rw [HN.out]; rfl, ⟨rfl, rfl, rfl, Nat.le_refl _, fun _ _ => rfl⟩⟩
          · have hle : decide (x ≤ y) = false := decide_eq_false hxy
            have HE : Hid (∀ i, i < k + 1 → gs.getD (i + 1) 0 < gs.getD i 0) := Lib.hid (fun i hi => by
              by_cases e : i = k
              · subst e; rw [← HK1.out, ← HX.out, ← HY.out]; omega
              · exact HALL.out i (by omega))
            go_wp2_with fail
            go_quiet (fail)
            go_wp2_with fail
            go_roundw
            case rel => exact ⟨k + 1, m + nq, by have := HK1.out; omega, by rw [HK2.out], HE.out, by first | trivial | rfl | simp⟩
            case measure => have := HK1.out; have := HK2.out; simp [intOf]; omega
        · have hlz : ¬ (k1 : Int) < gs.length := by omega
          obtain ⟨z0, hz0⟩ : ∃ x, x = gs.getD 0 0 := ⟨_, rfl⟩
          obtain ⟨zl, hzl⟩ : ∃ x, x = gs.getD (gs.length - 1) 0 := ⟨_, rfl⟩
          have hc0 := HC.out 0 (by omega)
          have hcl := HC.out (gs.length - 1) (by omega)
          rw [← hz0] at hc0
          have hc00 : w.cell? ⟨b, o, none⟩ = some (.int .i64 z0) := hc0
          rw [← hzl] at hcl
          obtain ⟨nl, hnl⟩ : ∃ n, n = gs.length - 1 := ⟨_, rfl⟩
          rw [← hnl] at hcl
          have hwl : IntKind.i64.wrap ((gs.length : Int) - 1) = (nl : Int) := by rw [IntKind.wrap_i64]; omega
          have hnz : (nl : Int) < gs.length := by omega
          have h0z : (0 : Int) < gs.length := by omega
          have h0n : 0 < gs.length := by omega
          have hnn : nl < gs.length := by omega
          have HD : Hid (decide (OkG gs) = (decide (z0 ≤ 64) && (zl == 1))) := Lib.hid (by
            have hiff := okG_ends gs
            rw [← hz0, ← hzl] at hiff
            have hA : ∀ i, i < gs.length - 1 → gs.getD (i + 1) 0 < gs.getD i 0 := fun i hi => HALL.out i (by omega)
            by_cases q1 : z0 ≤ 64
            · by_cases q2 : zl = 1
              · rw [decide_eq_true (hiff.2 ⟨h1, h10, hA, q1, q2⟩), decide_eq_true q1, q2]; rfl
              · rw [decide_eq_false (fun h => q2 (hiff.1 h).2.2.2.2), decide_eq_true q1]; simp [q2]
            · rw [decide_eq_false (fun h => q1 (hiff.1 h).2.2.2.1), decide_eq_false q1]; rfl)
          clear hk1 hk2 hz0 hzl hnl
          by_cases q1 : z0 ≤ 64
          · have hq1 : decide (z0 ≤ 64) = true := decide_eq_true q1
            go_wp2_with fail
            go_ret
            exact ⟨by rw [HD.out, hq1]; rfl, ⟨rfl, rfl, rfl, Nat.le_refl _, fun _ _ => rfl⟩⟩
          · have hq1 : decide (z0 ≤ 64) = false := decide_eq_false q1
            go_wp2_with fail
            go_ret
            exact ⟨by rw [HD.out, hq1]; rfl, ⟨rfl, rfl, rfl, Nat.le_refl _, fun _ _ => rfl⟩⟩
    · have HN : Hid (decide (OkG gs) = false) := Lib.hid (decide_eq_false fun h => h10 h.2.1)
      have h1z : ¬ (gs.length : Int) < 1 := by omega
      have hg1 : decide ((gs.length : Int) < 1) = false := decide_eq_false h1z
      have hg10 : decide ((10 : Int) < gs.length) = true := decide_eq_true (by omega)
      go_enter Try.func96, Try.ntmps96
      go_wp2_with fail
      go_ret
      exact ⟨by rw [HN.out]; rfl, Below.refl _ _⟩
  · have HN : Hid (decide (OkG gs) = false) := Lib.hid (decide_eq_false fun h => h1 h.1)
    have hg1 : decide ((gs.length : Int) < 1) = true := decide_eq_true (by omega)
    go_enter Try.func96, Try.ntmps96
    go_wp2_with fail
    go_ret
    exact ⟨by rw [HN.out]; rfl, Below.refl _ _⟩

set_option maxRecDepth 100000 in
set_option maxHeartbeats 4000000 in
theorem specGaps_any (v : Value) (gs : List Int) (w : World) (hv : FlatAt w v gs.length (ints gs)) (hn : gs.length ≤ 1048576) :
    Calls Try.prog 97 #[v] w fun e w' => e = .returned (.bool (decide (OkG gs))) ∧ Below w.heap.size w w' := by
  obtain ⟨a, c, rfl, _, h⟩ := hv
  have H := Lib.hid h
  clear h
  have HY := Lib.hid (fun (x a b : Int) (h : a ≤ x ∧ x ≤ b) W => l1In_yes x a b W h.1 h.2)
  have HNO := Lib.hid (fun (x a b : Int) (h : x < a ∨ b < x) W => l1In_no x a b W h)
  go_enter Try.func97, Try.ntmps97
  go_wp2_with fail
  go_loopw [3] (fun iv wr => ∃ k : Nat, k ≤ gs.length ∧ iv = .int .i64 k ∧ (∀ x ∈ gs.take k, 1 ≤ x ∧ x ≤ 64) ∧ (∀ i, i + 1 < k → gs.getD (i + 1) 0 < gs.getD i 0) ∧ Below w.heap.size w wr) (fun iv _ => gs.length - (intOf iv).toNat)
  case atStart => exact ⟨0, Nat.zero_le _, rfl, by simp, fun i hi => by omega, Below.refl _ _⟩
  case round =>
    obtain ⟨k, hk, rfl, hall, hdec, hb⟩ := hrel
    have HB := Lib.hid hb
    have HALL := Lib.hid hall
    have HDEC := Lib.hid hdec
    clear hb hall hdec
    by_cases hlt : k < gs.length
    · obtain ⟨x, hx⟩ : ∃ x, x = gs.getD k 0 := ⟨_, rfl⟩
      have hgx := at_getD hlt
      rw [← hx] at hgx
      obtain ⟨b, o, rfl, hbb, hc1⟩ := H.out _ _ (ints_at hgx)
      have hcx : wr.cell? ⟨b, o + k, none⟩ = some (.int .i64 x) := (HB.out.cell (p := ⟨b, o + k, none⟩) hbb).trans hc1
      have HGX := Lib.hid hgx
      have HX := Lib.hid hx
      have hkz : (k : Int) < gs.length := by omega
      have hwk2 : IntKind.i64.wrap ((k : Int) + 1) = ((k + 1 : Nat) : Int) := by rw [IntKind.wrap_i64]; omega
      clear hx hgx hc1
      by_cases h1 : 1 ≤ x ∧ x ≤ 64
      · have HQ := Lib.hid (fun W => HY.out x 1 64 h1 W)
        have HALL2 : Hid (∀ y ∈ gs.take (k + 1), 1 ≤ y ∧ y ≤ 64) := Lib.hid (by
          intro y hy
          rw [List.take_add_one, HGX.out] at hy
          rcases List.mem_append.1 hy with h | h
          · exact HALL.out y h
          · simp at h; subst h; exact h1)
        by_cases h0 : k = 0
        · subst h0
          have hg0 : decide ((0 : Int) < 0) = false := by decide
          have hcx' : wr.cell? ⟨b, o, none⟩ = some (.int .i64 x) := hcx
          have HDEC2 : Hid (∀ i, i + 1 < 0 + 1 → gs.getD (i + 1) 0 < gs.getD i 0) := Lib.hid (fun i hi => by omega)
          clear h1
          go_wp2_with fail
          go_quiet ((go_at_call 100; exact Calls.quiet_of_same (HQ.out _)))
          go_wp2_with fail
          go_roundw
          case rel => exact ⟨1, hlt, by go_num, HALL2.out, HDEC2.out, HB.out.trans ⟨rfl, rfl, rfl, Nat.le_refl _, fun _ _ => rfl⟩⟩
          case measure => simp [intOf]; omega
        · obtain ⟨j, rfl⟩ : ∃ j, k = j + 1 := ⟨k - 1, by omega⟩
          have hg0 : decide ((0 : Int) < ((j + 1 : Nat) : Int)) = true := decide_eq_true (by omega)
          obtain ⟨y, hy⟩ : ∃ y, y = gs.getD j 0 := ⟨_, rfl⟩
          have hgy := at_getD (l := gs) (k := j) (by omega)
          rw [← hy] at hgy
          obtain ⟨b', o', e', _, hc2⟩ := H.out _ _ (ints_at hgy)
          simp at e'
          obtain ⟨rfl, rfl⟩ := e'
          have hcy : wr.cell? ⟨b, o + j, none⟩ = some (.int .i64 y) := (HB.out.cell (p := ⟨b, o + j, none⟩) hbb).trans hc2
          have HYY := Lib.hid hy
          have hwj : IntKind.i64.wrap (((j + 1 : Nat) : Int) - 1) = (j : Int) := by rw [IntKind.wrap_i64]; omega
          have hjz : (j : Int) < gs.length := by omega
          obtain ⟨k1, hk1⟩ : ∃ k1, k1 = j + 1 := ⟨_, rfl⟩
          have HK1 := Lib.hid hk1
          rw [← hk1] at hwj hg0 hkz hwk2 hcx HX HALL2 ⊢
          have hk1n : k1 < gs.length := by omega
          have hkpos : (0 : Int) < (k1 : Int) := by omega
          have hkpos' : 0 < k1 := by omega
          clear hy hgy hc2 h1 hk1
          by_cases hyx : y ≤ x
          · have hle : decide (y ≤ x) = true := decide_eq_true hyx
            have HN : Hid (decide (OkG gs) = false) := Lib.hid (decide_eq_false fun h => by
              have := h.2.2.2.1 j (by have := HK1.out; omega)
              rw [← HK1.out, ← HX.out, ← HYY.out] at this; omega)
            go_wp2_with fail
            go_quiet ((go_at_call 100; exact Calls.quiet_of_same (HQ.out _)))
            go_wp2_with fail
            go_ret
            exact ⟨by rw [HN.out]; rfl, HB.out.trans ⟨rfl, rfl, rfl, Nat.le_refl _, fun _ _ => rfl⟩⟩
          · have hle : decide (y ≤ x) = false := decide_eq_false hyx
            have HDEC2 : Hid (∀ i, i + 1 < k1 + 1 → gs.getD (i + 1) 0 < gs.getD i 0) := Lib.hid (fun i hi => by
              by_cases e : i = j
              · subst e; rw [← HK1.out, ← HX.out, ← HYY.out]; omega
              · exact HDEC.out i (by have := HK1.out; omega))
            go_wp2_with fail
            go_quiet ((go_at_call 100; exact Calls.quiet_of_same (HQ.out _)))
            go_wp2_with fail
            go_roundw
            case rel => exact ⟨k1 + 1, by omega, by go_num, HALL2.out, HDEC2.out, HB.out.trans ⟨rfl, rfl, rfl, Nat.le_refl _, fun _ _ => rfl⟩⟩
            case measure => have := HK1.out; simp [intOf]; omega
      · have HQ := Lib.hid (fun W => HNO.out x 1 64 (by omega) W)
        have HN : Hid (decide (OkG gs) = false) := Lib.hid (decide_eq_false fun h => h1 (h.2.2.1 x (List.mem_of_getElem? HGX.out)))
        clear h1
        go_wp2_with fail
        go_quiet ((go_at_call 100; exact Calls.quiet_of_same (HQ.out _)))
        go_wp2_with fail
        go_ret
        exact ⟨by rw [HN.out]; rfl, HB.out.trans ⟨rfl, rfl, rfl, Nat.le_refl _, fun _ _ => rfl⟩⟩
    · obtain rfl : k = gs.length := by omega
      have HD : Hid (1 ≤ gs.length → gs.length ≤ 10 → decide (OkG gs) = (gs.getD (gs.length - 1) 0 == 1)) := Lib.hid (fun q1 q2 => by
        rw [List.take_length] at HALL
        by_cases q3 : gs.getD (gs.length - 1) 0 = 1
        · rw [decide_eq_true (show OkG gs from ⟨q1, q2, HALL.out, fun i hi => HDEC.out i (by omega), q3⟩), q3]; rfl
        · rw [decide_eq_false (fun h => q3 h.2.2.2.2)]; exact (beq_eq_false_iff_ne.2 q3).symm)
      by_cases hin : 1 ≤ (gs.length : Int) ∧ (gs.length : Int) ≤ 10
      · have HQ := Lib.hid (fun W => HY.out (gs.length : Int) 1 10 hin W)
        obtain ⟨zl, hzl⟩ : ∃ x, x = gs.getD (gs.length - 1) 0 := ⟨_, rfl⟩
        have hgz := at_getD (l := gs) (k := gs.length - 1) (by omega)
        rw [← hzl] at hgz
        obtain ⟨b, o, rfl, hbb, hc1⟩ := H.out _ _ (ints_at hgz)
        obtain ⟨nl, hnl⟩ : ∃ n, n = gs.length - 1 := ⟨_, rfl⟩
        rw [← hnl] at hc1
        have hcx : wr.cell? ⟨b, o + nl, none⟩ = some (.int .i64 zl) := (HB.out.cell (p := ⟨b, o + nl, none⟩) hbb).trans hc1
        have hwl : IntKind.i64.wrap ((gs.length : Int) - 1) = (nl : Int) := by rw [IntKind.wrap_i64]; omega
        have hnz : (nl : Int) < gs.length := by omega
        have hnn : nl < gs.length := by omega
        have HDD : Hid (decide (OkG gs) = (zl == 1)) := Lib.hid (by rw [HD.out (by omega) (by omega), ← hzl])
        have hl10 : gs.length ≤ 10 := by omega
        have h1l : 1 ≤ gs.length := by omega
        clear hin hgz hc1 hzl hnl HD
        go_wp2_with fail
        refine (HQ.out _).mono ?_
        rintro e w1 ⟨rfl, rfl⟩
        go_wp2_with fail
        go_ret
        exact ⟨by rw [HDD.out]; rfl, HB.out⟩
      · have HQ := Lib.hid (fun W => HNO.out (gs.length : Int) 1 10 (by omega) W)
        have HN : Hid (decide (OkG gs) = false) := Lib.hid (decide_eq_false fun h => hin ⟨by have := h.1; omega, by have := h.2.1; omega⟩)
        clear hin HD
        go_wp2_with fail
        refine (HQ.out _).mono ?_
        rintro e w1 ⟨rfl, rfl⟩
        go_wp2_with fail
        go_ret
        exact ⟨by rw [HN.out]; rfl, HB.out⟩

end Go.Proofs.Ytjmmhakmidddoaa
