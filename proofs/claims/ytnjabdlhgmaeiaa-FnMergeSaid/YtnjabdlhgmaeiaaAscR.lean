/- Whether a list of records is ascending: the program's check and the model's, by contracts. -/
import Derived.Test.YtnjabdlhgmaeiaaCmpK
import Derived.Test.YtnjabdlhgmaeiaaIRecs
import Derived.Test.YtnjabdlhgmaeiaaMgP
import Derived.BigRegion
import Derived.BigQuiet
import Derived.Deep.QuietTactic
import Derived.Deep.RegionWith
import Derived.Laws.BitsLemmas
namespace Go.Proofs.Ytnjabdlhgmaeiaa
open Go.RowKit Go.Sort Go.Lib
set_option linter.unusedVariables false

theorem getD_recs {l : List (Int × Int)} {k : Nat} (h : k < l.length) : l[k]? = some (l.getD k (0, 0)) := by rw [List.getD_eq_getElem?_getD, List.getElem?_eq_getElem h]; rfl

/-- From k on, no key is less than the one ahead of it. -/
def upFrom (l : List (Int × Int)) (k : Nat) : Prop := ∀ j, k ≤ j → j + 1 < l.length → ¬ (l.getD (j + 1) (0, 0)).1 < (l.getD j (0, 0)).1
theorem upFrom_asc {l : List (Int × Int)} (h : upFrom l 0) : Mg.Asc l := fun i hi => by have := h i (Nat.zero_le _) (by omega); omega

theorem below_grow (w : World) (q : Nat) (os : Array Obj) : Below w.heap.size w (grow (w.drewN q) os) := ⟨rfl, rfl, rfl, by simp [grow], fun k hk => by simp only [grow]; exact Array.getElem?_append_left hk⟩

set_option maxRecDepth 100000 in
set_option maxHeartbeats 4000000 in
theorem isSortedRecs_any (v : Value) (l : List (Int × Int)) (w : World) (hv : FlatAt w v l.length (recs l)) (hn : l.length ≤ 1048576) :
    Calls Try.prog 115 #[v, .func (.func 77) #[] #[]] w fun e w' => e = .returned (.bool (decide (Mg.Asc l))) ∧ Below w.heap.size w w' := by
  obtain ⟨a, c, rfl, _, h⟩ := hv
  have H := Lib.hid h
  clear h
  by_cases h0 : l.length = 0
  · have hl : l = [] := List.eq_nil_of_length_eq_zero h0
    subst hl
    have HR : Hid (decide (Mg.Asc []) = true) := Lib.hid (decide_eq_true (fun i hi => by simp at hi))
    clear h0 H
    go_enter Try.func115, Try.ntmps115
    go_wp2_with fail
    go_loopw [5] (fun iv wr => iv = .int .i64 (-1) ∧ wr = w) (fun _ _ => 0)
    case atStart => exact ⟨by first | rfl | go_num, rfl⟩
    case round =>
      obtain ⟨rfl, rfl⟩ := hrel
      go_wp2_with fail
      go_ret
      exact ⟨by rw [HR.out]; rfl, Below.refl _ _⟩
  · obtain ⟨n, hn1⟩ : ∃ n, n + 1 = l.length := ⟨l.length - 1, by omega⟩
    have hw0 : IntKind.i64.wrap ((l.length : Int) - 1) = (n : Int) := by rw [IntKind.wrap_i64]; omega
    go_enter Try.func115, Try.ntmps115
    go_wp2_with fail
    go_loopw [5] (fun iv wr => ∃ k : Nat, k ≤ n ∧ iv = .int .i64 (k : Int) ∧ upFrom l k ∧ Below w.heap.size w wr) (fun iv _ => (intOf iv).toNat)
    case atStart => exact ⟨n, Nat.le_refl _, by first | rfl | rw [hw0], fun j h1 h2 => by omega, Below.refl _ _⟩
    case round =>
      obtain ⟨k, hk, rfl, hr, hb⟩ := hrel
      have HR := Lib.hid hr
      have HB := Lib.hid hb
      clear hr hw0 hb
      cases k with
      | zero =>
        have HE : Hid (decide (Mg.Asc l) = true) := Lib.hid (decide_eq_true (upFrom_asc HR.out))
        go_wp2_with fail
        go_ret
        exact ⟨by rw [HE.out]; rfl, HB.out⟩
      | succ k =>
        obtain ⟨k1, hk1⟩ : ∃ k1, k1 = k + 1 := ⟨_, rfl⟩
        rw [← hk1] at HR hk ⊢
        have hwk : IntKind.i64.wrap ((k1 : Int) - 1) = (k : Int) := by rw [IntKind.wrap_i64]; omega
        obtain ⟨p, hp⟩ : ∃ p, p = l.getD k (0, 0) := ⟨_, rfl⟩
        obtain ⟨q, hq⟩ : ∃ q, q = l.getD k1 (0, 0) := ⟨_, rfl⟩
        have h1 := getD_recs (l := l) (k := k) (by omega)
        have h2 := getD_recs (l := l) (k := k1) (by omega)
        rw [← hp] at h1
        rw [← hq] at h2
        obtain ⟨b, o, rfl, hbb, hc1, hc2⟩ := recs_el H.out h1
        obtain ⟨b', o', e', _, hd1, hd2⟩ := recs_el H.out h2
        simp at e'
        obtain ⟨rfl, rfl⟩ := e'
        replace hc1 : wr.cell? ⟨b, o + k * 2, none⟩ = some (.int .i64 p.1) := (HB.out.cell (p := ⟨b, o + k * 2, none⟩) hbb).trans hc1
        replace hc2 : wr.cell? ⟨b, o + k * 2 + 1, none⟩ = some (.int .i64 p.2) := (HB.out.cell (p := ⟨b, o + k * 2 + 1, none⟩) hbb).trans hc2
        replace hd1 : wr.cell? ⟨b, o + k1 * 2, none⟩ = some (.int .i64 q.1) := (HB.out.cell (p := ⟨b, o + k1 * 2, none⟩) hbb).trans hd1
        replace hd2 : wr.cell? ⟨b, o + k1 * 2 + 1, none⟩ = some (.int .i64 q.2) := (HB.out.cell (p := ⟨b, o + k1 * 2 + 1, none⟩) hbb).trans hd2
        have HP := Lib.hid hp
        have HQ := Lib.hid hq
        have HK1 := Lib.hid hk1
        have hkz : (k : Int) < l.length := by omega
        have hk1z : (k1 : Int) < l.length := by omega
        have hpos : 0 < k1 := by omega
        have hposz : (0 : Int) < (k1 : Int) := by omega
        have HBD : Hid (Below w.heap.size w wr.drew) := Lib.hid (HB.out.trans ((Below.refl _ _).drew))
        clear h1 h2 hp hq hk1
        have HL := Lib.hid (fun W => (compareKeys_any q p W).mono (R' := fun e w' => e = .returned (.int .i64 (compareInt q.1 p.1)) ∧ Below W.heap.size W w') (fun e w' h => ⟨h.1, by obtain ⟨n, os, rfl⟩ := h.2; exact below_grow W n os⟩))
        by_cases hd : q.1 < p.1
        · have hcmp : compareInt q.1 p.1 = -1 := by unfold compareInt; rw [if_pos hd]
          rw [hcmp] at HL
          have HE : Hid (decide (Mg.Asc l) = false) := Lib.hid (decide_eq_false (fun h => by
            have := h k (by have := HK1.out; omega)
            rw [← HK1.out, ← HP.out, ← HQ.out] at this
            omega))
          clear hcmp
          go_wp2_with fail
          go_region_with (go_at_call 77; refine (HL.out _).mono ?_; rintro e w1 ⟨rfl, hb1⟩)
          all_goals (
            have HB1 := Lib.hid (HBD.out.trans (hb1.mono HBD.out.size))
            clear hb1
            go_wp2_with fail
            go_ret
            exact ⟨by rw [HE.out]; rfl, HB1.out⟩)
        · obtain ⟨r, hr0, hcmp⟩ : ∃ r : Int, 0 ≤ r ∧ compareInt q.1 p.1 = r := by
            refine ⟨_, ?_, rfl⟩
            unfold compareInt; rw [if_neg hd]; split <;> omega
          rw [hcmp] at HL
          have hrd : decide (r < 0) = false := decide_eq_false (by omega)
          have HE : Hid (upFrom l k) := Lib.hid (fun j h1 h2 => by
            by_cases e : j = k
            · rw [e, ← HK1.out, ← HP.out, ← HQ.out]; exact hd
            · exact HR.out j (by have := HK1.out; omega) h2)
          clear hcmp
          go_wp2_with fail
          go_region_with (go_at_call 77; refine (HL.out _).mono ?_; rintro e w1 ⟨rfl, hb1⟩)
          all_goals (
            have HB1 := Lib.hid (HBD.out.trans (hb1.mono HBD.out.size))
            clear hb1
            go_wp2_with fail
            go_roundw
            case rel => exact ⟨k, by omega, by first | rfl | rw [hwk], HE.out, HB1.out⟩
            case measure => have := HK1.out; simp [intOf]; omega)

set_option maxRecDepth 100000 in
theorem isSortedRecords_any (v : Value) (l : List (Int × Int)) (w : World) (hv : FlatAt w v l.length (recs l)) (hn : l.length ≤ 1048576) :
    Calls Try.prog 70 #[v] w fun e w' => e = .returned (.bool (decide (OkR l ∧ Mg.Asc l))) ∧ Below w.heap.size w w' := by
  have HV := Lib.hid hv
  have HI := Lib.hid (implValidRecs_any v l w hv hn)
  have HS := Lib.hid (fun W (h : FlatAt W v l.length (recs l)) => isSortedRecs_any v l W h hn)
  clear hv
  by_cases h1 : OkR l
  · rw [decide_eq_true h1] at HI
    have HE : Hid (decide (OkR l ∧ Mg.Asc l) = decide (Mg.Asc l)) := Lib.hid (by
      by_cases h2 : Mg.Asc l
      · rw [decide_eq_true h2, decide_eq_true ⟨h1, h2⟩]
      · rw [decide_eq_false h2, decide_eq_false (fun h => h2 h.2)])
    clear h1
    go_enter Try.func70, Try.ntmps70
    go_wp2_with fail
    refine (HI.out).mono ?_
    rintro e w1 ⟨rfl, hb⟩
    have HV1 := Lib.hid (HV.out.below hb)
    have HB1 := Lib.hid hb
    clear hb HI HV
    go_wp2_with fail
    refine (HS.out _ HV1.out).mono ?_
    rintro e w2 ⟨rfl, hb⟩
    have HB2 := Lib.hid (HB1.out.trans (hb.mono HB1.out.size))
    clear hb HS
    go_wp2_with fail
    go_ret
    exact ⟨by rw [HE.out]; rfl, HB2.out⟩
  · rw [decide_eq_false h1] at HI
    have HE : Hid (decide (OkR l ∧ Mg.Asc l) = false) := Lib.hid (decide_eq_false (fun h => h1 h.1))
    clear h1
    go_enter Try.func70, Try.ntmps70
    go_wp2_with fail
    refine (HI.out).mono ?_
    rintro e w1 ⟨rfl, hb⟩
    have HB1 := Lib.hid hb
    clear hb HI HV
    go_wp2_with fail
    go_ret
    exact ⟨by rw [HE.out]; rfl, HB1.out⟩

/-- Up to k, no key is greater than the one behind it. -/
def upTo (l : List (Int × Int)) (k : Nat) : Prop := ∀ j, j < k → (l.getD j (0, 0)).1 ≤ (l.getD (j + 1) (0, 0)).1

set_option maxRecDepth 100000 in
set_option maxHeartbeats 4000000 in
theorem l5Ascending_any (v : Value) (l : List (Int × Int)) (w : World) (hv : FlatAt w v l.length (recs l)) (hn : l.length ≤ 1048576) :
    Calls Try.prog 73 #[v] w fun e w' => e = .returned (.bool (decide (Mg.Asc l))) ∧ Below w.heap.size w w' := by
  obtain ⟨a, c, rfl, _, h⟩ := hv
  have H := Lib.hid h
  clear h
  go_enter Try.func73, Try.ntmps73
  go_wp2_with fail
  go_loopw [3] (fun iv wr => ∃ k : Nat, k ≤ l.length ∧ iv = .int .i64 (k : Int) ∧ upTo l k ∧ Below w.heap.size w wr) (fun iv _ => l.length - (intOf iv).toNat)
  case atStart => exact ⟨0, Nat.zero_le _, rfl, fun j h => absurd h (Nat.not_lt_zero _), Below.refl _ _⟩
  case round =>
    obtain ⟨k, hk, rfl, hr, hb⟩ := hrel
    have HR := Lib.hid hr
    have HB := Lib.hid hb
    clear hr hb
    obtain ⟨k1, hk1⟩ : ∃ k1, k1 = k + 1 := ⟨_, rfl⟩
    have hwk : IntKind.i64.wrap ((k : Int) + 1) = (k1 : Int) := by rw [IntKind.wrap_i64]; omega
    have HK1 := Lib.hid hk1
    by_cases hlt : k1 < l.length
    · obtain ⟨p, hp⟩ : ∃ p, p = l.getD k (0, 0) := ⟨_, rfl⟩
      obtain ⟨q, hq⟩ : ∃ q, q = l.getD k1 (0, 0) := ⟨_, rfl⟩
      have h1 := getD_recs (l := l) (k := k) (by omega)
      have h2 := getD_recs (l := l) (k := k1) (by omega)
      rw [← hp] at h1
      rw [← hq] at h2
      obtain ⟨b, o, rfl, hbb, hc1, _⟩ := recs_el H.out h1
      obtain ⟨b', o', e', _, hd1, _⟩ := recs_el H.out h2
      simp at e'
      obtain ⟨rfl, rfl⟩ := e'
      replace hc1 : wr.cell? ⟨b, o + k * 2, none⟩ = some (.int .i64 p.1) := (HB.out.cell (p := ⟨b, o + k * 2, none⟩) hbb).trans hc1
      replace hd1 : wr.cell? ⟨b, o + k1 * 2, none⟩ = some (.int .i64 q.1) := (HB.out.cell (p := ⟨b, o + k1 * 2, none⟩) hbb).trans hd1
      have HP := Lib.hid hp
      have HQ := Lib.hid hq
      have hkl : k < l.length := by omega
      have hkz : (k : Int) < l.length := by omega
      have hk1z : (k1 : Int) < l.length := by omega
      clear h1 h2 hp hq hk1
      by_cases hd : q.1 < p.1
      · have hdd : decide (q.1 < p.1) = true := decide_eq_true hd
        have HE : Hid (decide (Mg.Asc l) = false) := Lib.hid (decide_eq_false (fun h => by
          have := h k (by have := HK1.out; omega)
          rw [← HK1.out, ← HP.out, ← HQ.out] at this
          omega))
        go_wp2_with fail
        go_quiet (fail)
        go_wp2_with fail
        go_ret
        exact ⟨by rw [HE.out]; rfl, HB.out.trans ⟨rfl, rfl, rfl, Nat.le_refl _, fun _ _ => rfl⟩⟩
      · have hdd : decide (q.1 < p.1) = false := decide_eq_false hd
        have HE : Hid (upTo l k1) := Lib.hid (fun j h => by
          by_cases e : j = k
          · rw [e, ← HK1.out, ← HP.out, ← HQ.out]; omega
          · exact HR.out j (by have := HK1.out; omega))
        go_wp2_with fail
        go_quiet (fail)
        go_wp2_with fail
        go_roundw
        case rel => exact ⟨k1, by omega, by first | rfl | rw [hwk], HE.out, HB.out.trans ⟨rfl, rfl, rfl, Nat.le_refl _, fun _ _ => rfl⟩⟩
        case measure => have := HK1.out; simp [intOf]; omega
    · have hnz : ¬ (k1 : Int) < l.length := by omega
      have HE : Hid (decide (Mg.Asc l) = true) := Lib.hid (decide_eq_true (fun i hi => HR.out i (by have := HK1.out; omega)))
      clear hk1
      go_wp2_with fail
      go_ret
      exact ⟨by rw [HE.out]; rfl, HB.out⟩

end Go.Proofs.Ytnjabdlhgmaeiaa
