/- The model's l10Counts, l10Sums, l10Values and l10Fenwick, by their contracts. -/
import Derived.Test.YtgfdpjmhdijdiaaRetI
import Derived.Test.YtgfdpjmhdijdiaaSLo
import Derived.Test.YtgfdpjmhdijdiaaIn
import Derived.Test.YtgfdpjmhdijdiaaFen
import Derived.Laws.BitsLemmas
namespace Go.Proofs.Ytgfdpjmhdijdiaa
open Go.RowKit Fw
set_option linter.unusedVariables false

attribute [local go_sem ↓ high] builtin_append_held

set_option maxRecDepth 100000 in
set_option maxHeartbeats 1000000 in
theorem l10Counts_any (v : Value) (l : List Int) (w : World) (hv : FlatAt w v l.length (ints l)) (hn : l.length ≤ 1048576) :
    Calls Try.prog 111 #[v] w fun e w' => e = .returned (.bool (decide (OkM l))) ∧ Below w.heap.size w w' := by
  obtain ⟨a, c, rfl, _, h⟩ := hv
  have H := Lib.hid h
  clear h
  go_enter Try.func111, Try.ntmps111
  go_wp2_with fail
  go_loopw [3] (fun i wr => ∃ k : Nat, k ≤ l.length ∧ i = .int .i64 k ∧ (∀ p ∈ l.take k, 0 ≤ p ∧ p ≤ 1000) ∧ wr = w) (fun i _ => l.length - (intOf i).toNat)
  case atStart => exact ⟨0, Nat.zero_le _, rfl, by simp, rfl⟩
  case round =>
    obtain ⟨k, hk, rfl, hall, rfl⟩ := hrel
    have HALL := Lib.hid hall
    clear hall
    by_cases hlt : k < l.length
    · obtain ⟨p, hp⟩ : ∃ p, l[k]? = some p := ⟨_, List.getElem?_eq_getElem hlt⟩
      obtain ⟨b, o, rfl, hbb, hc1⟩ := H.out _ _ (ints_at hp)
      have HP := Lib.hid hp
      have HI := Lib.hid (fun W => l1In_any p 0 1000 W)
      clear hp
      by_cases h1 : 0 ≤ p ∧ p ≤ 1000
      · rw [decide_eq_true h1] at HI
        have H1 := Lib.hid h1
        clear h1
        go_wp2_with fail
        refine (HI.out _).mono ?_
        rintro e w1 ⟨rfl, rfl⟩
        go_wp2_with fail
        go_roundw
        case rel =>
          refine ⟨k + 1, by omega, by go_num, fun r hr => ?_, by first | rfl | trivial⟩
          rw [List.take_add_one, HP.out] at hr
          rcases List.mem_append.1 hr with h | h
          · exact HALL.out r h
          · simp at h; subst h; exact H1.out
        case measure => simp [intOf]; omega
      · rw [decide_eq_false h1] at HI
        have HRES : Hid (decide (OkM l) = false) := Lib.hid (decide_eq_false fun h => h1 (h.2 p (List.mem_of_getElem? HP.out)))
        clear h1
        go_wp2_with fail
        refine (HI.out _).mono ?_
        rintro e w1 ⟨rfl, rfl⟩
        go_wp2_with fail
        go_ret
        exact ⟨by rw [HRES.out]; rfl, Below.refl _ _⟩
    · obtain rfl : k = l.length := by omega
      rw [List.take_length] at HALL
      by_cases h64 : l.length ≤ 64
      · have hz : (l.length : Int) ≤ 64 := by omega
        have HRES : Hid (decide (OkM l) = true) := Lib.hid (decide_eq_true ⟨h64, HALL.out⟩)
        go_wp2_with fail
        go_ret
        exact ⟨by rw [HRES.out]; rfl, Below.refl _ _⟩
      · have hz : ¬ (l.length : Int) ≤ 64 := by omega
        have HRES : Hid (decide (OkM l) = false) := Lib.hid (decide_eq_false fun h => h64 h.1)
        go_wp2_with fail
        go_ret
        exact ⟨by rw [HRES.out]; rfl, Below.refl _ _⟩

set_option maxRecDepth 100000 in
set_option maxHeartbeats 1000000 in
theorem l10Sums_any (v : Value) (l : List Int) (w : World) (hv : FlatAt w v l.length (ints l)) (hn : l.length ≤ 126) :
    Calls Try.prog 112 #[v] w (RowI (sm l l.length) w) := by
  obtain ⟨a, c, rfl, _, h⟩ := hv
  have H := Lib.hid h
  clear h
  have HB0 : Hid (Below w.heap.size w (w.alloc (.cells #[] 3))) := Lib.hid ((Below.refl _ _).alloc (Nat.le_refl _) _)
  have HS0 := Lib.hid (Held.start w w.heap.size (Nat.le_refl _))
  go_enter Try.func112, Try.ntmps112
  go_wp2_with fail
  go_loopw [3, 4] (fun u iv wr => ∃ i : Nat, i ≤ l.length ∧ iv = .int .i64 i ∧ Held w.heap.size wr u (sm l i) ∧ Below w.heap.size w wr) (fun _ iv _ => l.length - (intOf iv).toNat)
  case atStart => exact ⟨0, Nat.zero_le _, rfl, HS0.out, HB0.out⟩
  case round =>
    obtain ⟨i, hi, rfl, hr, hb⟩ := hrel
    have HR := Lib.hid hr
    have HB := Lib.hid hb
    clear hr hb HS0 HB0
    by_cases hlt : i < l.length
    · have hltz : (i : Int) < (l.length : Int) := by omega
      have HL : Hid (∀ W, Calls Try.prog 119 #[.int .i64 ((i : Int) + 1)] W fun e w' => e = .returned (.int .i64 ((lo (i + 1) : Nat) : Int)) ∧ w' = W) := Lib.hid (fun W => by rw [show (i : Int) + 1 = ((i + 1 : Nat) : Int) by omega]; exact l10Low_any (i + 1) (by omega) (by omega) W)
      have hle := lo_le (i + 1)
      have hpo := lo_pos (n := i + 1) (by omega) (by omega)
      obtain ⟨r, hrr⟩ : ∃ r, r = lo (i + 1) := ⟨_, rfl⟩
      obtain ⟨k0, hk0⟩ : ∃ k0, k0 = i + 1 - r := ⟨_, rfl⟩
      have HSM : Hid (sm l (i + 1) = sm l i ++ [ad l k0 r]) := Lib.hid (by rw [sm, hk0, hrr])
      rw [← hrr] at HL hle hpo
      obtain ⟨q, hq⟩ : ∃ q : Int, q = (i : Int) - (r : Int) := ⟨_, rfl⟩
      have hw2 : IntKind.i64.wrap ((i : Int) - (r : Int)) = q := by rw [IntKind.wrap_i64]; omega
      have hw3 : IntKind.i64.wrap (q + 1) = (k0 : Int) := by rw [IntKind.wrap_i64]; omega
      have HK0 : Hid (k0 + r = i + 1) := Lib.hid (by omega)
      clear hq hk0 hrr
      go_wp2_with fail
      refine (HL.out _).mono ?_
      rintro e w1 ⟨rfl, rfl⟩
      go_wp2_with fail
      go_loopw [5, 6] (fun sv kv wq => ∃ j k : Nat, k = k0 + j ∧ j ≤ r ∧ sv = .int .i64 (ad l k0 j) ∧ kv = .int .i64 k ∧ wq = w1) (fun _ kv _ => i + 1 - (intOf kv).toNat)
      case atStart => exact ⟨0, k0, rfl, Nat.zero_le _, rfl, rfl, rfl⟩
      case round =>
        obtain ⟨j, k, hkj, hj, rfl, rfl, rfl⟩ := hrel
        have hk0r := HK0.out
        by_cases hjr : j < r
        · have hki : (k : Int) ≤ (i : Int) := by omega
          obtain ⟨p, hp⟩ : ∃ p, l[k]? = some p := ⟨_, List.getElem?_eq_getElem (by omega)⟩
          obtain ⟨b, o, rfl, hbb, hc1⟩ := H.out _ _ (ints_at hp)
          have hw4 : wr.cell? ⟨b, o + k, none⟩ = some (.int .i64 p) := (HB.out.cell (p := ⟨b, o + k, none⟩) hbb).trans hc1
          have hklt : k < l.length := by omega
          have hw5 : IntKind.i64.wrap (ad l k0 j + p) = ad l k0 (j + 1) := by
            rw [ad, wr_def, ← hkj, List.getD_eq_getElem?_getD, hp]; rfl
          have HK : Hid (k + 1 = k0 + (j + 1) ∧ j + 1 ≤ r ∧ i + 1 - (k + 1) < i + 1 - k) := Lib.hid (by omega)
          have hk1 : k < 4611686018427387904 := by omega
          generalize ad l k0 j = s at *
          obtain ⟨s1, hs1⟩ : ∃ s1, s1 = ad l k0 (j + 1) := ⟨_, rfl⟩
          rw [← hs1] at hw5
          have HS1 := Lib.hid hs1
          clear hs1
          clear hp hc1 hkj hk0r
          go_wp2_with fail
          go_roundw
          case rel => exact ⟨j + 1, k + 1, HK.out.1, HK.out.2.1, by rw [← HS1.out], by go_num, by first | rfl | trivial⟩
          case measure => have := HK.out.2.2; simp [intOf]; omega
        · obtain rfl : j = r := by omega
          have hki : ¬ (k : Int) ≤ (i : Int) := by omega
          obtain ⟨v2, w2, hrun, hheld, hbel⟩ := appendOne w.heap.size _ _ (ad l k0 j) wr HR.out HB.out.size (by rw [sm_len]; omega)
          rw [← HSM.out] at hheld
          have HH := Lib.hid hheld
          have HB2 := Lib.hid (HB.out.trans hbel)
          generalize ad l k0 j = s at *
          clear hheld hbel HR HB hk0r
          go_wp2_with fail
          go_roundw
          case rel => exact ⟨i + 1, by omega, by go_num, HH.out, HB2.out⟩
          case measure => simp [intOf]; omega
    · obtain rfl : i = l.length := by omega
      obtain ⟨g, cg, rfl, hg, hcg, hrow⟩ := HR.out.row
      have HRES : Hid (RowI (sm l l.length) w (.returned (.slice (some ⟨g, 0, none⟩) (sm l l.length).length cg)) wr) := Lib.hid ⟨g, cg, rfl, hcg, hg, hrow, HB.out⟩
      clear hg hcg hrow HR
      go_wp2_with fail
      go_ret
      exact HRES.out

theorem sv_len (S : List Int) (m : Nat) : (sv S m).length = m := by
  induction m with
  | zero => rfl
  | succ m ih => simp [sv, ih]

set_option maxRecDepth 100000 in
set_option maxHeartbeats 1000000 in
theorem l10Values_any (v : Value) (l : List Int) (w : World) (hv : FlatAt w v l.length (ints l)) (hn : l.length ≤ 126) :
    Calls Try.prog 118 #[v] w (RowI (sv l l.length) w) := by
  obtain ⟨a, c, rfl, _, h⟩ := hv
  have H := Lib.hid h
  clear h
  have HB0 : Hid (Below w.heap.size w (w.alloc (.cells #[] 3))) := Lib.hid ((Below.refl _ _).alloc (Nat.le_refl _) _)
  have HS0 := Lib.hid (Held.start w w.heap.size (Nat.le_refl _))
  go_enter Try.func118, Try.ntmps118
  go_wp2_with fail
  go_loopw [3, 4] (fun u iv wr => ∃ i : Nat, i ≤ l.length ∧ iv = .int .i64 i ∧ Held w.heap.size wr u (sv l i) ∧ Below w.heap.size w wr) (fun _ iv _ => l.length - (intOf iv).toNat)
  case atStart => exact ⟨0, Nat.zero_le _, rfl, HS0.out, HB0.out⟩
  case round =>
    obtain ⟨i, hi, rfl, hr, hb⟩ := hrel
    have HR := Lib.hid hr
    have HB := Lib.hid hb
    clear hr hb HS0 HB0
    by_cases hlt : i < l.length
    · have hltz : (i : Int) < (l.length : Int) := by omega
      obtain ⟨p0, hp0⟩ : ∃ p, l[i]? = some p := ⟨_, List.getElem?_eq_getElem hlt⟩
      obtain ⟨b, o, rfl, hbb, hc1⟩ := H.out _ _ (ints_at hp0)
      have hw1 : wr.cell? ⟨b, o + i, none⟩ = some (.int .i64 p0) := (HB.out.cell (p := ⟨b, o + i, none⟩) hbb).trans hc1
      have HP0 := Lib.hid hp0
      clear hp0 hc1
      have HL : Hid (∀ W, Calls Try.prog 119 #[.int .i64 ((i : Int) + 1)] W fun e w' => e = .returned (.int .i64 ((lo (i + 1) : Nat) : Int)) ∧ w' = W) := Lib.hid (fun W => by rw [show (i : Int) + 1 = ((i + 1 : Nat) : Int) by omega]; exact l10Low_any (i + 1) (by omega) (by omega) W)
      have hle := lo_le (i + 1)
      have hpo := lo_pos (n := i + 1) (by omega) (by omega)
      obtain ⟨r, hrr⟩ : ∃ r, r = lo (i + 1) := ⟨_, rfl⟩
      obtain ⟨k0, hk0⟩ : ∃ k0, k0 = i + 1 - r := ⟨_, rfl⟩
      have HSV : Hid (sv l (i + 1) = sv l i ++ [sb (sv l i) p0 k0 (r - 1)]) := Lib.hid (by rw [sv, hk0, hrr, List.getD_eq_getElem?_getD, HP0.out]; rfl)
      rw [← hrr] at HL hle hpo
      obtain ⟨q, hq⟩ : ∃ q : Int, q = (i : Int) - (r : Int) := ⟨_, rfl⟩
      have hw2 : IntKind.i64.wrap ((i : Int) - (r : Int)) = q := by rw [IntKind.wrap_i64]; omega
      have hw3 : IntKind.i64.wrap (q + 1) = (k0 : Int) := by rw [IntKind.wrap_i64]; omega
      have HK0 : Hid (k0 + r = i + 1) := Lib.hid (by omega)
      clear hq hk0 hrr
      go_wp2_with fail
      refine (HL.out _).mono ?_
      rintro e w1 ⟨rfl, rfl⟩
      go_wp2_with fail
      obtain ⟨g, cg, hu, hgg, hcg, hrow⟩ := HR.out.row
      subst hu
      have HROW := Lib.hid hrow
      have HCG := Lib.hid hcg
      clear hrow hcg
      go_loopw [5, 6] (fun uv kv wq => ∃ j k : Nat, k = k0 + j ∧ j ≤ r - 1 ∧ uv = .int .i64 (sb (sv l i) p0 k0 j) ∧ kv = .int .i64 k ∧ wq = w1) (fun _ kv _ => i + 1 - (intOf kv).toNat)
      case atStart => exact ⟨0, k0, rfl, Nat.zero_le _, rfl, rfl, rfl⟩
      case round =>
        obtain ⟨j, k, hkj, hj, rfl, rfl, rfl⟩ := hrel
        have hk0r := HK0.out
        by_cases hjr : j < r - 1
        · have hki : (k : Int) < (i : Int) := by omega
          obtain ⟨p, hp⟩ : ∃ p, (sv l i)[k]? = some p := ⟨_, List.getElem?_eq_getElem (by rw [sv_len]; omega)⟩
          obtain ⟨hw4, _⟩ := HROW.out.2 _ _ (ints_at hp)
          have hklt : k < (sv l i).length := by rw [sv_len]; omega
          have hw5 : IntKind.i64.wrap (sb (sv l i) p0 k0 j - p) = sb (sv l i) p0 k0 (j + 1) := by
            rw [sb, wr_def, ← hkj, List.getD_eq_getElem?_getD, hp]; rfl
          have HK : Hid (k + 1 = k0 + (j + 1) ∧ j + 1 ≤ r - 1 ∧ i + 1 - (k + 1) < i + 1 - k) := Lib.hid (by omega)
          have hk1 : k < 4611686018427387904 := by omega
          generalize sb (sv l i) p0 k0 j = s at *
          obtain ⟨s1, hs1⟩ : ∃ s1, s1 = sb (sv l i) p0 k0 (j + 1) := ⟨_, rfl⟩
          rw [← hs1] at hw5
          have HS1 := Lib.hid hs1
          clear hs1
          clear hp hkj hk0r
          go_wp2_with fail
          go_roundw
          case rel => exact ⟨j + 1, k + 1, HK.out.1, HK.out.2.1, by rw [← HS1.out], by go_num, by first | rfl | trivial⟩
          case measure => have := HK.out.2.2; simp [intOf]; omega
        · have HLEN : Hid ((sv l i).length = i) := Lib.hid (sv_len l i)
          obtain rfl : j = r - 1 := by omega
          have hki : ¬ (k : Int) < (i : Int) := by omega
          obtain ⟨v2, w2, hrun, hheld, hbel⟩ := appendOne w.heap.size _ _ (sb (sv l i) p0 k0 (r - 1)) wr HR.out HB.out.size (by rw [sv_len]; omega)
          rw [← HSV.out] at hheld
          have HH := Lib.hid hheld
          have HB2 := Lib.hid (HB.out.trans hbel)
          generalize sb (sv l i) p0 k0 (r - 1) = s at *
          clear hheld hbel HR HB hk0r
          go_wp2_with fail
          go_roundw
          case rel => exact ⟨i + 1, by omega, by go_num, HH.out, HB2.out⟩
          case measure => simp [intOf]; omega
    · obtain rfl : i = l.length := by omega
      obtain ⟨g, cg, rfl, hg, hcg, hrow⟩ := HR.out.row
      have HRES : Hid (RowI (sv l l.length) w (.returned (.slice (some ⟨g, 0, none⟩) (sv l l.length).length cg)) wr) := Lib.hid ⟨g, cg, rfl, hcg, hg, hrow, HB.out⟩
      clear hg hcg hrow HR
      go_wp2_with fail
      go_ret
      exact HRES.out

set_option maxRecDepth 100000 in
set_option maxHeartbeats 1000000 in
theorem l10Fenwick_any (v : Value) (l : List Int) (w : World) (hv : FlatAt w v l.length (ints l)) (hn : l.length ≤ 1048576) (hi : IsW l) :
    Calls Try.prog 116 #[.agg #[v]] w fun e w' => e = .returned (.bool (decide (OkF l))) ∧ Below w.heap.size w w' := by
  obtain ⟨W, hW, hx, hz, hb⟩ := box1 w 53 v
  have HV := Lib.hid (hv.below hb)
  have HB := Lib.hid hb
  have hc0 := hx.cell
  clear hv hb hx
  obtain ⟨a, c, rfl, _, _⟩ := HV.out
  by_cases h : l.length ≤ 64
  · have hz : (l.length : Int) ≤ 64 := by omega
    have HVAL := Lib.hid (l10Values_any _ l W HV.out (by omega))
    rw [sv_all hi (by omega)] at HVAL
    have HC : Hid (∀ (W2 : World) g c, (vl l).length ≤ c → CellRow W2 g (ints (vl l)) → Calls Try.prog 111 #[.slice (some ⟨g, 0, none⟩) (vl l).length c] W2 fun e w' => e = .returned (.bool (decide (OkF l))) ∧ Below W2.heap.size W2 w') := Lib.hid (fun W2 g c hc hr => l10Counts_any _ (vl l) W2 (hr.flat hc) (by rw [vl_len]; omega))
    go_enter Try.func116, Try.ntmps116
    go_wp2_with fail
    rw [← hW]
    refine HVAL.out.mono ?_
    rintro e w1 ⟨g, cg, rfl, hcg, hg, hrow, hb1⟩
    have HB1 := Lib.hid (HB.out.trans (hb1.mono (by omega)))
    have HROW := Lib.hid hrow
    have HCG := Lib.hid hcg
    clear hcg hg hrow hb1 HVAL
    go_wp2_with fail
    refine (HC.out _ _ _ HCG.out HROW.out).mono ?_
    rintro e w2 ⟨rfl, hb2⟩
    have HB2 := Lib.hid (HB1.out.trans (hb2.mono HB1.out.size))
    clear hb2
    go_wp2_with fail
    go_ret
    exact ⟨rfl, HB2.out⟩
  · have hz : ¬ (l.length : Int) ≤ 64 := by omega
    have HZ : Hid (decide (OkF l) = false) := Lib.hid (decide_eq_false fun hh => h hh.len)
    go_enter Try.func116, Try.ntmps116
    go_wp2_with fail
    rw [← hW]
    go_wp2_with fail
    go_ret
    exact ⟨by rw [HZ.out]; rfl, HB.out⟩

end Go.Proofs.Ytgfdpjmhdijdiaa
