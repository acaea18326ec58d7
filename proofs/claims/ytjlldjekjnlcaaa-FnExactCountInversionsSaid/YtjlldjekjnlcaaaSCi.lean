/- The model's count of inversions, by its contract. -/
import Derived.Test.YtjlldjekjnlcaaaInvP
import Derived.Test.YtjlldjekjnlcaaaList
import Derived.BigQuiet
import Derived.Deep.QuietTactic
import Derived.Laws.BitsLemmas
namespace Go.Proofs.Ytjlldjekjnlcaaa
open Go.RowKit P Iv
set_option linter.unusedVariables false

set_option maxRecDepth 100000 in
set_option maxHeartbeats 4000000 in
theorem l11Count_any (v : Value) (l : List Int) (w : World) (hv : FlatAt w v l.length (ints l)) (hn : l.length ≤ 64) :
    Calls Try.prog 68 #[v] w fun e w' => e = .returned (.int .i64 (invs l : Nat)) ∧ Below w.heap.size w w' := by
  obtain ⟨a, c, rfl, hc, h⟩ := hv
  rw [invs_cp]
  have HE := Lib.hid (fun j x (hj : l[j]? = some x) => by
    obtain ⟨b, o, e, hb, hh⟩ := h _ _ (ints_at hj)
    exact (⟨b, o, e, hb, hh⟩ : ∃ b o, a = some ⟨b, o, none⟩ ∧ b < w.heap.size ∧ w.cell? ⟨b, o + j, none⟩ = some (.int .i64 x)))
  obtain ⟨f, hf⟩ : ∃ f : Int → Int → Bool, f = fun a b => decide (b < a) := ⟨_, rfl⟩
  rw [← hf]
  have HF := Lib.hid hf
  have HCD := Lib.hid (fun i x (h : l[i]? = some x) => cp_drop (f := f) h)
  have HKD := Lib.hid (fun x k y (h : l[k]? = some y) => count_drop (f := f x) h)
  have HLE : Hid (cp f l ≤ 4096) := Lib.hid (by have := cp_le f l; have : l.length * l.length ≤ 64 * 64 := Nat.mul_le_mul hn hn; omega)
  have HEND : Hid (∀ i, l.length ≤ i → cp f (l.drop i) = 0) := Lib.hid (fun i h => cp_end h)
  have HKEND : Hid (∀ x i, l.length ≤ i → (l.drop i).countP (f x) = 0) := Lib.hid (fun x i h => count_end h)
  have H0 : Hid (0 + cp f (l.drop 0) = cp f l) := Lib.hid (by simp)
  clear h hf
  go_enter Try.func68, Try.ntmps68
  go_wp2_with fail
  go_loopw [3, 4, 5] (fun n i _ wr => ∃ (k m t : Nat), k ≤ l.length ∧ i = .int .i64 k ∧ n = .int .i64 m ∧ Hid (m + cp f (l.drop k) = cp f l) ∧ wr = w.drewN t) (fun _ i _ _ => l.length - (intOf i).toNat)
  case atStart => exact ⟨0, 0, 0, Nat.zero_le _, rfl, rfl, H0, rfl⟩
  case round =>
    obtain ⟨k, m, t, hk, rfl, rfl, HM, rfl⟩ := hrel
    by_cases hlt : k < l.length
    · obtain ⟨x, hx⟩ : ∃ x, l[k]? = some x := ⟨_, List.getElem?_eq_getElem hlt⟩
      obtain ⟨b, o, rfl, hbb, hcx⟩ := HE.out _ _ hx
      have HCX := Lib.hid (HCD.out _ _ hx)
      have hw1 : IntKind.i64.wrap ((k : Int) + 1) = (k : Int) + 1 := by rw [IntKind.wrap_i64]; omega
      clear hx
      go_wp2_with fail
      go_loopw [3, 5] (fun n i wr => ∃ (j q t : Nat), j ≤ l.length ∧ k + 1 ≤ j ∧ i = .int .i64 j ∧ n = .int .i64 q ∧ Hid (q + (l.drop j).countP (f x) + cp f (l.drop (k + 1)) = cp f l) ∧ wr = w.drewN t) (fun _ i _ => l.length - (intOf i).toNat)
      case atStart => exact ⟨k + 1, m, t, by omega, Nat.le_refl _, by go_num, rfl, Lib.hid (by have h1 := HM.out; have h2 := HCX.out; omega), rfl⟩
      case round =>
        obtain ⟨j, q, t, hj, hkj, rfl, rfl, HQ, rfl⟩ := hrel
        by_cases hjl : j < l.length
        · obtain ⟨y, hy⟩ : ∃ y, l[j]? = some y := ⟨_, List.getElem?_eq_getElem hjl⟩
          obtain ⟨b2, o2, he2, _, hcy⟩ := HE.out _ _ hy
          simp at he2
          obtain ⟨rfl, rfl⟩ := he2
          have HKY := Lib.hid (HKD.out x _ _ hy)
          have HQ2 := Lib.hid (show q ≤ 4096 by have := HQ.out; have := HLE.out; omega)
          have hq2 := HQ2.out
          clear hy
          by_cases hd : y < x
          · have hgt : decide (y < x) = true := decide_eq_true hd
            have HFY : Hid (f x y = true) := Lib.hid (by rw [HF.out]; exact hgt)
            go_wp2_with fail
            go_quiet (fail)
            go_wp2_with fail
            go_roundw
            case rel => exact ⟨j + 1, q + 1, t + nq, by omega, by omega, by go_num, by go_num, Lib.hid (by have h1 := HQ.out; have h2 := HKY.out; rw [HFY.out] at h2; simp at h2; omega), by trivial⟩
            case measure => simp [intOf]; omega
          · have hgt : decide (y < x) = false := decide_eq_false hd
            have HFY : Hid (f x y = false) := Lib.hid (by rw [HF.out]; exact hgt)
            go_wp2_with fail
            go_quiet (fail)
            go_wp2_with fail
            go_roundw
            case rel => exact ⟨j + 1, q, t + nq, by omega, by omega, by go_num, rfl, Lib.hid (by have h1 := HQ.out; have h2 := HKY.out; rw [HFY.out] at h2; simp at h2; omega), by trivial⟩
            case measure => simp [intOf]; omega
        · go_wp2_with fail
          go_roundw
          case rel => exact ⟨k + 1, q, t, by omega, by go_num, rfl, Lib.hid (by have h1 := HQ.out; have h2 := HKEND.out x j (by omega); omega), by trivial⟩
          case measure => simp [intOf]; omega
    · obtain rfl : k = l.length := by omega
      have hm : m = cp f l := by have h1 := HM.out; have h2 := HEND.out l.length (Nat.le_refl _); omega
      obtain rfl := hm
      go_wp2_with fail
      go_ret
      exact ⟨rfl, ⟨rfl, rfl, rfl, Nat.le_refl _, fun _ _ => rfl⟩⟩

set_option maxRecDepth 100000 in
theorem specCi_any (v : Value) (l : List Int) (w : World) (hv : FlatAt w v l.length (ints l)) (hn : l.length ≤ 1048576) :
    Calls Try.prog 36 #[v] w fun e w' => e = .returned (.tuple #[.int .i64 (ciF l).1, .bool (ciF l).2]) ∧ Below w.heap.size w w' := by
  have HV := Lib.hid hv
  obtain ⟨a, c, rfl, _⟩ := hv
  by_cases hok : OkL l
  · have hd : decide (OkL l) = true := decide_eq_true hok
    have HI := Lib.hid (fun W (h : FlatAt W (.slice a l.length c) l.length (ints l)) => by have := l2List_any _ l W h hn; rw [hd] at this; exact this)
    have HC := Lib.hid (fun W (h : FlatAt W (.slice a l.length c) l.length (ints l)) => l11Count_any _ l W h hok.1)
    have HF := Lib.hid (ciF_yes hok)
    clear hok hd
    go_enter Try.func36, Try.ntmps36
    go_wp2_with fail
    refine (HI.out _ HV.out).mono ?_
    rintro e w1 ⟨rfl, hb1⟩
    have HV1 := Lib.hid (HV.out.below hb1)
    have HB1 := Lib.hid hb1
    clear hb1 HV HI
    go_wp2_with fail
    refine (HC.out _ HV1.out).mono ?_
    rintro e w2 ⟨rfl, hb2⟩
    have HB2 := Lib.hid (HB1.out.trans (hb2.mono HB1.out.size))
    clear hb2
    go_wp2_with fail
    go_ret2
    exact ⟨by rw [HF.out]; rfl, HB2.out⟩
  · have hd : decide (OkL l) = false := decide_eq_false hok
    have HI := Lib.hid (fun W (h : FlatAt W (.slice a l.length c) l.length (ints l)) => by have := l2List_any _ l W h hn; rw [hd] at this; exact this)
    have HF := Lib.hid (ciF_no hok)
    clear hok hd
    go_enter Try.func36, Try.ntmps36
    go_wp2_with fail
    refine (HI.out _ HV.out).mono ?_
    rintro e w1 ⟨rfl, hb1⟩
    have HB1 := Lib.hid hb1
    clear hb1 HI
    go_wp2_with fail
    go_ret2
    exact ⟨by rw [HF.out]; rfl, HB1.out⟩

end Go.Proofs.Ytjlldjekjnlcaaa
