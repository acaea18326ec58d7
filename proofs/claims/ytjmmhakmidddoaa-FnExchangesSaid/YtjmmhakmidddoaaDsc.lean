/- IsSorted, the program's and the model's, by contracts. -/
import Derived.Test.YtjmmhakmidddoaaIList
import Derived.Test.YtjmmhakmidddoaaInsP
import Derived.BigQuiet
import Derived.Deep.QuietTactic
import Derived.Laws.BitsLemmas
namespace Go.Proofs.Ytjmmhakmidddoaa
open Go.RowKit P El
set_option linter.unusedVariables false

theorem drew_below (w : World) (n : Nat) : Below w.heap.size w (w.drewN n) := ⟨rfl, rfl, rfl, Nat.le_refl _, fun _ _ => rfl⟩

set_option maxRecDepth 100000 in
set_option maxHeartbeats 4000000 in
theorem l4Descent_any (v : Value) (l : List Int) (w : World) (hv : FlatAt w v l.length (ints l)) (hn : l.length ≤ 1048576) :
    Calls Try.prog 95 #[v] w fun e w' => e = .returned (.int .i64 (descF l)) ∧ Below w.heap.size w w' := by
  obtain ⟨a, c, rfl, _, h⟩ := hv
  have H := Lib.hid h
  clear h
  have HS : Hid (desc l (l.length - 1 - 0) 0 = descF l) := Lib.hid rfl
  go_enter Try.func95, Try.ntmps95
  go_wp2_with fail
  go_loopw [3] (fun iv wr => ∃ (k m : Nat), k ≤ l.length ∧ iv = .int .i64 k ∧ desc l (l.length - 1 - k) k = descF l ∧ wr = w.drewN m) (fun iv _ => l.length - (intOf iv).toNat)
  case atStart => exact ⟨0, 0, Nat.zero_le _, rfl, HS.out, rfl⟩
  case round =>
    obtain ⟨k, m, hk, rfl, hr, rfl⟩ := hrel
    have HR := Lib.hid hr
    clear hr HS
    have hwk : IntKind.i64.wrap ((k : Int) + 1) = ((k + 1 : Nat) : Int) := by rw [IntKind.wrap_i64]; omega
    by_cases hlt : k + 1 < l.length
    · obtain ⟨p, hp⟩ : ∃ p, p = l.getD k 0 := ⟨_, rfl⟩
      obtain ⟨q, hq⟩ : ∃ q, q = l.getD (k + 1) 0 := ⟨_, rfl⟩
      have h1 := at_getD (l := l) (k := k) (by omega)
      have h2 := at_getD (l := l) (k := k + 1) hlt
      rw [← hp] at h1
      rw [← hq] at h2
      obtain ⟨b, o, rfl, _, hc1⟩ := H.out _ _ (ints_at h1)
      obtain ⟨b', o', e', _, hc2⟩ := H.out _ _ (ints_at h2)
      simp at e'
      obtain ⟨rfl, rfl⟩ := e'
      have HP := Lib.hid hp
      have HQ := Lib.hid hq
      have hkz : (k : Int) < l.length := by omega
      have hk1z : ((k + 1 : Nat) : Int) < l.length := by omega
      have HN : Hid (l.length - 1 - k = (l.length - 1 - (k + 1)) + 1) := Lib.hid (by omega)
      clear h1 h2 hp hq
      by_cases hd : q < p
      · have hgt : decide (q < p) = true := decide_eq_true hd
        have HE : Hid (descF l = (k : Int)) := Lib.hid (by rw [← HR.out, HN.out, desc_yes (by rw [← HP.out, ← HQ.out]; exact hd)])
        go_wp2_with fail
        go_quiet (fail)
        go_wp2_with fail
        go_ret
        exact ⟨by rw [HE.out]; rfl, ⟨rfl, rfl, rfl, Nat.le_refl _, fun _ _ => rfl⟩⟩
      · have hgt : decide (q < p) = false := decide_eq_false hd
        have HE : Hid (desc l (l.length - 1 - (k + 1)) (k + 1) = descF l) := Lib.hid (by rw [← HR.out, HN.out, desc_no (by rw [← HP.out, ← HQ.out]; exact hd)])
        go_wp2_with fail
        go_quiet (fail)
        go_wp2_with fail
        go_roundw
        case rel => exact ⟨k + 1, m + nq, by omega, by go_num, HE.out, by trivial⟩
        case measure => simp [intOf]; omega
    · have hlz : ¬ ((k + 1 : Nat) : Int) < l.length := by omega
      have HE : Hid (descF l = -1) := Lib.hid (by rw [← HR.out, show l.length - 1 - k = 0 by omega]; rfl)
      go_wp2_with fail
      go_ret
      exact ⟨by rw [HE.out]; rfl, ⟨rfl, rfl, rfl, Nat.le_refl _, fun _ _ => rfl⟩⟩

set_option maxRecDepth 100000 in
theorem specSorted_any (v : Value) (l : List Int) (w : World) (hv : FlatAt w v l.length (ints l)) (hn : l.length ≤ 1048576) :
    Calls Try.prog 53 #[v] w fun e w' => e = .returned (.tuple #[.int .i64 (dscAll l).1, .bool (dscAll l).2]) ∧ Below w.heap.size w w' := by
  have HV := Lib.hid hv
  obtain ⟨a, c, rfl, _⟩ := hv
  by_cases hok : OkL l
  · have hd : decide (OkL l) = true := decide_eq_true hok
    have HI := Lib.hid (fun W (h : FlatAt W (.slice a l.length c) l.length (ints l)) => by have := l2List_any _ l W h hn; rw [hd] at this; exact this)
    have HD := Lib.hid (fun W (h : FlatAt W (.slice a l.length c) l.length (ints l)) => l4Descent_any _ l W h hn)
    have HF := Lib.hid (dscAll_yes hok)
    clear hok hd
    go_enter Try.func53, Try.ntmps53
    go_wp2_with fail
    refine (HI.out _ HV.out).mono ?_
    rintro e w1 ⟨rfl, hb1⟩
    have HV1 := Lib.hid (HV.out.below hb1)
    have HB1 := Lib.hid hb1
    clear hb1 HV HI
    go_wp2_with fail
    refine (HD.out _ HV1.out).mono ?_
    rintro e w2 ⟨rfl, hb2⟩
    have HRES : Hid (Below w.heap.size w w2) := Lib.hid (HB1.out.trans (hb2.mono HB1.out.size))
    clear hb2 HD
    go_wp2_with fail
    go_ret2
    exact ⟨by rw [HF.out]; rfl, HRES.out⟩
  · have hd : decide (OkL l) = false := decide_eq_false hok
    have HI := Lib.hid (fun W (h : FlatAt W (.slice a l.length c) l.length (ints l)) => by have := l2List_any _ l W h hn; rw [hd] at this; exact this)
    have HF := Lib.hid (dscAll_no hok)
    clear hok hd
    go_enter Try.func53, Try.ntmps53
    go_wp2_with fail
    refine (HI.out _ HV.out).mono ?_
    rintro e w1 ⟨rfl, hb1⟩
    have HB1 := Lib.hid hb1
    clear hb1 HI
    go_wp2_with fail
    go_ret2
    exact ⟨by rw [HF.out]; rfl, HB1.out⟩

set_option maxRecDepth 100000 in
set_option maxHeartbeats 4000000 in
theorem implSorted_any (v : Value) (l : List Int) (w : World) (hv : FlatAt w v l.length (ints l)) (hn : l.length ≤ 1048576) :
    Calls Try.prog 51 #[v] w fun e w' => e = .returned (.tuple #[.int .i64 (dscAll l).1, .bool (dscAll l).2]) ∧ Below w.heap.size w w' := by
  have HV := Lib.hid hv
  obtain ⟨a, c, rfl, _⟩ := hv
  by_cases hok : OkL l
  · have hd : decide (OkL l) = true := decide_eq_true hok
    have HI := Lib.hid (fun W (h : FlatAt W (.slice a l.length c) l.length (ints l)) => by have := implValidList_any _ l W h hn; rw [hd] at this; exact this)
    have HF := Lib.hid (dscAll_yes hok)
    clear hok hd
    have HS : Hid (desc l (l.length - 1 - 0) 0 = descF l) := Lib.hid rfl
    go_enter Try.func51, Try.ntmps51
    go_wp2_with fail
    refine (HI.out _ HV.out).mono ?_
    rintro e w1 ⟨rfl, hb1⟩
    have HV1 := Lib.hid (HV.out.below hb1)
    have HB1 := Lib.hid hb1
    clear hb1 HV HI
    go_wp2_with fail
    go_loopw [4] (fun iv wr => ∃ (k m : Nat), k ≤ l.length ∧ iv = .int .i64 ((k + 1 : Nat) : Int) ∧ desc l (l.length - 1 - k) k = descF l ∧ wr = w1.drewN m) (fun iv _ => l.length + 1 - (intOf iv).toNat)
    case atStart => exact ⟨0, 0, Nat.zero_le _, rfl, HS.out, rfl⟩
    case round =>
      obtain ⟨k, m, hk, rfl, hr, rfl⟩ := hrel
      have HR := Lib.hid hr
      clear hr HS
      have hwk : IntKind.i64.wrap (((k + 1 : Nat) : Int) - 1) = (k : Int) := by rw [IntKind.wrap_i64]; omega
      have hwk2 : IntKind.i64.wrap (((k + 1 : Nat) : Int) + 1) = ((k + 2 : Nat) : Int) := by rw [IntKind.wrap_i64]; omega
      obtain ⟨k1, hk1⟩ : ∃ k1, k1 = k + 1 := ⟨_, rfl⟩
      obtain ⟨k2, hk2⟩ : ∃ k2, k2 = k + 2 := ⟨_, rfl⟩
      rw [← hk1] at hwk hwk2 ⊢
      rw [← hk2] at hwk2
      have HK1 := Lib.hid hk1
      have HK2 := Lib.hid hk2
      have hkk : k1 ≤ 1048577 := by omega
      by_cases hlt : k1 < l.length
      · obtain ⟨p, hp⟩ : ∃ p, p = l.getD k 0 := ⟨_, rfl⟩
        obtain ⟨q, hq⟩ : ∃ q, q = l.getD k1 0 := ⟨_, rfl⟩
        have h1 := at_getD (l := l) (k := k) (by omega)
        have h2 := at_getD (l := l) (k := k1) hlt
        rw [← hp] at h1
        rw [← hq] at h2
        obtain ⟨a0, c0, ha0, _, h0⟩ := HV1.out
        simp at ha0
        obtain ⟨rfl, rfl⟩ := ha0
        obtain ⟨b, o, rfl, _, hc1⟩ := h0 _ _ (ints_at h1)
        obtain ⟨b', o', e', _, hc2⟩ := h0 _ _ (ints_at h2)
        simp at e'
        obtain ⟨rfl, rfl⟩ := e'
        have HP := Lib.hid hp
        have HQ := Lib.hid hq
        have hkz : (k : Int) < l.length := by omega
        have hk1z : (k1 : Int) < l.length := by omega
        have HN : Hid (l.length - 1 - k = (l.length - 1 - (k + 1)) + 1) := Lib.hid (by omega)
        clear h1 h2 hp hq h0 hk1 hk2
        by_cases hd : q < p
        · have hgt : decide (q < p) = true := decide_eq_true hd
          have HE : Hid (descF l = (k : Int)) := Lib.hid (by rw [← HR.out, HN.out, desc_yes (by rw [← HK1.out, ← HP.out, ← HQ.out]; exact hd)])
          go_wp2_with fail
          go_quiet (fail)
          go_wp2_with fail
          go_ret2
          exact ⟨by rw [HF.out, HE.out]; rfl, HB1.out.trans ⟨rfl, rfl, rfl, Nat.le_refl _, fun _ _ => rfl⟩⟩
        · have hgt : decide (q < p) = false := decide_eq_false hd
          have HE : Hid (desc l (l.length - 1 - (k + 1)) (k + 1) = descF l) := Lib.hid (by rw [← HR.out, HN.out, desc_no (by rw [← HK1.out, ← HP.out, ← HQ.out]; exact hd)])
          go_wp2_with fail
          go_quiet (fail)
          go_wp2_with fail
          go_roundw
          case rel => exact ⟨k + 1, m + nq, by omega, by rw [HK2.out], HE.out, by trivial⟩
          case measure => have := HK1.out; have := HK2.out; simp [intOf]; omega
      · have hlz : ¬ (k1 : Int) < l.length := by omega
        have HE : Hid (descF l = -1) := Lib.hid (by rw [← HR.out, show l.length - 1 - k = 0 by omega]; rfl)
        clear hk1 hk2
        go_wp2_with fail
        go_ret2
        exact ⟨by rw [HF.out, HE.out]; rfl, HB1.out.trans ⟨rfl, rfl, rfl, Nat.le_refl _, fun _ _ => rfl⟩⟩
  · have hd : decide (OkL l) = false := decide_eq_false hok
    have HI := Lib.hid (fun W (h : FlatAt W (.slice a l.length c) l.length (ints l)) => by have := implValidList_any _ l W h hn; rw [hd] at this; exact this)
    have HF := Lib.hid (dscAll_no hok)
    clear hok hd
    go_enter Try.func51, Try.ntmps51
    go_wp2_with fail
    refine (HI.out _ HV.out).mono ?_
    rintro e w1 ⟨rfl, hb1⟩
    have HB1 := Lib.hid hb1
    clear hb1 HI
    go_wp2_with fail
    go_ret2
    exact ⟨by rw [HF.out]; rfl, HB1.out⟩

end Go.Proofs.Ytjmmhakmidddoaa
