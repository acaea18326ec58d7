/- The model's distances, by their contracts. -/
import Derived.Test.YtjlldjekjnlcaaaInvP
import Derived.Test.YtjlldjekjnlcaaaSGood
import Derived.BigQuiet
import Derived.Deep.QuietTactic
import Derived.Laws.BitsLemmas
namespace Go.Proofs.Ytjlldjekjnlcaaa
open Go.RowKit P Iv
set_option linter.unusedVariables false

theorem l1MostJ_any (x y : Int) (W : World) :
    Calls Try.prog 71 #[.int .i64 x, .int .i64 y] W fun e w' => e = .returned (.int .i64 (max x y)) ∧ w' = W := by
  by_cases h : y < x
  · have e : max x y = x := by omega
    rw [e]
    have h1 : decide (y < x) = true := decide_eq_true h
    go_enter Try.func71, Try.ntmps71
    go_wp2_with fail
    go_ret
    exact ⟨rfl, rfl⟩
  · have e : max x y = y := by omega
    rw [e]
    have h1 : decide (y < x) = false := decide_eq_false h
    go_enter Try.func71, Try.ntmps71
    go_wp2_with fail
    go_ret
    exact ⟨rfl, rfl⟩

set_option maxRecDepth 100000 in
set_option maxHeartbeats 4000000 in
theorem l11Both_any (v : Value) (l : List Int) (v' : Value) (m : List Int) (w : World) (hv : FlatAt w v l.length (ints l)) (hn : l.length ≤ 1048576) (hv' : FlatAt w v' m.length (ints m)) (hn' : m.length ≤ 1048576) :
    Calls Try.prog 70 #[v, v'] w fun e w' => e = .returned (.bool (decide (OkB l m))) ∧ Below w.heap.size w w' := by
  have HV := Lib.hid hv
  have HV' := Lib.hid hv'
  obtain ⟨a, c, rfl, _, _⟩ := hv
  obtain ⟨a', c', rfl, _, _⟩ := hv'
  by_cases h1 : OkP l
  · have hd := decide_eq_true h1
    have HI1 := Lib.hid (fun W (h : FlatAt W (.slice a l.length c) l.length (ints l)) => by have := l3Good_any _ l W h hn; rw [hd] at this; exact this)
    by_cases h2 : OkP m
    · have hd2 := decide_eq_true h2
      have HI2 := Lib.hid (fun W (h : FlatAt W (.slice a' m.length c') m.length (ints m)) => by have := l3Good_any _ m W h hn'; rw [hd2] at this; exact this)
      by_cases h3 : l.length = m.length
      · have HF : Hid (decide (OkB l m) = true) := Lib.hid (decide_eq_true ⟨h1, h2, h3⟩)
        have h3z : (l.length : Int) = m.length := by omega
        clear h1 h2 hd hd2 h3
        go_enter Try.func70, Try.ntmps70
        go_wp2_with fail
        refine (HI1.out _ HV.out).mono ?_
        rintro e w1 ⟨rfl, hb1⟩
        have HB1 := Lib.hid hb1
        clear hb1
        go_wp2_with fail
        refine (HI2.out _ (HV'.out.below HB1.out)).mono ?_
        rintro e w2 ⟨rfl, hb2⟩
        have HB2 := Lib.hid (HB1.out.trans (hb2.mono HB1.out.size))
        clear hb2
        go_wp2_with fail
        go_ret
        exact ⟨by rw [HF.out]; rfl, HB2.out⟩
      · have HF : Hid (decide (OkB l m) = false) := Lib.hid (decide_eq_false fun h => h3 h.2.2)
        have HBQ : Hid (((l.length : Int) == (m.length : Int)) = false) := Lib.hid (by simp; omega)
        have h3z : ¬ (l.length : Int) = m.length := by omega
        clear h1 h2 hd hd2 h3
        go_enter Try.func70, Try.ntmps70
        go_wp2_with fail
        refine (HI1.out _ HV.out).mono ?_
        rintro e w1 ⟨rfl, hb1⟩
        have HB1 := Lib.hid hb1
        clear hb1
        go_wp2_with fail
        refine (HI2.out _ (HV'.out.below HB1.out)).mono ?_
        rintro e w2 ⟨rfl, hb2⟩
        have HB2 := Lib.hid (HB1.out.trans (hb2.mono HB1.out.size))
        clear hb2
        go_wp2_with fail
        go_ret
        exact ⟨by rw [HF.out, ← HBQ.out]; rfl, HB2.out⟩
    · have hd2 := decide_eq_false h2
      have HI2 := Lib.hid (fun W (h : FlatAt W (.slice a' m.length c') m.length (ints m)) => by have := l3Good_any _ m W h hn'; rw [hd2] at this; exact this)
      have HF : Hid (decide (OkB l m) = false) := Lib.hid (decide_eq_false fun h => h2 h.2.1)
      clear h1 h2 hd hd2
      go_enter Try.func70, Try.ntmps70
      go_wp2_with fail
      refine (HI1.out _ HV.out).mono ?_
      rintro e w1 ⟨rfl, hb1⟩
      have HB1 := Lib.hid hb1
      clear hb1
      go_wp2_with fail
      refine (HI2.out _ (HV'.out.below HB1.out)).mono ?_
      rintro e w2 ⟨rfl, hb2⟩
      have HB2 := Lib.hid (HB1.out.trans (hb2.mono HB1.out.size))
      clear hb2
      go_wp2_with fail
      go_ret
      exact ⟨by rw [HF.out]; rfl, HB2.out⟩
  · have hd := decide_eq_false h1
    have HI1 := Lib.hid (fun W (h : FlatAt W (.slice a l.length c) l.length (ints l)) => by have := l3Good_any _ l W h hn; rw [hd] at this; exact this)
    have HF : Hid (decide (OkB l m) = false) := Lib.hid (decide_eq_false fun h => h1 h.1)
    clear h1 hd
    go_enter Try.func70, Try.ntmps70
    go_wp2_with fail
    refine (HI1.out _ HV.out).mono ?_
    rintro e w1 ⟨rfl, hb1⟩
    have HB1 := Lib.hid hb1
    clear hb1
    go_wp2_with fail
    go_ret
    exact ⟨by rw [HF.out]; rfl, HB1.out⟩

set_option maxRecDepth 100000 in
set_option maxHeartbeats 4000000 in
theorem specKd_any (v : Value) (l : List Int) (v' : Value) (m : List Int) (w : World) (hv : FlatAt w v l.length (ints l)) (hn : l.length ≤ 1048576) (hv' : FlatAt w v' m.length (ints m)) (hn' : m.length ≤ 1048576) :
    Calls Try.prog 42 #[v, v'] w fun e w' => e = .returned (.tuple #[.int .i64 (kdF l m).1, .bool (kdF l m).2]) ∧ Below w.heap.size w w' := by
  have HBO := Lib.hid (l11Both_any v l v' m w hv hn hv' hn')
  have HV := Lib.hid hv
  have HV' := Lib.hid hv'
  obtain ⟨a, c, rfl, _, _⟩ := hv
  obtain ⟨a', c', rfl, _, _⟩ := hv'
  by_cases hok : OkB l m
  · have HF : Hid (kdF l m = (((cp dis (l.zip m) : Nat) : Int), true)) := Lib.hid (kdF_yes hok)
    rw [decide_eq_true hok] at HBO
    have hl64 := hok.1.1
    have h3 := hok.2.2
    have HZL : Hid ((l.zip m).length = l.length) := Lib.hid (by rw [List.length_zip, ← h3, Nat.min_self])
    have HZA := Lib.hid (fun i (hi : i < l.length) => zip_at (p := l) (q := m) hi h3)
    obtain ⟨z, hz⟩ : ∃ z, z = l.zip m := ⟨_, rfl⟩
    rw [← hz] at HF HZL HZA
    have HCD := Lib.hid (fun i x (h : z[i]? = some x) => cp_drop (f := dis) h)
    have HKD := Lib.hid (fun x k y (h : z[k]? = some y) => count_drop (f := dis x) h)
    have HLE : Hid (cp dis z ≤ 4096) := Lib.hid (by have := cp_le dis z; have : z.length * z.length ≤ 64 * 64 := Nat.mul_le_mul (by rw [HZL.out]; exact hl64) (by rw [HZL.out]; exact hl64); omega)
    have HEND : Hid (∀ i, l.length ≤ i → cp dis (z.drop i) = 0) := Lib.hid (fun i h => cp_end (by rw [HZL.out]; exact h))
    have HKEND : Hid (∀ x i, l.length ≤ i → (z.drop i).countP (dis x) = 0) := Lib.hid (fun x i h => count_end (by rw [HZL.out]; exact h))
    have H3 := Lib.hid h3
    clear hok hz h3
    go_enter Try.func42, Try.ntmps42
    go_wp2_with fail
    refine (HBO.out).mono ?_
    rintro e w1 ⟨rfl, hb1⟩
    have HB := Lib.hid hb1
    have HE := Lib.hid (fun j x (hj : l[j]? = some x) => by
      obtain ⟨a0, c0, e0, _, h⟩ := HV.out.below hb1
      simp at e0
      obtain ⟨rfl, rfl⟩ := e0
      obtain ⟨b, o, e, hb, hh⟩ := h _ _ (ints_at hj)
      exact (⟨b, o, e, hb, hh⟩ : ∃ b o, a = some ⟨b, o, none⟩ ∧ b < w1.heap.size ∧ w1.cell? ⟨b, o + j, none⟩ = some (.int .i64 x)))
    have HE' := Lib.hid (fun j x (hj : m[j]? = some x) => by
      obtain ⟨a0, c0, e0, _, h⟩ := HV'.out.below hb1
      simp at e0
      obtain ⟨rfl, rfl⟩ := e0
      obtain ⟨b, o, e, hb, hh⟩ := h _ _ (ints_at hj)
      exact (⟨b, o, e, hb, hh⟩ : ∃ b o, a' = some ⟨b, o, none⟩ ∧ b < w1.heap.size ∧ w1.cell? ⟨b, o + j, none⟩ = some (.int .i64 x)))
    clear hb1 HV HV' HBO
    go_wp2_with fail
    go_loopw [6, 7, 8] (fun n i _ wr => ∃ (k r t : Nat), k ≤ l.length ∧ i = .int .i64 k ∧ n = .int .i64 r ∧ Hid (r + cp dis (z.drop k) = cp dis z) ∧ wr = w1.drewN t) (fun _ i _ _ => l.length - (intOf i).toNat)
    case atStart => exact ⟨0, 0, 0, Nat.zero_le _, rfl, rfl, Lib.hid (by simp), rfl⟩
    case round =>
      obtain ⟨k, r, t, hk, rfl, rfl, HM, rfl⟩ := hrel
      by_cases hlt : k < l.length
      · have hlm : k < m.length := by have := H3.out; omega
        have hx := at_getD (l := l) hlt
        have hx' := at_getD (l := m) hlm
        have hzk := HZA.out k hlt
        obtain ⟨x, he⟩ : ∃ x, x = l.getD k 0 := ⟨_, rfl⟩
        obtain ⟨x', he'⟩ : ∃ x, x = m.getD k 0 := ⟨_, rfl⟩
        rw [← he] at hx hzk
        rw [← he'] at hx' hzk
        obtain ⟨b, o, rfl, hbb, hcx⟩ := HE.out _ _ hx
        obtain ⟨b', o', rfl, hbb', hcx'⟩ := HE'.out _ _ hx'
        have HCX := Lib.hid (HCD.out _ _ hzk)
        have hw1 : IntKind.i64.wrap ((k : Int) + 1) = (k : Int) + 1 := by rw [IntKind.wrap_i64]; omega
        clear hx hx' he he' hzk
        go_wp2_with fail
        go_loopw [6, 8] (fun n i wr => ∃ (j q t : Nat), j ≤ l.length ∧ k + 1 ≤ j ∧ i = .int .i64 j ∧ n = .int .i64 q ∧ Hid (q + (z.drop j).countP (dis (x, x')) + cp dis (z.drop (k + 1)) = cp dis z) ∧ wr = w1.drewN t) (fun _ i _ => l.length - (intOf i).toNat)
        case atStart => exact ⟨k + 1, r, t, by omega, Nat.le_refl _, by go_num, rfl, Lib.hid (by have h1 := HM.out; have h2 := HCX.out; omega), rfl⟩
        case round =>
          obtain ⟨j, q, t, hj, hkj, rfl, rfl, HQ, rfl⟩ := hrel
          by_cases hjl : j < l.length
          · have hjm : j < m.length := by have := H3.out; omega
            have hy := at_getD (l := l) hjl
            have hy' := at_getD (l := m) hjm
            have hzj := HZA.out j hjl
            obtain ⟨y, hf⟩ : ∃ x, x = l.getD j 0 := ⟨_, rfl⟩
            obtain ⟨y', hf'⟩ : ∃ x, x = m.getD j 0 := ⟨_, rfl⟩
            rw [← hf] at hy hzj
            rw [← hf'] at hy' hzj
            obtain ⟨b2, o2, he2, _, hcy⟩ := HE.out _ _ hy
            simp at he2
            obtain ⟨rfl, rfl⟩ := he2
            obtain ⟨b2, o2, he2, _, hcy'⟩ := HE'.out _ _ hy'
            simp at he2
            obtain ⟨rfl, rfl⟩ := he2
            have HKY := Lib.hid (HKD.out (x, x') _ _ hzj)
            have HQ2 := Lib.hid (show q ≤ 4096 by have := HQ.out; have := HLE.out; omega)
            have hq2 := HQ2.out
            clear hy hy' hzj hf hf'
            have HDS : Hid (dis (x, x') (y, y') = (decide (x < y) != decide (x' < y'))) := Lib.hid rfl
            rw [HDS.out] at HKY
            obtain ⟨d1, hd1⟩ : ∃ d, decide (x < y) = d := ⟨_, rfl⟩
            obtain ⟨d2, hd2⟩ : ∃ d, decide (x' < y') = d := ⟨_, rfl⟩
            rw [hd1, hd2] at HKY
            by_cases hd : (d1 != d2) = true
            · rw [hd] at HKY
              have hd3 : (!d1 == d2) = true := by revert hd; cases d1 <;> cases d2 <;> simp
              go_wp2_with fail
              go_quiet (fail)
              go_wp2_with fail
              go_roundw
              case rel => exact ⟨j + 1, q + 1, t + nq, by omega, by omega, by go_num, by go_num, Lib.hid (by have h1 := HQ.out; have h2 := HKY.out; simp at h2; omega), by trivial⟩
              case measure => simp [intOf]; omega
            · have hd : (d1 != d2) = false := by simpa using hd
              rw [hd] at HKY
              have hd3 : (!d1 == d2) = false := by revert hd; cases d1 <;> cases d2 <;> simp
              go_wp2_with fail
              go_quiet (fail)
              go_wp2_with fail
              go_roundw
              case rel => exact ⟨j + 1, q, t + nq, by omega, by omega, by go_num, rfl, Lib.hid (by have h1 := HQ.out; have h2 := HKY.out; simp at h2; omega), by trivial⟩
              case measure => simp [intOf]; omega
          · go_wp2_with fail
            go_roundw
            case rel => exact ⟨k + 1, q, t, by omega, by go_num, rfl, Lib.hid (by have h1 := HQ.out; have h2 := HKEND.out (x, x') j (by omega); omega), by trivial⟩
            case measure => simp [intOf]; omega
      · obtain rfl : k = l.length := by omega
        have hm : r = cp dis z := by have h1 := HM.out; have h2 := HEND.out l.length (Nat.le_refl _); omega
        obtain rfl := hm
        go_wp2_with fail
        go_ret2
        exact ⟨by rw [HF.out]; rfl, HB.out.trans ⟨rfl, rfl, rfl, Nat.le_refl _, fun _ _ => rfl⟩⟩
  · have HF := Lib.hid (kdF_no hok)
    rw [decide_eq_false hok] at HBO
    clear hok
    go_enter Try.func42, Try.ntmps42
    go_wp2_with fail
    refine (HBO.out).mono ?_
    rintro e w1 ⟨rfl, hb1⟩
    have HB := Lib.hid hb1
    clear hb1 HBO
    go_wp2_with fail
    go_ret2
    exact ⟨by rw [HF.out]; rfl, HB.out⟩

set_option maxRecDepth 100000 in
set_option maxHeartbeats 4000000 in
theorem specSf_any (v : Value) (l : List Int) (v' : Value) (m : List Int) (w : World) (hv : FlatAt w v l.length (ints l)) (hn : l.length ≤ 1048576) (hv' : FlatAt w v' m.length (ints m)) (hn' : m.length ≤ 1048576) :
    Calls Try.prog 43 #[v, v'] w fun e w' => e = .returned (.tuple #[.int .i64 (sfF l m).1, .bool (sfF l m).2]) ∧ Below w.heap.size w w' := by
  have HBO := Lib.hid (l11Both_any v l v' m w hv hn hv' hn')
  have HV := Lib.hid hv
  have HV' := Lib.hid hv'
  obtain ⟨a, c, rfl, _, _⟩ := hv
  obtain ⟨a', c', rfl, _, _⟩ := hv'
  by_cases hok : OkB l m
  · have HF : Hid (sfF l m = (((fz (l.zip m) : Nat) : Int), true)) := Lib.hid (sfF_yes hok)
    have HFL : Hid (fz (l.zip m) ≤ 4096) := Lib.hid (ff_le hok)
    have HS := Lib.hid (zip_small hok)
    rw [decide_eq_true hok] at HBO
    have hl64 := hok.1.1
    have h3 := hok.2.2
    have HZL : Hid ((l.zip m).length = l.length) := Lib.hid (by rw [List.length_zip, ← h3, Nat.min_self])
    have HZA := Lib.hid (fun i (hi : i < l.length) => zip_at (p := l) (q := m) hi h3)
    obtain ⟨z, hz⟩ : ∃ z, z = l.zip m := ⟨_, rfl⟩
    rw [← hz] at HF HZL HZA HFL HS
    have HFD := Lib.hid (fun k a (h : z[k]? = some a) => fz_drop h)
    have HFE := Lib.hid (fun k (h : l.length ≤ k) => fz_end (z := z) (k := k) (by rw [HZL.out]; exact h))
    have HMX := Lib.hid (fun x y W => l1MostJ_any x y W)
    have H3 := Lib.hid h3
    clear hok hz h3
    go_enter Try.func43, Try.ntmps43
    go_wp2_with fail
    refine (HBO.out).mono ?_
    rintro e w1 ⟨rfl, hb1⟩
    have HB := Lib.hid hb1
    have HE := Lib.hid (fun j x (hj : l[j]? = some x) => by
      obtain ⟨a0, c0, e0, _, h⟩ := HV.out.below hb1
      simp at e0
      obtain ⟨rfl, rfl⟩ := e0
      obtain ⟨b, o, e, hb, hh⟩ := h _ _ (ints_at hj)
      exact (⟨b, o, e, hb, hh⟩ : ∃ b o, a = some ⟨b, o, none⟩ ∧ b < w1.heap.size ∧ w1.cell? ⟨b, o + j, none⟩ = some (.int .i64 x)))
    have HE' := Lib.hid (fun j x (hj : m[j]? = some x) => by
      obtain ⟨a0, c0, e0, _, h⟩ := HV'.out.below hb1
      simp at e0
      obtain ⟨rfl, rfl⟩ := e0
      obtain ⟨b, o, e, hb, hh⟩ := h _ _ (ints_at hj)
      exact (⟨b, o, e, hb, hh⟩ : ∃ b o, a' = some ⟨b, o, none⟩ ∧ b < w1.heap.size ∧ w1.cell? ⟨b, o + j, none⟩ = some (.int .i64 x)))
    clear hb1 HV HV' HBO
    go_wp2_with fail
    go_loopw [6, 7] (fun n i wr => ∃ (k s : Nat), k ≤ l.length ∧ i = .int .i64 k ∧ n = .int .i64 s ∧ Hid (s + fz (z.drop k) = fz z) ∧ Below w1.heap.size w1 wr) (fun _ i _ => l.length - (intOf i).toNat)
    case atStart => exact ⟨0, 0, Nat.zero_le _, rfl, rfl, Lib.hid (by simp), Below.refl _ _⟩
    case round =>
      obtain ⟨k, s, hk, rfl, rfl, HM, hb⟩ := hrel
      have HBW := Lib.hid hb
      clear hb
      by_cases hlt : k < l.length
      · have hlm : k < m.length := by have := H3.out; omega
        have hx := at_getD (l := l) hlt
        have hy := at_getD (l := m) hlm
        have hzk := HZA.out k hlt
        obtain ⟨x, he⟩ : ∃ x, x = l.getD k 0 := ⟨_, rfl⟩
        obtain ⟨y, he'⟩ : ∃ x, x = m.getD k 0 := ⟨_, rfl⟩
        rw [← he] at hx hzk
        rw [← he'] at hy hzk
        obtain ⟨b, o, rfl, hbb, hcx0⟩ := HE.out _ _ hx
        obtain ⟨b', o', rfl, hbb', hcy0⟩ := HE'.out _ _ hy
        have hcx : wr.cell? ⟨b, o + k, none⟩ = some (.int .i64 x) := (HBW.out.cell (p := ⟨b, o + k, none⟩) hbb).trans hcx0
        have hcy : wr.cell? ⟨b', o' + k, none⟩ = some (.int .i64 y) := (HBW.out.cell (p := ⟨b', o' + k, none⟩) hbb').trans hcy0
        clear hcx0 hcy0
        obtain ⟨hx0, hx1, hy0, hy1⟩ := HS.out (x, y) (List.mem_of_getElem? hzk)
        have HD := Lib.hid (HFD.out _ _ hzk)
        simp only at hx0 hx1 hy0 hy1
        have hx64 : x < 64 := by omega
        have hy64 : y < 64 := by omega
        have hwx : IntKind.i64.wrap (x - y) = x - y := by rw [IntKind.wrap_i64]; omega
        have hwy : IntKind.i64.wrap (y - x) = y - x := by rw [IntKind.wrap_i64]; omega
        obtain ⟨d, hd⟩ : ∃ d, d = (x - y).natAbs := ⟨_, rfl⟩
        have hmax : max (x - y) (y - x) = (d : Int) := by omega
        have HSB : Hid (s ≤ 4096 ∧ d ≤ 64) := Lib.hid (by have := HM.out; have := HFL.out; omega)
        have hs1 := HSB.out.1
        have hd1 := HSB.out.2
        have hws : IntKind.i64.wrap ((s : Int) + (d : Int)) = (s : Int) + (d : Int) := by rw [IntKind.wrap_i64]; omega
        have HMXK := Lib.hid (fun W => HMX.out (x - y) (y - x) W)
        rw [hmax] at HMXK
        have HDD := Lib.hid hd
        clear hx hy hx1 hy1 hd he he' hzk hmax
        go_wp2_with fail
        go_quiet (first | (go_at_call 71; with_reducible exact Calls.quiet_of_same (HMXK.out _)))
        go_wp2_with fail
        go_roundw
        case rel => exact ⟨k + 1, s + d, by omega, by go_num, by go_num, Lib.hid (by have h1 := HM.out; have h2 := HD.out; have h3 := HDD.out; omega), HBW.out.trans ⟨rfl, rfl, rfl, Nat.le_refl _, fun _ _ => rfl⟩⟩
        case measure => simp [intOf]; omega
      · obtain rfl : k = l.length := by omega
        have hs : s = fz z := by have h1 := HM.out; have h2 := HFE.out l.length (Nat.le_refl _); omega
        obtain rfl := hs
        go_wp2_with fail
        go_ret2
        exact ⟨by rw [HF.out]; rfl, HB.out.trans (HBW.out.mono HB.out.size)⟩
  · have HF := Lib.hid (sfF_no hok)
    rw [decide_eq_false hok] at HBO
    clear hok
    go_enter Try.func43, Try.ntmps43
    go_wp2_with fail
    refine (HBO.out).mono ?_
    rintro e w1 ⟨rfl, hb1⟩
    have HB := Lib.hid hb1
    clear hb1 HBO
    go_wp2_with fail
    go_ret2
    exact ⟨by rw [HF.out]; rfl, HB.out⟩

end Go.Proofs.Ytjlldjekjnlcaaa
