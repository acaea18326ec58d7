/- The program's UnrankPermutation, by its contract. -/
import Derived.Test.YtckogbmaahenhaaIUnr
namespace Go.Proofs.Ytckogbmaahenhaa
open Go.RowKit P

/-- The digits, so far: the last k of them. -/
def digTo (n r k : Nat) : List Int := (List.range 10).map fun j : Nat => if n - k ≤ j ∧ j < n then ((digit n r j : Nat) : Int) else 0
theorem digTo_length (n r k : Nat) : (digTo n r k).length = 10 := by simp [digTo]
theorem digTo_at {n r k j : Nat} (h : j < 10) : (digTo n r k)[j]? = some (if n - k ≤ j ∧ j < n then ((digit n r j : Nat) : Int) else 0) := by
  unfold digTo; rw [List.getElem?_map, List.getElem?_range h]; rfl
theorem digTo_zero (n r : Nat) : digTo n r 0 = List.replicate 10 0 := by
  apply List.ext_getElem?
  intro j
  by_cases hj : j < 10
  · rw [digTo_at hj, if_neg (by omega), List.getElem?_replicate, if_pos hj]
  · rw [List.getElem?_eq_none (by rw [digTo_length]; omega), List.getElem?_eq_none (by simp; omega)]
theorem digTo_set {n r k : Nat} (hn : n ≤ 10) (h : k < n) : (digTo n r k).set (n - 1 - k) ((digit n r (n - 1 - k) : Nat) : Int) = digTo n r (k + 1) := by
  apply List.ext_getElem?
  intro j
  rw [List.getElem?_set, digTo_length]
  by_cases hj : j < 10
  · rw [digTo_at hj, digTo_at hj]
    by_cases e : n - 1 - k = j
    · subst e; rw [if_pos rfl, if_pos hj, if_pos (by omega)]
    · rw [if_neg e]
      by_cases c : n - k ≤ j ∧ j < n
      · rw [if_pos c, if_pos (by omega)]
      · rw [if_neg c, if_neg (by omega)]
  · have : (digTo n r (k + 1))[j]? = none := List.getElem?_eq_none (by rw [digTo_length]; omega)
    have h2 : (digTo n r k)[j]? = none := List.getElem?_eq_none (by rw [digTo_length]; omega)
    rw [this, h2, if_neg (by omega : ¬ n - 1 - k = j)]
theorem digTo_all {n r : Nat} (hn : n ≤ 10) : (digTo n r n).take n = digs n (digit n r) := by
  apply List.ext_getElem?
  intro j
  by_cases hj : j < n
  · rw [List.getElem?_take_of_lt hj, digTo_at (by omega), digs_at hj, if_pos (by omega)]
  · rw [List.getElem?_eq_none (by rw [List.length_take, digTo_length]; omega), List.getElem?_eq_none (by rw [digs_length]; omega)]

set_option maxRecDepth 100000 in
set_option maxHeartbeats 4000000 in
theorem implUnr_any (a0 a1 : Int) (w : World) (w1 : (Lit.int .i64 a1).wf = true) :
    Calls Try.prog 48 #[.int .i64 a0, .int .i64 a1] w (RetI (unrF a0 a1) w) := by
  have hbig : a1 < 9223372036854775808 := by
    have h := w1
    simp only [Lit.wf, Bool.and_eq_true, decide_eq_true_eq] at h
    have e : IntKind.i64.max = 9223372036854775807 := by kernel_rfl
    omega
  clear w1
  have HRET := Lib.hid (RetI.none w w (Below.refl _ _))
  by_cases h0 : 0 ≤ a0 ∧ a0 ≤ 10 ∧ 0 ≤ a1
  · obtain ⟨n, rfl⟩ : ∃ n : Nat, a0 = n := ⟨a0.toNat, by omega⟩
    obtain ⟨r, rfl⟩ : ∃ r : Nat, a1 = r := ⟨a1.toNat, by omega⟩
    have hn10 : n ≤ 10 := by omega
    have HYES := Lib.hid (fun h => unrF_yes (n := n) (r := r) hn10 h)
    have HNO : Hid (¬ r < fact n → unrF n r = ([], false)) := Lib.hid (fun h => unrF_no (fun hh => h (by simpa using hh.2.2.2)))
    have HDG : Hid (∀ k, k < n → (r / fact k) % (k + 1) = digit n r (n - 1 - k)) := Lib.hid (fun k hk => by
      unfold digit
      rw [show n - 1 - (n - 1 - k) = k by omega, show n - (n - 1 - k) = k + 1 by omega])
    have HDV : Hid (∀ k, r / fact k / (k + 1) = r / fact (k + 1)) := Lib.hid (fun k => by rw [Nat.div_div_eq_div_mul, fact_succ, Nat.mul_comm])
    have HLE : Hid (∀ k, r / fact k ≤ r) := Lib.hid (fun k => Nat.div_le_self _ _)
    have HPO := Lib.hid (fun v W (h : FlatAt W v n (ints (digs n (digit n r)))) => permutationOf_any v n (digit n r) W h (by omega) (fun k hk => digit_lt hk))
    have hn0 : ¬ (n : Int) < 0 := by omega
    have hr0 : ¬ (r : Int) < 0 := by omega
    have hnz : ¬ (10 : Int) < n := by omega
    have hwn : IntKind.i64.wrap ((n : Int) - 1) = (n : Int) - 1 := by rw [IntKind.wrap_i64]; omega
    have HB0 : Hid (Below w.heap.size w (w.alloc (.cells (ints (List.replicate 10 0)).toArray 75))) := Lib.hid ((Below.refl _ _).alloc (Nat.le_refl _) _)
    clear h0
    go_enter Try.func48, Try.ntmps48
    go_wp2_with fail
    go_loopw [1, 7] (fun rv iv wr => ∃ k : Nat, k ≤ n ∧ iv = .int .i64 ((n : Int) - 1 - k) ∧ rv = .int .i64 ((r / fact k : Nat) : Int) ∧ RowIs wr w.heap.size 75 (ints (digTo n r k)) ∧ Below w.heap.size w wr) (fun _ iv _ => (intOf iv + 1).toNat)
    case atStart => exact ⟨0, Nat.zero_le _, by simp, by simp [fact], by rw [digTo_zero]; exact heap_alloc_new w _, HB0.out⟩
    case round =>
      obtain ⟨k, hk, rfl, rfl, hr, hb⟩ := hrel
      have HR := Lib.hid hr
      have HB := Lib.hid hb
      clear hr hb HB0
      by_cases hlt : k < n
      · obtain ⟨i, hi⟩ : ∃ i : Nat, i = n - 1 - k := ⟨_, rfl⟩
        have hiz : (n : Int) - 1 - k = (i : Int) := by omega
        rw [hiz]
        have hi10 : i < 10 := by omega
        have hdg := HDG.out k hlt
        rw [← hi] at hdg
        have hdv := HDV.out k
        have hle := HLE.out k
        obtain ⟨q, hq⟩ : ∃ q, q = r / fact k := ⟨_, rfl⟩
        rw [← hq] at hdg hdv hle ⊢
        have HI := Lib.hid hi
        have HDGG := Lib.hid hdg
        have HDVV := Lib.hid hdv
        have hcell := HR.out.cell i
        have hfr := HR.out.frozen i
        rw [ints_at (digTo_at hi10)] at hcell
        have hsub : (n : Int) - i = ((k + 1 : Nat) : Int) := by omega
        have hwd : IntKind.i64.wrap ((n : Int) - i) = ((k + 1 : Nat) : Int) := by rw [hsub, IntKind.wrap_i64]; omega
        have HKZ : Hid (0 < ((k + 1 : Nat) : Int)) := Lib.hid (by omega)
        have hwi : IntKind.i64.wrap ((i : Int) - 1) = (n : Int) - 1 - ((k + 1 : Nat) : Int) := by rw [IntKind.wrap_i64]; omega
        clear hi hdg hdv hq hiz hsub
        obtain ⟨k1, hk1⟩ : ∃ k1, k1 = k + 1 := ⟨_, rfl⟩
        rw [← hk1] at hwd HKZ hwi HDGG HDVV
        have HK1 := Lib.hid hk1
        clear hk1
        have hkz := HKZ.out
        have hwq : IntKind.i64.wrap ((q : Int) / (k1 : Int)) = ((q / k1 : Nat) : Int) := by
          rw [show (q : Int) / (k1 : Int) = ((q / k1 : Nat) : Int) from rfl, IntKind.wrap_i64]
          have := Nat.div_le_self q k1
          generalize q / k1 = t at *
          omega
        have HROW : Hid (RowIs (wr.setCell ⟨w.heap.size, i, none⟩ (.int .i64 ((q : Int) % (k1 : Int)))) w.heap.size 75 (ints (digTo n r k1))) := Lib.hid (by
          have h1 := HR.out.stored i (.int .i64 ((q : Int) % (k1 : Int)))
          have e1 : ((q : Int) % (k1 : Int)) = ((digit n r i : Nat) : Int) := by rw [← HDGG.out]; rfl
          rw [e1] at h1 ⊢
          rw [ints_set, HI.out, digTo_set hn10 hlt, ← HK1.out, ← HI.out] at h1
          exact h1)
        go_wp2_with fail
        go_roundw
        case rel => exact ⟨k1, by have := HK1.out; omega, rfl, by rw [← HDVV.out]; rfl, HROW.out, HB.out.setCell (p := ⟨w.heap.size, i, none⟩) (Nat.le_refl _) _⟩
        case measure => simp [intOf]; have := HK1.out; have := HI.out; omega
      · obtain rfl : k = n := by omega
        have hz : (k : Int) - 1 - k = -1 := by omega
        rw [hz]
        by_cases hr : r < fact k
        · have hq : r / fact k = 0 := Nat.div_eq_of_lt hr
          rw [hq]
          have HF := Lib.hid (HYES.out hr)
          have HFL : Hid (FlatAt wr (.slice (some ⟨w.heap.size, 0, none⟩) k 10) k (ints (digs k (digit k r)))) := Lib.hid (by
            have hrow := CellRow.of_row HR.out
            refine ⟨_, 10, rfl, hn10, fun j u hu => ⟨w.heap.size, 0, rfl, hrow.1, ?_⟩⟩
            rw [Nat.zero_add]
            refine (hrow.2 j u ?_).1
            have hj := (List.getElem?_eq_some_iff.1 hu).1
            rw [ints_length, digs_length] at hj
            rw [← digTo_all hn10] at hu
            unfold ints at hu ⊢
            rw [List.getElem?_map, List.getElem?_take_of_lt hj] at hu
            rw [List.getElem?_map]; exact hu)
          have HC := Lib.hid (HPO.out _ _ HFL.out)
          clear HFL HR HPO hr hq HYES HNO
          go_wp2_with fail
          refine (HC.out).mono ?_
          rintro e w2 ⟨g, c, rfl, hc, hg, hrow, hb⟩
          have HRES : Hid (RetI (unrF k r) w (.returned (.tuple #[.slice (some ⟨g, 0, none⟩) (pickSt (digit k r) (iota k) k).1.length c, .bool true])) w2) :=
            Lib.hid (by rw [HF.out]; exact ⟨g, c, rfl, hc, Nat.le_trans HB.out.size hg, hrow, HB.out.trans (hb.mono HB.out.size)⟩)
          clear hc hg hrow hb
          go_wp2_with fail
          go_ret2
          exact HRES.out
        · have hq : 0 < r / fact k := Nat.div_pos (by omega) (fact_pos _)
          have HRES : Hid (RetI (unrF k r) w (.returned (.tuple #[.slice (some ⟨wr.heap.size, 0, none⟩) 0 0, .bool false])) (wr.alloc (.cells #[] 3))) := Lib.hid (by rw [HNO.out hr]; exact RetI.none w wr HB.out)
          generalize r / fact k = q at *
          have hqz : 0 < (q : Int) := by omega
          clear HYES HNO HPO hr
          go_wp2_with fail
          go_ret2
          exact HRES.out
  · have HF : Hid (unrF a0 a1 = ([], false)) := Lib.hid (unrF_no fun hh => h0 ⟨hh.1, hh.2.1, hh.2.2.1⟩)
    rw [HF.out]
    clear HF
    by_cases h1 : a0 < 0
    · clear h0
      go_enter Try.func48, Try.ntmps48
      go_wp2_with fail
      go_ret2
      exact HRET.out
    · by_cases h2 : 10 < a0
      · clear h0
        go_enter Try.func48, Try.ntmps48
        go_wp2_with fail
        go_ret2
        exact HRET.out
      · have h3 : a1 < 0 := by omega
        clear h0
        go_enter Try.func48, Try.ntmps48
        go_wp2_with fail
        go_ret2
        exact HRET.out

end Go.Proofs.Ytckogbmaahenhaa
