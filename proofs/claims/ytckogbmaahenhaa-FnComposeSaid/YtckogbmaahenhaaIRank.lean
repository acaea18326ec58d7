/- The program's RankPermutation, by its contract. -/
import Derived.Test.YtckogbmaahenhaaIPermV
import Derived.Laws.BitsLemmas
namespace Go.Proofs.Ytckogbmaahenhaa
open Go.RowKit P

/-- The count of later elements that are less, so far. -/
def laterTo (l : List Int) (i k : Nat) : Nat := ((l.drop (i + 1)).take k).countP (fun y => decide (y < l.getD i 0))
theorem laterTo_zero (l : List Int) (i : Nat) : laterTo l i 0 = 0 := by simp [laterTo]
theorem laterTo_all (l : List Int) (i : Nat) : laterTo l i (l.length - (i + 1)) = later l i := by
  unfold laterTo later
  rw [List.take_of_length_le (by simp)]
theorem laterTo_step {l : List Int} {i k : Nat} {x : Int} (h : l[i + 1 + k]? = some x) : laterTo l i (k + 1) = laterTo l i k + if x < l.getD i 0 then 1 else 0 := by
  unfold laterTo
  rw [List.take_add_one, List.getElem?_drop, h, List.countP_append]
  simp
theorem laterTo_le (l : List Int) (i k : Nat) : laterTo l i k ≤ k := by
  unfold laterTo
  refine Nat.le_trans List.countP_le_length ?_
  rw [List.length_take]; omega

set_option maxRecDepth 100000 in
set_option maxHeartbeats 4000000 in
theorem lessAfter_any (v : Value) (l : List Int) (i : Nat) (w : World) (hv : FlatAt w v l.length (ints l)) (hn : l.length ≤ 1048576) (hi : i < l.length) :
    Calls Try.prog 87 #[v, .int .i64 (i : Int)] w fun e w' => e = .returned (.int .i64 (later l i : Nat)) ∧ w' = w := by
  obtain ⟨a, c, rfl, hc, h⟩ := hv
  have hpi := at_getD hi
  obtain ⟨b, o, rfl, hbb, hci⟩ := h _ _ (ints_at hpi)
  have H : Hid (∀ (j : Nat) x, l[j]? = some x → w.cell? ⟨b, o + j, none⟩ = some (.int .i64 x)) := Lib.hid (fun j x hj => by
    obtain ⟨b', o', e, _, hh⟩ := h _ _ (ints_at hj)
    simp at e
    obtain ⟨rfl, rfl⟩ := e
    exact hh)
  obtain ⟨q, hq⟩ : ∃ q, q = l.getD i 0 := ⟨_, rfl⟩
  rw [← hq] at hci
  have HQ := Lib.hid hq
  clear h hpi hq
  have hw : IntKind.i64.wrap ((i : Int) + 1) = (i : Int) + 1 := by rw [IntKind.wrap_i64]; omega
  have HZ := Lib.hid (laterTo_all l i)
  have HST := Lib.hid (fun k x (h : l[i + 1 + k]? = some x) => laterTo_step h)
  by_cases hce : c = i + 1
  · have hle : l.length - (i + 1) = 0 := by omega
    have hz0 : later l i = 0 := by rw [← HZ.out, hle, laterTo_zero]
    rw [hz0]
    go_enter Try.func87, Try.ntmps87
    go_wp2_with fail
    go_loopw [5, 7, 13] (fun n _ k wr => n = .int .i64 0 ∧ k = .int .i64 0 ∧ wr = w) (fun _ _ _ _ => 0)
    case atStart => exact ⟨rfl, rfl, rfl⟩
    case round =>
      obtain ⟨rfl, rfl, rfl⟩ := hrel
      go_wp2_with fail
      go_ret
      exact ⟨rfl, rfl⟩
  · go_enter Try.func87, Try.ntmps87
    go_wp2_with fail
    go_loopw [5, 7, 13] (fun n _ kv wr => ∃ k : Nat, k ≤ l.length - (i + 1) ∧ kv = .int .i64 k ∧ n = .int .i64 (laterTo l i k : Nat) ∧ wr = w) (fun _ _ kv _ => l.length - (intOf kv).toNat)
    case atStart => exact ⟨0, Nat.zero_le _, rfl, by rw [laterTo_zero]; rfl, rfl⟩
    case round =>
      obtain ⟨k, hk, rfl, rfl, rfl⟩ := hrel
      by_cases hlt : k < l.length - (i + 1)
      · obtain ⟨x, hx⟩ : ∃ x, l[i + 1 + k]? = some x := ⟨_, List.getElem?_eq_getElem (by omega)⟩
        have hcx := H.out _ _ hx
        rw [show o + (i + 1 + k) = o + (i + 1) + k by omega] at hcx
        have hstep := HST.out k x hx
        rw [← HQ.out] at hstep
        have hle := laterTo_le l i k
        clear hx
        generalize hn1 : laterTo l i (k + 1) = n1 at *
        generalize laterTo l i k = n0 at *
        have HN1 := Lib.hid hn1
        clear hn1
        by_cases hlx : x < q
        · rw [if_pos hlx] at hstep
          go_wp2_with fail
          go_roundw
          case rel => exact ⟨k + 1, by omega, by go_num, by rw [HN1.out]; go_num, by trivial⟩
          case measure => simp [intOf]; omega
        · rw [if_neg hlx, Nat.add_zero] at hstep
          go_wp2_with fail
          go_roundw
          case rel => exact ⟨k + 1, by omega, by go_num, by rw [HN1.out]; go_num, by trivial⟩
          case measure => simp [intOf]; omega
      · obtain rfl : k = l.length - (i + 1) := by omega
        rw [HZ.out]
        go_wp2_with fail
        go_ret
        exact ⟨rfl, rfl⟩

set_option maxRecDepth 100000 in
set_option maxHeartbeats 4000000 in
theorem implRank_any (v : Value) (l : List Int) (w : World) (hv : FlatAt w v l.length (ints l)) (hn : l.length ≤ 1048576) :
    Calls Try.prog 43 #[v] w fun e w' => e = .returned (.tuple #[.int .i64 (rankF l).1, .bool (rankF l).2]) ∧ Below w.heap.size w w' := by
  have HV := Lib.hid hv
  obtain ⟨a, c, rfl, _, _⟩ := hv
  by_cases hok : OkP l
  · have hd : decide (OkP l) = true := decide_eq_true hok
    have HI := Lib.hid (fun W (h : FlatAt W (.slice a l.length c) l.length (ints l)) => by have := implValidPerm_any _ l W h hn; rw [hd] at this; exact this)
    by_cases h10 : l.length ≤ 10
    · have hz : ¬ (10 : Int) < l.length := by omega
      have HF : Hid (rankF l = (((hornTo l.length (later l) l.length : Nat) : Int), true)) := Lib.hid (rankF_yes ⟨hok, h10⟩)
      have HB : Hid (∀ i, i ≤ l.length → hornTo l.length (later l) i < 3628800) := Lib.hid (fun i hi => by
        have h1 := horn_lt l.length (later l) (fun i _ => later_le l i) i hi
        have h2 := fact_mono h10
        rw [fact10] at h2; omega)
      have HL : Hid (∀ i, i < l.length → later l i < 10) := Lib.hid (fun i hi => by have := later_lt (p := l) hi; omega)
      have HS : Hid (∀ i, hornTo l.length (later l) (i + 1) = hornTo l.length (later l) i * (l.length - i) + later l i) := Lib.hid (fun i => horn_succ _ _ i)
      clear hok hd
      go_enter Try.func43, Try.ntmps43
      go_wp2_with fail
      refine (HI.out _ HV.out).mono ?_
      rintro e w1 ⟨rfl, hb1⟩
      have HV1 := Lib.hid (HV.out.below hb1)
      have HB1 := Lib.hid hb1
      clear hb1 HI HV
      go_wp2_with fail
      go_loopw [4, 5, 16] (fun r _ i wr => ∃ k : Nat, k ≤ l.length ∧ i = .int .i64 k ∧ r = .int .i64 (hornTo l.length (later l) k : Nat) ∧ wr = w1) (fun _ _ i _ => l.length - (intOf i).toNat)
      case atStart => exact ⟨0, Nat.zero_le _, rfl, rfl, rfl⟩
      case round =>
        obtain ⟨k, hk, rfl, rfl, rfl⟩ := hrel
        by_cases hlt : k < l.length
        · have hA := lessAfter_any _ l k wr HV1.out hn hlt
          have hs := HS.out k
          have hb0 := HB.out k hk
          have hb1 := HB.out (k + 1) (by omega)
          have hl := HL.out k hlt
          generalize hr1 : hornTo l.length (later l) (k + 1) = r1 at *
          generalize hornTo l.length (later l) k = r0 at *
          generalize later l k = d at *
          obtain ⟨m, hm⟩ : ∃ m : Nat, m = l.length - k := ⟨_, rfl⟩
          rw [← hm] at hs
          have hm10 : m ≤ 10 := by omega
          have hsub : (l.length : Int) - k = (m : Int) := by omega
          have hmul : r0 * m ≤ r1 := by omega
          have hmulz : ((r0 : Int) * (m : Int)) = ((r0 * m : Nat) : Int) := by simp
          generalize r0 * m = t at *
          have HA := Lib.hid hA
          have HR1 := Lib.hid hr1
          have HSU := Lib.hid hsub
          have HMU := Lib.hid hmulz
          have HSS := Lib.hid hs
          clear hA hr1 hsub hmulz hs hm
          have hwr1 : IntKind.i64.wrap ((l.length : Int) - k) = (m : Int) := by rw [HSU.out, IntKind.wrap_i64]; omega
          have hwr2 : IntKind.i64.wrap ((r0 : Int) * (m : Int)) = (t : Int) := by rw [HMU.out, IntKind.wrap_i64]; omega
          have hwr3 : IntKind.i64.wrap ((t : Int) + (d : Int)) = (r1 : Int) := by rw [IntKind.wrap_i64]; have := HSS.out; omega
          go_wp2_with fail
          refine (HA.out).mono ?_
          rintro e w2 ⟨rfl, rfl⟩
          clear HA
          go_wp2_with fail
          go_roundw
          case rel => exact ⟨k + 1, by omega, by go_num, by rw [HR1.out], by trivial⟩
          case measure => simp [intOf]; omega
        · obtain rfl : k = l.length := by omega
          have HRES : Hid (∀ r : Int, r = (hornTo l.length (later l) l.length : Nat) → Ending.returned (.tuple #[.int .i64 r, .bool true]) = .returned (.tuple #[.int .i64 (rankF l).1, .bool (rankF l).2])) := Lib.hid (fun r hr => by rw [HF.out, hr])
          generalize hgen : ((hornTo l.length (later l) l.length : Nat) : Int) = r at *
          have HG := Lib.hid hgen
          clear hgen
          go_wp2_with fail
          go_ret2
          exact ⟨HRES.out _ rfl, HB1.out⟩
    · have hz : (10 : Int) < l.length := by omega
      have HF : Hid (rankF l = (0, false)) := Lib.hid (rankF_no fun h => h10 h.2)
      clear hok hd h10
      go_enter Try.func43, Try.ntmps43
      go_wp2_with fail
      refine (HI.out _ HV.out).mono ?_
      rintro e w1 ⟨rfl, hb1⟩
      have HRES : Hid (Ending.returned (.tuple #[.int .i64 0, .bool false]) = .returned (.tuple #[.int .i64 (rankF l).1, .bool (rankF l).2]) ∧ Below w.heap.size w w1) := Lib.hid ⟨by rw [HF.out], hb1⟩
      clear hb1
      go_wp2_with fail
      go_ret2
      exact HRES.out
  · have hd : decide (OkP l) = false := decide_eq_false hok
    have HI := Lib.hid (fun W (h : FlatAt W (.slice a l.length c) l.length (ints l)) => by have := implValidPerm_any _ l W h hn; rw [hd] at this; exact this)
    have HF : Hid (rankF l = (0, false)) := Lib.hid (rankF_no fun h => hok h.1)
    clear hok hd
    go_enter Try.func43, Try.ntmps43
    go_wp2_with fail
    refine (HI.out _ HV.out).mono ?_
    rintro e w1 ⟨rfl, hb1⟩
    have HRES : Hid (Ending.returned (.tuple #[.int .i64 0, .bool false]) = .returned (.tuple #[.int .i64 (rankF l).1, .bool (rankF l).2]) ∧ Below w.heap.size w w1) := Lib.hid ⟨by rw [HF.out], hb1⟩
    clear hb1
    go_wp2_with fail
    go_ret2
    exact HRES.out

end Go.Proofs.Ytckogbmaahenhaa
