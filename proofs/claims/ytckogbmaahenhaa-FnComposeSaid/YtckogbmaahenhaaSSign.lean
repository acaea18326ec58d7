/- The model's PermutationSign, by its contract. -/
import Derived.Test.YtckogbmaahenhaaSPermV
import Derived.Test.YtckogbmaahenhaaIRank
import Derived.BigQuiet
import Derived.Deep.QuietTactic
namespace Go.Proofs.Ytckogbmaahenhaa
open Go.RowKit P

set_option maxRecDepth 100000 in
set_option maxHeartbeats 4000000 in
theorem specSign_any (v : Value) (l : List Int) (w : World) (hv : FlatAt w v l.length (ints l)) (hn : l.length ≤ 1048576) :
    Calls Try.prog 33 #[v] w fun e w' => e = .returned (.tuple #[.int .i64 (signF l).1, .bool (signF l).2]) ∧ Below w.heap.size w w' := by
  have HV := Lib.hid hv
  obtain ⟨a, c, rfl, _, _⟩ := hv
  by_cases hok : OkP l
  · have hd : decide (OkP l) = true := decide_eq_true hok
    have HI := Lib.hid (fun W (h : FlatAt W (.slice a l.length c) l.length (ints l)) => by have := l3Good_any _ l W h hn; rw [hd] at this; exact this)
    have HF : Hid (signF l = (pm (crossTo l l.length), true)) := Lib.hid (by rw [signF_yes hok, crossTo_all])
    have HPM : Hid (∀ q, pm q = 1 ∨ pm q = -1) := Lib.hid (fun q => by unfold pm; split <;> simp)
    have HPS := Lib.hid pm_succ
    clear hok hd
    go_enter Try.func33, Try.ntmps33
    go_wp2_with fail
    refine (HI.out _ HV.out).mono ?_
    rintro e w1 ⟨rfl, hb1⟩
    have HB1 := Lib.hid hb1
    obtain ⟨a1, c1, e1, _, hx⟩ := HV.out.below hb1
    simp at e1
    obtain ⟨rfl, rfl⟩ := e1
    have HX := Lib.hid hx
    clear hb1 HI HV hx
    go_wp2_with fail
    go_loopw [4, 5, 6] (fun s i _ wr => ∃ (k q : Nat), k ≤ l.length ∧ i = .int .i64 k ∧ s = .int .i64 (pm (crossTo l k)) ∧ wr = w1.drewN q) (fun _ i _ _ => l.length - (intOf i).toNat)
    case atStart => exact ⟨0, 0, Nat.zero_le _, rfl, rfl, rfl⟩
    case round =>
      obtain ⟨k, q, hk, rfl, rfl, rfl⟩ := hrel
      by_cases hlt : k < l.length
      · have hw0 : IntKind.i64.wrap ((k : Int) + 1) = (k : Int) + 1 := by rw [IntKind.wrap_i64]; omega
        obtain ⟨x, hx⟩ : ∃ x, x = l.getD k 0 := ⟨_, rfl⟩
        have hpk := at_getD hlt
        rw [← hx] at hpk
        obtain ⟨b, o, rfl, hbb, hck⟩ := HX.out _ _ (ints_at hpk)
        have HQ := Lib.hid hx
        have HLA : Hid (crossTo l (k + 1) = crossTo l k + laterTo l k (l.length - (k + 1))) := Lib.hid (by rw [crossTo_succ, laterTo_all])
        have HLS := Lib.hid (fun j y (h : l[k + 1 + j]? = some y) => laterTo_step h)
        have HL0 : Hid (crossTo l k + laterTo l k 0 = crossTo l k) := Lib.hid (by rw [laterTo_zero, Nat.add_zero])
        generalize crossTo l k = c0 at *
        clear hpk hx
        go_wp2_with fail
        go_loopw [4, 6] (fun s j ws => ∃ (m q2 : Nat), m ≤ l.length - (k + 1) ∧ j = .int .i64 ((k + 1 + m : Nat) : Int) ∧ s = .int .i64 (pm (c0 + laterTo l k m)) ∧ ws = w1.drewN q2) (fun _ j _ => l.length - (intOf j).toNat)
        case atStart => exact ⟨0, q, Nat.zero_le _, by go_num, by rw [HL0.out], by trivial⟩
        case round =>
          obtain ⟨m, q2, hm, rfl, rfl, rfl⟩ := hrel
          by_cases hlm : m < l.length - (k + 1)
          · obtain ⟨y, hy⟩ : ∃ y, l[k + 1 + m]? = some y := ⟨_, List.getElem?_eq_getElem (by omega)⟩
            obtain ⟨b2, o2, e2, _, hcy⟩ := HX.out _ _ (ints_at hy)
            simp at e2
            obtain ⟨rfl, rfl⟩ := e2
            have hstep := HLS.out m y hy
            rw [← HQ.out] at hstep
            have hpmo := HPM.out (c0 + laterTo l k m)
            have hps := HPS.out (c0 + laterTo l k m)
            clear hy
            have hjz : ((k + 1 + m : Nat) : Int) < l.length := by omega
            generalize hj : k + 1 + m = j at *
            have HJ := Lib.hid hj
            clear hj
            by_cases hlx : y < x
            · rw [if_pos hlx] at hstep
              have hn1 : pm (c0 + laterTo l k (m + 1)) = -pm (c0 + laterTo l k m) := by rw [hstep, ← Nat.add_assoc]; exact hps
              have HN1 := Lib.hid hn1
              clear hn1 hstep hps
              generalize pm (c0 + laterTo l k m) = s0 at *
              have hwn : IntKind.i64.wrap (-s0) = -s0 := by rw [IntKind.wrap_i64]; omega
              have HPO := Lib.hid hpmo
              clear hpmo
              go_wp2_with fail
              go_quiet (fail)
              go_wp2_with fail
              go_roundw
              case rel => exact ⟨m + 1, q2 + nq, by have := HJ.out; omega, by rw [show k + 1 + (m + 1) = j + 1 by have := HJ.out; omega]; go_num, by rw [HN1.out], by trivial⟩
              case measure => simp [intOf]; omega
            · rw [if_neg hlx] at hstep
              have hstep2 : laterTo l k (m + 1) = laterTo l k m := by omega
              have HN1 : Hid (pm (c0 + laterTo l k (m + 1)) = pm (c0 + laterTo l k m)) := Lib.hid (by rw [hstep2])
              clear hstep2
              clear hstep hps hpmo
              generalize pm (c0 + laterTo l k m) = s0 at *
              go_wp2_with fail
              go_quiet (fail)
              go_wp2_with fail
              go_roundw
              case rel => exact ⟨m + 1, q2 + nq, by have := HJ.out; omega, by rw [show k + 1 + (m + 1) = j + 1 by have := HJ.out; omega]; go_num, by rw [HN1.out], by trivial⟩
              case measure => simp [intOf]; omega
          · obtain rfl : m = l.length - (k + 1) := by omega
            have hjz : ¬ ((k + 1 + (l.length - (k + 1)) : Nat) : Int) < l.length := by omega
            rw [← HLA.out]
            go_wp2_with fail
            go_roundw
            case rel => exact ⟨k + 1, q2, by omega, by go_num, rfl, by trivial⟩
            case measure => simp [intOf]; omega
      · obtain rfl : k = l.length := by omega
        have HRES : Hid (Ending.returned (.tuple #[.int .i64 (pm (crossTo l l.length)), .bool true]) = .returned (.tuple #[.int .i64 (signF l).1, .bool (signF l).2]) ∧ Below w.heap.size w (w1.drewN q)) := Lib.hid ⟨by rw [HF.out], HB1.out.trans ⟨rfl, rfl, rfl, Nat.le_refl _, fun _ _ => rfl⟩⟩
        go_wp2_with fail
        go_ret2
        exact HRES.out
  · have hd : decide (OkP l) = false := decide_eq_false hok
    have HI := Lib.hid (fun W (h : FlatAt W (.slice a l.length c) l.length (ints l)) => by have := l3Good_any _ l W h hn; rw [hd] at this; exact this)
    have HF : Hid (signF l = (0, false)) := Lib.hid (signF_no hok)
    clear hok hd
    go_enter Try.func33, Try.ntmps33
    go_wp2_with fail
    refine (HI.out _ HV.out).mono ?_
    rintro e w1 ⟨rfl, hb1⟩
    have HRES : Hid (Ending.returned (.tuple #[.int .i64 0, .bool false]) = .returned (.tuple #[.int .i64 (signF l).1, .bool (signF l).2]) ∧ Below w.heap.size w w1) := Lib.hid ⟨by rw [HF.out], hb1⟩
    clear hb1
    go_wp2_with fail
    go_ret2
    exact HRES.out

end Go.Proofs.Ytckogbmaahenhaa
