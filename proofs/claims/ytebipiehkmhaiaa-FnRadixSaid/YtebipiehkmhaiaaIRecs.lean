/- The program's IsValidRecords, by its contract. -/
import Derived.Test.YtebipiehkmhaiaaCfR
import Derived.Test.YtebipiehkmhaiaaIList
import Derived.Test.YtebipiehkmhaiaaOkR
namespace Go.Proofs.Ytebipiehkmhaiaa
open Go.RowKit

def outR (p : Int × Int) : Bool := !(decide ((-100000 ≤ p.1 ∧ p.1 ≤ 100000) ∧ (0 ≤ p.2 ∧ p.2 ≤ 999)))

set_option maxRecDepth 100000 in
theorem isInvalidRec_any (p : Int × Int) (W : World) :
    Calls Try.prog 123 #[.agg #[.int .i64 p.1, .int .i64 p.2]] W fun e w' => e = .returned (.bool (outR p)) ∧ Below W.heap.size W w' := by
  have HO := Lib.hid (fun W => isOutside_any p.1 W)
  obtain ⟨k, t⟩ := p
  have hb : Below W.heap.size W (W.alloc (.cells #[.int .i64 k, .int .i64 t] 45)) := (Below.refl _ W).alloc (Nat.le_refl _) _
  have HB := Lib.hid hb
  clear hb
  cases hk : outK k with
  | true =>
    have hd : Hid (outR (k, t) = true) := Lib.hid (by unfold outR; unfold outK at hk; simp at hk ⊢; omega)
    go_enter Try.func123, Try.ntmps123
    go_wp2_with fail
    refine (HO.out _).mono ?_
    rintro e w1 ⟨rfl, rfl⟩
    dsimp only
    rw [hk]
    go_wp2_with fail
    go_ret
    exact ⟨by rw [hd.out]; rfl, HB.out⟩
  | false =>
    by_cases h1 : t < 0
    · have hd : Hid (outR (k, t) = true) := Lib.hid (by unfold outR; unfold outK at hk; simp at hk ⊢; omega)
      go_enter Try.func123, Try.ntmps123
      go_wp2_with fail
      refine (HO.out _).mono ?_
      rintro e w1 ⟨rfl, rfl⟩
      dsimp only
      rw [hk]
      go_wp2_with fail
      go_ret
      exact ⟨by rw [hd.out]; rfl, HB.out⟩
    · by_cases h2 : 999 < t
      · have hd : Hid (outR (k, t) = true) := Lib.hid (by unfold outR; unfold outK at hk; simp at hk ⊢; omega)
        go_enter Try.func123, Try.ntmps123
        go_wp2_with fail
        refine (HO.out _).mono ?_
        rintro e w1 ⟨rfl, rfl⟩
        dsimp only
        rw [hk]
        go_wp2_with fail
        go_ret
        exact ⟨by rw [hd.out]; rfl, HB.out⟩
      · have hd : Hid (outR (k, t) = false) := Lib.hid (by unfold outR; unfold outK at hk; simp at hk ⊢; omega)
        go_enter Try.func123, Try.ntmps123
        go_wp2_with fail
        refine (HO.out _).mono ?_
        rintro e w1 ⟨rfl, rfl⟩
        dsimp only
        rw [hk]
        go_wp2_with fail
        go_ret
        refine ⟨?_, HB.out⟩
        show Ending.returned (Value.bool (decide (t < 0) || decide (999 < t))) = _
        rw [hd.out, decide_eq_false (show ¬ t < 0 by omega), decide_eq_false (show ¬ 999 < t by omega)]; rfl


theorem okR_any (l : List (Int × Int)) : decide (OkR l) = (decide ((l.length : Int) ≤ 64) && !l.any outR) := by
  by_cases h : OkR l
  · have h2 : l.any outR = false := List.any_eq_false.2 fun x hx => by unfold outR; rw [decide_eq_true (h.2 x hx)]; simp
    rw [decide_eq_true h, h2, decide_eq_true (show (l.length : Int) ≤ 64 by have := h.1; omega)]; rfl
  · rw [decide_eq_false h]
    by_cases h1 : (l.length : Int) ≤ 64
    · have h2 : l.any outR = true := by
        apply Classical.byContradiction
        intro hc
        refine h ⟨by omega, fun x hx => ?_⟩
        have := List.any_eq_false.1 (by simpa using hc) x hx
        unfold outR at this
        simpa using this
      rw [h2]; simp
    · rw [decide_eq_false h1]; rfl

set_option maxRecDepth 100000 in
theorem implValidRecs_any (v : Value) (l : List (Int × Int)) (w : World) (hv : FlatAt w v l.length (recs l)) (hn : l.length ≤ 1048576) :
    Calls Try.prog 66 #[v] w fun e w' => e = .returned (.bool (decide (OkR l))) ∧ Below w.heap.size w w' := by
  have eg : ∀ args w, (callFunc 123 args).run Try.prog w = .ok (.enter 123 args) w := enters_of Try.func123 (by kernel_rfl) rfl
  have HC := Lib.hid (containsFR outR 123 #[] eg v l w hv (by omega) (fun W x _ _ => isInvalidRec_any x W))
  have HE := Lib.hid (okR_any l)
  obtain ⟨a, c, rfl, _, _⟩ := hv
  clear eg
  by_cases h : l.length ≤ 64
  · have hz : (l.length : Int) ≤ 64 := by omega
    have HZ : Hid (decide (OkR l) = !l.any outR) := Lib.hid (by rw [HE.out, decide_eq_true hz]; rfl)
    go_enter Try.func66, Try.ntmps66
    go_wp2_with fail
    refine (HC.out).mono ?_
    rintro e w1 ⟨rfl, hb⟩
    have HB := Lib.hid hb
    clear hb
    go_wp2_with fail
    go_ret
    exact ⟨by rw [HZ.out]; rfl, HB.out⟩
  · have hz : ¬ (l.length : Int) ≤ 64 := by omega
    have HZ : Hid (decide (OkR l) = false) := Lib.hid (by rw [HE.out, decide_eq_false hz]; rfl)
    go_enter Try.func66, Try.ntmps66
    go_wp2_with fail
    go_ret
    exact ⟨by rw [HZ.out]; rfl, Below.refl _ _⟩

end Go.Proofs.Ytebipiehkmhaiaa
