/- The program's checks of a heap, by contracts. -/
import Derived.Test.YtfcgnfhpfooelaaHpUp
import Derived.Test.YtfcgnfhpfooelaaIList
namespace Go.Proofs.Ytfcgnfhpfooelaa
open Go.RowKit P El Hp
set_option linter.unusedVariables false

theorem arity_any (d : Int) (w : World) :
    Calls Try.prog 92 #[.int .i64 d] w fun e w' => e = .returned (.bool (decide (OkD d))) ∧ w' = w := by
  by_cases h2 : 2 ≤ d
  · have HE : Hid (decide (OkD d) = decide (d ≤ 8)) := Lib.hid (decide_eq_decide.2 ⟨fun h => h.2, fun h => ⟨h2, h⟩⟩)
    have hd2 : decide (2 ≤ d) = true := decide_eq_true h2
    by_cases h8 : d ≤ 8
    · have hd8 : decide (d ≤ 8) = true := decide_eq_true h8
      go_enter Try.func92, Try.ntmps92
      go_wp2
      go_ret
      exact ⟨by rw [HE.out, hd8]; rfl, rfl⟩
    · have hd8 : decide (d ≤ 8) = false := decide_eq_false h8
      go_enter Try.func92, Try.ntmps92
      go_wp2
      go_ret
      exact ⟨by rw [HE.out, hd8]; rfl, rfl⟩
  · have HE : Hid (decide (OkD d) = false) := Lib.hid (decide_eq_false fun h => h2 h.1)
    have hd2 : decide (2 ≤ d) = false := decide_eq_false h2
    go_enter Try.func92, Try.ntmps92
    go_wp2
    go_ret
    exact ⟨by rw [HE.out]; rfl, rfl⟩

set_option maxRecDepth 100000 in
set_option maxHeartbeats 4000000 in
theorem implIsHeap_any (v : Value) (l : List Int) (d : Int) (w : World) (hv : FlatAt w v l.length (ints l)) (hn : l.length ≤ 1048576) :
    Calls Try.prog 38 #[v, .int .i64 d] w fun e w' => e = .returned (.tuple #[.int .i64 (isAll l d).1, .bool (isAll l d).2]) ∧ Below w.heap.size w w' := by
  have HV := Lib.hid (implValidList_any v l w hv hn)
  by_cases hok : OkL l
  · rw [decide_eq_true hok] at HV
    have HA := Lib.hid (fun W => arity_any d W)
    by_cases h2 : OkD d
    · rw [decide_eq_true h2] at HA
      rw [isAll_yes ⟨hok, h2⟩]
      obtain ⟨k, rfl, hk0, hd, hd8⟩ := h2.nat
      rw [hk0]
      have hl := hok.1
      obtain ⟨a, c, rfl, _, h⟩ := hv
      have H := Lib.hid h
      have HR : Hid (df k l (l.length - 1) 1 = dfF k l) := Lib.hid rfl
      have HP := Lib.hid (fun (j : Nat) W (hj : j ≤ 64) => parent_any j k W hj hd hd8)
      generalize dfF k l = R at HR ⊢
      clear h hok h2
      go_enter Try.func38, Try.ntmps38
      go_wp2_with fail
      refine HV.out.mono ?_
      rintro e w1 ⟨rfl, hb⟩
      have HB1 := Lib.hid hb
      clear hb
      go_wp2_with fail
      refine (HA.out _).mono ?_
      rintro e w2 ⟨rfl, rfl⟩
      clear HA HV
      go_wp2_with fail
      go_loopw [6] (fun iv wr => ∃ i : Nat, 1 ≤ i ∧ i ≤ 65 ∧ iv = .int .i64 (i : Int) ∧ df k l (l.length - i) i = R ∧ Below w.heap.size w wr) (fun iv _ => l.length - (intOf iv).toNat)
      case atStart => exact ⟨1, Nat.le_refl _, by omega, rfl, HR.out, HB1.out⟩
      case round =>
        obtain ⟨i, h1, h65, rfl, hr, hb⟩ := hrel
        have HRR := Lib.hid hr
        have HB := Lib.hid hb
        clear hr HR hb
        by_cases hlt : i < l.length
        · have hp := par_lt (d := k) (i := i) (by omega) (by omega)
          have HPI := Lib.hid (fun W => HP.out i W (by omega))
          have HN : Hid (l.length - i = (l.length - (i + 1)) + 1) := Lib.hid (by omega)
          obtain ⟨b, o, rfl, hbb, hcx0⟩ := H.out i _ (ints_at (at_getD hlt))
          obtain ⟨b', o', e', _, hcy0⟩ := H.out (par k i) _ (ints_at (at_getD (by omega)))
          simp at e'
          obtain ⟨rfl, rfl⟩ := e'
          have hcx := (HB.out.cell (p := ⟨b, o + i, none⟩) hbb).trans hcx0
          have hcy := (HB.out.cell (p := ⟨b, o + par k i, none⟩) hbb).trans hcy0
          have HYES := Lib.hid (fun (hx : l.getD (par k i) 0 < l.getD i 0) => (show (i : Int) = R by rw [← HRR.out, HN.out, df_yes hx]))
          have HNO := Lib.hid (fun (hx : ¬ l.getD (par k i) 0 < l.getD i 0) => (show df k l (l.length - (i + 1)) (i + 1) = R by rw [← HRR.out, HN.out, df_no hx]))
          clear hcx0 hcy0
          generalize par k i = p at *
          obtain ⟨x, hx⟩ : ∃ x, x = l.getD i 0 := ⟨_, rfl⟩
          obtain ⟨y, hy⟩ : ∃ y, y = l.getD p 0 := ⟨_, rfl⟩
          rw [← hx, ← hy] at HYES HNO
          rw [← hx] at hcx
          rw [← hy] at hcy
          have hiz : (i : Int) < l.length := by omega
          have hpz : (p : Int) < l.length := by omega
          have hpl : p < l.length := by omega
          clear hx hy HP
          by_cases hgt : y < x
          · have hgd : decide (y < x) = true := decide_eq_true hgt
            have HE := Lib.hid (HYES.out hgt)
            clear HYES HNO
            go_wp2_with fail
            go_quiet ((go_at_call 98; exact Calls.quiet_of_same (HPI.out _)))
            go_wp2_with fail
            go_ret2
            exact ⟨by rw [← HE.out]; rfl, HB.out.trans ⟨rfl, rfl, rfl, Nat.le_refl _, fun _ _ => rfl⟩⟩
          · have hgd : decide (y < x) = false := decide_eq_false hgt
            have HE := Lib.hid (HNO.out hgt)
            clear HYES HNO
            go_wp2_with fail
            go_quiet ((go_at_call 98; exact Calls.quiet_of_same (HPI.out _)))
            go_wp2_with fail
            go_roundw
            case rel => exact ⟨i + 1, by omega, by omega, by go_num, HE.out, HB.out.trans ⟨rfl, rfl, rfl, Nat.le_refl _, fun _ _ => rfl⟩⟩
            case measure => simp [intOf]; omega
        · have HE : Hid ((-1 : Int) = R) := Lib.hid (by rw [← HRR.out, show l.length - i = 0 by omega]; rfl)
          go_wp2_with fail
          go_ret2
          exact ⟨by rw [← HE.out]; rfl, HB.out⟩
    · rw [decide_eq_false h2] at HA
      rw [isAll_no (fun h => h2 h.2)]
      clear hv hok h2
      go_enter Try.func38, Try.ntmps38
      go_wp2_with fail
      refine HV.out.mono ?_
      rintro e w1 ⟨rfl, hb⟩
      have HB1 := Lib.hid hb
      clear hb
      go_wp2_with fail
      refine (HA.out _).mono ?_
      rintro e w2 ⟨rfl, rfl⟩
      go_wp2_with fail
      go_ret2
      exact ⟨rfl, HB1.out⟩
  · rw [decide_eq_false hok] at HV
    rw [isAll_no (fun h => hok h.1)]
    clear hv hok
    go_enter Try.func38, Try.ntmps38
    go_wp2_with fail
    refine HV.out.mono ?_
    rintro e w1 ⟨rfl, hb⟩
    have HB1 := Lib.hid hb
    clear hb
    go_wp2_with fail
    go_ret2
    exact ⟨rfl, HB1.out⟩

theorem isAry_any (v : Value) (l : List Int) (d : Int) (w : World) (hv : FlatAt w v l.length (ints l)) (hn : l.length ≤ 1048576) :
    Calls Try.prog 100 #[v, .int .i64 d] w fun e w' => e = .returned (.bool (decide (IsHp l d))) ∧ Below w.heap.size w w' := by
  have HV := Lib.hid (implIsHeap_any v l d w hv hn)
  have HE : Hid (decide (IsHp l d) = ((isAll l d).2 && decide ((isAll l d).1 = -1))) := Lib.hid (by
    by_cases h : IsHp l d
    · rw [decide_eq_true h, isAll_heap.1 h]; rfl
    · rw [decide_eq_false h]
      have h2 := fun e => h (isAll_heap.2 e)
      generalize isAll l d = Q at h2 ⊢
      obtain ⟨x, b⟩ := Q
      cases b with
      | false => rfl
      | true =>
        have : x ≠ -1 := fun e => h2 (by rw [e])
        simp [this])
  generalize isAll l d = R at HV HE
  rw [HE.out]
  obtain ⟨x, b⟩ := R
  clear hv HE
  cases b with
  | false =>
    go_enter Try.func100, Try.ntmps100
    go_wp2_with fail
    refine HV.out.mono ?_
    rintro e w1 ⟨rfl, hb⟩
    have HB1 := Lib.hid hb
    clear hb
    go_wp2_with fail
    go_ret
    exact ⟨rfl, HB1.out⟩
  | true =>
    by_cases hx : x = -1
    · subst hx
      go_enter Try.func100, Try.ntmps100
      go_wp2_with fail
      refine HV.out.mono ?_
      rintro e w1 ⟨rfl, hb⟩
      have HB1 := Lib.hid hb
      clear hb
      go_wp2_with fail
      go_ret
      exact ⟨rfl, HB1.out⟩
    · have hxd : (x == -1) = false := by simp [hx]
      have hxd2 : decide (x = -1) = false := decide_eq_false hx
      go_enter Try.func100, Try.ntmps100
      go_wp2_with fail
      refine HV.out.mono ?_
      rintro e w1 ⟨rfl, hb⟩
      have HB1 := Lib.hid hb
      clear hb
      go_wp2_with fail
      go_ret
      exact ⟨by simp [hx], HB1.out⟩

end Go.Proofs.Ytfcgnfhpfooelaa
