/- The model's heap: the building and the checks, by contracts. -/
import Derived.Test.YtfcgnfhpfooelaaSHp
import Derived.Test.YtfcgnfhpfooelaaIn
import Derived.Test.YtfcgnfhpfooelaaList
namespace Go.Proofs.Ytfcgnfhpfooelaa
open Go.RowKit P El Hp
set_option linter.unusedVariables false

set_option maxRecDepth 100000 in
set_option maxHeartbeats 4000000 in
theorem sbuild_any {g c d : Nat} {L : List Int} (w : World) (h : CellRow w g (ints L)) (hd : 2 ≤ d) (hd8 : d ≤ 8) (hl : L.length ≤ 64) :
    Calls Try.prog 97 #[.slice (some ⟨g, 0, none⟩) L.length c, .int .i64 (d : Int)] w fun e w' => e = .returned (.int .i64 (((buildF d L).2 : Nat) : Int)) ∧ RowP g (buildF d L).1 w w' := by
  obtain ⟨n, hn⟩ : ∃ n, n = L.length := ⟨_, rfl⟩
  obtain ⟨R, hR⟩ : ∃ R, R = bl d n n (L, 0) := ⟨_, rfl⟩
  have hRb : buildF d L = R := by rw [hR, hn]; rfl
  have hRq : R.2 ≤ 6000 := by
    have h1 := (bl_count (d := d) (n := n) (by omega) n (L, 0)).2
    have h2 : n * n ≤ 64 * 64 := Nat.mul_le_mul (by omega) (by omega)
    rw [← hR] at h1; simp only at h1; omega
  have H := Lib.hid h
  have HR := Lib.hid hR.symm
  have HSD := Lib.hid (fun (j : Nat) (M : List Int) (W : World) (hW : CellRow W g (ints M)) (hj : j ≤ n) (hM : M.length = n) => by
    have := sdown_any (c := c) j n W hW hd hd8 (by omega) (by omega) (by omega); rw [hM] at this; exact this)
  have HN := Lib.hid hn
  rw [hRb, ← hn]
  rw [← hn] at hl
  clear h hR hn hRb
  go_enter Try.func97, Try.ntmps97
  go_wp2_with fail
  go_loopw [5, 6] (fun qv iv wr => ∃ (m : Nat) (M : List Int) (p : Nat), iv = .int .i64 ((m : Int) - 1) ∧ qv = .int .i64 (p : Int) ∧ bl d n m (M, p) = R ∧ M.length = n ∧ m ≤ n ∧ RowP g M w wr) (fun _ iv _ => (intOf iv + 1).toNat)
  case atStart => exact ⟨n, L, 0, by go_num, rfl, HR.out, HN.out.symm, Nat.le_refl _, H.out, But.refl _ _⟩
  case round =>
    obtain ⟨m, M, p, rfl, rfl, hr, hML, hm, hg, hb⟩ := hrel
    have HG := Lib.hid hg
    have HB := Lib.hid hb
    have HML := Lib.hid hML
    have hp : p ≤ 6000 := by have := (bl_count (d := d) (n := n) (by omega) m (M, p)).1; rw [hr] at this; simp only at this; omega
    have HRR := Lib.hid hr
    clear hr hg hb H HR hML
    cases m with
    | zero =>
      have HRES : Hid (Ending.returned (.int .i64 (p : Int)) = .returned (.int .i64 (R.2 : Int)) ∧ RowP g R.1 w wr) := Lib.hid (by rw [← HRR.out]; exact ⟨rfl, HG.out, HB.out⟩)
      go_wp2_with fail
      go_ret
      exact HRES.out
    | succ j =>
      have hj : ((j + 1 : Nat) : Int) - 1 = (j : Int) := by omega
      rw [hj]
      have HD := Lib.hid (HSD.out j M wr HG.out (by omega) HML.out)
      have HLN : Hid ((down d n j (M, 0)).1.length = n) := Lib.hid (by rw [down_length (by omega)]; exact HML.out)
      have hdq := (down_count (d := d) (n := n) (i := j) (by omega) (M, 0)).2
      simp only at hdq
      have HRR2 : Hid (bl d n j ((down d n j (M, 0)).1, p + (down d n j (M, 0)).2) = R) := Lib.hid (by rw [← down_from]; exact HRR.out)
      generalize down d n j (M, 0) = D at *
      obtain ⟨D1, D2⟩ := D
      simp only at hdq HD HLN HRR2
      clear HSD hj HRR
      go_wp2_with fail
      refine HD.out.mono ?_
      rintro e w2 ⟨rfl, hg2, hb2⟩
      have HG2 := Lib.hid hg2
      have HB2 : Hid (But g w w2) := Lib.hid (HB.out.trans hb2)
      clear hg2 hb2
      go_wp2_with fail
      go_roundw
      case rel => exact ⟨j, _, _, by go_num, by go_num, HRR2.out, HLN.out, by omega, HG2.out, HB2.out⟩
      case measure => simp [intOf]

theorem l6Valid_any (v : Value) (l : List Int) (d : Int) (w : World) (hv : FlatAt w v l.length (ints l)) (hn : l.length ≤ 1048576) :
    Calls Try.prog 95 #[v, .int .i64 d] w fun e w' => e = .returned (.bool (decide (OkL l ∧ OkD d))) ∧ Below w.heap.size w w' := by
  have HV := Lib.hid (l2List_any v l w hv hn)
  clear hv
  by_cases h1 : OkL l
  · rw [decide_eq_true h1] at HV
    by_cases h2 : OkD d
    · have HI := Lib.hid (fun W => l1In_yes d 2 8 W h2.1 h2.2)
      rw [decide_eq_true (show OkL l ∧ OkD d from ⟨h1, h2⟩)]
      clear h1 h2
      go_enter Try.func95, Try.ntmps95
      go_wp2_with fail
      refine HV.out.mono ?_
      rintro e w1 ⟨rfl, hb⟩
      have HB := Lib.hid hb
      clear hb
      go_wp2_with fail
      refine (HI.out _).mono ?_
      rintro e w2 ⟨rfl, rfl⟩
      go_wp2_with fail
      go_ret
      exact ⟨rfl, HB.out⟩
    · have HI := Lib.hid (fun W => l1In_no d 2 8 W (by unfold OkD at h2; omega))
      rw [decide_eq_false (show ¬ (OkL l ∧ OkD d) from fun h => h2 h.2)]
      clear h1 h2
      go_enter Try.func95, Try.ntmps95
      go_wp2_with fail
      refine HV.out.mono ?_
      rintro e w1 ⟨rfl, hb⟩
      have HB := Lib.hid hb
      clear hb
      go_wp2_with fail
      refine (HI.out _).mono ?_
      rintro e w2 ⟨rfl, rfl⟩
      go_wp2_with fail
      go_ret
      exact ⟨rfl, HB.out⟩
  · rw [decide_eq_false h1] at HV
    rw [decide_eq_false (show ¬ (OkL l ∧ OkD d) from fun h => h1 h.1)]
    clear h1
    go_enter Try.func95, Try.ntmps95
    go_wp2_with fail
    refine HV.out.mono ?_
    rintro e w1 ⟨rfl, hb⟩
    have HB := Lib.hid hb
    clear hb
    go_wp2_with fail
    go_ret
    exact ⟨rfl, HB.out⟩

set_option maxRecDepth 100000 in
set_option maxHeartbeats 4000000 in
theorem l6Defect_any (v : Value) (l : List Int) (d : Nat) (w : World) (hv : FlatAt w v l.length (ints l)) (hl : l.length ≤ 64) (hd : 2 ≤ d) (hd8 : d ≤ 8) :
    Calls Try.prog 99 #[v, .int .i64 (d : Int)] w fun e w' => e = .returned (.int .i64 (dfF d l)) ∧ Below w.heap.size w w' := by
  obtain ⟨a, c, rfl, _, h⟩ := hv
  have H := Lib.hid h
  have HR : Hid (df d l (l.length - 1) 1 = dfF d l) := Lib.hid rfl
  generalize dfF d l = R at HR ⊢
  clear h
  go_enter Try.func99, Try.ntmps99
  go_wp2_with fail
  go_loopw [5] (fun iv wr => ∃ i m : Nat, 1 ≤ i ∧ i ≤ 65 ∧ iv = .int .i64 (i : Int) ∧ df d l (l.length - i) i = R ∧ wr = w.drewN m) (fun iv _ => l.length - (intOf iv).toNat)
  case atStart => exact ⟨1, 0, Nat.le_refl _, by omega, rfl, HR.out, rfl⟩
  case round =>
    obtain ⟨i, m, h1, h65, rfl, hr, rfl⟩ := hrel
    have HRR := Lib.hid hr
    clear hr HR
    by_cases hlt : i < l.length
    · have hp := par_lt (d := d) (i := i) (by omega) (by omega)
      have hq : IntKind.i64.wrap (((i : Int) - 1) / (d : Int)) = ((par d i : Nat) : Int) := by
        rw [show (i : Int) - 1 = ((i - 1 : Nat) : Int) by omega, show ((i - 1 : Nat) : Int) / (d : Int) = ((par d i : Nat) : Int) from rfl, IntKind.wrap_i64]; omega
      have hq2 : IntKind.i64.wrap (((i : Int) - 1).tdiv (d : Int)) = ((par d i : Nat) : Int) := by rw [Int.tdiv_eq_ediv_of_nonneg (by omega)]; exact hq
      have hd0 : ((d : Int) == 0) = false := by simp; omega
      have HN : Hid (l.length - i = (l.length - (i + 1)) + 1) := Lib.hid (by omega)
      obtain ⟨b, o, rfl, _, hcx⟩ := H.out i _ (ints_at (at_getD hlt))
      obtain ⟨b', o', e', _, hcy⟩ := H.out (par d i) _ (ints_at (at_getD (by omega)))
      simp at e'
      obtain ⟨rfl, rfl⟩ := e'
      have HYES := Lib.hid (fun (hx : l.getD (par d i) 0 < l.getD i 0) => (show (i : Int) = R by rw [← HRR.out, HN.out, df_yes hx]))
      have HNO := Lib.hid (fun (hx : ¬ l.getD (par d i) 0 < l.getD i 0) => (show df d l (l.length - (i + 1)) (i + 1) = R by rw [← HRR.out, HN.out, df_no hx]))
      generalize par d i = p at *
      obtain ⟨x, hx⟩ : ∃ x, x = l.getD i 0 := ⟨_, rfl⟩
      obtain ⟨y, hy⟩ : ∃ y, y = l.getD p 0 := ⟨_, rfl⟩
      rw [← hx, ← hy] at HYES HNO
      rw [← hx] at hcx
      rw [← hy] at hcy
      have hiz : (i : Int) < l.length := by omega
      have hpz : (p : Int) < l.length := by omega
      have hpl : p < l.length := by omega
      clear hx hy
      by_cases hgt : y < x
      · have hgd : decide (y < x) = true := decide_eq_true hgt
        have HE := Lib.hid (HYES.out hgt)
        clear HYES HNO
        go_wp2_with fail
        go_quiet (fail)
        go_wp2_with fail
        go_ret
        exact ⟨by rw [← HE.out]; rfl, ⟨rfl, rfl, rfl, Nat.le_refl _, fun _ _ => rfl⟩⟩
      · have hgd : decide (y < x) = false := decide_eq_false hgt
        have HE := Lib.hid (HNO.out hgt)
        clear HYES HNO
        go_wp2_with fail
        go_quiet (fail)
        go_wp2_with fail
        go_roundw
        case rel => exact ⟨i + 1, m + nq, by omega, by omega, by go_num, HE.out, by first | rfl | trivial⟩
        case measure => simp [intOf]; omega
    · have HE : Hid ((-1 : Int) = R) := Lib.hid (by rw [← HRR.out, show l.length - i = 0 by omega]; rfl)
      go_wp2_with fail
      go_ret
      exact ⟨by rw [← HE.out]; rfl, ⟨rfl, rfl, rfl, Nat.le_refl _, fun _ _ => rfl⟩⟩

theorem l6Heap_any (v : Value) (l : List Int) (d : Int) (w : World) (hv : FlatAt w v l.length (ints l)) (hn : l.length ≤ 1048576) :
    Calls Try.prog 109 #[v, .int .i64 d] w fun e w' => e = .returned (.bool (decide (IsHp l d))) ∧ Below w.heap.size w w' := by
  have HV := Lib.hid (l6Valid_any v l d w hv hn)
  by_cases h1 : OkL l ∧ OkD d
  · rw [decide_eq_true h1] at HV
    obtain ⟨k, rfl, hk0, hk2, hk8⟩ := h1.2.nat
    have HD := Lib.hid (fun W (hW : Below w.heap.size w W) => l6Defect_any v l k W (hv.below hW) h1.1.1 hk2 hk8)
    have hiff : IsHp l (k : Int) ↔ dfF k l = -1 := ⟨fun h => by have := dfF_heap.2 h.2.2; rw [hk0] at this; exact this, fun h => ⟨h1.1, h1.2, by rw [hk0]; exact dfF_heap.1 h⟩⟩
    have hdf : dfF k l = -1 ∨ 0 ≤ dfF k l := by
      rcases df_spec (d := k) (L := l) (l.length - 1) 1 with ⟨e, _⟩ | ⟨a, e, _⟩
      · exact .inl e
      · right; show 0 ≤ df k l _ _; rw [e]; omega
    have HRES : Hid (decide (dfF k l < 0) = decide (IsHp l (k : Int))) := Lib.hid (decide_eq_decide.2 (by rw [hiff]; omega))
    clear h1 hiff hdf hv
    generalize dfF k l = R at HD HRES
    go_enter Try.func109, Try.ntmps109
    go_wp2_with fail
    refine HV.out.mono ?_
    rintro e w1 ⟨rfl, hb⟩
    have HB := Lib.hid hb
    clear hb
    go_wp2_with fail
    refine (HD.out _ HB.out).mono ?_
    rintro e w2 ⟨rfl, hb2⟩
    have HB2 := Lib.hid (HB.out.trans (hb2.mono HB.out.size))
    clear hb2
    go_wp2_with fail
    go_ret
    exact ⟨by rw [← HRES.out]; rfl, HB2.out⟩
  · rw [decide_eq_false h1] at HV
    rw [decide_eq_false (show ¬ IsHp l d from fun h => h1 ⟨h.1, h.2.1⟩)]
    clear h1 hv
    go_enter Try.func109, Try.ntmps109
    go_wp2_with fail
    refine HV.out.mono ?_
    rintro e w1 ⟨rfl, hb⟩
    have HB := Lib.hid hb
    clear hb
    go_wp2_with fail
    go_ret
    exact ⟨rfl, HB.out⟩

theorem specIsHeap_any (v : Value) (l : List Int) (d : Int) (w : World) (hv : FlatAt w v l.length (ints l)) (hn : l.length ≤ 1048576) :
    Calls Try.prog 39 #[v, .int .i64 d] w fun e w' => e = .returned (.tuple #[.int .i64 (isAll l d).1, .bool (isAll l d).2]) ∧ Below w.heap.size w w' := by
  have HV := Lib.hid (l6Valid_any v l d w hv hn)
  by_cases h1 : OkL l ∧ OkD d
  · rw [decide_eq_true h1] at HV
    rw [isAll_yes h1]
    obtain ⟨k, rfl, hk0, hk2, hk8⟩ := h1.2.nat
    rw [hk0]
    have HD := Lib.hid (fun W (hW : Below w.heap.size w W) => l6Defect_any v l k W (hv.below hW) h1.1.1 hk2 hk8)
    clear h1 hv
    generalize dfF k l = R at HD ⊢
    go_enter Try.func39, Try.ntmps39
    go_wp2_with fail
    refine HV.out.mono ?_
    rintro e w1 ⟨rfl, hb⟩
    have HB := Lib.hid hb
    clear hb
    go_wp2_with fail
    refine (HD.out _ HB.out).mono ?_
    rintro e w2 ⟨rfl, hb2⟩
    have HB2 := Lib.hid (HB.out.trans (hb2.mono HB.out.size))
    clear hb2
    go_wp2_with fail
    go_ret2
    exact ⟨rfl, HB2.out⟩
  · rw [decide_eq_false h1] at HV
    rw [isAll_no h1]
    clear h1 hv
    go_enter Try.func39, Try.ntmps39
    go_wp2_with fail
    refine HV.out.mono ?_
    rintro e w1 ⟨rfl, hb⟩
    have HB := Lib.hid hb
    clear hb
    go_wp2_with fail
    go_ret2
    exact ⟨rfl, HB.out⟩

end Go.Proofs.Ytfcgnfhpfooelaa
