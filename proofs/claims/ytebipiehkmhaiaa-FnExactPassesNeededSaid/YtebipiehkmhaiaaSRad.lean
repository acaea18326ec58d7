/- The model's DigitOf, DigitCounts, by their contracts. -/
import Derived.Test.YtebipiehkmhaiaaSDig
import Derived.Test.YtebipiehkmhaiaaRadA
import Derived.Test.YtebipiehkmhaiaaRng
import Derived.Test.YtebipiehkmhaiaaRetCE
import Derived.Test.YtebipiehkmhaiaaOkR
import Derived.Test.YtebipiehkmhaiaaIntS
import Derived.BigRegion
import Derived.BigQuiet
import Derived.Deep.QuietTactic
namespace Go.Proofs.Ytebipiehkmhaiaa
open Go.RowKit Rx P
set_option linter.unusedVariables false

theorem RetCE.nil0 (w w1 : World) (hb : Below w.heap.size w w1) : RetCE ([], false) w (.returned (.tuple #[.slice none 0 0, .bool false])) w1 := .inr ⟨rfl, _, _, rfl, hb⟩
theorem Ret1CE.nil0 (w w1 : World) (hb : Below w.heap.size w w1) : Ret1CE ([], 0, false) w (.returned (.tuple #[.slice none 0 0, .int .i64 0, .bool false])) w1 := .inr ⟨rfl, _, _, rfl, hb⟩
theorem RetIE.nil0 (w w1 : World) (hb : Below w.heap.size w w1) : RetIE ([], false) w (.returned (.tuple #[.slice none 0 0, .bool false])) w1 := .inr ⟨rfl, _, _, rfl, hb⟩

theorem specDof_any (k b p : Int) (W : World) :
    Calls Try.prog 45 #[.int .i64 k, .int .i64 b, .int .i64 p] W fun e w' => e = .returned (.tuple #[.int .i64 (dofAll k b p).1, .bool (dofAll k b p).2]) ∧ Below W.heap.size W w' := by
  have HO := Lib.hid (fun W => l1In_any k (-100000) 100000 W)
  have HB := Lib.hid (fun W => l8Place_any b p W)
  by_cases hk : -100000 ≤ k ∧ k ≤ 100000
  · rw [decide_eq_true hk] at HO
    by_cases hbp : OkBP b p
    · rw [decide_eq_true hbp] at HB
      obtain ⟨⟨hb1, hb2⟩, hp1, hp2⟩ := hbp
      obtain ⟨b, rfl⟩ : ∃ n : Nat, b = n := ⟨b.toNat, by omega⟩
      obtain ⟨p, rfl⟩ : ∃ n : Nat, p = n := ⟨p.toNat, by omega⟩
      have HD := Lib.hid (fun W => l8Digit_any k (sk k) b p W (sk_eq hk.1) (by omega) (by omega) (by omega) (sk_le hk.2))
      have HF : Hid (dofAll k (b : Int) (p : Int) = (((dg b p (sk k) : Nat) : Int), true)) := Lib.hid (dofAll_yes ⟨hk, ⟨hb1, hb2⟩, hp1, hp2⟩)
      rw [HF.out]
      clear hk hb1 hb2 hp1 hp2 HF
      generalize dg b p (sk k) = r at *
      go_enter Try.func45, Try.ntmps45
      go_wp2_with fail
      refine (HO.out _).mono ?_
      rintro e w1 ⟨rfl, rfl⟩
      go_wp2_with fail
      refine (HB.out _).mono ?_
      rintro e w1 ⟨rfl, rfl⟩
      go_wp2_with fail
      refine (HD.out _).mono ?_
      rintro e w1 ⟨rfl, rfl⟩
      go_wp2_with fail
      go_ret2
      exact ⟨rfl, Below.refl _ _⟩
    · rw [decide_eq_false hbp] at HB
      have HF : Hid (dofAll k b p = (0, false)) := Lib.hid (dofAll_no fun h => hbp h.2)
      rw [HF.out]
      clear hk hbp HF
      go_enter Try.func45, Try.ntmps45
      go_wp2_with fail
      refine (HO.out _).mono ?_
      rintro e w1 ⟨rfl, rfl⟩
      go_wp2_with fail
      refine (HB.out _).mono ?_
      rintro e w1 ⟨rfl, rfl⟩
      go_wp2_with fail
      go_ret2
      exact ⟨rfl, Below.refl _ _⟩
  · rw [decide_eq_false hk] at HO
    have HF : Hid (dofAll k b p = (0, false)) := Lib.hid (dofAll_no fun h => hk h.1)
    rw [HF.out]
    clear hk HF
    go_enter Try.func45, Try.ntmps45
    go_wp2_with fail
    refine (HO.out _).mono ?_
    rintro e w1 ⟨rfl, rfl⟩
    go_wp2_with fail
    go_ret2
    exact ⟨rfl, Below.refl _ _⟩

set_option maxRecDepth 100000 in
set_option maxHeartbeats 4000000 in
theorem specDc_any (b' o c : Nat) (l : List (Int × Int)) (b p : Int) (w : World) (hv : FlatAt w (.slice (some ⟨b', o, none⟩) l.length c) l.length (recs l)) (hn : l.length ≤ 1048576) :
    Calls Try.prog 46 #[.slice (some ⟨b', o, none⟩) l.length c, .int .i64 b, .int .i64 p] w (RetIE (dcAll l b p) w) := by
  have HV := Lib.hid (l2Records_any _ l w hv hn)
  have HB := Lib.hid (fun W => l8Place_any b p W)
  have HNONE := Lib.hid (fun (h : ¬ (OkR l ∧ OkBP b p)) => dcAll_no h)
  by_cases hok : OkR l
  · rw [decide_eq_true hok] at HV
    by_cases hbp : OkBP b p
    · rw [decide_eq_true hbp] at HB
      have HF := Lib.hid (dcAll_yes ⟨hok, hbp⟩)
      obtain ⟨⟨hb1, hb2⟩, hp1, hp2⟩ := hbp
      obtain ⟨b, rfl⟩ : ∃ n : Nat, b = n := ⟨b.toNat, by omega⟩
      obtain ⟨p, rfl⟩ : ∃ n : Nat, p = n := ⟨p.toNat, by omega⟩
      have h64 := hok.1
      have HREAD : Hid (∀ (k : Nat) q, l[k]? = some q → b' < w.heap.size ∧ w.cell? ⟨b', o + k * 2, none⟩ = some (.int .i64 q.1)) := Lib.hid (fun k q hq => by
        obtain ⟨a0, c0, e0, _, h⟩ := hv
        simp at e0
        obtain ⟨rfl, rfl⟩ := e0
        obtain ⟨b2, o2, e2, h1, h2, _⟩ := recs_el h hq
        obtain rfl : b' = b2 := congrArg Addr.block (Option.some.inj e2)
        obtain rfl : o = o2 := congrArg Addr.off (Option.some.inj e2)
        exact ⟨h1, h2⟩)
      have HD := Lib.hid (fun (q : Int × Int) (hq : q ∈ l) W => l8Digit_any q.1 (sk q.1) b p W (sk_eq (hok.key hq).1) (by omega) (by omega) (by omega) (sk_le (hok.key hq).2))
      have HDL : Hid (∀ q : Int × Int, dg b p (sk q.1) = dgR b p q ∧ dgR b p q < b) := Lib.hid (fun q => ⟨rfl, dg_lt (by omega) p _⟩)
      have hbn : b ≤ 256 := by omega
      have hmk := makeInts b (by omega)
      obtain ⟨M, hM⟩ : ∃ M, M = (List.range b).map fun d => (cnt (dgR b p) l d : Int) := ⟨_, rfl⟩
      have HM : Hid (M = rng (cnt (dgR b p) l) b) := Lib.hid hM
      rw [HF.out]
      simp only [Int.toNat_natCast]
      rw [← hM]
      clear hok hv hb1 hb2 hp1 hp2 HF HNONE hM
      generalize dgR b p = fR at *
      go_enter Try.func46, Try.ntmps46
      go_wp2_with fail
      refine HV.out.mono ?_
      rintro e w1 ⟨rfl, hb1⟩
      have HB1 := Lib.hid hb1
      clear hb1 HV
      go_wp2_with fail
      refine (HB.out _).mono ?_
      rintro e w1' ⟨rfl, rfl⟩
      clear HB
      have HR0 : Hid (RngAt (w1'.alloc (.cells (ints (List.replicate b 0)).toArray 3)) w1'.heap.size (cnt fR (l.take 0)) b ∧ Below w.heap.size w (w1'.alloc (.cells (ints (List.replicate b 0)).toArray 3))) := Lib.hid (by
        refine ⟨?_, HB1.out.alloc HB1.out.size _⟩
        have h1 : RngAt (w1'.alloc (.cells (ints (List.replicate b 0)).toArray 3)) w1'.heap.size (fun _ => 0) b := by
          unfold RngAt; rw [rng_zero]; exact CellRow.of_row (heap_alloc_new w1' _)
        exact h1.congr fun d _ => by simp [cnt, inB])
      have hlow : w.heap.size ≤ w1'.heap.size := HB1.out.size
      clear HB1
      go_wp2_with fail
      obtain ⟨g, hg⟩ : ∃ g, g = w1'.heap.size := ⟨_, rfl⟩
      rw [← hg] at HR0 hlow ⊢
      clear hg hmk
      go_loopw [9] (fun iv wr => ∃ k : Nat, k ≤ l.length ∧ iv = .int .i64 (k : Int) ∧ RngAt wr g (cnt fR (l.take k)) b ∧ Below w.heap.size w wr) (fun iv _ => l.length - (intOf iv).toNat)
      case atStart => exact ⟨0, Nat.zero_le _, rfl, HR0.out.1, HR0.out.2⟩
      case round =>
        obtain ⟨k, hk, rfl, hr, hb⟩ := hrel
        have HR := Lib.hid hr
        have HBW := Lib.hid hb
        clear hr hb HR0
        by_cases hlt : k < l.length
        · have hltz : (k : Int) < (l.length : Int) := by omega
          obtain ⟨q, hq⟩ : ∃ q, l[k]? = some q := ⟨_, List.getElem?_eq_getElem hlt⟩
          obtain ⟨hbb, hc0⟩ := HREAD.out k q hq
          have hw0 : wr.cell? ⟨b', o + k * 2, none⟩ = some (.int .i64 q.1) := (HBW.out.cell (p := ⟨b', o + k * 2, none⟩) hbb).trans hc0
          have HDG := Lib.hid (HD.out q (List.mem_of_getElem? hq))
          obtain ⟨hd1, hd2⟩ := HDL.out q
          rw [hd1] at HDG
          obtain ⟨d, hd⟩ : ∃ d, d = fR q := ⟨_, rfl⟩
          rw [← hd] at HDG hd2
          obtain ⟨m, hm⟩ : ∃ m, m = cnt fR (l.take k) d := ⟨_, rfl⟩
          have hm64 : m ≤ 64 := by
            rw [hm]; unfold cnt inB
            have := List.length_filter_le (fun a => fR a == d) (l.take k)
            have h2 : (l.take k).length ≤ l.length := by rw [List.length_take]; omega
            omega
          obtain ⟨cc, cf⟩ := HR.out.at hd2
          rw [← hm] at cc
          have HNEW : Hid (RngAt (wr.setCell ⟨g, d, none⟩ (.int .i64 ((m : Int) + 1))) g (cnt fR (l.take (k + 1))) b ∧ Below w.heap.size w (wr.setCell ⟨g, d, none⟩ (.int .i64 ((m : Int) + 1)))) := Lib.hid (by
            refine ⟨?_, HBW.out.setCell (p := ⟨g, d, none⟩) hlow _⟩
            have := (HR.out.put d (m + 1) hd2).congr (h := cnt fR (l.take (k + 1))) (fun j _ => by
              rw [cnt_take_succ hq, ← hd]
              by_cases hj : j = d
              · rw [if_pos hj, if_pos hj.symm, hj, ← hm]
              · rw [if_neg hj, if_neg (fun e => hj e.symm), Nat.add_zero])
            exact this)
          have hdz : (d : Int) < (b : Int) := by omega
          clear hc0 hq hd hm hd1 HR HBW HREAD HD HDL HM
          go_wp2_with fail
          refine (HDG.out _).mono ?_
          rintro e w2 ⟨rfl, rfl⟩
          go_wp2_with fail
          go_roundw
          case rel => exact ⟨k + 1, by omega, by go_num, HNEW.out.1, HNEW.out.2⟩
          case measure => simp [intOf]; omega
        · have hltz : ¬ (k : Int) < (l.length : Int) := by omega
          obtain rfl : k = l.length := by omega
          rw [List.take_length] at HR
          have HRES : Hid (RetIE (M, true) w (.returned (.tuple #[.slice (some ⟨g, 0, none⟩) b b, .bool true])) wr) := Lib.hid (by
            rw [HM.out]
            exact .inl ⟨g, b, by rw [rng_length], by rw [rng_length]; exact Nat.le_refl _, hlow, HR.out, HBW.out⟩)
          clear HR HBW HREAD HD HDL HM
          go_wp2_with fail
          go_ret2
          exact HRES.out
    · rw [decide_eq_false hbp] at HB
      rw [HNONE.out fun h => hbp h.2]
      clear hok hbp hv HNONE
      go_enter Try.func46, Try.ntmps46
      go_wp2_with fail
      refine HV.out.mono ?_
      rintro e w1 ⟨rfl, hb1⟩
      have HRES := Lib.hid (RetIE.nil0 w w1 hb1)
      clear hb1 HV
      go_wp2_with fail
      refine (HB.out _).mono ?_
      rintro e w1' ⟨rfl, rfl⟩
      go_wp2_with fail
      go_ret2
      exact HRES.out
  · rw [decide_eq_false hok] at HV
    rw [HNONE.out fun h => hok h.1]
    clear hok hv HNONE
    go_enter Try.func46, Try.ntmps46
    go_wp2_with fail
    refine HV.out.mono ?_
    rintro e w1 ⟨rfl, hb1⟩
    have HRES := Lib.hid (RetIE.nil0 w w1 hb1)
    clear hb1 HV
    go_wp2_with fail
    go_ret2
    exact HRES.out

end Go.Proofs.Ytebipiehkmhaiaa
