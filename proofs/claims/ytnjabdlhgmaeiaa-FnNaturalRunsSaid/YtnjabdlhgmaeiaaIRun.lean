/- The program's NaturalRuns, by its contract. -/
import Derived.Test.YtnjabdlhgmaeiaaHeldU
import Derived.Test.YtnjabdlhgmaeiaaRunAll
import Derived.Test.YtnjabdlhgmaeiaaIRecs
import Derived.BigRegion
import Derived.BigQuiet
import Derived.Deep.QuietTactic
import Derived.Laws.BitsLemmas
namespace Go.Proofs.Ytnjabdlhgmaeiaa
open Go.RowKit Ru
set_option linter.unusedVariables false

set_option maxRecDepth 100000 in
theorem descends_any (b o n c j j1 : Nat) (x y : Int) (w : World) (hx : w.cell? ⟨b, o + j1 * 2, none⟩ = some (.int .i64 x)) (hy : w.cell? ⟨b, o + j * 2, none⟩ = some (.int .i64 y)) (h1 : j1 = j + 1) (hj : j1 < n) (hn : n ≤ 1048576) :
    Calls Try.prog 122 #[.slice (some ⟨b, o, none⟩) n c, .int .i64 (j1 : Int)] w fun e w' => e = .returned (.bool (decide (x < y))) ∧ ∃ m, w' = w.drewN m := by
  have hwk : IntKind.i64.wrap ((j1 : Int) - 1) = (j : Int) := by rw [IntKind.wrap_i64]; omega
  have hjn : j < n := by omega
  have hjz : (j : Int) < n := by omega
  have hj1z : (j1 : Int) < n := by omega
  clear h1
  go_enter Try.func122, Try.ntmps122
  go_wp2_with fail
  go_quiet (fail)
  go_wp2_with fail
  go_ret
  exact ⟨rfl, _, rfl⟩

/-- The cells of a list of records. -/
def RecAt (w : World) (b o c : Nat) (l : List (Int × Int)) : Prop := l.length ≤ c ∧ ∀ j, j < l.length → b < w.heap.size ∧ w.cell? ⟨b, o + j * 2, none⟩ = some (.int .i64 (l.getD j (0, 0)).1) ∧ w.cell? ⟨b, o + j * 2 + 1, none⟩ = some (.int .i64 (l.getD j (0, 0)).2)
theorem RecAt.of_flat {w : World} {b o c : Nat} {l : List (Int × Int)} (h : FlatAt w (.slice (some ⟨b, o, none⟩) l.length c) l.length (recs l)) : RecAt w b o c l := by
  obtain ⟨a0, c0, e, hc, h⟩ := h
  simp at e
  obtain ⟨rfl, rfl⟩ := e
  refine ⟨hc, fun j hj => ?_⟩
  have hg : l[j]? = some (l.getD j (0, 0)) := by rw [List.getD_eq_getElem?_getD, List.getElem?_eq_getElem hj]; rfl
  obtain ⟨b', o', e', h1, h2, h3⟩ := recs_el h hg
  simp at e'
  obtain ⟨rfl, rfl⟩ := e'
  exact ⟨h1, h2, h3⟩
theorem RecAt.below {w w' : World} {b o c : Nat} {l : List (Int × Int)} (h : RecAt w b o c l) (hb : Below w.heap.size w w') : RecAt w' b o c l :=
  ⟨h.1, fun j hj => by obtain ⟨h1, h2, h3⟩ := h.2 j hj; exact ⟨Nat.lt_of_lt_of_le h1 hb.size, (hb.cell (p := ⟨b, o + j * 2, none⟩) h1).trans h2, (hb.cell (p := ⟨b, o + j * 2 + 1, none⟩) h1).trans h3⟩⟩

/-- Whether the list goes down at place i. -/
theorem dn_decide (l : List (Int × Int)) (i : Nat) : dn l (i + 1) = decide ((l.getD (i + 1) (0, 0)).1 < (l.getD i (0, 0)).1) := rfl

theorem infoRunN : (Try.prog.info? 48).map (·.size) = some 2 := by kernel_rfl

/-- The loop's word. -/
structure RunL (l : List (Int × Int)) (i r T k : Nat) (base : Nat) (w W : World) : Prop where
  le : k ≤ r
  go : (2 ≤ r ∧ 2 ≤ k ∧ ext l (dn l (i + 1)) (i + k) = i + T) ∨ (r < 2 ∧ k = r ∧ T = r)
  b : Below base w W

set_option maxRecDepth 100000 in
set_option maxHeartbeats 8000000 in
theorem runAt_any (b o c : Nat) (l : List (Int × Int)) (i : Nat) (w : World) (h : RecAt w b o c l) (h64 : l.length ≤ 64) (hi : i ≤ l.length) :
    Calls Try.prog 81 #[.slice (some ⟨b, o, none⟩) l.length c, .int .i64 (i : Int)] w fun e w' => e = .returned (.agg #[.int .i64 (i : Int), .int .i64 ((rcnt l i : Nat) : Int)]) ∧ Below w.heap.size w w' := by
  obtain ⟨r, hr⟩ : ∃ r, r = l.length - i := ⟨_, rfl⟩
  obtain ⟨T, hT⟩ : ∃ T, T = rcnt l i := ⟨_, rfl⟩
  obtain ⟨m0, hm0⟩ : ∃ m0, m0 = min r 2 := ⟨_, rfl⟩
  have hmz : min (r : Int) 2 = (m0 : Int) := by omega
  have hlc := h.1
  obtain ⟨W, hW⟩ : ∃ W, W = w.alloc (.cells #[.int .i64 0, .int .i64 0] 48) := ⟨_, rfl⟩
  have hrow : RowIs W w.heap.size 48 [.int .i64 0, .int .i64 0] := by rw [hW]; exact heap_alloc_new w _
  have hbW : Below w.heap.size w W := by rw [hW]; exact (Below.refl _ _).alloc (Nat.le_refl _) _
  have HR := Lib.hid hrow
  have H0 : Hid (RunL l i r T m0 w.heap.size w W) := Lib.hid (by
    refine ⟨by omega, ?_, hbW⟩
    by_cases h1 : i + 1 < l.length
    · left
      have e := rend_two h1
      have hp := rcnt_pos (l := l) (i := i) (by omega)
      refine ⟨by omega, by omega, ?_⟩
      rw [show i + m0 = i + 2 by omega, ← e, hT, hp.2.2]
    · right
      by_cases h2 : i < l.length
      · have hp := rcnt_in h2
        rw [rend_last h1] at hp
        exact ⟨by omega, by omega, by omega⟩
      · have hp := rcnt_out h2
        exact ⟨by omega, by omega, by omega⟩)
  have HDN : Hid (∀ j W, 1 ≤ j → j < r → Below w.heap.size w W → Calls Try.prog 122 #[.slice (some ⟨b, o + i * 2, none⟩) r (c - i), .int .i64 (j : Int)] W fun e w' => e = .returned (.bool (dn l (i + j))) ∧ ∃ m, w' = W.drewN m) := Lib.hid (fun j W h1 h2 hb => by
    obtain ⟨j0, rfl⟩ : ∃ j0, j = j0 + 1 := ⟨j - 1, by omega⟩
    obtain ⟨a1, a2, _⟩ := (h.2 (i + (j0 + 1)) (by omega))
    obtain ⟨b1, b2, _⟩ := (h.2 (i + j0) (by omega))
    have := descends_any b (o + i * 2) r (c - i) j0 (j0 + 1) _ _ W (by rw [show o + i * 2 + (j0 + 1) * 2 = o + (i + (j0 + 1)) * 2 by omega]; exact (hb.cell (p := ⟨b, o + (i + (j0 + 1)) * 2, none⟩) a1).trans a2) (by rw [show o + i * 2 + j0 * 2 = o + (i + j0) * 2 by omega]; exact (hb.cell (p := ⟨b, o + (i + j0) * 2, none⟩) b1).trans b2) rfl h2 (by omega)
    rw [show dn l (i + (j0 + 1)) = decide ((l.getD (i + (j0 + 1)) (0, 0)).1 < (l.getD (i + j0) (0, 0)).1) from rfl]
    exact this)
  rw [← hT]
  have HT := Lib.hid hT
  have hiz : (i : Int) ≤ l.length := by omega
  have hr64 : r ≤ 64 := by omega
  have hlr : l.length - i = r := hr.symm
  have HLR := Lib.hid hlr
  have hm2 : m0 ≤ 2 := by omega
  clear hr hT hm0 hrow hbW h
  by_cases hci : c = i
  · have hr0 : r = 0 := by have := HLR.out; omega
    have hT0 : T = 0 := by rw [HT.out]; exact rcnt_out (by have := HLR.out; omega)
    have hm00 : m0 = 0 := by have h1 := HLR.out; omega
    have HR0 := Lib.hid hr0
    have HT0 := Lib.hid hT0
    clear hr0 hT0 hm00 HDN
    obtain rfl : i = c := hci.symm
    go_enter Try.func81, Try.ntmps81
    go_wp2_with fail
    go_loopw [6] (fun kv wr => ∃ k : Nat, kv = .int .i64 (k : Int) ∧ RunL l i r T k w.heap.size w wr ∧ RowIs wr w.heap.size 48 [.int .i64 0, .int .i64 0]) (fun kv _ => r - (intOf kv).toNat)
    case atStart => exact ⟨m0, by first | rfl | rw [hmz], by rw [← hW]; exact H0.out, by rw [← hW]; exact HR.out⟩
    case round =>
      clear HR hW H0
      obtain ⟨k, rfl, hk, hc⟩ := hrel
      have HK := Lib.hid hk
      have HC := Lib.hid hc
      have hkr := hk.le
      have hf0 := hc.frozen 0
      have hf1 := hc.frozen 1
      have hc0 := hc.cell 0
      have hc1 := hc.cell 1
      simp only [List.getElem?_cons_zero, List.getElem?_cons_succ] at hc0 hc1
      have HEND : Hid (RowIs ((wr.setCell ⟨w.heap.size, 0, none⟩ (.int .i64 (i : Int))).setCell ⟨w.heap.size, 1, none⟩ (.int .i64 (k : Int))) w.heap.size 48 [.int .i64 (i : Int), .int .i64 (k : Int)] ∧ Below w.heap.size w ((wr.setCell ⟨w.heap.size, 0, none⟩ (.int .i64 (i : Int))).setCell ⟨w.heap.size, 1, none⟩ (.int .i64 (k : Int)))) := Lib.hid
        ⟨(hc.stored 0 _).stored 1 _, (hk.b.setCell (p := ⟨w.heap.size, 0, none⟩) (Nat.le_refl _) _).setCell (p := ⟨w.heap.size, 1, none⟩) (Nat.le_refl _) _⟩
      clear hk hc
      have hk0 : k = 0 := by have := HR0.out; omega
      have hkT : k = T := by have := HT0.out; omega
      clear hk0
      have hkz : ¬ (k : Int) < (r : Int) := by omega
      have hlt : ¬ k < r := by omega
      subst hkT
      go_wp2_with fail
      exact bodyPost_ret (results_cell_row rfl _ _ _ _ _ (0, 0) _ rfl HEND.out.1 Try.underlying48 rfl infoRunN) rfl ⟨rfl, HEND.out.2⟩
  · have hcn : ¬ c - i = 0 := by omega
    go_enter Try.func81, Try.ntmps81
    go_wp2_with fail
    go_loopw [6] (fun kv wr => ∃ k : Nat, kv = .int .i64 (k : Int) ∧ RunL l i r T k w.heap.size w wr ∧ RowIs wr w.heap.size 48 [.int .i64 0, .int .i64 0]) (fun kv _ => r - (intOf kv).toNat)
    case atStart => exact ⟨m0, by first | rfl | rw [hmz], by rw [← hW]; exact H0.out, by rw [← hW]; exact HR.out⟩
    case round =>
      clear HR hW H0
      obtain ⟨k, rfl, hk, hc⟩ := hrel
      have HK := Lib.hid hk
      have HC := Lib.hid hc
      have hkr := hk.le
      have hf0 := hc.frozen 0
      have hf1 := hc.frozen 1
      have hc0 := hc.cell 0
      have hc1 := hc.cell 1
      simp only [List.getElem?_cons_zero, List.getElem?_cons_succ] at hc0 hc1
      have HEND : Hid (RowIs ((wr.setCell ⟨w.heap.size, 0, none⟩ (.int .i64 (i : Int))).setCell ⟨w.heap.size, 1, none⟩ (.int .i64 (k : Int))) w.heap.size 48 [.int .i64 (i : Int), .int .i64 (k : Int)] ∧ Below w.heap.size w ((wr.setCell ⟨w.heap.size, 0, none⟩ (.int .i64 (i : Int))).setCell ⟨w.heap.size, 1, none⟩ (.int .i64 (k : Int)))) := Lib.hid
        ⟨(hc.stored 0 _).stored 1 _, (hk.b.setCell (p := ⟨w.heap.size, 0, none⟩) (Nat.le_refl _) _).setCell (p := ⟨w.heap.size, 1, none⟩) (Nat.le_refl _) _⟩
      clear hk hc
      by_cases hlt : k < r
      · have hkz : (k : Int) < (r : Int) := by omega
        have hdk : decide ((k : Int) < (r : Int)) = true := decide_eq_true hkz
        obtain ⟨h2r, h2k, hext⟩ : 2 ≤ r ∧ 2 ≤ k ∧ ext l (dn l (i + 1)) (i + k) = i + T := by
          rcases HK.out.go with h | ⟨h1, h2, h3⟩
          · exact h
          · omega
        have HEXT := Lib.hid hext
        have HD1 := Lib.hid (HDN.out k wr (by omega) hlt HK.out.b)
        have HD2 := Lib.hid (fun m => HDN.out 1 (wr.drewN m) (by omega) (by omega) (HK.out.b.trans ⟨rfl, rfl, rfl, Nat.le_refl _, fun _ _ => rfl⟩))
        obtain ⟨x, hx⟩ : ∃ x, x = dn l (i + k) := ⟨_, rfl⟩
        obtain ⟨y, hy⟩ : ∃ y, y = dn l (i + 1) := ⟨_, rfl⟩
        rw [← hx] at HD1
        rw [← hy] at HD2
        have HX := Lib.hid hx
        have HY := Lib.hid hy
        clear HDN hext hx hy
        cases x <;> cases y
        · go_wp2_with fail
          refine (HD1.out).mono ?_
          rintro e w1 ⟨rfl, m1, rfl⟩
          go_wp2_with fail
          refine (HD2.out m1).mono ?_
          rintro e w2 ⟨rfl, m2, rfl⟩
          have HK2 : Hid (RunL l i r T (k + 1) w.heap.size w ((wr.drewN m1).drewN m2) ∧ RowIs ((wr.drewN m1).drewN m2) w.heap.size 48 [.int .i64 0, .int .i64 0]) := Lib.hid
            ⟨⟨by omega, .inl ⟨h2r, by omega, by rw [← HEXT.out, ext_go (k := i + k) (by have := HLR.out; omega) (by rw [← HX.out, ← HY.out])]; rfl⟩, HK.out.b.trans ⟨rfl, rfl, rfl, Nat.le_refl _, fun _ _ => rfl⟩⟩, HC.out⟩
          generalize (wr.drewN m1).drewN m2 = W2 at *
          clear HEND HC HK HD1 HD2 HEXT
          go_wp2_with fail
          go_roundw
          case rel => exact ⟨k + 1, by go_num, HK2.out⟩
          case measure => simp [intOf]; omega
        · have hkT : k = T := by
            have := HEXT.out
            rw [ext_stop (by rw [← HX.out, ← HY.out]; simp)] at this
            omega
          have HKT := Lib.hid hkT
          clear hkT
          go_wp2_with fail
          refine (HD1.out).mono ?_
          rintro e w1 ⟨rfl, m1, rfl⟩
          go_wp2_with fail
          refine (HD2.out m1).mono ?_
          rintro e w2 ⟨rfl, m2, rfl⟩
          have HEND2 : Hid (RowIs ((((wr.drewN m1).drewN m2).setCell ⟨w.heap.size, 0, none⟩ (.int .i64 (i : Int))).setCell ⟨w.heap.size, 1, none⟩ (.int .i64 (k : Int))) w.heap.size 48 [.int .i64 (i : Int), .int .i64 (k : Int)] ∧ Below w.heap.size w ((((wr.drewN m1).drewN m2).setCell ⟨w.heap.size, 0, none⟩ (.int .i64 (i : Int))).setCell ⟨w.heap.size, 1, none⟩ (.int .i64 (k : Int)))) := Lib.hid
            ⟨((show RowIs ((wr.drewN m1).drewN m2) w.heap.size _ _ from HC.out).stored 0 _).stored 1 _, (((HK.out.b.trans ⟨rfl, rfl, rfl, Nat.le_refl _, fun _ _ => rfl⟩ : Below w.heap.size w ((wr.drewN m1).drewN m2))).setCell (p := ⟨w.heap.size, 0, none⟩) (Nat.le_refl _) _).setCell (p := ⟨w.heap.size, 1, none⟩) (Nat.le_refl _) _⟩
          have hg0 : ((wr.drewN m1).drewN m2).frozen? ⟨w.heap.size, 0, none⟩ = false := hf0
          have hg1 : ((wr.drewN m1).drewN m2).frozen? ⟨w.heap.size, 1, none⟩ = false := hf1
          have hk0 : ((wr.drewN m1).drewN m2).cell? ⟨w.heap.size, 0, none⟩ = some (.int .i64 0) := hc0
          have hk1 : ((wr.drewN m1).drewN m2).cell? ⟨w.heap.size, 1, none⟩ = some (.int .i64 0) := hc1
          generalize (wr.drewN m1).drewN m2 = W2 at *
          clear HEND HC HK HD1 HD2 HEXT hf0 hf1 hc0 hc1
          have hkT := HKT.out
          clear HKT
          subst hkT
          go_wp2_with fail
          exact bodyPost_ret (results_cell_row rfl _ _ _ _ _ (0, 0) _ rfl HEND2.out.1 Try.underlying48 rfl infoRunN) rfl ⟨rfl, HEND2.out.2⟩
        · have hkT : k = T := by
            have := HEXT.out
            rw [ext_stop (by rw [← HX.out, ← HY.out]; simp)] at this
            omega
          have HKT := Lib.hid hkT
          clear hkT
          go_wp2_with fail
          refine (HD1.out).mono ?_
          rintro e w1 ⟨rfl, m1, rfl⟩
          go_wp2_with fail
          refine (HD2.out m1).mono ?_
          rintro e w2 ⟨rfl, m2, rfl⟩
          have HEND2 : Hid (RowIs ((((wr.drewN m1).drewN m2).setCell ⟨w.heap.size, 0, none⟩ (.int .i64 (i : Int))).setCell ⟨w.heap.size, 1, none⟩ (.int .i64 (k : Int))) w.heap.size 48 [.int .i64 (i : Int), .int .i64 (k : Int)] ∧ Below w.heap.size w ((((wr.drewN m1).drewN m2).setCell ⟨w.heap.size, 0, none⟩ (.int .i64 (i : Int))).setCell ⟨w.heap.size, 1, none⟩ (.int .i64 (k : Int)))) := Lib.hid
            ⟨((show RowIs ((wr.drewN m1).drewN m2) w.heap.size _ _ from HC.out).stored 0 _).stored 1 _, (((HK.out.b.trans ⟨rfl, rfl, rfl, Nat.le_refl _, fun _ _ => rfl⟩ : Below w.heap.size w ((wr.drewN m1).drewN m2))).setCell (p := ⟨w.heap.size, 0, none⟩) (Nat.le_refl _) _).setCell (p := ⟨w.heap.size, 1, none⟩) (Nat.le_refl _) _⟩
          have hg0 : ((wr.drewN m1).drewN m2).frozen? ⟨w.heap.size, 0, none⟩ = false := hf0
          have hg1 : ((wr.drewN m1).drewN m2).frozen? ⟨w.heap.size, 1, none⟩ = false := hf1
          have hk0 : ((wr.drewN m1).drewN m2).cell? ⟨w.heap.size, 0, none⟩ = some (.int .i64 0) := hc0
          have hk1 : ((wr.drewN m1).drewN m2).cell? ⟨w.heap.size, 1, none⟩ = some (.int .i64 0) := hc1
          generalize (wr.drewN m1).drewN m2 = W2 at *
          clear HEND HC HK HD1 HD2 HEXT hf0 hf1 hc0 hc1
          have hkT := HKT.out
          clear HKT
          subst hkT
          go_wp2_with fail
          exact bodyPost_ret (results_cell_row rfl _ _ _ _ _ (0, 0) _ rfl HEND2.out.1 Try.underlying48 rfl infoRunN) rfl ⟨rfl, HEND2.out.2⟩
        · go_wp2_with fail
          refine (HD1.out).mono ?_
          rintro e w1 ⟨rfl, m1, rfl⟩
          go_wp2_with fail
          refine (HD2.out m1).mono ?_
          rintro e w2 ⟨rfl, m2, rfl⟩
          have HK2 : Hid (RunL l i r T (k + 1) w.heap.size w ((wr.drewN m1).drewN m2) ∧ RowIs ((wr.drewN m1).drewN m2) w.heap.size 48 [.int .i64 0, .int .i64 0]) := Lib.hid
            ⟨⟨by omega, .inl ⟨h2r, by omega, by rw [← HEXT.out, ext_go (k := i + k) (by have := HLR.out; omega) (by rw [← HX.out, ← HY.out])]; rfl⟩, HK.out.b.trans ⟨rfl, rfl, rfl, Nat.le_refl _, fun _ _ => rfl⟩⟩, HC.out⟩
          generalize (wr.drewN m1).drewN m2 = W2 at *
          clear HEND HC HK HD1 HD2 HEXT
          go_wp2_with fail
          go_roundw
          case rel => exact ⟨k + 1, by go_num, HK2.out⟩
          case measure => simp [intOf]; omega
      · have hkz : ¬ (k : Int) < (r : Int) := by omega
        have hkT : k = T := by
          rcases HK.out.go with ⟨h1, h2, h3⟩ | ⟨h1, h2, h3⟩
          · rw [ext_stop (by have := HLR.out; omega)] at h3; omega
          · omega
        subst hkT
        go_wp2_with fail
        exact bodyPost_ret (results_cell_row rfl _ _ _ _ _ (0, 0) _ rfl HEND.out.1 Try.underlying48 rfl infoRunN) rfl ⟨rfl, HEND.out.2⟩

end Go.Proofs.Ytnjabdlhgmaeiaa
