/- The draw of MergeSorted, by its contract. -/
import Derived.Test.YtnjabdlhgmaeiaaDrawAR
import Derived.Test.YtnjabdlhgmaeiaaStable
namespace Go.Proofs.Ytnjabdlhgmaeiaa
open Go.RowKit
set_option linter.unusedVariables false

/-- Two short lists of records, not nil. -/
def TwoR (w : World) (e : Ending) (w' : World) : Prop :=
  ∃ (g1 c1 : Nat) (L1 : List (Int × Int)) (g2 c2 : Nat) (L2 : List (Int × Int)), L1.length ≤ 66 ∧ L2.length ≤ 66 ∧ e = .returned (.tuple #[.slice (some ⟨g1, 0, none⟩) L1.length c1, .slice (some ⟨g2, 0, none⟩) L2.length c2]) ∧ L1.length ≤ c1 ∧ L2.length ≤ c2 ∧ CellRow w' g1 (recs L1) ∧ CellRow w' g2 (recs L2) ∧ Below w.heap.size w w'

theorem rowR {base : Nat} {w : World} {v : Value} {l : List (Int × Int)} (hown : w.ownsRow base 50 2 v l.length (recs l)) (hnn : v ≠ .slice none 0 0) : ∃ g c, v = .slice (some ⟨g, 0, none⟩) l.length c ∧ base ≤ g ∧ l.length ≤ c ∧ CellRow w g (recs l) := by
  rcases hown.2 with ⟨e, _⟩ | ⟨g, cap, cur, rfl, _⟩
  · exact absurd e hnn
  · obtain ⟨h1, h2, h3⟩ := CellRow.of_own hown
    exact ⟨g, cap, rfl, h1, h2, h3⟩

set_option maxRecDepth 100000 in
set_option maxHeartbeats 8000000 in
theorem drawMg_any (a : Option Addr) (len cap : Nat) (w : World) (h : Code0 w a len) :
    Calls Try.prog 23 #[.slice a len cap] w (TwoR w) := by
  have H := Lib.hid (cur_new h cap 73)
  have hb0 : (w.alloc (.cells #[.slice a len cap, .int .i64 0, .int .u64 0] 73)).heap.size = w.heap.size + 1 := by simp
  clear h
  go_enter Try.func23, Try.ntmps23
  go_wp2_with fail
  refine (anyRecords_any w.heap.size w.heap.size a len cap 0 _ H.out (by omega)).mono ?_
  rintro e w1 ⟨v, l, hl, _, rfl, hown, hc, hb, hnn⟩
  obtain ⟨g1, c1, rfl, hg1, hc1, hrow⟩ := rowR hown hnn
  have HC1 := Lib.hid hc
  have HB1 := Lib.hid hb
  have HR1 := Lib.hid hrow
  have hgs : w.heap.size < g1 := by omega
  have hw1 : w.heap.size < w1.heap.size := hc.lt
  clear hown hc hb hrow H hb0 hg1 hnn
  go_wp2_with fail
  refine (anyRecords_any w.heap.size w.heap.size a len cap _ _ HC1.out (by omega)).mono ?_
  rintro e w2 ⟨v, m, hm, _, rfl, hown, hc, hb, hnn⟩
  obtain ⟨g2, c2, rfl, hg2, hc2, hrow⟩ := rowR hown hnn
  have hg2s : w.heap.size < g2 := by omega
  have HC2 := Lib.hid hc
  have HB2 := Lib.hid (HB1.out.trans hb)
  have HR2 := Lib.hid (HR1.out.but hb (by omega))
  have HQ2 := Lib.hid hrow
  have hw2 : w.heap.size < w2.heap.size := hc.lt
  clear hown hc hb hrow hg2 hnn HC1 HB1 HR1 hw1
  go_wp2_with fail
  refine (one_any w.heap.size w.heap.size a len cap _ 12 _ HC2.out (by omega) (by omega)).mono ?_
  rintro e w3 ⟨bb, rfl, hc, hb⟩
  have HC3 := Lib.hid hc
  have HB3 := Lib.hid (HB2.out.trans hb)
  have HR3 := Lib.hid (HR2.out.but hb (by omega))
  have HQ3 := Lib.hid (HQ2.out.but hb (by omega))
  have hw3 : w.heap.size < w3.heap.size := hc.lt
  clear hc hb HC2 HB2 HR2 HQ2 hw2
  cases bb
  · have HSO := Lib.hid (l2Stable_any g1 0 c1 l w3 (HR3.out.flat hc1) (by omega))
    go_wp2_with fail
    refine (HSO.out).mono ?_
    rintro e w4 ⟨g3, c3, S, rfl, hc3, hg3, hrow, hof, hb4⟩
    have hsl := Stab.Of.length hof
    have hc3' : S.length ≤ c3 := by omega
    have hS66 : S.length ≤ 66 := by omega
    rw [← hsl]
    have HC4 := Lib.hid (HC3.out.keep (hb4.mono (show w.heap.size + 1 ≤ w3.heap.size by omega)))
    have HB4 := Lib.hid (HB3.out.trans (But.ofBelow (g := w.heap.size) hb4 (Nat.le_refl _)))
    have HR4 := Lib.hid hrow
    have HQ4 := Lib.hid (HQ3.out.below hb4 HQ3.out.1)
    have hw4 : w.heap.size < w4.heap.size := by have := hb4.size; omega
    have hg3s : w.heap.size < g3 := by omega
    clear hrow hb4 hof HC3 HB3 HR3 HQ3 HSO hsl hg3 hc3
    go_wp2_with fail
    refine (one_any w.heap.size w.heap.size a len cap _ 12 _ HC4.out (by omega) (by omega)).mono ?_
    rintro e w5 ⟨bb, rfl, hc, hb⟩
    have HC5 := Lib.hid hc
    have HB5 := Lib.hid (HB4.out.trans hb)
    have HR5 := Lib.hid (HR4.out.but hb (by omega))
    have HQ5 := Lib.hid (HQ4.out.but hb (by omega))
    clear hc hb HC4 HB4 HR4 HQ4
    cases bb
    · have HSO := Lib.hid (l2Stable_any g2 0 c2 m w5 (HQ5.out.flat hc2) (by omega))
      go_wp2_with fail
      refine (HSO.out).mono ?_
      rintro e w6 ⟨g4, c4, T, rfl, hc4, hg4, hrow, hof, hb6⟩
      have hsl2 := Stab.Of.length hof
      rw [← hsl2]
      have HRES : Hid (TwoR w (.returned (.tuple #[.slice (some ⟨g3, 0, none⟩) S.length c3, .slice (some ⟨g4, 0, none⟩) T.length c4])) w6) := Lib.hid ⟨g3, c3, S, g4, c4, T, hS66, by omega, rfl, hc3', by omega, HR5.out.below hb6 HR5.out.1, hrow, (HB5.out.trans (But.ofBelow (g := w.heap.size) hb6 (Nat.le_refl _))).fresh⟩
      clear hrow hb6 hof HC5 HB5 HR5 HQ5 HSO hsl2 hg4 hc4
      go_wp2_with fail
      go_ret2
      exact HRES.out
    · have HRES : Hid (TwoR w (.returned (.tuple #[.slice (some ⟨g3, 0, none⟩) S.length c3, .slice (some ⟨g2, 0, none⟩) m.length c2])) w5) := Lib.hid ⟨g3, c3, S, g2, c2, m, hS66, hm, rfl, hc3', hc2, HR5.out, HQ5.out, HB5.out.fresh⟩
      go_wp2_with fail
      go_ret2
      exact HRES.out
  · go_wp2_with fail
    refine (one_any w.heap.size w.heap.size a len cap _ 12 _ HC3.out (by omega) (by omega)).mono ?_
    rintro e w5 ⟨bb, rfl, hc, hb⟩
    have HC5 := Lib.hid hc
    have HB5 := Lib.hid (HB3.out.trans hb)
    have HR5 := Lib.hid (HR3.out.but hb (by omega))
    have HQ5 := Lib.hid (HQ3.out.but hb (by omega))
    clear hc hb HC3 HB3 HR3 HQ3
    cases bb
    · have HSO := Lib.hid (l2Stable_any g2 0 c2 m w5 (HQ5.out.flat hc2) (by omega))
      go_wp2_with fail
      refine (HSO.out).mono ?_
      rintro e w6 ⟨g4, c4, T, rfl, hc4, hg4, hrow, hof, hb6⟩
      have hsl2 := Stab.Of.length hof
      rw [← hsl2]
      have HRES : Hid (TwoR w (.returned (.tuple #[.slice (some ⟨g1, 0, none⟩) l.length c1, .slice (some ⟨g4, 0, none⟩) T.length c4])) w6) := Lib.hid ⟨g1, c1, l, g4, c4, T, hl, by omega, rfl, hc1, by omega, HR5.out.below hb6 HR5.out.1, hrow, (HB5.out.trans (But.ofBelow (g := w.heap.size) hb6 (Nat.le_refl _))).fresh⟩
      clear hrow hb6 hof HC5 HB5 HR5 HQ5 HSO hsl2 hg4 hc4
      go_wp2_with fail
      go_ret2
      exact HRES.out
    · have HRES : Hid (TwoR w (.returned (.tuple #[.slice (some ⟨g1, 0, none⟩) l.length c1, .slice (some ⟨g2, 0, none⟩) m.length c2])) w5) := Lib.hid ⟨g1, c1, l, g2, c2, m, hl, hm, rfl, hc1, hc2, HR5.out, HQ5.out, HB5.out.fresh⟩
      go_wp2_with fail
      go_ret2
      exact HRES.out

end Go.Proofs.Ytnjabdlhgmaeiaa
