/- The draws of lists that may be sorted (IsSorted and the elementary sorts), by their contract. -/
import Derived.Test.YtjlldjekjnlcaaaDrawAH
import Derived.Test.YtjlldjekjnlcaaaSrt
import Derived.Test.YtjlldjekjnlcaaaList
namespace Go.Proofs.Ytjlldjekjnlcaaa
open Go.RowKit P El
set_option linter.unusedVariables false

/-- A short list, not nil. -/
def OneH (w : World) (e : Ending) (w' : World) : Prop :=
  ∃ (g1 c1 : Nat) (L1 : List Int), L1.length ≤ 66 ∧ e = .returned (.slice (some ⟨g1, 0, none⟩) L1.length c1) ∧ L1.length ≤ c1 ∧ CellRow w' g1 (ints L1) ∧ Below w.heap.size w w'

set_option maxRecDepth 100000 in
set_option maxHeartbeats 8000000 in
theorem drawSorted_any (a : Option Addr) (len cap : Nat) (w : World) (h : Code0 w a len) :
    Calls Try.prog 64 #[.slice a len cap] w (OneH w) := by
  have H := Lib.hid (cur_new h cap 50)
  have hb0 : (w.alloc (.cells #[.slice a len cap, .int .i64 0, .int .u64 0] 50)).heap.size = w.heap.size + 1 := by simp
  clear h
  go_enter Try.func64, Try.ntmps64
  go_wp2_with fail
  refine (anyIntsH_any w.heap.size w.heap.size a len cap 0 _ H.out (by omega)).mono ?_
  rintro e w1 ⟨v, l, hl, _, rfl, hown, hc, hb⟩
  obtain ⟨g1, c1, rfl, hg1, hc1, hrow⟩ := hown.row
  have HC1 := Lib.hid hc
  have HB1 := Lib.hid hb
  have HR1 := Lib.hid hrow
  have hgs : w.heap.size < g1 := by omega
  have hw1 : w.heap.size < w1.heap.size := hc.lt
  clear hown hc hb hrow H hb0
  have HI := Lib.hid (l2List_any _ l w1 (HR1.out.flat hc1) (by omega))
  by_cases hok : OkL l
  · rw [decide_eq_true hok] at HI
    have h64 := hok.1
    clear hok
    go_wp2_with fail
    refine (HI.out).mono ?_
    rintro e w2 ⟨rfl, hb2⟩
    have HC2 := Lib.hid (HC1.out.keep (hb2.mono (show w.heap.size + 1 ≤ w1.heap.size by omega)))
    have HB2 := Lib.hid (HB1.out.trans (But.ofBelow (g := w.heap.size) hb2 (Nat.le_refl _)))
    have HR2 := Lib.hid (HR1.out.below hb2 HR1.out.1)
    have hw2 : w.heap.size < w2.heap.size := by have := hb2.size; omega
    clear hb2 HC1 HB1 HR1 HI
    go_wp2_with fail
    refine (one_any w.heap.size w.heap.size a len cap _ 2 _ HC2.out (by omega) (by omega)).mono ?_
    rintro e w3 ⟨bb, rfl, hc, hb⟩
    have HC3 := Lib.hid hc
    have HB3 := Lib.hid (HB2.out.trans hb)
    have HR3 := Lib.hid (HR2.out.but hb (by omega))
    have hw3 : w.heap.size < w3.heap.size := hc.lt
    clear hc hb HC2 HB2 HR2
    cases bb
    · have HRES : Hid (OneH w (.returned (.slice (some ⟨g1, 0, none⟩) l.length c1)) w3) := Lib.hid ⟨g1, c1, l, hl, rfl, hc1, HR3.out, HB3.out.fresh⟩
      go_wp2_with fail
      go_ret
      exact HRES.out
    · have HSO := Lib.hid (l2Sorted_any g1 0 c1 l w3 (HR3.out.flat hc1) h64)
      go_wp2_with fail
      refine (HSO.out).mono ?_
      rintro e w4 ⟨g2, c2, rfl, hc2, hg2, hrow, hb4⟩
      have HC4 := Lib.hid (HC3.out.keep (hb4.mono (show w.heap.size + 1 ≤ w3.heap.size by omega)))
      have HB4 := Lib.hid (HB3.out.trans (But.ofBelow (g := w.heap.size) hb4 (Nat.le_refl _)))
      have hw4 : w.heap.size < w4.heap.size := by have := hb4.size; omega
      have hg2s : w.heap.size < g2 := by omega
      have hsl := srt_length l
      obtain ⟨S, hS⟩ : ∃ S, S = srt l := ⟨_, rfl⟩
      rw [← hS] at hsl hrow hc2 ⊢
      have HR4 := Lib.hid hrow
      have hS64 : S.length ≤ 64 := by omega
      clear hrow hb4 HC3 HB3 HR3 HSO hS hsl hg2
      by_cases h1 : 1 < S.length
      · have h1z : (1 : Int) < S.length := by omega
        have hgt : decide ((1 : Int) < S.length) = true := decide_eq_true h1z
        go_wp2_with fail
        refine (one_any w.heap.size w.heap.size a len cap _ 2 _ HC4.out (by omega) (by omega)).mono ?_
        rintro e w5 ⟨bb, rfl, hc, hb⟩
        have HC5 := Lib.hid hc
        have HB5 := Lib.hid (HB4.out.trans hb)
        have HR5 := Lib.hid (HR4.out.but hb (by omega))
        have hw5 : w.heap.size < w5.heap.size := hc.lt
        clear hc hb HC4 HB4 HR4
        cases bb
        · have HRES : Hid (OneH w (.returned (.slice (some ⟨g2, 0, none⟩) S.length c2)) w5) := Lib.hid ⟨g2, c2, S, by omega, rfl, hc2, HR5.out, HB5.out.fresh⟩
          go_wp2_with fail
          go_ret
          exact HRES.out
        · obtain ⟨n1, hn1⟩ : ∃ n1, n1 = S.length - 1 := ⟨_, rfl⟩
          have hwn : IntKind.i64.wrap ((S.length : Int) - 1) = (n1 : Int) := by rw [IntKind.wrap_i64]; omega
          have hn0 : 0 < n1 := by omega
          have hn64 : n1 ≤ 64 := by omega
          have HN1 := Lib.hid hn1
          clear hn1
          go_wp2_with fail
          refine (pick_any w.heap.size w.heap.size a len cap _ (n1 : Int) _ HC5.out (by omega) (by omega)).mono ?_
          rintro e w6 ⟨r, hr0, hr1, rfl, hc, hb⟩
          obtain ⟨i, rfl⟩ : ∃ i : Nat, r = i := ⟨r.toNat, by omega⟩
          have hi : i < n1 := by omega
          have hi1 : i + 1 < S.length := by have := HN1.out; omega
          have HB6 := Lib.hid (HB5.out.trans hb)
          have HR6 := Lib.hid (HR5.out.but hb (by omega))
          clear hc hb HC5 HB5 HR5 hr0 hr1
          obtain ⟨x, hx⟩ : ∃ x, x = S.getD i 0 := ⟨_, rfl⟩
          obtain ⟨y, hy⟩ : ∃ y, y = S.getD (i + 1) 0 := ⟨_, rfl⟩
          obtain ⟨hcx, hfx⟩ := HR6.out.2 i _ (ints_at (at_getD (by omega)))
          obtain ⟨hcy, hfy⟩ := HR6.out.2 (i + 1) _ (ints_at (at_getD hi1))
          rw [← hx] at hcx
          rw [← hy] at hcy
          obtain ⟨i1, hi1e⟩ : ∃ i1, i1 = i + 1 := ⟨_, rfl⟩
          rw [← hi1e] at hcy hfy hi1
          have hwi : IntKind.i64.wrap ((i : Int) + 1) = (i1 : Int) := by rw [IntKind.wrap_i64]; omega
          have hiz : (i : Int) < S.length := by omega
          have hi1z : (i1 : Int) < S.length := by omega
          have hne1 : ¬ i = i1 := by omega
          have hne2 : ¬ i1 = i := by omega
          have hiS : i < S.length := by omega
          have HRES : Hid (OneH w (.returned (.slice (some ⟨g2, 0, none⟩) S.length c2)) ((w6.setCell ⟨g2, i, none⟩ (.int .i64 y)).setCell ⟨g2, i1, none⟩ (.int .i64 x))) := Lib.hid (by
            have h1 := (HR6.out.set i (.int .i64 y) (by rw [ints_length]; exact hiS)).set i1 (.int .i64 x) (by rw [List.length_set, ints_length]; exact hi1)
            rw [ints_set, ints_set] at h1
            have hfr := HB6.out.fresh
            refine ⟨g2, c2, (S.set i y).set i1 x, by simp; omega, by simp, by simp; exact hc2, h1, (hfr.setCell (p := ⟨g2, i, none⟩) (by show w.heap.size ≤ g2; omega) _).setCell (p := ⟨g2, i1, none⟩) (by show w.heap.size ≤ g2; omega) _⟩)
          clear hx hy hi1e
          go_wp2_with fail
          go_ret
          exact HRES.out
      · have h1z : ¬ (1 : Int) < S.length := by omega
        have hgt : decide ((1 : Int) < S.length) = false := decide_eq_false h1z
        have HRES : Hid (OneH w (.returned (.slice (some ⟨g2, 0, none⟩) S.length c2)) w4) := Lib.hid ⟨g2, c2, S, by omega, rfl, hc2, HR4.out, HB4.out.fresh⟩
        go_wp2_with fail
        go_ret
        exact HRES.out
  · rw [decide_eq_false hok] at HI
    clear hok
    go_wp2_with fail
    refine (HI.out).mono ?_
    rintro e w2 ⟨rfl, hb2⟩
    have HRES : Hid (OneH w (.returned (.slice (some ⟨g1, 0, none⟩) l.length c1)) w2) := Lib.hid ⟨g1, c1, l, hl, rfl, hc1, HR1.out.below hb2 HR1.out.1, (HB1.out.trans (But.ofBelow (g := w.heap.size) hb2 (Nat.le_refl _))).fresh⟩
    clear hb2 HI
    go_wp2_with fail
    go_ret
    exact HRES.out

end Go.Proofs.Ytjlldjekjnlcaaa
