/- The draws of two lists (ApplyPermutation, ComposePermutations), by contracts. -/
import Derived.Test.YtckogbmaahenhaaDrawQA
import Derived.Test.YtckogbmaahenhaaDrawA
namespace Go.Proofs.Ytckogbmaahenhaa
open Go.RowKit

/-- Two short lists. -/
def TwoL (w : World) (e : Ending) (w' : World) : Prop :=
  ∃ (a1 : Option Addr) (c1 : Nat) (L1 : List Int) (a2 : Option Addr) (c2 : Nat) (L2 : List Int), L1.length ≤ 70 ∧ L2.length ≤ 70 ∧ e = .returned (.tuple #[.slice a1 L1.length c1, .slice a2 L2.length c2]) ∧
    FlatAt w' (.slice a1 L1.length c1) L1.length (ints L1) ∧ FlatAt w' (.slice a2 L2.length c2) L2.length (ints L2) ∧ Below w.heap.size w w'

theorem Held.row' {base : Nat} {w : World} {v : Value} {L : List Int} (h : Held base w v L) : ∃ a c, v = .slice a L.length c ∧ FlatAt w (.slice a L.length c) L.length (ints L) := by
  obtain ⟨g, c, rfl, _, hc, hr⟩ := h.row
  exact ⟨_, c, rfl, hr.flat hc⟩
theorem own_row' {base : Nat} {w : World} {v : Value} {L : List Int} (h : w.ownsRow base 3 1 v L.length (ints L)) : ∃ a c, v = .slice a L.length c ∧ FlatAt w (.slice a L.length c) L.length (ints L) := by
  have hf := own_flat h
  have hf2 := hf
  obtain ⟨a, c, rfl, _⟩ := hf2
  exact ⟨a, c, rfl, hf⟩

set_option maxRecDepth 100000 in
set_option maxHeartbeats 4000000 in
theorem drawApply_any (a : Option Addr) (len cap : Nat) (w : World) (h : Code0 w a len) :
    Calls Try.prog 26 #[.slice a len cap] w (TwoL w) := by
  have H := Lib.hid (cur_new h cap 60)
  clear h
  go_enter Try.func26, Try.ntmps26
  go_wp2_with fail
  refine (anyInts_any w.heap.size w.heap.size a len cap 0 _ H.out (by omega)).mono ?_
  rintro e w1 ⟨v2, l2, hl2, _, rfl, hown, hc, hb⟩
  have HC1 := Lib.hid hc
  have HB1 := Lib.hid hb
  obtain ⟨a2, c2, rfl, _⟩ := own_row' hown
  have HO1 := Lib.hid hown
  have hg1 : w.heap.size < w1.heap.size := hc.lt
  have hb0 : (w.alloc (.cells #[.slice a len cap, .int .i64 0, .int .u64 0] 60)).heap.size = w.heap.size + 1 := by simp
  clear hown hc hb H
  go_wp2_with fail
  refine (one_any w.heap.size w.heap.size a len cap _ 8 _ HC1.out (by omega) (by omega)).mono ?_
  rintro e w2 ⟨b, rfl, hc, hb⟩
  have HC2 := Lib.hid hc
  have HB2 := Lib.hid (HB1.out.trans hb)
  have HO2 := Lib.hid (own_but HO1.out hb (by omega))
  clear hc hb HC1 HB1 HO1
  cases b
  · go_wp2_with fail
    refine (permutation_any w.heap.size w.heap.size a len cap _ l2.length _ HC2.out (by omega) (by omega)).mono ?_
    rintro e w3 ⟨v1, L1, hL1, _, rfl, hO, hc, hb⟩
    obtain ⟨a1, c1, rfl, hf1⟩ := hO.row'
    obtain ⟨_, _, e2, hf2⟩ := own_row' (own_but HO2.out hb (by omega))
    simp at e2
    obtain ⟨rfl, rfl⟩ := e2
    have HRES : Hid (TwoL w (.returned (.tuple #[.slice a1 L1.length c1, .slice a2 l2.length c2])) w3) := Lib.hid ⟨a1, c1, L1, a2, c2, l2, by omega, by omega, rfl, hf1, hf2, (HB2.out.trans hb).fresh⟩
    clear hO hc hb hf1 hf2 hL1
    go_wp2_with fail
    go_ret2
    exact HRES.out
  · go_wp2_with fail
    refine (anyPerm_any w.heap.size w.heap.size a len cap _ _ HC2.out (by omega)).mono ?_
    rintro e w3 ⟨v1, L1, hL1, rfl, hO, hc, hb⟩
    obtain ⟨a1, c1, rfl, hf1⟩ := hO.row'
    obtain ⟨_, _, e2, hf2⟩ := own_row' (own_but HO2.out hb (by omega))
    simp at e2
    obtain ⟨rfl, rfl⟩ := e2
    have HRES : Hid (TwoL w (.returned (.tuple #[.slice a1 L1.length c1, .slice a2 l2.length c2])) w3) := Lib.hid ⟨a1, c1, L1, a2, c2, l2, by omega, by omega, rfl, hf1, hf2, (HB2.out.trans hb).fresh⟩
    clear hO hc hb hf1 hf2 hL1
    go_wp2_with fail
    go_ret2
    exact HRES.out

set_option maxRecDepth 100000 in
set_option maxHeartbeats 4000000 in
theorem drawComp_any (a : Option Addr) (len cap : Nat) (w : World) (h : Code0 w a len) :
    Calls Try.prog 30 #[.slice a len cap] w (TwoL w) := by
  have H := Lib.hid (cur_new h cap 60)
  clear h
  go_enter Try.func30, Try.ntmps30
  go_wp2_with fail
  refine (anyPerm_any w.heap.size w.heap.size a len cap 0 _ H.out (by omega)).mono ?_
  rintro e w1 ⟨v2, l2, hl2, rfl, hO, hc, hb⟩
  have HC1 := Lib.hid hc
  have HB1 := Lib.hid hb
  obtain ⟨a2, c2, rfl, _⟩ := hO.row'
  have HO1 := Lib.hid hO
  have hb0 : (w.alloc (.cells #[.slice a len cap, .int .i64 0, .int .u64 0] 60)).heap.size = w.heap.size + 1 := by simp
  clear hO hc hb H
  go_wp2_with fail
  refine (one_any w.heap.size w.heap.size a len cap _ 8 _ HC1.out (by omega) (by omega)).mono ?_
  rintro e w2 ⟨b, rfl, hc, hb⟩
  have HC2 := Lib.hid hc
  have HB2 := Lib.hid (HB1.out.trans hb)
  have HO2 := Lib.hid (HO1.out.but hb (by omega))
  clear hc hb HC1 HB1 HO1
  cases b
  · go_wp2_with fail
    refine (permutation_any w.heap.size w.heap.size a len cap _ l2.length _ HC2.out (by omega) (by omega)).mono ?_
    rintro e w3 ⟨v1, L1, hL1, _, rfl, hO, hc, hb⟩
    obtain ⟨a1, c1, rfl, hf1⟩ := hO.row'
    obtain ⟨_, _, e2, hf2⟩ := (HO2.out.but hb (by omega)).row'
    simp at e2
    obtain ⟨rfl, rfl⟩ := e2
    have HRES : Hid (TwoL w (.returned (.tuple #[.slice a2 l2.length c2, .slice a1 L1.length c1])) w3) := Lib.hid ⟨a2, c2, l2, a1, c1, L1, by omega, by omega, rfl, hf2, hf1, (HB2.out.trans hb).fresh⟩
    clear hO hc hb hf1 hf2 hL1
    go_wp2_with fail
    go_ret2
    exact HRES.out
  · go_wp2_with fail
    refine (anyPerm_any w.heap.size w.heap.size a len cap _ _ HC2.out (by omega)).mono ?_
    rintro e w3 ⟨v1, L1, hL1, rfl, hO, hc, hb⟩
    obtain ⟨a1, c1, rfl, hf1⟩ := hO.row'
    obtain ⟨_, _, e2, hf2⟩ := (HO2.out.but hb (by omega)).row'
    simp at e2
    obtain ⟨rfl, rfl⟩ := e2
    have HRES : Hid (TwoL w (.returned (.tuple #[.slice a2 l2.length c2, .slice a1 L1.length c1])) w3) := Lib.hid ⟨a2, c2, l2, a1, c1, L1, by omega, by omega, rfl, hf2, hf1, (HB2.out.trans hb).fresh⟩
    clear hO hc hb hf1 hf2 hL1
    go_wp2_with fail
    go_ret2
    exact HRES.out

end Go.Proofs.Ytckogbmaahenhaa
