/- The draws of slices that are mostly permutations, by contracts. -/
import Derived.Test.YtjmmhakmidddoaaDrawQ
namespace Go.Proofs.Ytjmmhakmidddoaa
open Go.RowKit

/-- A list drawn: at most n numbers, in a row of its own. -/
def ListQ2 (B g : Nat) (a : Option Addr) (len cap : Nat) (m : Nat) (n : Nat) (w : World) (e : Ending) (w' : World) : Prop :=
  ∃ (v : Value) (L : List Int), L.length ≤ n ∧ e = .returned v ∧ Held w.heap.size w' v L ∧ Cur B g a len cap m w' ∧ But g w w'

attribute [local go_sem ↓ high] builtin_append_held

set_option maxRecDepth 100000 in
set_option maxHeartbeats 8000000 in
theorem anyPerm_any (B g : Nat) (a : Option Addr) (len cap : Nat) (m : Nat) (w : World) (h : Cur B g a len cap m w) (hm : m ≤ 800000) :
    Calls Try.prog 98 #[.pointer (some ⟨g, 0, none⟩)] w (ListQ2 B g a len cap (m + 400) 66 w) := by
  have H := Lib.hid h
  have hgl := h.lt
  clear h
  go_enter Try.func98, Try.ntmps98
  go_wp2_with fail
  refine (pick_any B g a len cap m 9 _ H.out (by omega) (by omega)).mono ?_
  rintro e w1 ⟨n, hn0, hn1, rfl, hc, hb⟩
  obtain ⟨n, rfl⟩ : ∃ k : Nat, n = k := ⟨n.toNat, by omega⟩
  have HC1 := Lib.hid hc
  have HB1 := Lib.hid hb
  have hn8 : n ≤ 8 := by omega
  clear hc hb hn0 hn1 H
  go_wp2_with fail
  refine (permutation_any B g a len cap _ n _ HC1.out (by omega) (by omega)).mono ?_
  rintro e w2 ⟨v, L, hL, _, rfl, hO, hc, hb⟩
  have HC2 := Lib.hid (hc.more (show m + 2 + 2 * n ≤ m + 20 by omega))
  have HB2 := Lib.hid (HB1.out.trans hb)
  have HO2 := Lib.hid (hO.lower HB1.out.size)
  have hL8 : L.length ≤ 8 := by omega
  obtain ⟨go, co, rfl, _, _, _⟩ := hO.row
  clear hc hb hO hL HC1 HB1
  go_wp2_with fail
  refine (pick_any B g a len cap _ 16 _ HC2.out (by omega) (by omega)).mono ?_
  rintro e w3 ⟨r, hr0, hr1, rfl, hc, hb⟩
  have HC3 := Lib.hid hc
  have HB3 := Lib.hid (HB2.out.trans hb)
  have HO3 := Lib.hid (HO2.out.but hb (by omega))
  have hs3 : w.heap.size ≤ w3.heap.size := HB3.out.size
  have hg3 := HC3.out.lt
  clear hc hb HC2 HB2 HO2
  by_cases h0 : r = 0
  · subst h0
    have hwl : IntKind.i64.wrap ((L.length : Int) + 1) = ((L.length + 1 : Nat) : Int) := by rw [IntKind.wrap_i64]; omega
    have HAM := Lib.hid (among_lit B g a len cap (m + 20 + 2) [-1, 0, 9, (L.length : Int), ((L.length + 1 : Nat) : Int)] 5 5 #[.int .i64 (-1), .int .i64 0, .int .i64 9, .int .i64 (L.length : Int), .int .i64 ((L.length + 1 : Nat) : Int)] rfl rfl w3 HC3.out (by omega) (by simp) (by simp))
    go_wp2_with fail
    refine (HAM.out).mono ?_
    rintro e w4 ⟨y, hy, rfl, hc, hb⟩
    obtain ⟨x, hx, rfl⟩ := List.mem_map.1 hy
    have HC4 := Lib.hid hc
    have HB4 := Lib.hid (HB3.out.trans hb)
    have hO4 := HO3.out.but hb hgl
    obtain ⟨v5, w5, hrun, hO5, hb5⟩ := appendOne w.heap.size _ L x w4 hO4 HB4.out.size (by omega)
    have HRES : Hid (ListQ2 B g a len cap (m + 400) 66 w (.returned v5) w5) := Lib.hid ⟨v5, L ++ [x], by simp; omega, rfl, hO5, (HC4.out.keep (hb5.mono (show g + 1 ≤ w.heap.size by omega))).more (by omega), HB4.out.then_belowQ hb5⟩
    clear hc hb hy hx hO4 hO5 hb5 HAM
    go_wp2_with fail
    go_ret
    exact HRES.out
  · by_cases h1 : r = 1
    · subst h1
      have HAM := Lib.hid (among_lit B g a len cap (m + 20 + 2) [10, 11, 20, 64] 4 4 #[.int .i64 10, .int .i64 11, .int .i64 20, .int .i64 64] rfl rfl w3 HC3.out (by omega) (by simp) (by simp))
      go_wp2_with fail
      refine (HAM.out).mono ?_
      rintro e w4 ⟨y, hy, rfl, hc, hb⟩
      obtain ⟨x, hx, rfl⟩ := List.mem_map.1 hy
      have hx64 : 0 ≤ x ∧ x ≤ 64 := by simp only [List.mem_cons, List.not_mem_nil, or_false] at hx; omega
      obtain ⟨x, rfl⟩ : ∃ k : Nat, x = k := ⟨x.toNat, by omega⟩
      have HC4 := Lib.hid hc
      have HB4 := Lib.hid (HB3.out.trans hb)
      clear hc hb hy hx HAM
      go_wp2_with fail
      refine (permutation_any B g a len cap _ x _ HC4.out (by omega) (by omega)).mono ?_
      rintro e w5 ⟨v5, L5, hL5, _, rfl, hO5, hc5, hb5⟩
      have HRES : Hid (ListQ2 B g a len cap (m + 400) 66 w (.returned v5) w5) := Lib.hid ⟨v5, L5, by omega, rfl, hO5.lower HB4.out.size, hc5.more (by omega), HB4.out.trans hb5⟩
      clear hO5 hc5 hb5 hL5
      go_wp2_with fail
      go_ret
      exact HRES.out
    · by_cases h2 : r = 2
      · subst h2
        go_wp2_with fail
        refine (permutation_any B g a len cap _ 64 _ HC3.out (by omega) (by omega)).mono ?_
        rintro e w5 ⟨v5, L5, hL5, _, rfl, hO5, hc5, hb5⟩
        have HB5 := Lib.hid (HB3.out.trans hb5)
        have hO6 := hO5.lower hs3
        obtain ⟨v6, w6, hrun, hO7, hb7⟩ := appendOne w.heap.size _ L5 64 w5 hO6 HB5.out.size (by omega)
        have HRES : Hid (ListQ2 B g a len cap (m + 400) 66 w (.returned v6) w6) := Lib.hid ⟨v6, L5 ++ [64], by simp; omega, rfl, hO7, (hc5.keep (hb7.mono (show g + 1 ≤ w.heap.size by omega))).more (by omega), HB5.out.then_belowQ hb7⟩
        clear hL5 hO5 hO6 hO7 hc5 hb5 hb7
        go_wp2_with fail
        go_ret
        exact HRES.out
      · have HRES : Hid (ListQ2 B g a len cap (m + 400) 66 w (.returned (.slice (some ⟨go, 0, none⟩) L.length co)) w3) := Lib.hid ⟨_, L, by omega, rfl, HO3.out, HC3.out.more (by omega), HB3.out⟩
        go_wp2_with fail
        go_ret
        exact HRES.out

/-- What the draws of the laws hand back: a short list in a row of its own. -/
def ListD (n : Nat) (w : World) (e : Ending) (w' : World) : Prop :=
  ∃ (g c : Nat) (L : List Int), L.length ≤ n ∧ e = .returned (.slice (some ⟨g, 0, none⟩) L.length c) ∧ L.length ≤ c ∧ w.heap.size ≤ g ∧ CellRow w' g (ints L) ∧ Below w.heap.size w w'

set_option maxRecDepth 100000 in
theorem drawPerm_any (a : Option Addr) (len cap : Nat) (w : World) (h : Code0 w a len) :
    Calls Try.prog 58 #[.slice a len cap] w (ListD 66 w) := by
  have H := Lib.hid (cur_new h cap 69)
  clear h
  go_enter Try.func58, Try.ntmps58
  go_wp2_with fail
  refine (anyPerm_any w.heap.size w.heap.size a len cap 0 _ H.out (by omega)).mono ?_
  rintro e w1 ⟨v, L, hL, rfl, hO, hc, hb⟩
  obtain ⟨g, c, rfl, hg, hcc, hrow⟩ := hO.row
  have hlow : w.heap.size ≤ g := by simp at hg; omega
  have HRES : Hid (ListD 66 w (.returned (.slice (some ⟨g, 0, none⟩) L.length c)) w1) := Lib.hid ⟨g, c, L, hL, rfl, hcc, hlow, hrow, hb.fresh⟩
  clear hO hc hb hg hcc hrow
  go_wp2_with fail
  go_ret
  exact HRES.out

end Go.Proofs.Ytjmmhakmidddoaa
