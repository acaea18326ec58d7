/- The draw of a number of elements and a rank, by its contract. -/
import Derived.Test.YtckogbmaahenhaaCode
import Derived.Test.YtckogbmaahenhaaAmong
import Derived.Test.YtckogbmaahenhaaSRank
namespace Go.Proofs.Ytckogbmaahenhaa
open Go.RowKit P

theorem least_any (x y : Int) (w : World) : Calls Try.prog 94 #[.int .i64 x, .int .i64 y] w fun e w' => e = .returned (.int .i64 (min x y)) ∧ w' = w := by
  by_cases h : x < y
  · have hm : min x y = x := by omega
    rw [hm]
    clear hm
    go_enter Try.func94, Try.ntmps94
    go_wp2
    go_ret
    exact ⟨rfl, rfl⟩
  · have hm : min x y = y := by omega
    rw [hm]
    clear hm
    go_enter Try.func94, Try.ntmps94
    go_wp2
    go_ret
    exact ⟨rfl, rfl⟩

/-- Two numbers. -/
def TwoD (w : World) (e : Ending) (w' : World) : Prop :=
  ∃ x y : Int, -1 ≤ x ∧ x ≤ 12 ∧ -1 ≤ y ∧ y ≤ 4000000 ∧ e = .returned (.tuple #[.int .i64 x, .int .i64 y]) ∧ Below w.heap.size w w'

set_option maxRecDepth 100000 in
set_option maxHeartbeats 4000000 in
theorem drawUnr_any (a : Option Addr) (len cap : Nat) (w : World) (h : Code0 w a len) :
    Calls Try.prog 47 #[.slice a len cap] w (TwoD w) := by
  have H := Lib.hid (cur_new h cap 60)
  clear h
  go_enter Try.func47, Try.ntmps47
  go_wp2_with fail
  refine (pick_any w.heap.size w.heap.size a len cap 0 12 _ H.out (by omega) (by omega)).mono ?_
  rintro e w1 ⟨n, hn0, hn1, rfl, hc, hb⟩
  obtain ⟨n, rfl⟩ : ∃ k : Nat, n = k := ⟨n.toNat, by omega⟩
  have hn : n ≤ 11 := by omega
  have HC1 := Lib.hid hc
  have HB1 := Lib.hid hb
  clear hn0 hn1 hc hb H
  go_wp2_with fail
  refine (one_any w.heap.size w.heap.size a len cap _ 12 _ HC1.out (by omega) (by omega)).mono ?_
  rintro e w2 ⟨b, rfl, hc, hb⟩
  have HC2 := Lib.hid hc
  have HB2 := Lib.hid (HB1.out.trans hb)
  clear hc hb HC1 HB1
  cases b
  · have hm7 : min (n : Int) 7 = ((min n 7 : Nat) : Int) := by omega
    have HL1 := Lib.hid (fun W => by have := least_any (n : Int) 7 W; rw [hm7] at this; exact this)
    obtain ⟨q, hq⟩ : ∃ q, q = min n 7 := ⟨_, rfl⟩
    have hq7 : q ≤ 10 := by omega
    rw [← hq] at HL1
    have HF := Lib.hid (fun W => l3Factorial_any q W hq7)
    have HL2 := Lib.hid (fun W => least_any ((P.fact q : Nat) : Int) 40000 W)
    have hfb : min ((P.fact q : Nat) : Int) 40000 ≤ 40000 := by omega
    generalize min ((P.fact q : Nat) : Int) 40000 = t at *
    clear hm7 hq
    go_wp2_with fail
    refine (HL1.out _).mono ?_
    rintro e w3 ⟨rfl, rfl⟩
    go_wp2_with fail
    refine (HF.out _).mono ?_
    rintro e w3 ⟨rfl, rfl⟩
    go_wp2_with fail
    refine (HL2.out _).mono ?_
    rintro e w3 ⟨rfl, rfl⟩
    go_wp2_with fail
    refine (pick_any w.heap.size w.heap.size a len cap _ t _ HC2.out (by omega) (by omega)).mono ?_
    rintro e w4 ⟨r, hr0, hr1, rfl, hc, hb⟩
    have HRES : Hid (TwoD w (.returned (.tuple #[.int .i64 (n : Int), .int .i64 r])) w4) := Lib.hid ⟨n, r, by omega, by omega, by omega, by omega, rfl, (HB2.out.trans hb).fresh⟩
    clear hr0 hr1 hc hb
    go_wp2_with fail
    go_ret2
    exact HRES.out
  · have HA1 := Lib.hid (among_lit w.heap.size w.heap.size a len cap _ [-1, 10, 11, 3] 4 4 #[.int .i64 (-1), .int .i64 10, .int .i64 11, .int .i64 3] rfl rfl w2 HC2.out (by omega) (by simp) (by simp))
    go_wp2_with fail
    refine (HA1.out).mono ?_
    rintro e w3 ⟨y, hy, rfl, hc, hb⟩
    obtain ⟨x, hx, rfl⟩ := List.mem_map.1 hy
    have hxb : -1 ≤ x ∧ x ≤ 12 := by simp only [List.mem_cons, List.not_mem_nil, or_false] at hx; omega
    have HC3 := Lib.hid hc
    have HB3 := Lib.hid (HB2.out.trans hb)
    clear hy hx hc hb HA1 HC2 HB2
    have HA2 := Lib.hid (among_lit w.heap.size w.heap.size a len cap _ [-1, 0, 6, 3628799, 3628800] 5 5 #[.int .i64 (-1), .int .i64 0, .int .i64 6, .int .i64 3628799, .int .i64 3628800] rfl rfl w3 HC3.out (by omega) (by simp) (by simp))
    go_wp2_with fail
    refine (HA2.out).mono ?_
    rintro e w4 ⟨y, hy, rfl, hc, hb⟩
    obtain ⟨z, hz, rfl⟩ := List.mem_map.1 hy
    have hzb : -1 ≤ z ∧ z ≤ 4000000 := by simp only [List.mem_cons, List.not_mem_nil, or_false] at hz; omega
    have HRES : Hid (TwoD w (.returned (.tuple #[.int .i64 x, .int .i64 z])) w4) := Lib.hid ⟨x, z, hxb.1, hxb.2, hzb.1, hzb.2, rfl, (HB3.out.trans hb).fresh⟩
    clear hy hz hc hb
    go_wp2_with fail
    go_ret2
    exact HRES.out

end Go.Proofs.Ytckogbmaahenhaa
