/- The draws of the partitions' laws, by contracts. -/
import Derived.Test.YtipdfmedbcafpaaDrawSd
import Derived.Test.YtipdfmedbcafpaaCode
namespace Go.Proofs.Ytipdfmedbcafpaa
open Go.RowKit P El
set_option linter.unusedVariables false

/-- A short list and a small number. -/
def LxQ (w : World) (e : Ending) (w' : World) : Prop :=
  ∃ (g1 c1 : Nat) (L1 : List Int) (x : Int), L1.length ≤ 66 ∧ -100 ≤ x ∧ x ≤ 100 ∧ e = .returned (.tuple #[.slice (some ⟨g1, 0, none⟩) L1.length c1, .int .i64 x]) ∧ L1.length ≤ c1 ∧ CellRow w' g1 (ints L1) ∧ Below w.heap.size w w'
/-- Two numbers. -/
def LxxQ (w : World) (e : Ending) (w' : World) : Prop :=
  ∃ (g1 c1 : Nat) (L1 : List Int) (x y : Int), L1.length ≤ 66 ∧ -100 ≤ x ∧ x ≤ 100 ∧ -100 ≤ y ∧ y ≤ 100 ∧ e = .returned (.tuple #[.slice (some ⟨g1, 0, none⟩) L1.length c1, .int .i64 x, .int .i64 y]) ∧ L1.length ≤ c1 ∧ CellRow w' g1 (ints L1) ∧ Below w.heap.size w w'

theorem drawHoare_any (a : Option Addr) (len cap : Nat) (w : World) (h : Code0 w a len) :
    Calls Try.prog 38 #[.slice a len cap] w (OneH w) := by
  have H := Lib.hid (drawSorted_any a len cap w h)
  clear h
  go_enter Try.func38, Try.ntmps38
  go_wp2_with fail
  refine H.out.mono ?_
  rintro e w1 ⟨g1, c1, l, hl, rfl, hc1, hrow, hb⟩
  have HRES : Hid (OneH w (.returned (.slice (some ⟨g1, 0, none⟩) l.length c1)) w1) := Lib.hid ⟨g1, c1, l, hl, rfl, hc1, hrow, hb⟩
  clear hrow hb H
  go_wp2_with fail
  go_ret
  exact HRES.out
theorem drawQuick_any (a : Option Addr) (len cap : Nat) (w : World) (h : Code0 w a len) :
    Calls Try.prog 47 #[.slice a len cap] w (OneH w) := by
  have H := Lib.hid (drawSorted_any a len cap w h)
  clear h
  go_enter Try.func47, Try.ntmps47
  go_wp2_with fail
  refine H.out.mono ?_
  rintro e w1 ⟨g1, c1, l, hl, rfl, hc1, hrow, hb⟩
  have HRES : Hid (OneH w (.returned (.slice (some ⟨g1, 0, none⟩) l.length c1)) w1) := Lib.hid ⟨g1, c1, l, hl, rfl, hc1, hrow, hb⟩
  clear hrow hb H
  go_wp2_with fail
  go_ret
  exact HRES.out

set_option maxRecDepth 100000 in
set_option maxHeartbeats 4000000 in
theorem drawLom_any (a : Option Addr) (len cap : Nat) (w : World) (h : Code0 w a len) :
    Calls Try.prog 34 #[.slice a len cap] w (LxQ w) := by
  have H := Lib.hid (cur_new h cap 70)
  have hb0 : (w.alloc (.cells #[.slice a len cap, .int .i64 0, .int .u64 0] 70)).heap.size = w.heap.size + 1 := by simp
  clear h
  go_enter Try.func34, Try.ntmps34
  go_wp2_with fail
  refine (anyIntsH_any w.heap.size w.heap.size a len cap 0 _ H.out (by omega)).mono ?_
  rintro e w1 ⟨v, l, hl, _, rfl, hown, hc, hb⟩
  obtain ⟨g1, c1, rfl, hg1, hc1, hrow⟩ := hown.row
  have HC1 := Lib.hid hc
  have HB1 := Lib.hid hb
  have HR1 := Lib.hid hrow
  have hgs : w.heap.size < g1 := by omega
  clear hown hc hb hrow H hb0
  go_wp2_with fail
  refine (pick_any w.heap.size w.heap.size a len cap _ ((l.length : Int) + 2) _ HC1.out (by omega) (by omega)).mono ?_
  rintro e w2 ⟨r, hr0, hr1, rfl, hc, hb⟩
  have hr2 : r ≤ 68 := by omega
  have HC2 := Lib.hid hc
  have HB2 := Lib.hid (HB1.out.trans hb)
  have HR2 := Lib.hid (HR1.out.but hb (by omega))
  clear hc hb HC1 HB1 HR1 hr1
  go_wp2_with fail
  refine (pick_any w.heap.size w.heap.size a len cap _ 2 _ HC2.out (by omega) (by omega)).mono ?_
  rintro e w3 ⟨s, hs0, hs1, rfl, hc, hb⟩
  have hs2 : s ≤ 2 := by omega
  have HRES : Hid (LxQ w (.returned (.tuple #[.slice (some ⟨g1, 0, none⟩) l.length c1, .int .i64 (r - s)])) w3) := Lib.hid ⟨g1, c1, l, r - s, hl, by omega, by omega, rfl, hc1, HR2.out.but hb (by omega), (HB2.out.trans hb).fresh⟩
  clear hc hb HC2 HB2 HR2 hs1
  go_wp2_with fail
  go_ret2
  exact HRES.out

set_option maxRecDepth 100000 in
set_option maxHeartbeats 4000000 in
theorem drawThr_any (a : Option Addr) (len cap : Nat) (w : World) (h : Code0 w a len) :
    Calls Try.prog 41 #[.slice a len cap] w (LxQ w) := by
  have H := Lib.hid (cur_new h cap 70)
  have hb0 : (w.alloc (.cells #[.slice a len cap, .int .i64 0, .int .u64 0] 70)).heap.size = w.heap.size + 1 := by simp
  clear h
  go_enter Try.func41, Try.ntmps41
  go_wp2_with fail
  refine (anyIntsH_any w.heap.size w.heap.size a len cap 0 _ H.out (by omega)).mono ?_
  rintro e w1 ⟨v, l, hl, _, rfl, hown, hc, hb⟩
  obtain ⟨g1, c1, rfl, hg1, hc1, hrow⟩ := hown.row
  have HC1 := Lib.hid hc
  have HB1 := Lib.hid hb
  have HR1 := Lib.hid hrow
  have hgs : w.heap.size < g1 := by omega
  clear hown hc hb hrow H hb0
  go_wp2_with fail
  refine (pick_any w.heap.size w.heap.size a len cap _ 9 _ HC1.out (by omega) (by omega)).mono ?_
  rintro e w2 ⟨r, hr0, hr1, rfl, hc, hb⟩
  have hr2 : r ≤ 9 := by omega
  have HRES : Hid (LxQ w (.returned (.tuple #[.slice (some ⟨g1, 0, none⟩) l.length c1, .int .i64 (r - 1)])) w2) := Lib.hid ⟨g1, c1, l, r - 1, hl, by omega, by omega, rfl, hc1, HR1.out.but hb (by omega), (HB1.out.trans hb).fresh⟩
  clear hc hb HC1 HB1 HR1 hr1
  go_wp2_with fail
  go_ret2
  exact HRES.out

set_option maxRecDepth 100000 in
set_option maxHeartbeats 4000000 in
theorem drawDu_any (a : Option Addr) (len cap : Nat) (w : World) (h : Code0 w a len) :
    Calls Try.prog 44 #[.slice a len cap] w (LxxQ w) := by
  have H := Lib.hid (cur_new h cap 70)
  have hb0 : (w.alloc (.cells #[.slice a len cap, .int .i64 0, .int .u64 0] 70)).heap.size = w.heap.size + 1 := by simp
  clear h
  go_enter Try.func44, Try.ntmps44
  go_wp2_with fail
  refine (anyIntsH_any w.heap.size w.heap.size a len cap 0 _ H.out (by omega)).mono ?_
  rintro e w1 ⟨v, l, hl, _, rfl, hown, hc, hb⟩
  obtain ⟨g1, c1, rfl, hg1, hc1, hrow⟩ := hown.row
  have HC1 := Lib.hid hc
  have HB1 := Lib.hid hb
  have HR1 := Lib.hid hrow
  have hgs : w.heap.size < g1 := by omega
  clear hown hc hb hrow H hb0
  go_wp2_with fail
  refine (pick_any w.heap.size w.heap.size a len cap _ 8 _ HC1.out (by omega) (by omega)).mono ?_
  rintro e w2 ⟨r, hr0, hr1, rfl, hc, hb⟩
  have hr2 : r ≤ 8 := by omega
  have HC2 := Lib.hid hc
  have HB2 := Lib.hid (HB1.out.trans hb)
  have HR2 := Lib.hid (HR1.out.but hb (by omega))
  clear hc hb HC1 HB1 HR1 hr1
  go_wp2_with fail
  refine (pick_any w.heap.size w.heap.size a len cap _ 5 _ HC2.out (by omega) (by omega)).mono ?_
  rintro e w3 ⟨s, hs0, hs1, rfl, hc, hb⟩
  have hs2 : s ≤ 5 := by omega
  have HRES : Hid (LxxQ w (.returned (.tuple #[.slice (some ⟨g1, 0, none⟩) l.length c1, .int .i64 r, .int .i64 (r + s - 1)])) w3) := Lib.hid ⟨g1, c1, l, r, r + s - 1, hl, by omega, by omega, by omega, by omega, rfl, hc1, HR2.out.but hb (by omega), (HB2.out.trans hb).fresh⟩
  clear hc hb HC2 HB2 HR2 hs1
  go_wp2_with fail
  go_ret3
  exact HRES.out

set_option maxRecDepth 100000 in
set_option maxHeartbeats 4000000 in
theorem drawIk_any (a : Option Addr) (len cap : Nat) (w : World) (h : Code0 w a len) :
    Calls Try.prog 50 #[.slice a len cap] w (LxQ w) := by
  have H := Lib.hid (cur_new h cap 70)
  have hb0 : (w.alloc (.cells #[.slice a len cap, .int .i64 0, .int .u64 0] 70)).heap.size = w.heap.size + 1 := by simp
  clear h
  go_enter Try.func50, Try.ntmps50
  go_wp2_with fail
  refine (anyIntsH_any w.heap.size w.heap.size a len cap 0 _ H.out (by omega)).mono ?_
  rintro e w1 ⟨v, l, hl, _, rfl, hown, hc, hb⟩
  obtain ⟨g1, c1, rfl, hg1, hc1, hrow⟩ := hown.row
  have HC1 := Lib.hid hc
  have HB1 := Lib.hid hb
  have HR1 := Lib.hid hrow
  have hgs : w.heap.size < g1 := by omega
  clear hown hc hb hrow H hb0
  go_wp2_with fail
  refine (one_any w.heap.size w.heap.size a len cap _ 12 _ HC1.out (by omega) (by omega)).mono ?_
  rintro e w2 ⟨bb, rfl, hc, hb⟩
  have HC2 := Lib.hid hc
  have HB2 := Lib.hid (HB1.out.trans hb)
  have HR2 := Lib.hid (HR1.out.but hb (by omega))
  clear hc hb HC1 HB1 HR1
  cases bb
  · go_wp2_with fail
    refine (pick_any w.heap.size w.heap.size a len cap _ 5 _ HC2.out (by omega) (by omega)).mono ?_
    rintro e w3 ⟨r, hr0, hr1, rfl, hc, hb⟩
    have hr2 : r ≤ 5 := by omega
    have HRES : Hid (LxQ w (.returned (.tuple #[.slice (some ⟨g1, 0, none⟩) l.length c1, .int .i64 r])) w3) := Lib.hid ⟨g1, c1, l, r, hl, by omega, by omega, rfl, hc1, HR2.out.but hb (by omega), (HB2.out.trans hb).fresh⟩
    clear hc hb HC2 HB2 HR2 hr1
    go_wp2_with fail
    go_ret2
    exact HRES.out
  · go_wp2_with fail
    refine (among_lit w.heap.size w.heap.size a len cap _ [-1, 20, 21] 3 3 _ rfl rfl w2 HC2.out (by omega) (by simp) (by simp)).mono ?_
    rintro e w3 ⟨x, hx, rfl, hc, hb⟩
    obtain ⟨r, hr, rfl⟩ := List.mem_map.1 hx
    have hr2 : -1 ≤ r ∧ r ≤ 21 := by simp at hr; omega
    have HRES : Hid (LxQ w (.returned (.tuple #[.slice (some ⟨g1, 0, none⟩) l.length c1, .int .i64 r])) w3) := Lib.hid ⟨g1, c1, l, r, hl, by omega, by omega, rfl, hc1, HR2.out.but hb (by omega), (HB2.out.trans hb).fresh⟩
    clear hc hb HC2 HB2 HR2 hx hr hr2
    go_wp2_with fail
    go_ret2
    exact HRES.out

end Go.Proofs.Ytipdfmedbcafpaa
