/- The draws of the heaps' laws, by contracts. -/
import Derived.Test.YtfcgnfhpfooelaaDrawHp
import Derived.Test.YtfcgnfhpfooelaaCode
namespace Go.Proofs.Ytfcgnfhpfooelaa
open Go.RowKit P El Hp
set_option linter.unusedVariables false

/-- A short list and an arity. -/
def LdC (w : World) (e : Ending) (w' : World) : Prop :=
  ∃ (g1 c1 : Nat) (L1 : List Int) (d : Nat), L1.length ≤ 66 ∧ 1 ≤ d ∧ d ≤ 9 ∧ e = .returned (.tuple #[.slice (some ⟨g1, 0, none⟩) L1.length c1, .int .i64 (d : Int)]) ∧ L1.length ≤ c1 ∧ w.heap.size ≤ g1 ∧ CellRow w' g1 (ints L1) ∧ Below w.heap.size w w'
/-- A number besides. -/
def LdxC (w : World) (e : Ending) (w' : World) : Prop :=
  ∃ (g1 c1 : Nat) (L1 : List Int) (d : Nat) (x : Int), L1.length ≤ 66 ∧ 1 ≤ d ∧ d ≤ 9 ∧ -200000 ≤ x ∧ x ≤ 200000 ∧ e = .returned (.tuple #[.slice (some ⟨g1, 0, none⟩) L1.length c1, .int .i64 (d : Int), .int .i64 x]) ∧ L1.length ≤ c1 ∧ w.heap.size ≤ g1 ∧ CellRow w' g1 (ints L1) ∧ Below w.heap.size w w'
/-- Two lists. -/
def LldC (w : World) (e : Ending) (w' : World) : Prop :=
  ∃ (g1 c1 : Nat) (L1 : List Int) (g2 c2 : Nat) (L2 : List Int) (d : Nat), L1.length ≤ 66 ∧ L2.length ≤ 66 ∧ 1 ≤ d ∧ d ≤ 9 ∧ e = .returned (.tuple #[.slice (some ⟨g1, 0, none⟩) L1.length c1, .slice (some ⟨g2, 0, none⟩) L2.length c2, .int .i64 (d : Int)]) ∧ L1.length ≤ c1 ∧ w.heap.size ≤ g1 ∧ CellRow w' g1 (ints L1) ∧ L2.length ≤ c2 ∧ w.heap.size ≤ g2 ∧ CellRow w' g2 (ints L2) ∧ Below w.heap.size w w'

set_option maxRecDepth 100000 in
set_option maxHeartbeats 4000000 in
theorem drawIsHeap_any (a : Option Addr) (len cap : Nat) (w : World) (h : Code0 w a len) :
    Calls Try.prog 90 #[.slice a len cap] w (LdC w) := by
  have H := Lib.hid (cur_new h cap 75)
  have hb0 : (w.alloc (.cells #[.slice a len cap, .int .i64 0, .int .u64 0] 75)).heap.size = w.heap.size + 1 := by simp
  clear h
  go_enter Try.func90, Try.ntmps90
  go_wp2_with fail
  refine (ari_any w.heap.size w.heap.size a len cap 0 _ H.out (by omega)).mono ?_
  rintro e w1 ⟨d, hd1, hd9, rfl, hc, hb⟩
  have HC1 := Lib.hid hc
  have HB1 := Lib.hid hb
  have hw1 : w.heap.size < w1.heap.size := hc.lt
  clear hc hb
  go_wp2_with fail
  refine (one_any w.heap.size w.heap.size a len cap _ 2 _ HC1.out (by omega) (by omega)).mono ?_
  rintro e w2 ⟨bb, rfl, hc, hb⟩
  have HC2 := Lib.hid hc
  have HB2 := Lib.hid (HB1.out.trans hb)
  have hw2 : w.heap.size < w2.heap.size := hc.lt
  clear hc hb HC1 HB1 H
  cases bb
  · go_wp2_with fail
    refine (anyIntsH_any w.heap.size w.heap.size a len cap _ _ HC2.out (by omega)).mono ?_
    rintro e w3 ⟨v, l, hl, _, rfl, hown, hc, hb⟩
    obtain ⟨g1, c1, rfl, hg1, hc1, hrow⟩ := hown.row
    have HRES : Hid (LdC w (.returned (.tuple #[.slice (some ⟨g1, 0, none⟩) l.length c1, .int .i64 (d : Int)])) w3) := Lib.hid ⟨g1, c1, l, d, hl, hd1, hd9, rfl, hc1, by omega, hrow, (HB2.out.trans hb).fresh⟩
    clear hown hc hb hrow HC2 HB2
    go_wp2_with fail
    go_ret2
    exact HRES.out
  · go_wp2_with fail
    refine (heapD_any w.heap.size w.heap.size a len cap _ d _ HC2.out (by omega)).mono ?_
    rintro e w3 ⟨g1, c1, l, hl, hg1, rfl, hc1, hrow, hc, hb⟩
    have HRES : Hid (LdC w (.returned (.tuple #[.slice (some ⟨g1, 0, none⟩) l.length c1, .int .i64 (d : Int)])) w3) := Lib.hid ⟨g1, c1, l, d, hl, hd1, hd9, rfl, hc1, by omega, hrow, (HB2.out.trans hb).fresh⟩
    clear hc hb hrow HC2 HB2
    go_wp2_with fail
    go_ret2
    exact HRES.out

set_option maxRecDepth 100000 in
theorem drawBuildHeap_any (a : Option Addr) (len cap : Nat) (w : World) (h : Code0 w a len) :
    Calls Try.prog 35 #[.slice a len cap] w (LdC w) := by
  have H := Lib.hid (drawIsHeap_any a len cap w h)
  clear h
  go_enter Try.func35, Try.ntmps35
  go_wp2_with fail
  refine H.out.mono ?_
  rintro e w1 ⟨g1, c1, l, d, hl, hd1, hd9, rfl, hc1, hg1, hrow, hb⟩
  have HRES : Hid (LdC w (.returned (.tuple #[.slice (some ⟨g1, 0, none⟩) l.length c1, .int .i64 (d : Int)])) w1) := Lib.hid ⟨g1, c1, l, d, hl, hd1, hd9, rfl, hc1, hg1, hrow, hb⟩
  clear hrow hb H
  go_wp2_with fail
  go_ret2
  exact HRES.out

set_option maxRecDepth 100000 in
theorem drawHeapSort_any (a : Option Addr) (len cap : Nat) (w : World) (h : Code0 w a len) :
    Calls Try.prog 50 #[.slice a len cap] w (LdC w) := by
  have H := Lib.hid (drawIsHeap_any a len cap w h)
  clear h
  go_enter Try.func50, Try.ntmps50
  go_wp2_with fail
  refine H.out.mono ?_
  rintro e w1 ⟨g1, c1, l, d, hl, hd1, hd9, rfl, hc1, hg1, hrow, hb⟩
  have HRES : Hid (LdC w (.returned (.tuple #[.slice (some ⟨g1, 0, none⟩) l.length c1, .int .i64 (d : Int)])) w1) := Lib.hid ⟨g1, c1, l, d, hl, hd1, hd9, rfl, hc1, hg1, hrow, hb⟩
  clear hrow hb H
  go_wp2_with fail
  go_ret2
  exact HRES.out

set_option maxRecDepth 100000 in
set_option maxHeartbeats 4000000 in
theorem drawPopHeap_any (a : Option Addr) (len cap : Nat) (w : World) (h : Code0 w a len) :
    Calls Try.prog 47 #[.slice a len cap] w (LdC w) := by
  have H := Lib.hid (cur_new h cap 75)
  have hb0 : (w.alloc (.cells #[.slice a len cap, .int .i64 0, .int .u64 0] 75)).heap.size = w.heap.size + 1 := by simp
  clear h
  go_enter Try.func47, Try.ntmps47
  go_wp2_with fail
  refine (ari_any w.heap.size w.heap.size a len cap 0 _ H.out (by omega)).mono ?_
  rintro e w1 ⟨d, hd1, hd9, rfl, hc, hb⟩
  have HC1 := Lib.hid hc
  have HB1 := Lib.hid hb
  have hw1 : w.heap.size < w1.heap.size := hc.lt
  clear hc hb
  go_wp2_with fail
  refine (heapD_any w.heap.size w.heap.size a len cap _ d _ HC1.out (by omega)).mono ?_
  rintro e w3 ⟨g1, c1, l, hl, hg1, rfl, hc1, hrow, hc, hb⟩
  have HRES : Hid (LdC w (.returned (.tuple #[.slice (some ⟨g1, 0, none⟩) l.length c1, .int .i64 (d : Int)])) w3) := Lib.hid ⟨g1, c1, l, d, hl, hd1, hd9, rfl, hc1, by omega, hrow, (HB1.out.trans hb).fresh⟩
  clear hc hb hrow HC1 HB1 H
  go_wp2_with fail
  go_ret2
  exact HRES.out

set_option maxRecDepth 100000 in
set_option maxHeartbeats 4000000 in
theorem drawPushHeap_any (a : Option Addr) (len cap : Nat) (w : World) (h : Code0 w a len) :
    Calls Try.prog 42 #[.slice a len cap] w (LdxC w) := by
  have H := Lib.hid (cur_new h cap 75)
  have hb0 : (w.alloc (.cells #[.slice a len cap, .int .i64 0, .int .u64 0] 75)).heap.size = w.heap.size + 1 := by simp
  clear h
  go_enter Try.func42, Try.ntmps42
  go_wp2_with fail
  refine (ari_any w.heap.size w.heap.size a len cap 0 _ H.out (by omega)).mono ?_
  rintro e w1 ⟨d, hd1, hd9, rfl, hc, hb⟩
  have HC1 := Lib.hid hc
  have HB1 := Lib.hid hb
  have hw1 : w.heap.size < w1.heap.size := hc.lt
  clear hc hb
  go_wp2_with fail
  refine (heapD_any w.heap.size w.heap.size a len cap _ d _ HC1.out (by omega)).mono ?_
  rintro e w2 ⟨g1, c1, l, hl, hg1, rfl, hc1, hrow, hc, hb⟩
  have HC2 := Lib.hid hc
  have HB2 := Lib.hid (HB1.out.trans hb)
  have HR2 := Lib.hid hrow
  have hgs : g1 ≠ w.heap.size := by omega
  clear hc hb hrow HC1 HB1 H
  go_wp2_with fail
  refine (one_any w.heap.size w.heap.size a len cap _ 12 _ HC2.out (by omega) (by omega)).mono ?_
  rintro e w3 ⟨bb, rfl, hc, hb⟩
  have HC3 := Lib.hid hc
  have HB3 := Lib.hid (HB2.out.trans hb)
  have HR3 := Lib.hid (HR2.out.but hb hgs)
  clear hc hb HC2 HB2 HR2
  cases bb
  · go_wp2_with fail
    refine (pick_any w.heap.size w.heap.size a len cap _ 8 _ HC3.out (by omega) (by omega)).mono ?_
    rintro e w4 ⟨r, hr0, hr1, rfl, hc, hb⟩
    have hr2 : r ≤ 8 := by omega
    have HRES : Hid (LdxC w (.returned (.tuple #[.slice (some ⟨g1, 0, none⟩) l.length c1, .int .i64 (d : Int), .int .i64 r])) w4) := Lib.hid ⟨g1, c1, l, d, r, hl, hd1, hd9, by omega, by omega, rfl, hc1, by omega, HR3.out.but hb hgs, (HB3.out.trans hb).fresh⟩
    clear hc hb HC3 HB3 HR3 hr1
    go_wp2_with fail
    go_ret3
    exact HRES.out
  · go_wp2_with fail
    refine (among_lit w.heap.size w.heap.size a len cap _ [100000, 100001, -100001] 3 3 _ rfl rfl w3 HC3.out (by omega) (by simp) (by simp)).mono ?_
    rintro e w4 ⟨x, hx, rfl, hc, hb⟩
    obtain ⟨r, hr, rfl⟩ := List.mem_map.1 hx
    have hr2 : -100001 ≤ r ∧ r ≤ 100001 := by simp at hr; omega
    have HRES : Hid (LdxC w (.returned (.tuple #[.slice (some ⟨g1, 0, none⟩) l.length c1, .int .i64 (d : Int), .int .i64 r])) w4) := Lib.hid ⟨g1, c1, l, d, r, hl, hd1, hd9, by omega, by omega, rfl, hc1, by omega, HR3.out.but hb hgs, (HB3.out.trans hb).fresh⟩
    clear hc hb HC3 HB3 HR3 hx hr hr2
    go_wp2_with fail
    go_ret3
    exact HRES.out

/-- A number and an arity. -/
def NdC (w : World) (e : Ending) (w' : World) : Prop :=
  ∃ (n : Int) (d : Nat), -1 ≤ n ∧ n ≤ 66 ∧ 1 ≤ d ∧ d ≤ 9 ∧ e = .returned (.tuple #[.int .i64 n, .int .i64 (d : Int)]) ∧ Below w.heap.size w w'
set_option maxRecDepth 100000 in
set_option maxHeartbeats 4000000 in
theorem drawHeapDepth_any (a : Option Addr) (len cap : Nat) (w : World) (h : Code0 w a len) :
    Calls Try.prog 53 #[.slice a len cap] w (NdC w) := by
  have H := Lib.hid (cur_new h cap 75)
  have hb0 : (w.alloc (.cells #[.slice a len cap, .int .i64 0, .int .u64 0] 75)).heap.size = w.heap.size + 1 := by simp
  clear h
  go_enter Try.func53, Try.ntmps53
  go_wp2_with fail
  refine (pick_any w.heap.size w.heap.size a len cap 0 67 _ H.out (by omega) (by omega)).mono ?_
  rintro e w0 ⟨r, hr0, hr1, rfl, hc0, hb0'⟩
  have HC0 := Lib.hid hc0
  have HB0 := Lib.hid hb0'
  have hr2 : r ≤ 66 := by omega
  clear hc0 hb0' hr1 H
  go_wp2_with fail
  refine (ari_any w.heap.size w.heap.size a len cap _ _ HC0.out (by omega)).mono ?_
  rintro e w1 ⟨d, hd1, hd9, rfl, hc, hb⟩
  have HC1 := Lib.hid hc
  have HB1 := Lib.hid (HB0.out.trans hb)
  have hw1 : w.heap.size < w1.heap.size := hc.lt
  clear hc hb
  go_wp2_with fail
  go_ret2
  exact ⟨r - 1, d, by omega, by omega, hd1, hd9, rfl, HB1.out.fresh⟩

set_option maxRecDepth 100000 in
set_option maxHeartbeats 4000000 in
theorem drawMergeHeaps_any (a : Option Addr) (len cap : Nat) (w : World) (h : Code0 w a len) :
    Calls Try.prog 55 #[.slice a len cap] w (LldC w) := by
  have H := Lib.hid (cur_new h cap 75)
  have hb0 : (w.alloc (.cells #[.slice a len cap, .int .i64 0, .int .u64 0] 75)).heap.size = w.heap.size + 1 := by simp
  clear h
  go_enter Try.func55, Try.ntmps55
  go_wp2_with fail
  refine (ari_any w.heap.size w.heap.size a len cap 0 _ H.out (by omega)).mono ?_
  rintro e w1 ⟨d, hd1, hd9, rfl, hc, hb⟩
  have HC1 := Lib.hid hc
  have HB1 := Lib.hid hb
  have hw1 : w.heap.size < w1.heap.size := hc.lt
  clear hc hb
  go_wp2_with fail
  refine (heapD_any w.heap.size w.heap.size a len cap _ d _ HC1.out (by omega)).mono ?_
  rintro e w2 ⟨g1, c1, l, hl, hg1, rfl, hc1, hrow, hc, hb⟩
  have HC2 := Lib.hid hc
  have HB2 := Lib.hid (HB1.out.trans hb)
  have HR2 := Lib.hid hrow
  have hgs : g1 ≠ w.heap.size := by omega
  have hw2 : w.heap.size < w2.heap.size := hc.lt
  clear hc hb hrow HC1 HB1 H
  go_wp2_with fail
  refine (heapD_any w.heap.size w.heap.size a len cap _ d _ HC2.out (by omega)).mono ?_
  rintro e w3 ⟨g2, c2, l2, hl2, hg2, rfl, hc2, hrow, hc, hb⟩
  have HRES : Hid (LldC w (.returned (.tuple #[.slice (some ⟨g1, 0, none⟩) l.length c1, .slice (some ⟨g2, 0, none⟩) l2.length c2, .int .i64 (d : Int)])) w3) := Lib.hid ⟨g1, c1, l, g2, c2, l2, d, hl, hl2, hd1, hd9, rfl, hc1, by omega, HR2.out.but hb hgs, hc2, by omega, hrow, (HB2.out.trans hb).fresh⟩
  clear hc hb hrow HC2 HB2 HR2
  go_wp2_with fail
  go_ret3
  exact HRES.out

end Go.Proofs.Ytfcgnfhpfooelaa
