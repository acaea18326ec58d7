/- The draw of GallopSearch, by its contract. -/
import Derived.Test.YtnjabdlhgmaeiaaDrawAH
import Derived.Test.YtnjabdlhgmaeiaaSrt
import Derived.Test.YtnjabdlhgmaeiaaAmong
namespace Go.Proofs.Ytnjabdlhgmaeiaa
open Go.RowKit P El
set_option linter.unusedVariables false

/-- A short list, not nil, and two numbers. -/
def GalD (w : World) (e : Ending) (w' : World) : Prop :=
  ∃ (g1 c1 : Nat) (L1 : List Int) (x h : Int), L1.length ≤ 66 ∧ (-200000 ≤ x ∧ x ≤ 200000) ∧ (-10 ≤ h ∧ h ≤ 100) ∧ e = .returned (.tuple #[.slice (some ⟨g1, 0, none⟩) L1.length c1, .int .i64 x, .int .i64 h]) ∧ L1.length ≤ c1 ∧ CellRow w' g1 (ints L1) ∧ Below w.heap.size w w'

set_option maxRecDepth 100000 in
set_option maxHeartbeats 8000000 in
theorem drawGal_any (a : Option Addr) (len cap : Nat) (w : World) (h : Code0 w a len) :
    Calls Try.prog 40 #[.slice a len cap] w (GalD w) := by
  have H := Lib.hid (cur_new h cap 73)
  have hb0 : (w.alloc (.cells #[.slice a len cap, .int .i64 0, .int .u64 0] 73)).heap.size = w.heap.size + 1 := by simp
  clear h
  go_enter Try.func40, Try.ntmps40
  go_wp2_with fail
  refine (anyIntsH_any w.heap.size w.heap.size a len cap 0 _ H.out (by omega)).mono ?_
  rintro e w1 ⟨v, l, hl, _, rfl, hown, hc, hb⟩
  obtain ⟨g1, c1, rfl, hg1, hc1, hrow⟩ := hown.row
  have HC1 := Lib.hid hc
  have HB1 := Lib.hid hb
  have HR1 := Lib.hid hrow
  have hgs : w.heap.size < g1 := by omega
  have hw1 : w.heap.size < w1.heap.size := hc.lt
  clear hown hc hb hrow H hb0 hg1
  go_wp2_with fail
  refine (one_any w.heap.size w.heap.size a len cap _ 12 _ HC1.out (by omega) (by omega)).mono ?_
  rintro e w3 ⟨bb, rfl, hc, hb⟩
  have HC3 := Lib.hid hc
  have HB3 := Lib.hid (HB1.out.trans hb)
  have HR3 := Lib.hid (HR1.out.but hb (by omega))
  have hw3 : w.heap.size < w3.heap.size := hc.lt
  clear hc hb HC1 HB1 HR1
  cases bb
  · have HSO := Lib.hid (l2Sorted_big g1 0 c1 l w3 (HR3.out.flat hc1) (by omega))
    go_wp2_with fail
    refine (HSO.out).mono ?_
    rintro e w4 ⟨g2, c2, rfl, hc2, hg2, hrow, hb4⟩
    have HC4 := Lib.hid (HC3.out.keep (hb4.mono (show w.heap.size + 1 ≤ w3.heap.size by omega)))
    have HB4 := Lib.hid (HB3.out.trans (But.ofBelow (g := w.heap.size) hb4 (Nat.le_refl _)))
    have hw4 : w.heap.size < w4.heap.size := by have := hb4.size; omega
    have hg2s : w.heap.size < g2 := by omega
    have hsl := srt_length l
    obtain ⟨S, hS⟩ : ∃ S, S = srt l := ⟨_, rfl⟩
    rw [← hS] at hsl hrow hc2 ⊢
    have HR4 := Lib.hid hrow
    have hS66 : S.length ≤ 66 := by omega
    clear hrow hb4 HC3 HB3 HR3 HSO hS hsl hg2
    go_wp2_with fail
    refine (pick_any w.heap.size w.heap.size a len cap _ 9 _ HC4.out (by omega) (by omega)).mono ?_
    rintro e w5 ⟨x, hx0, hx1, rfl, hc, hb⟩
    have hx : -200000 ≤ x - 1 ∧ x - 1 ≤ 200000 := by omega
    have HC5 := Lib.hid hc
    have HB5 := Lib.hid (HB4.out.trans hb)
    have HR5 := Lib.hid (HR4.out.but hb (by omega))
    clear hc hb HC4 HB4 HR4 hx0 hx1
    obtain ⟨x1, hx1⟩ : ∃ x1, x1 = x - 1 := ⟨_, rfl⟩
    rw [← hx1] at hx
    have hwx : IntKind.i64.wrap (x - 1) = x1 := by rw [IntKind.wrap_i64]; omega
    have hxx : x = x1 + 1 := by omega
    subst hxx
    clear hx1 hwx
    go_wp2_with fail
    refine (one_any w.heap.size w.heap.size a len cap _ 6 _ HC5.out (by omega) (by omega)).mono ?_
    rintro e w6 ⟨bb, rfl, hc, hb⟩
    have HC6 := Lib.hid hc
    have HB6 := Lib.hid (HB5.out.trans hb)
    have HR6 := Lib.hid (HR5.out.but hb (by omega))
    clear hc hb HC5 HB5 HR5
    cases bb
    · go_wp2_with fail
      refine (pick_any w.heap.size w.heap.size a len cap _ ((S.length : Int) + 2) _ HC6.out (by omega) (by omega)).mono ?_
      rintro e w8 ⟨p, hp0, hp1, rfl, hc, hb⟩
      have hp : 0 ≤ p ∧ p ≤ 70 := by omega
      have HC8 := Lib.hid hc
      have HB8 := Lib.hid (HB6.out.trans hb)
      have HR8 := Lib.hid (HR6.out.but hb (by omega))
      clear hc hb HC6 HB6 HR6 hp0 hp1
      go_wp2_with fail
      refine (pick_any w.heap.size w.heap.size a len cap _ 2 _ HC8.out (by omega) (by omega)).mono ?_
      rintro e w9 ⟨q, hq0, hq1, rfl, hc, hb⟩
      have hq : 0 ≤ q ∧ q ≤ 2 := by omega
      have HRES : Hid (∀ n, GalD w (.returned (.tuple #[.slice (some ⟨g2, 0, none⟩) S.length c2, .int .i64 x1, .int .i64 (p - q)])) (w9.drewN n)) := Lib.hid (fun n => ⟨g2, c2, S, x1, p - q, hS66, hx, by omega, rfl, hc2, (HR8.out.but hb (by omega)).same rfl (Nat.le_refl _), (HB8.out.trans hb).fresh.trans ⟨rfl, rfl, rfl, Nat.le_refl _, fun _ _ => rfl⟩⟩)
      clear hc hb HC8 HB8 HR8 hq0 hq1
      go_wp2_with fail
      go_ret3
      exact HRES.out 0
    · go_wp2_with fail
      refine (among_lit w.heap.size w.heap.size a len cap _ [100000, 100001, -100000, 500] 4 _ _ rfl rfl _ HC6.out (by omega) (by decide) (by decide)).mono ?_
      rintro e w7 ⟨yv, hy, rfl, hc, hb⟩
      obtain ⟨y, hz, rfl⟩ := List.mem_map.1 hy
      have hyb : -200000 ≤ y ∧ y ≤ 200000 := by simp only [List.mem_cons, List.not_mem_nil, or_false] at hz; omega
      have HC7 := Lib.hid hc
      have HB7 := Lib.hid (HB6.out.trans hb)
      have HR7 := Lib.hid (HR6.out.but hb (by omega))
      clear hc hb HC6 HB6 HR6 hy hz
      go_wp2_with fail
      refine (pick_any w.heap.size w.heap.size a len cap _ ((S.length : Int) + 2) _ HC7.out (by omega) (by omega)).mono ?_
      rintro e w8 ⟨p, hp0, hp1, rfl, hc, hb⟩
      have hp : 0 ≤ p ∧ p ≤ 70 := by omega
      have HC8 := Lib.hid hc
      have HB8 := Lib.hid (HB7.out.trans hb)
      have HR8 := Lib.hid (HR7.out.but hb (by omega))
      clear hc hb HC7 HB7 HR7 hp0 hp1
      go_wp2_with fail
      refine (pick_any w.heap.size w.heap.size a len cap _ 2 _ HC8.out (by omega) (by omega)).mono ?_
      rintro e w9 ⟨q, hq0, hq1, rfl, hc, hb⟩
      have hq : 0 ≤ q ∧ q ≤ 2 := by omega
      have HRES : Hid (∀ n, GalD w (.returned (.tuple #[.slice (some ⟨g2, 0, none⟩) S.length c2, .int .i64 y, .int .i64 (p - q)])) (w9.drewN n)) := Lib.hid (fun n => ⟨g2, c2, S, y, p - q, hS66, hyb, by omega, rfl, hc2, (HR8.out.but hb (by omega)).same rfl (Nat.le_refl _), (HB8.out.trans hb).fresh.trans ⟨rfl, rfl, rfl, Nat.le_refl _, fun _ _ => rfl⟩⟩)
      clear hc hb HC8 HB8 HR8 hq0 hq1
      go_wp2_with fail
      go_ret3
      exact HRES.out 0
  · go_wp2_with fail
    refine (pick_any w.heap.size w.heap.size a len cap _ 9 _ HC3.out (by omega) (by omega)).mono ?_
    rintro e w5 ⟨x, hx0, hx1, rfl, hc, hb⟩
    have hx : -200000 ≤ x - 1 ∧ x - 1 ≤ 200000 := by omega
    have HC5 := Lib.hid hc
    have HB5 := Lib.hid (HB3.out.trans hb)
    have HR5 := Lib.hid (HR3.out.but hb (by omega))
    clear hc hb HC3 HB3 HR3 hx0 hx1
    obtain ⟨x1, hx1⟩ : ∃ x1, x1 = x - 1 := ⟨_, rfl⟩
    rw [← hx1] at hx
    have hwx : IntKind.i64.wrap (x - 1) = x1 := by rw [IntKind.wrap_i64]; omega
    have hxx : x = x1 + 1 := by omega
    subst hxx
    clear hx1 hwx
    go_wp2_with fail
    refine (one_any w.heap.size w.heap.size a len cap _ 6 _ HC5.out (by omega) (by omega)).mono ?_
    rintro e w6 ⟨bb, rfl, hc, hb⟩
    have HC6 := Lib.hid hc
    have HB6 := Lib.hid (HB5.out.trans hb)
    have HR6 := Lib.hid (HR5.out.but hb (by omega))
    clear hc hb HC5 HB5 HR5
    cases bb
    · go_wp2_with fail
      refine (pick_any w.heap.size w.heap.size a len cap _ ((l.length : Int) + 2) _ HC6.out (by omega) (by omega)).mono ?_
      rintro e w8 ⟨p, hp0, hp1, rfl, hc, hb⟩
      have hp : 0 ≤ p ∧ p ≤ 70 := by omega
      have HC8 := Lib.hid hc
      have HB8 := Lib.hid (HB6.out.trans hb)
      have HR8 := Lib.hid (HR6.out.but hb (by omega))
      clear hc hb HC6 HB6 HR6 hp0 hp1
      go_wp2_with fail
      refine (pick_any w.heap.size w.heap.size a len cap _ 2 _ HC8.out (by omega) (by omega)).mono ?_
      rintro e w9 ⟨q, hq0, hq1, rfl, hc, hb⟩
      have hq : 0 ≤ q ∧ q ≤ 2 := by omega
      have HRES : Hid (∀ n, GalD w (.returned (.tuple #[.slice (some ⟨g1, 0, none⟩) l.length c1, .int .i64 x1, .int .i64 (p - q)])) (w9.drewN n)) := Lib.hid (fun n => ⟨g1, c1, l, x1, p - q, hl, hx, by omega, rfl, hc1, (HR8.out.but hb (by omega)).same rfl (Nat.le_refl _), (HB8.out.trans hb).fresh.trans ⟨rfl, rfl, rfl, Nat.le_refl _, fun _ _ => rfl⟩⟩)
      clear hc hb HC8 HB8 HR8 hq0 hq1
      go_wp2_with fail
      go_ret3
      exact HRES.out 0
    · go_wp2_with fail
      refine (among_lit w.heap.size w.heap.size a len cap _ [100000, 100001, -100000, 500] 4 _ _ rfl rfl _ HC6.out (by omega) (by decide) (by decide)).mono ?_
      rintro e w7 ⟨yv, hy, rfl, hc, hb⟩
      obtain ⟨y, hz, rfl⟩ := List.mem_map.1 hy
      have hyb : -200000 ≤ y ∧ y ≤ 200000 := by simp only [List.mem_cons, List.not_mem_nil, or_false] at hz; omega
      have HC7 := Lib.hid hc
      have HB7 := Lib.hid (HB6.out.trans hb)
      have HR7 := Lib.hid (HR6.out.but hb (by omega))
      clear hc hb HC6 HB6 HR6 hy hz
      go_wp2_with fail
      refine (pick_any w.heap.size w.heap.size a len cap _ ((l.length : Int) + 2) _ HC7.out (by omega) (by omega)).mono ?_
      rintro e w8 ⟨p, hp0, hp1, rfl, hc, hb⟩
      have hp : 0 ≤ p ∧ p ≤ 70 := by omega
      have HC8 := Lib.hid hc
      have HB8 := Lib.hid (HB7.out.trans hb)
      have HR8 := Lib.hid (HR7.out.but hb (by omega))
      clear hc hb HC7 HB7 HR7 hp0 hp1
      go_wp2_with fail
      refine (pick_any w.heap.size w.heap.size a len cap _ 2 _ HC8.out (by omega) (by omega)).mono ?_
      rintro e w9 ⟨q, hq0, hq1, rfl, hc, hb⟩
      have hq : 0 ≤ q ∧ q ≤ 2 := by omega
      have HRES : Hid (∀ n, GalD w (.returned (.tuple #[.slice (some ⟨g1, 0, none⟩) l.length c1, .int .i64 y, .int .i64 (p - q)])) (w9.drewN n)) := Lib.hid (fun n => ⟨g1, c1, l, y, p - q, hl, hyb, by omega, rfl, hc1, (HR8.out.but hb (by omega)).same rfl (Nat.le_refl _), (HB8.out.trans hb).fresh.trans ⟨rfl, rfl, rfl, Nat.le_refl _, fun _ _ => rfl⟩⟩)
      clear hc hb HC8 HB8 HR8 hq0 hq1
      go_wp2_with fail
      go_ret3
      exact HRES.out 0

end Go.Proofs.Ytnjabdlhgmaeiaa
