/- The draw of ShellSort, by its contract. -/
import Derived.Test.YtjmmhakmidddoaaDrawSd
import Derived.Test.YtjmmhakmidddoaaInsR
namespace Go.Proofs.Ytjmmhakmidddoaa
open Go.RowKit P El
set_option linter.unusedVariables false
set_option linter.unusedSimpArgs false
attribute [local go_sem ↓ high] builtin_append_held

theorem Held.made (w : World) (base : Nat) (hb : base ≤ w.heap.size) (gl : List Int) (h : gl.length ≤ 1048576) : Held base (w.alloc (.cells (ints gl).toArray 3)) (.slice (some ⟨w.heap.size, 0, none⟩) gl.length gl.length) gl :=
  ⟨⟨by simp [ints_length], .inr ⟨w.heap.size, gl.length, (ints gl).toArray, rfl, hb, heap_alloc_new w _, Nat.le_refl _, by unfold maxLen; omega, by simp [ints_length], by simp [ints_length, List.take_of_length_le]⟩⟩, _, _, rfl⟩

/-- A short list, not nil, and another one. -/
def TwoH (w : World) (e : Ending) (w' : World) : Prop :=
  ∃ (g1 c1 : Nat) (L1 : List Int) (a2 : Option Addr) (c2 : Nat) (L2 : List Int), L1.length ≤ 66 ∧ L2.length ≤ 5 ∧ e = .returned (.tuple #[.slice (some ⟨g1, 0, none⟩) L1.length c1, .slice a2 L2.length c2]) ∧ L1.length ≤ c1 ∧ CellRow w' g1 (ints L1) ∧ FlatAt w' (.slice a2 L2.length c2) L2.length (ints L2) ∧ Below w.heap.size w w'

set_option maxRecDepth 100000 in
set_option maxHeartbeats 16000000 in
theorem drawShell_any (a : Option Addr) (len cap : Nat) (w : World) (h : Code0 w a len) :
    Calls Try.prog 54 #[.slice a len cap] w (TwoH w) := by
  have H := Lib.hid (cur_new h cap 69)
  have hb0 : (w.alloc (.cells #[.slice a len cap, .int .i64 0, .int .u64 0] 69)).heap.size = w.heap.size + 1 := by simp
  clear h
  go_enter Try.func54, Try.ntmps54
  go_wp2_with fail
  refine (anyIntsH_any w.heap.size w.heap.size a len cap 0 _ H.out (by omega)).mono ?_
  rintro e w1 ⟨v, l, hl, _, rfl, hown, hc, hb⟩
  obtain ⟨g1, c1, rfl, hg1, hc1, hrow⟩ := hown.row
  have hgs : w.heap.size < g1 := by omega
  have hw1 : w.heap.size < w1.heap.size := hc.lt
  have HC1 := Lib.hid (hc.alloc (.cells #[.int .i64 1] 3))
  have HB1 := Lib.hid (hb.trans (But.alloc w.heap.size w1 (.cells #[.int .i64 1] 3)))
  have HR1 := Lib.hid (hrow.below ((Below.refl _ w1).alloc (Nat.le_refl _) (.cells #[.int .i64 1] 3)) hrow.1)
  obtain ⟨B1, hB1⟩ : ∃ B1, B1 = w1.heap.size := ⟨_, rfl⟩
  have hgB : g1 < B1 := by rw [hB1]; exact hrow.1
  have HG1 : Hid (Held B1 (w1.alloc (.cells #[.int .i64 1] 3)) (.slice (some ⟨w1.heap.size, 0, none⟩) 1 1) [1]) := Lib.hid (Held.made w1 B1 (by omega) [1] (by simp))
  have hwB : w.heap.size < B1 := by omega
  have hB1s : B1 ≤ (w1.alloc (.cells #[.int .i64 1] 3)).heap.size := by simp; omega
  clear hown hc hb hrow H hb0
  go_wp2_with fail
  refine (pick_any w.heap.size w.heap.size a len cap _ 5 _ HC1.out (by omega) (by omega)).mono ?_
  rintro e w2 ⟨r, hr0, hr1, rfl, hc, hb⟩
  have HC2 := Lib.hid hc
  have HB2 := Lib.hid (HB1.out.trans hb)
  have HR2 := Lib.hid (HR1.out.but hb (by omega))
  have HG2 := Lib.hid (HG1.out.butH hb hwB)
  have hB2 : B1 ≤ w2.heap.size := Nat.le_trans hB1s hb.size
  generalize w1.heap.size = gs1 at *
  clear hc hb HC1 HB1 HR1 HG1 hB1s hB1
  by_cases r0 : r = 0
  · subst r0
    have HC := Lib.hid (HC2.out.alloc (.cells #[.int .i64 3, .int .i64 1] 3))
    have HB := Lib.hid (HB2.out.trans (But.alloc w.heap.size w2 (.cells #[.int .i64 3, .int .i64 1] 3)))
    have HR := Lib.hid (HR2.out.below ((Below.refl _ w2).alloc (Nat.le_refl _) (.cells #[.int .i64 3, .int .i64 1] 3)) HR2.out.1)
    have HG : Hid (Held B1 (w2.alloc (.cells #[.int .i64 3, .int .i64 1] 3)) (.slice (some ⟨w2.heap.size, 0, none⟩) 2 2) [(3 : Int), 1]) := Lib.hid (Held.made w2 B1 hB2 [(3 : Int), 1] (by simp))
    have hBs : B1 ≤ (w2.alloc (.cells #[.int .i64 3, .int .i64 1] 3)).heap.size := by simp; omega
    generalize hgg : w2.heap.size = gg at *
    clear HC2 HB2 HR2 HG2 hr0 hr1
    go_wp2_with fail
    refine (pick_any w.heap.size w.heap.size a len cap _ 12 _ HC.out (by omega) (by omega)).mono ?_
    rintro e w4 ⟨q, hq0, hq1, rfl, hc, hb⟩
    have HC4 := Lib.hid hc
    have HB4 := Lib.hid (HB.out.trans hb)
    have HR4 := Lib.hid (HR.out.but hb (by omega))
    have HG4 := Lib.hid (HG.out.butH hb hwB)
    have hB4 : B1 ≤ w4.heap.size := Nat.le_trans hBs hb.size
    clear hc hb HC HB HR HG
    by_cases q0 : q = 0
    · subst q0
      clear hq0 hq1
      go_wp2_with fail
      refine (pick_any w.heap.size w.heap.size a len cap _ 70 _ HC4.out (by omega) (by omega)).mono ?_
      rintro e w5 ⟨x, _, _, rfl, hc, hb⟩
      have hB5 : B1 ≤ w5.heap.size := Nat.le_trans hB4 hb.size
      have hg5 := HG4.out.butH hb hwB
      have hr5 := HR4.out.but hb (by omega)
      have hb5 := (HB4.out.trans hb).fresh
      have hlit : Held B1 (w5.alloc (.cells #[.int .i64 x] 3)) (.slice (some ⟨w5.heap.size, 0, none⟩) 1 1) [x] := Held.made w5 B1 hB5 [x] (by simp)
      obtain ⟨gg', gc', hge', _, _, hgr⟩ := hg5.row
      simp at hge'
      obtain ⟨rfl, rfl⟩ := hge'
      have hal : Below w5.heap.size w5 (w5.alloc (.cells #[.int .i64 x] 3)) := (Below.refl _ _).alloc (Nat.le_refl _) _
      obtain ⟨v6, w6, hrun, hO6, hb6⟩ := appendMany B1 _ [x] gg 0 2 [(3 : Int), 1] (w5.alloc (.cells #[.int .i64 x] 3)) hlit (Nat.le_trans hB5 hal.size) (by simp) (fun j u hu => by
        rw [Nat.zero_add]; exact (hal.cell (p := ⟨gg, j, none⟩) hgr.1).trans (hgr.2 j u hu).1)
      simp only [List.length_cons, List.length_nil, Nat.zero_add, Nat.reduceAdd] at hrun
      have hf6 := hO6.flat
      obtain ⟨a6, c6, rfl, _⟩ := id hf6
      have HRES : Hid (TwoH w (.returned (.tuple #[.slice (some ⟨g1, 0, none⟩) l.length c1, .slice a6 ([x] ++ [(3 : Int), 1]).length c6])) w6) := Lib.hid
        ⟨g1, c1, l, a6, c6, [x] ++ [(3 : Int), 1], hl, by simp, rfl, hc1, (hr5.below hal hr5.1).below hb6 hgB, hf6, hb5.trans ((hal.mono (by omega)).trans (hb6.mono (by omega)))⟩
      clear hc hb hg5 hr5 hlit hgr hal hO6 hb6 hf6 hb5
      go_wp2_with fail
      go_ret2
      exact HRES.out
    · by_cases q1 : q = 1
      · subst q1
        clear hq0 hq1 q0
        go_wp2_with fail
        refine (pick_any w.heap.size w.heap.size a len cap _ 2 _ HC4.out (by omega) (by omega)).mono ?_
        rintro e w5 ⟨x, _, _, rfl, hc, hb⟩
        have hB5 : B1 ≤ w5.heap.size := Nat.le_trans hB4 hb.size
        have hg5 := HG4.out.butH hb hwB
        have hr5 := HR4.out.but hb (by omega)
        have hb5 := (HB4.out.trans hb).fresh
        obtain ⟨v6, w6, hrun, hO6, hb6⟩ := appendOne B1 _ [(3 : Int), 1] x w5 hg5 hB5 (by simp)
        have hf6 := hO6.flat
        obtain ⟨a6, c6, rfl, _⟩ := id hf6
        have HRES : Hid (TwoH w (.returned (.tuple #[.slice (some ⟨g1, 0, none⟩) l.length c1, .slice a6 ([(3 : Int), 1] ++ [x]).length c6])) w6) := Lib.hid
          ⟨g1, c1, l, a6, c6, [(3 : Int), 1] ++ [x], hl, by simp, rfl, hc1, hr5.below hb6 hgB, hf6, hb5.trans (hb6.mono (by omega))⟩
        clear hc hb hg5 hr5 hO6 hb6 hf6 hb5
        go_wp2_with fail
        go_ret2
        exact HRES.out
      · by_cases q2 : q = 2
        · subst q2
          clear hq0 hq1 q0 q1
          go_wp2_with fail
          refine (pick_any w.heap.size w.heap.size a len cap _ 2 _ HC4.out (by omega) (by omega)).mono ?_
          rintro e w5 ⟨x, hx0, hx1, rfl, hc, hb⟩
          obtain ⟨k, rfl⟩ : ∃ k : Nat, x = k := ⟨x.toNat, by omega⟩
          have hg5 := HG4.out.butH hb hwB
          have hr5 := HR4.out.but hb (by omega)
          have hb5 := (HB4.out.trans hb).fresh
          obtain ⟨gg', gc', hge', _, hgcap, hgr⟩ := hg5.row
          simp at hge'
          obtain ⟨rfl, rfl⟩ := hge'
          have hk : k ≤ 2 := by omega
          have hkz : (k : Int) ≤ 2 := by omega
          have hkl : ([(3 : Int), 1].take k).length = k := by rw [List.length_take]; show min k 2 = k; omega
          have hf5 : FlatAt w5 (.slice (some ⟨gg, 0, none⟩) k 2) k (ints ([(3 : Int), 1].take k)) := ⟨_, 2, rfl, by simp at hgcap; omega, fun j u hu => ⟨gg, 0, rfl, hgr.1, by
            rw [Nat.zero_add]
            have hj := (List.getElem?_eq_some_iff.1 hu).1
            rw [ints_length, hkl] at hj
            have hu2 : (ints [(3 : Int), 1])[j]? = some u := by unfold ints at hu ⊢; rw [List.getElem?_map, List.getElem?_take_of_lt hj] at hu; rw [List.getElem?_map]; exact hu
            exact (hgr.2 j u hu2).1⟩⟩
          have HRES : Hid (TwoH w (.returned (.tuple #[.slice (some ⟨g1, 0, none⟩) l.length c1, .slice (some ⟨gg, 0, none⟩) k 2])) w5) := Lib.hid
            ⟨g1, c1, l, some ⟨gg, 0, none⟩, 2, [(3 : Int), 1].take k, hl, by omega, by rw [hkl], hc1, hr5, by rw [hkl]; exact hf5, hb5⟩
          clear hc hb hg5 hr5 hgr hb5 hf5 hkl hx0 hx1 hgcap
          go_wp2_with fail
          go_ret2
          exact HRES.out
        · have HRES : Hid (TwoH w (.returned (.tuple #[.slice (some ⟨g1, 0, none⟩) l.length c1, .slice (some ⟨gg, 0, none⟩) 2 2])) w4) := Lib.hid
            ⟨g1, c1, l, some ⟨gg, 0, none⟩, 2, [(3 : Int), 1], hl, by simp, rfl, hc1, HR4.out, HG4.out.flat, HB4.out.fresh⟩
          go_wp2_with fail
          go_ret2
          exact HRES.out
  · by_cases r1 : r = 1
    · subst r1
      have HC := Lib.hid (HC2.out.alloc (.cells #[.int .i64 7, .int .i64 4, .int .i64 1] 3))
      have HB := Lib.hid (HB2.out.trans (But.alloc w.heap.size w2 (.cells #[.int .i64 7, .int .i64 4, .int .i64 1] 3)))
      have HR := Lib.hid (HR2.out.below ((Below.refl _ w2).alloc (Nat.le_refl _) (.cells #[.int .i64 7, .int .i64 4, .int .i64 1] 3)) HR2.out.1)
      have HG : Hid (Held B1 (w2.alloc (.cells #[.int .i64 7, .int .i64 4, .int .i64 1] 3)) (.slice (some ⟨w2.heap.size, 0, none⟩) 3 3) [(7 : Int), 4, 1]) := Lib.hid (Held.made w2 B1 hB2 [(7 : Int), 4, 1] (by simp))
      have hBs : B1 ≤ (w2.alloc (.cells #[.int .i64 7, .int .i64 4, .int .i64 1] 3)).heap.size := by simp; omega
      generalize hgg : w2.heap.size = gg at *
      clear HC2 HB2 HR2 HG2 hr0 hr1
      go_wp2_with fail
      refine (pick_any w.heap.size w.heap.size a len cap _ 12 _ HC.out (by omega) (by omega)).mono ?_
      rintro e w4 ⟨q, hq0, hq1, rfl, hc, hb⟩
      have HC4 := Lib.hid hc
      have HB4 := Lib.hid (HB.out.trans hb)
      have HR4 := Lib.hid (HR.out.but hb (by omega))
      have HG4 := Lib.hid (HG.out.butH hb hwB)
      have hB4 : B1 ≤ w4.heap.size := Nat.le_trans hBs hb.size
      clear hc hb HC HB HR HG
      by_cases q0 : q = 0
      · subst q0
        clear hq0 hq1
        go_wp2_with fail
        refine (pick_any w.heap.size w.heap.size a len cap _ 70 _ HC4.out (by omega) (by omega)).mono ?_
        rintro e w5 ⟨x, _, _, rfl, hc, hb⟩
        have hB5 : B1 ≤ w5.heap.size := Nat.le_trans hB4 hb.size
        have hg5 := HG4.out.butH hb hwB
        have hr5 := HR4.out.but hb (by omega)
        have hb5 := (HB4.out.trans hb).fresh
        have hlit : Held B1 (w5.alloc (.cells #[.int .i64 x] 3)) (.slice (some ⟨w5.heap.size, 0, none⟩) 1 1) [x] := Held.made w5 B1 hB5 [x] (by simp)
        obtain ⟨gg', gc', hge', _, _, hgr⟩ := hg5.row
        simp at hge'
        obtain ⟨rfl, rfl⟩ := hge'
        have hal : Below w5.heap.size w5 (w5.alloc (.cells #[.int .i64 x] 3)) := (Below.refl _ _).alloc (Nat.le_refl _) _
        obtain ⟨v6, w6, hrun, hO6, hb6⟩ := appendMany B1 _ [x] gg 0 3 [(7 : Int), 4, 1] (w5.alloc (.cells #[.int .i64 x] 3)) hlit (Nat.le_trans hB5 hal.size) (by simp) (fun j u hu => by
          rw [Nat.zero_add]; exact (hal.cell (p := ⟨gg, j, none⟩) hgr.1).trans (hgr.2 j u hu).1)
        simp only [List.length_cons, List.length_nil, Nat.zero_add, Nat.reduceAdd] at hrun
        have hf6 := hO6.flat
        obtain ⟨a6, c6, rfl, _⟩ := id hf6
        have HRES : Hid (TwoH w (.returned (.tuple #[.slice (some ⟨g1, 0, none⟩) l.length c1, .slice a6 ([x] ++ [(7 : Int), 4, 1]).length c6])) w6) := Lib.hid
          ⟨g1, c1, l, a6, c6, [x] ++ [(7 : Int), 4, 1], hl, by simp, rfl, hc1, (hr5.below hal hr5.1).below hb6 hgB, hf6, hb5.trans ((hal.mono (by omega)).trans (hb6.mono (by omega)))⟩
        clear hc hb hg5 hr5 hlit hgr hal hO6 hb6 hf6 hb5
        go_wp2_with fail
        go_ret2
        exact HRES.out
      · by_cases q1 : q = 1
        · subst q1
          clear hq0 hq1 q0
          go_wp2_with fail
          refine (pick_any w.heap.size w.heap.size a len cap _ 2 _ HC4.out (by omega) (by omega)).mono ?_
          rintro e w5 ⟨x, _, _, rfl, hc, hb⟩
          have hB5 : B1 ≤ w5.heap.size := Nat.le_trans hB4 hb.size
          have hg5 := HG4.out.butH hb hwB
          have hr5 := HR4.out.but hb (by omega)
          have hb5 := (HB4.out.trans hb).fresh
          obtain ⟨v6, w6, hrun, hO6, hb6⟩ := appendOne B1 _ [(7 : Int), 4, 1] x w5 hg5 hB5 (by simp)
          have hf6 := hO6.flat
          obtain ⟨a6, c6, rfl, _⟩ := id hf6
          have HRES : Hid (TwoH w (.returned (.tuple #[.slice (some ⟨g1, 0, none⟩) l.length c1, .slice a6 ([(7 : Int), 4, 1] ++ [x]).length c6])) w6) := Lib.hid
            ⟨g1, c1, l, a6, c6, [(7 : Int), 4, 1] ++ [x], hl, by simp, rfl, hc1, hr5.below hb6 hgB, hf6, hb5.trans (hb6.mono (by omega))⟩
          clear hc hb hg5 hr5 hO6 hb6 hf6 hb5
          go_wp2_with fail
          go_ret2
          exact HRES.out
        · by_cases q2 : q = 2
          · subst q2
            clear hq0 hq1 q0 q1
            go_wp2_with fail
            refine (pick_any w.heap.size w.heap.size a len cap _ 3 _ HC4.out (by omega) (by omega)).mono ?_
            rintro e w5 ⟨x, hx0, hx1, rfl, hc, hb⟩
            obtain ⟨k, rfl⟩ : ∃ k : Nat, x = k := ⟨x.toNat, by omega⟩
            have hg5 := HG4.out.butH hb hwB
            have hr5 := HR4.out.but hb (by omega)
            have hb5 := (HB4.out.trans hb).fresh
            obtain ⟨gg', gc', hge', _, hgcap, hgr⟩ := hg5.row
            simp at hge'
            obtain ⟨rfl, rfl⟩ := hge'
            have hk : k ≤ 3 := by omega
            have hkz : (k : Int) ≤ 3 := by omega
            have hkl : ([(7 : Int), 4, 1].take k).length = k := by rw [List.length_take]; show min k 3 = k; omega
            have hf5 : FlatAt w5 (.slice (some ⟨gg, 0, none⟩) k 3) k (ints ([(7 : Int), 4, 1].take k)) := ⟨_, 3, rfl, by simp at hgcap; omega, fun j u hu => ⟨gg, 0, rfl, hgr.1, by
              rw [Nat.zero_add]
              have hj := (List.getElem?_eq_some_iff.1 hu).1
              rw [ints_length, hkl] at hj
              have hu2 : (ints [(7 : Int), 4, 1])[j]? = some u := by unfold ints at hu ⊢; rw [List.getElem?_map, List.getElem?_take_of_lt hj] at hu; rw [List.getElem?_map]; exact hu
              exact (hgr.2 j u hu2).1⟩⟩
            have HRES : Hid (TwoH w (.returned (.tuple #[.slice (some ⟨g1, 0, none⟩) l.length c1, .slice (some ⟨gg, 0, none⟩) k 3])) w5) := Lib.hid
              ⟨g1, c1, l, some ⟨gg, 0, none⟩, 3, [(7 : Int), 4, 1].take k, hl, by omega, by rw [hkl], hc1, hr5, by rw [hkl]; exact hf5, hb5⟩
            clear hc hb hg5 hr5 hgr hb5 hf5 hkl hx0 hx1 hgcap
            go_wp2_with fail
            go_ret2
            exact HRES.out
          · have HRES : Hid (TwoH w (.returned (.tuple #[.slice (some ⟨g1, 0, none⟩) l.length c1, .slice (some ⟨gg, 0, none⟩) 3 3])) w4) := Lib.hid
              ⟨g1, c1, l, some ⟨gg, 0, none⟩, 3, [(7 : Int), 4, 1], hl, by simp, rfl, hc1, HR4.out, HG4.out.flat, HB4.out.fresh⟩
            go_wp2_with fail
            go_ret2
            exact HRES.out
    · by_cases r2 : r = 2
      · subst r2
        have HC := Lib.hid (HC2.out.alloc (.cells #[.int .i64 64, .int .i64 5, .int .i64 2, .int .i64 1] 3))
        have HB := Lib.hid (HB2.out.trans (But.alloc w.heap.size w2 (.cells #[.int .i64 64, .int .i64 5, .int .i64 2, .int .i64 1] 3)))
        have HR := Lib.hid (HR2.out.below ((Below.refl _ w2).alloc (Nat.le_refl _) (.cells #[.int .i64 64, .int .i64 5, .int .i64 2, .int .i64 1] 3)) HR2.out.1)
        have HG : Hid (Held B1 (w2.alloc (.cells #[.int .i64 64, .int .i64 5, .int .i64 2, .int .i64 1] 3)) (.slice (some ⟨w2.heap.size, 0, none⟩) 4 4) [(64 : Int), 5, 2, 1]) := Lib.hid (Held.made w2 B1 hB2 [(64 : Int), 5, 2, 1] (by simp))
        have hBs : B1 ≤ (w2.alloc (.cells #[.int .i64 64, .int .i64 5, .int .i64 2, .int .i64 1] 3)).heap.size := by simp; omega
        generalize hgg : w2.heap.size = gg at *
        clear HC2 HB2 HR2 HG2 hr0 hr1
        go_wp2_with fail
        refine (pick_any w.heap.size w.heap.size a len cap _ 12 _ HC.out (by omega) (by omega)).mono ?_
        rintro e w4 ⟨q, hq0, hq1, rfl, hc, hb⟩
        have HC4 := Lib.hid hc
        have HB4 := Lib.hid (HB.out.trans hb)
        have HR4 := Lib.hid (HR.out.but hb (by omega))
        have HG4 := Lib.hid (HG.out.butH hb hwB)
        have hB4 : B1 ≤ w4.heap.size := Nat.le_trans hBs hb.size
        clear hc hb HC HB HR HG
        by_cases q0 : q = 0
        · subst q0
          clear hq0 hq1
          go_wp2_with fail
          refine (pick_any w.heap.size w.heap.size a len cap _ 70 _ HC4.out (by omega) (by omega)).mono ?_
          rintro e w5 ⟨x, _, _, rfl, hc, hb⟩
          have hB5 : B1 ≤ w5.heap.size := Nat.le_trans hB4 hb.size
          have hg5 := HG4.out.butH hb hwB
          have hr5 := HR4.out.but hb (by omega)
          have hb5 := (HB4.out.trans hb).fresh
          have hlit : Held B1 (w5.alloc (.cells #[.int .i64 x] 3)) (.slice (some ⟨w5.heap.size, 0, none⟩) 1 1) [x] := Held.made w5 B1 hB5 [x] (by simp)
          obtain ⟨gg', gc', hge', _, _, hgr⟩ := hg5.row
          simp at hge'
          obtain ⟨rfl, rfl⟩ := hge'
          have hal : Below w5.heap.size w5 (w5.alloc (.cells #[.int .i64 x] 3)) := (Below.refl _ _).alloc (Nat.le_refl _) _
          obtain ⟨v6, w6, hrun, hO6, hb6⟩ := appendMany B1 _ [x] gg 0 4 [(64 : Int), 5, 2, 1] (w5.alloc (.cells #[.int .i64 x] 3)) hlit (Nat.le_trans hB5 hal.size) (by simp) (fun j u hu => by
            rw [Nat.zero_add]; exact (hal.cell (p := ⟨gg, j, none⟩) hgr.1).trans (hgr.2 j u hu).1)
          simp only [List.length_cons, List.length_nil, Nat.zero_add, Nat.reduceAdd] at hrun
          have hf6 := hO6.flat
          obtain ⟨a6, c6, rfl, _⟩ := id hf6
          have HRES : Hid (TwoH w (.returned (.tuple #[.slice (some ⟨g1, 0, none⟩) l.length c1, .slice a6 ([x] ++ [(64 : Int), 5, 2, 1]).length c6])) w6) := Lib.hid
            ⟨g1, c1, l, a6, c6, [x] ++ [(64 : Int), 5, 2, 1], hl, by simp, rfl, hc1, (hr5.below hal hr5.1).below hb6 hgB, hf6, hb5.trans ((hal.mono (by omega)).trans (hb6.mono (by omega)))⟩
          clear hc hb hg5 hr5 hlit hgr hal hO6 hb6 hf6 hb5
          go_wp2_with fail
          go_ret2
          exact HRES.out
        · by_cases q1 : q = 1
          · subst q1
            clear hq0 hq1 q0
            go_wp2_with fail
            refine (pick_any w.heap.size w.heap.size a len cap _ 2 _ HC4.out (by omega) (by omega)).mono ?_
            rintro e w5 ⟨x, _, _, rfl, hc, hb⟩
            have hB5 : B1 ≤ w5.heap.size := Nat.le_trans hB4 hb.size
            have hg5 := HG4.out.butH hb hwB
            have hr5 := HR4.out.but hb (by omega)
            have hb5 := (HB4.out.trans hb).fresh
            obtain ⟨v6, w6, hrun, hO6, hb6⟩ := appendOne B1 _ [(64 : Int), 5, 2, 1] x w5 hg5 hB5 (by simp)
            have hf6 := hO6.flat
            obtain ⟨a6, c6, rfl, _⟩ := id hf6
            have HRES : Hid (TwoH w (.returned (.tuple #[.slice (some ⟨g1, 0, none⟩) l.length c1, .slice a6 ([(64 : Int), 5, 2, 1] ++ [x]).length c6])) w6) := Lib.hid
              ⟨g1, c1, l, a6, c6, [(64 : Int), 5, 2, 1] ++ [x], hl, by simp, rfl, hc1, hr5.below hb6 hgB, hf6, hb5.trans (hb6.mono (by omega))⟩
            clear hc hb hg5 hr5 hO6 hb6 hf6 hb5
            go_wp2_with fail
            go_ret2
            exact HRES.out
          · by_cases q2 : q = 2
            · subst q2
              clear hq0 hq1 q0 q1
              go_wp2_with fail
              refine (pick_any w.heap.size w.heap.size a len cap _ 4 _ HC4.out (by omega) (by omega)).mono ?_
              rintro e w5 ⟨x, hx0, hx1, rfl, hc, hb⟩
              obtain ⟨k, rfl⟩ : ∃ k : Nat, x = k := ⟨x.toNat, by omega⟩
              have hg5 := HG4.out.butH hb hwB
              have hr5 := HR4.out.but hb (by omega)
              have hb5 := (HB4.out.trans hb).fresh
              obtain ⟨gg', gc', hge', _, hgcap, hgr⟩ := hg5.row
              simp at hge'
              obtain ⟨rfl, rfl⟩ := hge'
              have hk : k ≤ 4 := by omega
              have hkz : (k : Int) ≤ 4 := by omega
              have hkl : ([(64 : Int), 5, 2, 1].take k).length = k := by rw [List.length_take]; show min k 4 = k; omega
              have hf5 : FlatAt w5 (.slice (some ⟨gg, 0, none⟩) k 4) k (ints ([(64 : Int), 5, 2, 1].take k)) := ⟨_, 4, rfl, by simp at hgcap; omega, fun j u hu => ⟨gg, 0, rfl, hgr.1, by
                rw [Nat.zero_add]
                have hj := (List.getElem?_eq_some_iff.1 hu).1
                rw [ints_length, hkl] at hj
                have hu2 : (ints [(64 : Int), 5, 2, 1])[j]? = some u := by unfold ints at hu ⊢; rw [List.getElem?_map, List.getElem?_take_of_lt hj] at hu; rw [List.getElem?_map]; exact hu
                exact (hgr.2 j u hu2).1⟩⟩
              have HRES : Hid (TwoH w (.returned (.tuple #[.slice (some ⟨g1, 0, none⟩) l.length c1, .slice (some ⟨gg, 0, none⟩) k 4])) w5) := Lib.hid
                ⟨g1, c1, l, some ⟨gg, 0, none⟩, 4, [(64 : Int), 5, 2, 1].take k, hl, by omega, by rw [hkl], hc1, hr5, by rw [hkl]; exact hf5, hb5⟩
              clear hc hb hg5 hr5 hgr hb5 hf5 hkl hx0 hx1 hgcap
              go_wp2_with fail
              go_ret2
              exact HRES.out
            · have HRES : Hid (TwoH w (.returned (.tuple #[.slice (some ⟨g1, 0, none⟩) l.length c1, .slice (some ⟨gg, 0, none⟩) 4 4])) w4) := Lib.hid
                ⟨g1, c1, l, some ⟨gg, 0, none⟩, 4, [(64 : Int), 5, 2, 1], hl, by simp, rfl, hc1, HR4.out, HG4.out.flat, HB4.out.fresh⟩
              go_wp2_with fail
              go_ret2
              exact HRES.out
      · have HC := HC2
        have HB := HB2
        have HR := HR2
        have HG := HG2
        have hBs := hB2
        clear HC2 HB2 HR2 HG2
        go_wp2_with fail
        refine (pick_any w.heap.size w.heap.size a len cap _ 12 _ HC.out (by omega) (by omega)).mono ?_
        rintro e w4 ⟨q, hq0, hq1, rfl, hc, hb⟩
        have HC4 := Lib.hid hc
        have HB4 := Lib.hid (HB.out.trans hb)
        have HR4 := Lib.hid (HR.out.but hb (by omega))
        have HG4 := Lib.hid (HG.out.butH hb hwB)
        have hB4 : B1 ≤ w4.heap.size := Nat.le_trans hBs hb.size
        clear hc hb HC HB HR HG
        by_cases q0 : q = 0
        · subst q0
          clear hq0 hq1
          go_wp2_with fail
          refine (pick_any w.heap.size w.heap.size a len cap _ 70 _ HC4.out (by omega) (by omega)).mono ?_
          rintro e w5 ⟨x, _, _, rfl, hc, hb⟩
          have hB5 : B1 ≤ w5.heap.size := Nat.le_trans hB4 hb.size
          have hg5 := HG4.out.butH hb hwB
          have hr5 := HR4.out.but hb (by omega)
          have hb5 := (HB4.out.trans hb).fresh
          have hlit : Held B1 (w5.alloc (.cells #[.int .i64 x] 3)) (.slice (some ⟨w5.heap.size, 0, none⟩) 1 1) [x] := Held.made w5 B1 hB5 [x] (by simp)
          obtain ⟨gs1', gc', hge', _, _, hgr⟩ := hg5.row
          simp at hge'
          obtain ⟨rfl, rfl⟩ := hge'
          have hal : Below w5.heap.size w5 (w5.alloc (.cells #[.int .i64 x] 3)) := (Below.refl _ _).alloc (Nat.le_refl _) _
          obtain ⟨v6, w6, hrun, hO6, hb6⟩ := appendMany B1 _ [x] gs1 0 1 [(1 : Int)] (w5.alloc (.cells #[.int .i64 x] 3)) hlit (Nat.le_trans hB5 hal.size) (by simp) (fun j u hu => by
            rw [Nat.zero_add]; exact (hal.cell (p := ⟨gs1, j, none⟩) hgr.1).trans (hgr.2 j u hu).1)
          simp only [List.length_cons, List.length_nil, Nat.zero_add, Nat.reduceAdd] at hrun
          have hf6 := hO6.flat
          obtain ⟨a6, c6, rfl, _⟩ := id hf6
          have HRES : Hid (TwoH w (.returned (.tuple #[.slice (some ⟨g1, 0, none⟩) l.length c1, .slice a6 ([x] ++ [(1 : Int)]).length c6])) w6) := Lib.hid
            ⟨g1, c1, l, a6, c6, [x] ++ [(1 : Int)], hl, by simp, rfl, hc1, (hr5.below hal hr5.1).below hb6 hgB, hf6, hb5.trans ((hal.mono (by omega)).trans (hb6.mono (by omega)))⟩
          clear hc hb hg5 hr5 hlit hgr hal hO6 hb6 hf6 hb5
          go_wp2_with fail
          go_ret2
          exact HRES.out
        · by_cases q1 : q = 1
          · subst q1
            clear hq0 hq1 q0
            go_wp2_with fail
            refine (pick_any w.heap.size w.heap.size a len cap _ 2 _ HC4.out (by omega) (by omega)).mono ?_
            rintro e w5 ⟨x, _, _, rfl, hc, hb⟩
            have hB5 : B1 ≤ w5.heap.size := Nat.le_trans hB4 hb.size
            have hg5 := HG4.out.butH hb hwB
            have hr5 := HR4.out.but hb (by omega)
            have hb5 := (HB4.out.trans hb).fresh
            obtain ⟨v6, w6, hrun, hO6, hb6⟩ := appendOne B1 _ [(1 : Int)] x w5 hg5 hB5 (by simp)
            have hf6 := hO6.flat
            obtain ⟨a6, c6, rfl, _⟩ := id hf6
            have HRES : Hid (TwoH w (.returned (.tuple #[.slice (some ⟨g1, 0, none⟩) l.length c1, .slice a6 ([(1 : Int)] ++ [x]).length c6])) w6) := Lib.hid
              ⟨g1, c1, l, a6, c6, [(1 : Int)] ++ [x], hl, by simp, rfl, hc1, hr5.below hb6 hgB, hf6, hb5.trans (hb6.mono (by omega))⟩
            clear hc hb hg5 hr5 hO6 hb6 hf6 hb5
            go_wp2_with fail
            go_ret2
            exact HRES.out
          · by_cases q2 : q = 2
            · subst q2
              clear hq0 hq1 q0 q1
              go_wp2_with fail
              refine (pick_any w.heap.size w.heap.size a len cap _ 1 _ HC4.out (by omega) (by omega)).mono ?_
              rintro e w5 ⟨x, hx0, hx1, rfl, hc, hb⟩
              obtain ⟨k, rfl⟩ : ∃ k : Nat, x = k := ⟨x.toNat, by omega⟩
              have hg5 := HG4.out.butH hb hwB
              have hr5 := HR4.out.but hb (by omega)
              have hb5 := (HB4.out.trans hb).fresh
              obtain ⟨gs1', gc', hge', _, hgcap, hgr⟩ := hg5.row
              simp at hge'
              obtain ⟨rfl, rfl⟩ := hge'
              have hk : k ≤ 1 := by omega
              have hkz : (k : Int) ≤ 1 := by omega
              have hkl : ([(1 : Int)].take k).length = k := by rw [List.length_take]; show min k 1 = k; omega
              have hf5 : FlatAt w5 (.slice (some ⟨gs1, 0, none⟩) k 1) k (ints ([(1 : Int)].take k)) := ⟨_, 1, rfl, by simp at hgcap; omega, fun j u hu => ⟨gs1, 0, rfl, hgr.1, by
                rw [Nat.zero_add]
                have hj := (List.getElem?_eq_some_iff.1 hu).1
                rw [ints_length, hkl] at hj
                have hu2 : (ints [(1 : Int)])[j]? = some u := by unfold ints at hu ⊢; rw [List.getElem?_map, List.getElem?_take_of_lt hj] at hu; rw [List.getElem?_map]; exact hu
                exact (hgr.2 j u hu2).1⟩⟩
              have HRES : Hid (TwoH w (.returned (.tuple #[.slice (some ⟨g1, 0, none⟩) l.length c1, .slice (some ⟨gs1, 0, none⟩) k 1])) w5) := Lib.hid
                ⟨g1, c1, l, some ⟨gs1, 0, none⟩, 1, [(1 : Int)].take k, hl, by omega, by rw [hkl], hc1, hr5, by rw [hkl]; exact hf5, hb5⟩
              clear hc hb hg5 hr5 hgr hb5 hf5 hkl hx0 hx1 hgcap
              go_wp2_with fail
              go_ret2
              exact HRES.out
            · have HRES : Hid (TwoH w (.returned (.tuple #[.slice (some ⟨g1, 0, none⟩) l.length c1, .slice (some ⟨gs1, 0, none⟩) 1 1])) w4) := Lib.hid
                ⟨g1, c1, l, some ⟨gs1, 0, none⟩, 1, [(1 : Int)], hl, by simp, rfl, hc1, HR4.out, HG4.out.flat, HB4.out.fresh⟩
              go_wp2_with fail
              go_ret2
              exact HRES.out

end Go.Proofs.Ytjmmhakmidddoaa
