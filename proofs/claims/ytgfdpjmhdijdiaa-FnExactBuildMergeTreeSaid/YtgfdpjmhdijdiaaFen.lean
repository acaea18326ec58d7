/- The laws' small helpers over trees of sums (toFenwick, szFenwick, eqFenwick), by their contracts. -/
import Derived.Test.YtgfdpjmhdijdiaaIntS
import Derived.Test.YtgfdpjmhdijdiaaIntSE
import Derived.RangeFuncBox
namespace Go.Proofs.Ytgfdpjmhdijdiaa
open Go.RowKit

/-- A box, two, three: new ones. -/
theorem box1 (w : World) (t0 : TypeId) (v0 : Value) : ∃ W, W = w.alloc (.cells #[v0] t0) ∧ Boxed W w.heap.size t0 v0 ∧ W.heap.size = w.heap.size + 1 ∧ Below w.heap.size w W :=
  ⟨_, rfl, Boxed.new w _ _, by simp, (Below.refl _ _).alloc (Nat.le_refl _) _⟩
theorem box2 (w : World) (t0 t1 : TypeId) (v0 v1 : Value) : ∃ W, W = (w.alloc (.cells #[v0] t0)).alloc (.cells #[v1] t1) ∧ Boxed W w.heap.size t0 v0 ∧ Boxed W (w.heap.size + 1) t1 v1 ∧ W.heap.size = w.heap.size + 2 ∧ Below w.heap.size w W := by
  obtain ⟨W, hW, h0, hz, hb⟩ := box1 w t0 v0
  rw [← hW]
  refine ⟨_, rfl, h0.alloc _, ?_, by simp [hz], hb.alloc (by omega) _⟩
  have := Boxed.new W t1 v1
  rwa [hz] at this
theorem box3 (w : World) (t0 t1 t2 : TypeId) (v0 v1 v2 : Value) : ∃ W, W = ((w.alloc (.cells #[v0] t0)).alloc (.cells #[v1] t1)).alloc (.cells #[v2] t2) ∧ Boxed W w.heap.size t0 v0 ∧ Boxed W (w.heap.size + 1) t1 v1 ∧ Boxed W (w.heap.size + 1 + 1) t2 v2 ∧ W.heap.size = w.heap.size + 3 ∧ Below w.heap.size w W := by
  obtain ⟨W, hW, h0, h1, hz, hb⟩ := box2 w t0 t1 v0 v1
  rw [← hW]
  refine ⟨_, rfl, h0.alloc _, h1.alloc _, ?_, by simp [hz], hb.alloc (by omega) _⟩
  have := Boxed.new W t2 v2
  rwa [hz] at this
theorem boxed_below {W W' : World} {B n : Nat} {t : TypeId} {v : Value} (h : Boxed W B t v) (hb : Below n W W') (hn : B < n) : Boxed W' B t v := (hb.block B hn).trans h

/-- What a call hands back whose first result is a tree in a box. -/
theorem fen_res1 {fn : Func} {p : Tmp} (h : fn.results = #[.cell p 53]) (tmps : Array Value) (w : World) {B : Nat} {v : Value} (hp : tmps.getD p undef = .pointer (some ⟨B, 0, none⟩)) (hc : w.cell? ⟨B, 0, none⟩ = some v) :
    (results fn tmps).run Try.prog w = .ok (.agg #[v]) w := by
  have hp' : tmps[p]?.getD undef = .pointer (some ⟨B, 0, none⟩) := by simpa using hp
  simp [results, h, hp', hc, go_sem]
theorem fen_res2 {fn : Func} {p q : Tmp} (h : fn.results = #[.cell p 53, .tmp q]) (tmps : Array Value) (w : World) {B : Nat} {v : Value} (hp : tmps.getD p undef = .pointer (some ⟨B, 0, none⟩)) (hc : w.cell? ⟨B, 0, none⟩ = some v) :
    (results fn tmps).run Try.prog w = .ok (.tuple #[.agg #[v], tmps.getD q undef]) w := by
  have hp' : tmps[p]?.getD undef = .pointer (some ⟨B, 0, none⟩) := by simpa using hp
  simp [results, h, hp', hc, go_sem]
theorem fen_res3 {fn : Func} {p q r : Tmp} (h : fn.results = #[.cell p 53, .tmp q, .tmp r]) (tmps : Array Value) (w : World) {B : Nat} {v : Value} (hp : tmps.getD p undef = .pointer (some ⟨B, 0, none⟩)) (hc : w.cell? ⟨B, 0, none⟩ = some v) :
    (results fn tmps).run Try.prog w = .ok (.tuple #[.agg #[v], tmps.getD q undef, tmps.getD r undef]) w := by
  have hp' : tmps[p]?.getD undef = .pointer (some ⟨B, 0, none⟩) := by simpa using hp
  simp [results, h, hp', hc, go_sem]

set_option maxRecDepth 100000 in
theorem toFenwick_any (v : Value) (l : List Int) (w : World) (hv : FlatAt w v l.length (ints l)) (hn : l.length ≤ 1048576) :
    Calls Try.prog 55 #[.agg #[v]] w fun e w' => ∃ g, w.heap.size ≤ g ∧ e = .returned (.agg #[.slice (some ⟨g, 0, none⟩) l.length l.length]) ∧ CellRow w' g (ints l) ∧ Below w.heap.size w w' := by
  obtain ⟨W, hW, h0, h1, h2, hz, hb⟩ := box3 w 66 53 53 v (.slice none 0 0) (.slice none 0 0)
  have HV := Lib.hid (hv.below hb)
  have H1 := Lib.hid h1
  have H2 := Lib.hid h2
  have HB := Lib.hid hb
  clear hv h1 h2 hb
  have hc0 := h0.cell
  have hc2 := H2.out.cell
  clear h0
  go_enter Try.func55, Try.ntmps55
  go_wp2_with fail
  rw [← hW]
  refine (toIntS_any _ l W HV.out hn).mono ?_
  rintro e w1 ⟨rfl, hr, hb1⟩
  have hx2 := (boxed_below H2.out hb1 (by omega)).cell
  have hf2 := (boxed_below H2.out hb1 (by omega)).frozen
  have hx1 := (boxed_below H1.out hb1 (by omega)).cell
  have hf1 := (boxed_below H1.out hb1 (by omega)).frozen
  have HX1 := Lib.hid (boxed_below H1.out hb1 (by omega))
  have HX2 := Lib.hid (boxed_below H2.out hb1 (by omega))
  have HR := Lib.hid (CellRow.of_row hr)
  have HB1 := Lib.hid (HB.out.trans (hb1.mono (by omega)))
  clear hr hb1
  go_wp2_with fail
  refine bodyPost_ret (fen_res1 rfl _ _ rfl (World.cell?_setCell_same' _ _ _ (by simp [go_sem, hx1]))) rfl ?_
  have e1 : w.heap.size + 1 + 1 + 1 = W.heap.size := by omega
  have hb2 : But (w.heap.size + 1 + 1) w1 (w1.setCell ⟨w.heap.size + 1 + 1, 0, none⟩ (.slice (some ⟨w.heap.size + 1 + 1 + 1, 0, none⟩) l.length l.length)) := (But.refl _ _).setCell 0 _
  have hb3 := (But.refl (w.heap.size + 1) (w1.setCell ⟨w.heap.size + 1 + 1, 0, none⟩ (.slice (some ⟨w.heap.size + 1 + 1 + 1, 0, none⟩) l.length l.length))).setCell 0 (.slice (some ⟨w.heap.size + 1 + 1 + 1, 0, none⟩) l.length l.length)
  exact ⟨_, by omega, by rw [e1], (HR.out.but hb2 (by omega)).but hb3 (by omega), (HB1.out.setCell (Nat.le_trans (Nat.le_succ _) (Nat.le_succ _)) _).setCell (Nat.le_succ _) _⟩

set_option maxRecDepth 100000 in
theorem szFenwick_any (v : Value) (l : List Int) (n : Int) (w : World) (hv : FlatAt w v l.length (ints l)) (hl : l.length ≤ 9223372036854775807) (h0 : 0 ≤ n) (hn : n ≤ 1048576) :
    Calls Try.prog 53 #[.agg #[v], .int .i64 n] w fun e w' => e = .returned (.int .i64 (if n < l.length then -1 else n - l.length)) ∧ Below w.heap.size w w' := by
  obtain ⟨W, hW, hx, hz, hb⟩ := box1 w 66 v
  have HV := Lib.hid (hv.below hb)
  have HB := Lib.hid hb
  have hc0 := hx.cell
  clear hv hb hx
  have HSZ : Hid (Calls Try.prog 117 #[v, .int .i64 n] W fun e w' => e = .returned (.int .i64 (if n < l.length then -1 else n - l.length)) ∧ Below W.heap.size W w') := Lib.hid (by
    obtain ⟨a, c, rfl, _, h⟩ := HV.out
    clear h hc0 hW HV
    have hw : IntKind.i64.wrap (n - (l.length : Int)) = n - l.length := by rw [IntKind.wrap_i64]; omega
    by_cases c : n < (l.length : Int)
    · rw [if_pos c]
      have hd : decide (n - (l.length : Int) < 0) = true := decide_eq_true (by omega)
      have hd2 : n - (l.length : Int) < 0 := by omega
      clear c
      go_enter Try.func117, Try.ntmps117
      go_wp2
      go_ret
      exact ⟨rfl, Below.refl _ _⟩
    · rw [if_neg c]
      have hd : decide (n - (l.length : Int) < 0) = false := decide_eq_false (by omega)
      have hd2 : ¬ n - (l.length : Int) < 0 := by omega
      clear c
      go_enter Try.func117, Try.ntmps117
      go_wp2
      go_ret
      exact ⟨rfl, Below.refl _ _⟩)
  clear HV
  by_cases c : n < (l.length : Int)
  · rw [if_pos c] at HSZ ⊢
    go_enter Try.func53, Try.ntmps53
    go_wp2_with fail
    rw [← hW]
    refine HSZ.out.mono ?_
    rintro e w1 ⟨rfl, hb1⟩
    have HB1 := Lib.hid (HB.out.trans (hb1.mono (by omega)))
    clear hb1
    go_wp2_with fail
    go_ret
    exact ⟨rfl, HB1.out⟩
  · rw [if_neg c] at HSZ ⊢
    have hd2 : ¬ n - (l.length : Int) < 0 := by omega
    go_enter Try.func53, Try.ntmps53
    go_wp2_with fail
    rw [← hW]
    refine HSZ.out.mono ?_
    rintro e w1 ⟨rfl, hb1⟩
    have HB1 := Lib.hid (HB.out.trans (hb1.mono (by omega)))
    clear hb1
    go_wp2_with fail
    go_ret
    exact ⟨rfl, HB1.out⟩

set_option maxRecDepth 100000 in
theorem eqFenwick_yes (v v' : Value) (l : List Int) (w : World) (hv : FlatAt w v l.length (ints l)) (hv' : FlatAt w v' l.length (ints l)) (hn : l.length ≤ 1048576) :
    Calls Try.prog 56 #[.agg #[v], .agg #[v']] w fun e w' => e = .returned (.bool true) ∧ Below w.heap.size w w' := by
  obtain ⟨W, hW, h0, h1, hz, hb⟩ := box2 w 53 53 v v'
  have HV := Lib.hid (hv.below hb)
  have HV' := Lib.hid (hv'.below hb)
  have HB := Lib.hid hb
  have hc0 := h0.cell
  have hc1 := h1.cell
  clear hv hv' hb h0 h1
  go_enter Try.func56, Try.ntmps56
  go_wp2_with fail
  rw [← hW]
  refine (eqIntS_yes _ _ l W HV.out HV'.out hn).mono ?_
  rintro e w1 ⟨rfl, hb1⟩
  have HB1 := Lib.hid (HB.out.trans (hb1.mono (by omega)))
  clear hb1
  go_wp2_with fail
  go_ret
  exact ⟨rfl, HB1.out⟩

end Go.Proofs.Ytgfdpjmhdijdiaa
