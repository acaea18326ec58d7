/- toMergeTree, szMergeTree by their contracts. -/
import Derived.Test.YthmcjmjkmmbepaaMtE
import Derived.Test.YthmcjmjkmmbepaaIntSS
import Derived.Test.YthmcjmjkmmbepaaIntSSZ
namespace Go.Proofs.Ythmcjmjkmmbepaa
open Go.RowKit
set_option linter.unusedVariables false

theorem mt_resT {fn : Func} {p : Tmp} (h : fn.results = #[.cell p 50]) (tmps : Array Value) (w : World) {B : Nat} {v : Value} (hp : tmps.getD p undef = .pointer (some ⟨B, 0, none⟩)) (hc : w.cell? ⟨B, 0, none⟩ = some v) :
    (results fn tmps).run Try.prog w = .ok (.agg #[v]) w := by
  have hp' : tmps[p]?.getD undef = .pointer (some ⟨B, 0, none⟩) := by simpa using hp
  simp [results, h, hp', hc, go_sem]

set_option maxRecDepth 100000 in
theorem toMergeTree_any (v : Value) (M : List (List Int)) (w : World) (hv : RowsAt w v (M.map ints)) (hn : M.length ≤ 1048576) (hx : ∀ (j : Nat) x, M[j]? = some x → x.length ≤ 1048576) :
    Calls Try.prog 25 #[.agg #[v]] w fun e w' => ∃ g lo hi G C, w.heap.size ≤ lo ∧ e = .returned (.agg #[.slice (some ⟨g, 0, none⟩) M.length M.length]) ∧ Nest w' g lo hi (M.map ints) G C ∧ Below w.heap.size w w' := by
  obtain ⟨W, hW, h0, h1, h2, hz, hb⟩ := box3 w 47 50 50 v (.slice none 0 0) (.slice none 0 0)
  have HV := Lib.hid (hv.below hb)
  have H1 := Lib.hid h1
  have H2 := Lib.hid h2
  have HB := Lib.hid hb
  have HXX := Lib.hid hx
  clear hv h1 h2 hb hx
  have hc0 := h0.cell
  have hc2 := H2.out.cell
  clear h0
  go_enter Try.func25, Try.ntmps25
  go_wp2_with fail
  rw [← hW]
  refine (toIntSS_any _ M W HV.out hn HXX.out).mono ?_
  rintro e w1 ⟨rfl, ⟨G, C, hnest⟩, hb1⟩
  have hx2 := (boxed_below H2.out hb1 (by omega)).cell
  have hf2 := (boxed_below H2.out hb1 (by omega)).frozen
  have hx1 := (boxed_below H1.out hb1 (by omega)).cell
  have hf1 := (boxed_below H1.out hb1 (by omega)).frozen
  have HR := Lib.hid hnest
  have HB1 := Lib.hid (HB.out.trans (hb1.mono (by omega)))
  clear hnest hb1
  go_wp2_with fail
  refine bodyPost_ret (mt_resT rfl _ _ rfl (World.cell?_setCell_same' _ _ _ (by simp [go_sem, hx1]))) rfl ?_
  have hb2 : But (w.heap.size + 1 + 1) w1 (w1.setCell ⟨w.heap.size + 1 + 1, 0, none⟩ (.slice (some ⟨w.heap.size + 1 + 1 + 1, 0, none⟩) M.length M.length)) := (But.refl _ _).setCell 0 _
  have hb3 := (But.refl (w.heap.size + 1) (w1.setCell ⟨w.heap.size + 1 + 1, 0, none⟩ (.slice (some ⟨w.heap.size + 1 + 1 + 1, 0, none⟩) M.length M.length))).setCell 0 (.slice (some ⟨w.heap.size + 1 + 1 + 1, 0, none⟩) M.length M.length)
  have e1 : w.heap.size + 1 + 1 + 1 = W.heap.size := by omega
  exact ⟨W.heap.size, W.heap.size, w1.heap.size, G, C, by omega, by rw [e1], (HR.out.but hb2 (.inr (by omega))).but hb3 (.inr (by omega)), (HB1.out.setCell (Nat.le_trans (Nat.le_succ _) (Nat.le_succ _)) _).setCell (Nat.le_succ _) _⟩

set_option maxRecDepth 100000 in
theorem szMergeTree_any (v : Value) (M : List (List Int)) (r : Int) (hr : 0 ≤ r ∨ r = -1) (w : World) (h : ∀ W, Below w.heap.size w W → Calls Try.prog 68 #[v, .int .i64 1048576] W fun e w' => e = .returned (.int .i64 r) ∧ W = w') :
    Calls Try.prog 23 #[.agg #[v], .int .i64 1048576] w fun e w' => e = .returned (.int .i64 r) ∧ Below w.heap.size w w' := by
  obtain ⟨W, hW, hx, hz, hb⟩ := box1 w 47 v
  have HB := Lib.hid hb
  have hc0 := hx.cell
  have HSZ := Lib.hid (h W hb)
  clear hb hx h
  rcases hr with hr | hr
  · have hd : decide (r < 0) = false := decide_eq_false (by omega)
    have hq : ¬ r < 0 := by omega
    go_enter Try.func23, Try.ntmps23
    go_wp2_with fail
    rw [← hW]
    refine HSZ.out.mono ?_
    rintro e w1 ⟨rfl, rfl⟩
    clear HSZ
    go_wp2_with fail
    go_ret
    exact ⟨rfl, by first | exact HB.out | (rw [← hW]; exact HB.out)⟩
  · subst hr
    go_enter Try.func23, Try.ntmps23
    go_wp2_with fail
    rw [← hW]
    refine HSZ.out.mono ?_
    rintro e w1 ⟨rfl, rfl⟩
    clear HSZ
    go_wp2_with fail
    go_ret
    exact ⟨rfl, by first | exact HB.out | (rw [← hW]; exact HB.out)⟩

end Go.Proofs.Ythmcjmjkmmbepaa
