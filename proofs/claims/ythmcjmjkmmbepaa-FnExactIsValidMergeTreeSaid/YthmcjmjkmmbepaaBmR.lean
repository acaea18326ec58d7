/- What BuildMergeTree answers. -/
import Derived.Test.YthmcjmjkmmbepaaSBt
namespace Go.Proofs.Ythmcjmjkmmbepaa
open Go.RowKit P El Mt
set_option linter.unusedVariables false

/-- The levels of a valid list, or none. -/
noncomputable def bmF (l : List Int) : List (List Int) × Bool := open Classical in if OkL l then (lvs l, true) else ([], false)
theorem bmF_yes {l : List Int} (h : OkL l) : bmF l = (lvs l, true) := if_pos h
theorem bmF_no {l : List Int} (h : ¬ OkL l) : bmF l = ([], false) := if_neg h
/-- A new tree of levels and a bool. -/
def RetMTb (r : List (List Int) × Bool) (w : World) (e : Ending) (w' : World) : Prop :=
  ∃ v X, e = .returned (.tuple #[.agg #[v], .bool r.2]) ∧ HeldZ w.heap.size w' v X ∧ X.map ZRow.L = r.1 ∧ Below w.heap.size w w'

theorem mt_res2 {fn : Func} {p q : Tmp} (h : fn.results = #[.cell p 50, .tmp q]) (tmps : Array Value) (w : World) {B : Nat} {v : Value} (hp : tmps.getD p undef = .pointer (some ⟨B, 0, none⟩)) (hc : w.cell? ⟨B, 0, none⟩ = some v) :
    (results fn tmps).run Try.prog w = .ok (.tuple #[.agg #[v], tmps.getD q undef]) w := by
  have hp' : tmps[p]?.getD undef = .pointer (some ⟨B, 0, none⟩) := by simpa using hp
  simp [results, h, hp', hc, go_sem]

end Go.Proofs.Ythmcjmjkmmbepaa
