/- The program's sorter of parts: its deferred step back, by its contract. -/
import Derived.Test.YtipdfmedbcafpaaSegB
import Derived.Test.YtipdfmedbcafpaaSrtG
import Derived.Test.YtipdfmedbcafpaaIThr
import Derived.Test.YtipdfmedbcafpaaIMed
import Derived.Defers
import Derived.StillTailTactics
import Derived.Deep.RegionWith
namespace Go.Proofs.Ytipdfmedbcafpaa
open Go.RowKit P El Qk
set_option linter.unusedVariables false

/-- The sorter's cells. -/
def pst (fv : Value) (d q : Nat) : List Value := [fv, .int .i64 (d : Int), .int .i64 (q : Int)]
theorem pst_at {w : World} {s : Nat} {fv : Value} {d q : Nat} (h : CellRow w s (pst fv d q)) :
    w.cell? ⟨s, 0, none⟩ = some fv ∧ w.cell? ⟨s, 1, none⟩ = some (.int .i64 (d : Int)) ∧ w.cell? ⟨s, 2, none⟩ = some (.int .i64 (q : Int)) ∧ w.frozen? ⟨s, 1, none⟩ = false ∧ w.frozen? ⟨s, 2, none⟩ = false := by
  have h0 := h.2 0 _ rfl
  have h1 := h.2 1 _ rfl
  have h2 := h.2 2 _ rfl
  exact ⟨h0.1, h1.1, h2.1, h1.2, h2.2⟩
theorem pst_depth {w : World} {s : Nat} {fv : Value} {d q : Nat} (h : CellRow w s (pst fv d q)) (x : Nat) : CellRow (w.setCell ⟨s, 1, none⟩ (.int .i64 (x : Int))) s (pst fv x q) := by
  rw [show pst fv x q = (pst fv d q).set 1 (.int .i64 (x : Int)) from rfl]; exact h.set 1 _ (by simp [pst])
theorem pst_steps {w : World} {s : Nat} {fv : Value} {d q : Nat} (h : CellRow w s (pst fv d q)) (x : Nat) : CellRow (w.setCell ⟨s, 2, none⟩ (.int .i64 (x : Int))) s (pst fv d x) := by
  rw [show pst fv d x = (pst fv d q).set 2 (.int .i64 (x : Int)) from rfl]; exact h.set 2 _ (by simp [pst])

set_option maxRecDepth 100000 in
theorem psback (p s d : Nat) (u : FrameMode) (w : World) (hp : w.cell? ⟨p, 0, none⟩ = some (.pointer (some ⟨s, 0, none⟩))) (hc : w.cell? ⟨s, 1, none⟩ = some (.int .i64 ((d + 1 : Nat) : Int))) (hf : w.frozen? ⟨s, 1, none⟩ = false) (hd : d ≤ 1000) :
    CallsD Try.prog 140 #[.pointer (some ⟨p, 0, none⟩)] u w fun e u' w' => u' = u ∧ (e = .returned (.tuple #[]) ∧ w' = w.setCell ⟨s, 1, none⟩ (.int .i64 (d : Int))) := by
  have hw : IntKind.i64.wrap (((d + 1 : Nat) : Int) - 1) = (d : Int) := by rw [IntKind.wrap_i64]; omega
  have he : ((d + 1 : Nat) : Int) - 1 = (d : Int) := by omega
  go_enter_d Try.func140, Try.ntmps140
  go_wp2_with fail
  go_end0
  first | exact ⟨rfl, rfl⟩ | (refine ⟨rfl, ?_⟩; rw [he])

end Go.Proofs.Ytipdfmedbcafpaa
