/- slices.Clone at lists of numbers, by its contract. -/
import Derived.Test.YthmcjmjkmmbepaaRetI
import Derived.Lib.SliceRun
import Derived.BigQuiet
import Derived.Deep.QuietTactic
namespace Go.Proofs.Ythmcjmjkmmbepaa
open Go.RowKit

attribute [local go_sem ↓ high] builtin_append_held

set_option maxRecDepth 100000 in
theorem cloneInts_any (b o c : Nat) (l : List Int) (w : World) (hv : FlatAt w (.slice (some ⟨b, o, none⟩) l.length c) l.length (ints l)) (hn : l.length ≤ 1048576) :
    Calls Try.prog 94 #[.slice (some ⟨b, o, none⟩) l.length c] w (RowI l w) := by
  obtain ⟨a, c', he, _, h⟩ := hv
  simp at he
  obtain ⟨rfl, rfl⟩ := he
  have hst := Held.start w w.heap.size (Nat.le_refl _)
  have hb0 : Below w.heap.size w (w.alloc (.cells #[] 3)) := (Below.refl _ _).alloc (Nat.le_refl _) _
  obtain ⟨v1, w1, hrun, hH, hb1⟩ := appendMany w.heap.size _ [] b o c l _ hst hb0.size (by simp; omega) (fun j u hu => by
    obtain ⟨b', o', e, hbb, hcell⟩ := h j u hu
    simp at e
    obtain ⟨rfl, rfl⟩ := e
    exact (hb0.cell (p := ⟨b, o + j, none⟩) hbb).trans hcell)
  rw [List.nil_append] at hH
  obtain ⟨g, cg, rfl, hg, hcg, hrow⟩ := hH.row
  have HRES : Hid (RowI l w (.returned (.slice (some ⟨g, 0, none⟩) l.length cg)) w1) := Lib.hid ⟨g, cg, rfl, hcg, hg, hrow, hb0.trans hb1⟩
  clear h hst hb0 hH hb1 hg hcg hrow
  have q22 : ∀ (w : World) (a : Option Addr) (n c n' c' : Nat), (binOp .eql 34 (.slice a n c) (.slice none n' c')).run Try.prog w = .ok (.bool a.isNone) w := fun w a n c n' c' => Lib.run_eql_slice_nil w _ _ a n c n' c' Try.underlying34
  go_enter Try.func94, Try.ntmps94
  go_wp2_with fail
  go_ret
  exact HRES.out

end Go.Proofs.Ythmcjmjkmmbepaa
