/- The model's l1Own, its list the caller's own. -/
import Derived.Test.YthmcjmjkmmbepaaRetI
import Derived.BigQuiet
import Derived.Deep.QuietTactic
namespace Go.Proofs.Ythmcjmjkmmbepaa
open Go.RowKit

attribute [local go_sem ↓ high] builtin_append_held

set_option maxRecDepth 100000 in
theorem l1OwnH_any (b o c : Nat) (l : List Int) (w : World) (hv : FlatAt w (.slice (some ⟨b, o, none⟩) l.length c) l.length (ints l)) (hn : l.length ≤ 1048576) :
    Calls Try.prog 104 #[.slice (some ⟨b, o, none⟩) l.length c] w fun e w' => ∃ g k, e = .returned (.slice (some ⟨g, 0, none⟩) l.length k) ∧ Held w.heap.size w' (.slice (some ⟨g, 0, none⟩) l.length k) l ∧ Below w.heap.size w w' := by
  obtain ⟨a, c', he, _, h⟩ := hv
  simp at he
  obtain ⟨rfl, rfl⟩ := he
  have hst := Held.start w w.heap.size (Nat.le_refl _)
  have hb0 : Below w.heap.size w (w.alloc (.cells #[] 3)) := (Below.refl _ _).alloc (Nat.le_refl _) _
  obtain ⟨v1, w1, hrun, hH, hb1⟩ := appendMany w.heap.size _ [] b o c l _ hst hb0.size (by simp; omega) (fun j u hu => by
    obtain ⟨b', o', e, hbb, hcell⟩ := h j u hu
    simp at e
    obtain ⟨rfl, rfl⟩ := e
    exact (hb0.cell (p := ⟨b, o + j, none⟩) hbb).trans hcell)
  rw [List.nil_append] at hH
  obtain ⟨hH1, g, k, rfl⟩ := hH
  have HRES : Hid (Held w.heap.size w1 (.slice (some ⟨g, 0, none⟩) l.length k) l ∧ Below w.heap.size w w1) := Lib.hid ⟨⟨hH1, g, k, rfl⟩, hb0.trans hb1⟩
  clear h hst hb0 hH1 hb1
  go_enter Try.func104, Try.ntmps104
  go_wp2_with fail
  go_ret
  exact ⟨g, k, rfl, HRES.out⟩

end Go.Proofs.Ythmcjmjkmmbepaa
