/- A list of strings in memory, and rows of cells: plain words for the contracts. -/
import Derived.Test.YtjlldjekjnlcaaaRows
import Derived.WalkKit
import Derived.Lib.Hide
import Derived.Lib.Strings
import Derived.BigQuiet
import Derived.Deep.QuietTactic
import Derived.Laws.MakeOwn
import Derived.LoopTactic
import Derived.Test.YtjlldjekjnlcaaaFlat
namespace Go.Proofs.Ytjlldjekjnlcaaa
open Go.RowKit

/-- A list of strings stands in memory as the slice v. -/
def StrsAt (w : World) (v : Value) (xs : List ByteArray) : Prop :=
  ∃ a c, v = .slice a xs.length c ∧ xs.length ≤ c ∧ ∀ (j : Nat) x, xs[j]? = some x → ∃ b o, a = some ⟨b, o, none⟩ ∧ b < w.heap.size ∧ w.cell? ⟨b, o + j, none⟩ = some (.string x)

theorem StrsAt.below {w w' : World} {v : Value} {xs : List ByteArray} (h : StrsAt w v xs) (hb : Below w.heap.size w w') : StrsAt w' v xs := by
  obtain ⟨a, c, rfl, hcap, h⟩ := h
  refine ⟨a, c, rfl, hcap, fun j x hx => ?_⟩
  obtain ⟨b, o, rfl, hlt, hc⟩ := h j x hx
  exact ⟨b, o, rfl, Nat.lt_of_lt_of_le hlt hb.size, (hb.cell (p := ⟨b, o + j, none⟩) hlt).trans hc⟩

/-- The shape of a slice of strings that holds at least one. -/
theorem StrsAt.some_of {w : World} {v : Value} {xs : List ByteArray} (h : StrsAt w v xs) (hne : 1 ≤ xs.length) :
    ∃ b o c, v = .slice (some ⟨b, o, none⟩) xs.length c ∧ xs.length ≤ c ∧ b < w.heap.size ∧ ∀ (j : Nat) x, xs[j]? = some x → w.cell? ⟨b, o + j, none⟩ = some (.string x) := by
  obtain ⟨a, c, rfl, hcap, h⟩ := h
  obtain ⟨b, o, rfl, hlt, _⟩ := h 0 xs[0] (List.getElem?_eq_getElem hne)
  refine ⟨b, o, c, rfl, hcap, hlt, fun j x hx => ?_⟩
  obtain ⟨b', o', e, _, hc⟩ := h j x hx
  injection e with e
  injection e with e1 e2
  subst e1; subst e2
  exact hc

def bytesOf (xs : List ByteArray) : Nat := (xs.map ByteArray.size).sum

theorem bytesOf_succ {xs : List ByteArray} {k : Nat} {x : ByteArray} (h : xs[k]? = some x) : bytesOf (xs.take (k + 1)) = bytesOf (xs.take k) + x.size := by
  unfold bytesOf; rw [List.take_add_one, h]; simp
theorem bytesOf_take (xs : List ByteArray) (k : Nat) : bytesOf (xs.take k) ≤ bytesOf xs := by
  have h : bytesOf xs = bytesOf (xs.take k) + bytesOf (xs.drop k) := by
    unfold bytesOf; rw [← List.sum_append, ← List.map_append, List.take_append_drop]
  omega
theorem bytesOf_mem {xs : List ByteArray} {k : Nat} {x : ByteArray} (h : xs[k]? = some x) : x.size ≤ bytesOf xs := by
  have := bytesOf_succ h
  have := bytesOf_take xs (k + 1)
  omega

/-- The cells of the copy when k strings are over. -/
def mixed (xs : List ByteArray) (k : Nat) : List Value := (xs.take k).map Value.string ++ List.replicate (xs.length - k) (.string ByteArray.empty)

theorem mixed_length (xs : List ByteArray) (k : Nat) (h : k ≤ xs.length) : (mixed xs k).length = xs.length := by
  unfold mixed; simp; omega
theorem mixed_set {xs : List ByteArray} {k : Nat} {x : ByteArray} (h : xs[k]? = some x) : (mixed xs k).set k (.string x) = mixed xs (k + 1) := by
  have hlt := (List.getElem?_eq_some_iff.1 h).1
  unfold mixed
  have hl : ((xs.take k).map Value.string).length = k := by simp; omega
  rw [List.set_append_right _ _ (by omega), hl, Nat.sub_self, List.take_add_one, h]
  obtain ⟨d, hd⟩ : ∃ d, xs.length - k = d + 1 := ⟨xs.length - k - 1, by omega⟩
  rw [hd, List.replicate_succ, show xs.length - (k + 1) = d by omega]
  simp
theorem mixed_all (xs : List ByteArray) : mixed xs xs.length = xs.map Value.string := by unfold mixed; simp
theorem mixed_at {xs : List ByteArray} {k : Nat} (h : k < xs.length) : ∃ u, (mixed xs k)[k]? = some u := ⟨_, List.getElem?_eq_getElem (by rw [mixed_length xs k (by omega)]; exact h)⟩

theorem StrsAt.of_row {w : World} {g : Nat} {t : TypeId} {xs : List ByteArray} {c : Nat} (hc : xs.length ≤ c) (h : RowIs w g t (xs.map Value.string)) : StrsAt w (.slice (some ⟨g, 0, none⟩) xs.length c) xs :=
  ⟨_, c, rfl, hc, fun j x hx => ⟨g, 0, rfl, h.lt, by rw [Nat.zero_add, h.cell j]; simp [hx]⟩⟩

theorem infoS : (Try.prog.info? 9).map (fun i => (i.zero, i.size, i.bytes)) = some (some (.string ByteArray.empty), 1, 16) := by kernel_rfl

end Go.Proofs.Ytjlldjekjnlcaaa
