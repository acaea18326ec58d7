/- The model's QuickSelect, by its contract. -/
import Derived.Test.YtagibgphegoagaaSKth
namespace Go.Proofs.Ytagibgphegoagaa
open Go.RowKit P El Qk Sl
set_option linter.unusedVariables false

/-- The word at each round: the list, the rank, rounds and comparisons so far. -/
structure SqW (piv : List Int → Int) (R : Int × Nat × Nat) (w W : World) (L : List Int) (b o c k r q n : Nat) : Prop where
  run : qk piv n L k r q = R
  len : L.length ≤ n
  lt : k < L.length
  l64 : L.length ≤ 64
  rr : r + L.length ≤ 64
  qq : q ≤ 64 * r
  row : FlatAt W (.slice (some ⟨b, o, none⟩) L.length c) L.length (ints L)
  b : Below w.heap.size w W

def lenQ : Value → Nat | .slice _ n _ => n | _ => 0
/-- What a round does, told ahead: three ways. -/
theorem SqW.low {piv : List Int → Int} {R : Int × Nat × Nat} {w W : World} {L : List Int} {b o c k r q n : Nat} (h : SqW piv R w W L b o c k r q n) (hp : 0 < (midF L (piv L) (piv L)).length) (hk : k < (lowF L (piv L)).length) {W2 : World} {g cc : Nat} (hr : FlatAt W2 (.slice (some ⟨g, 0, none⟩) (lowF L (piv L)).length cc) (lowF L (piv L)).length (ints (lowF L (piv L)))) (hb : Below W.heap.size W W2) :
    ∃ n', SqW piv R w W2 (lowF L (piv L)) g 0 cc k (r + 1) (q + (L.length - 1)) n' ∧ (lowF L (piv L)).length < L.length := by
  have hl := du_lens (Int.le_refl (piv L)) L
  obtain ⟨n', rfl⟩ : ∃ n', n = n' + 1 := ⟨n - 1, by have := h.len; have := h.lt; omega⟩
  have h1 := h.run
  rw [qk_low r q hk] at h1
  have := h.len; have := h.l64; have := h.rr; have := h.qq
  exact ⟨n', ⟨h1, by omega, hk, by omega, by omega, by omega, hr, h.b.trans (hb.mono h.b.size)⟩, by omega⟩
theorem SqW.high {piv : List Int → Int} {R : Int × Nat × Nat} {w W : World} {L : List Int} {b o c k r q n : Nat} (h : SqW piv R w W L b o c k r q n) (hp : 0 < (midF L (piv L) (piv L)).length) (hk : ¬ k < (lowF L (piv L)).length) (hk2 : ¬ k < (lowF L (piv L)).length + (midF L (piv L) (piv L)).length) {W2 : World} {g cc : Nat} (hr : FlatAt W2 (.slice (some ⟨g, 0, none⟩) (highF L (piv L)).length cc) (highF L (piv L)).length (ints (highF L (piv L)))) (hb : Below W.heap.size W W2) :
    ∃ n', SqW piv R w W2 (highF L (piv L)) g 0 cc (k - ((lowF L (piv L)).length + (midF L (piv L) (piv L)).length)) (r + 1) (q + (L.length - 1)) n' ∧ (highF L (piv L)).length < L.length := by
  have hl := du_lens (Int.le_refl (piv L)) L
  obtain ⟨n', rfl⟩ : ∃ n', n = n' + 1 := ⟨n - 1, by have := h.len; have := h.lt; omega⟩
  have h1 := h.run
  rw [qk_high r q hk hk2] at h1
  have := h.len; have := h.l64; have := h.rr; have := h.qq; have := h.lt
  exact ⟨n', ⟨h1, by omega, by omega, by omega, by omega, by omega, hr, h.b.trans (hb.mono h.b.size)⟩, by omega⟩
theorem SqW.mid {piv : List Int → Int} {R : Int × Nat × Nat} {w W : World} {L : List Int} {b o c k r q n : Nat} (h : SqW piv R w W L b o c k r q n) (hk : ¬ k < (lowF L (piv L)).length) (hk2 : k < (lowF L (piv L)).length + (midF L (piv L) (piv L)).length) : R = (piv L, r + 1, q + (L.length - 1)) := by
  obtain ⟨n', rfl⟩ : ∃ n', n = n' + 1 := ⟨n - 1, by have := h.len; have := h.lt; omega⟩
  have h1 := h.run
  rw [qk_mid r q hk hk2] at h1
  exact h1.symm

end Go.Proofs.Ytagibgphegoagaa
