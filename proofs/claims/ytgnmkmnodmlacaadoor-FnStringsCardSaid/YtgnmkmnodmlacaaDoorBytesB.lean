/- '[]byte(s)', one byte stored, and 'string(b)', as facts for a walk. -/
import Derived.Test.YtgnmkmnodmlacaaDoorStrB
import Derived.Laws.IdiomStrings
import Derived.Laws.BitsAllLaws
import Derived.Below
namespace Go.Proofs.YtgnmkmnodmlacaaDoor
open Go.RowKit

/-- Block g begins with these bytes, and none of them is frozen. -/
def BytesAt (w : World) (g : Nat) (l : List UInt8) : Prop :=
  g < w.heap.size ∧ ∀ j (h : j < l.length), w.cell? ⟨g, j, none⟩ = some (.int .u8 (l[j].toNat : Int)) ∧ w.frozen? ⟨g, j, none⟩ = false

theorem BytesAt.below {w w' : World} {g B : Nat} {l : List UInt8} (h : BytesAt w g l) (hb : Below B w w') (hg : g < B) : BytesAt w' g l := by
  have hgb : w'.heap[g]? = w.heap[g]? := hb.block g hg
  refine ⟨Nat.lt_of_lt_of_le h.1 hb.size, fun j hj => ⟨?_, ?_⟩⟩
  · rw [World.cell?_of_block (w := w) hgb]; exact (h.2 j hj).1
  · have := (h.2 j hj).2
    unfold World.frozen? at this ⊢
    rw [show w'.heap[(⟨g, j, none⟩ : Addr).block]? = w.heap[(⟨g, j, none⟩ : Addr).block]? from hgb]
    exact this

theorem BytesAt.set {w : World} {g : Nat} {l : List UInt8} (h : BytesAt w g l) (k : Nat) (c : UInt8) (hk : k < l.length) : BytesAt (w.setCell ⟨g, k, none⟩ (.int .u8 (c.toNat : Int))) g (l.set k c) := by
  refine ⟨Nat.lt_of_lt_of_le h.1 ((Below.refl g w).setCell (p := ⟨g, k, none⟩) (Nat.le_refl _) _).size, fun j hj => ⟨?_, ?_⟩⟩
  · have hj' : j < l.length := by simpa using hj
    by_cases e : k = j
    · subst e
      rw [World.cell?_setCell_same _ _ _ (h.2 k hk).1]; simp
    · rw [World.cell?_setCell_other _ _ _ _ (fun h => e (by injection h)), (h.2 j hj').1, List.getElem_set_ne e]
  · rw [World.frozen?_setCell]; exact (h.2 j (by simpa using hj)).2

theorem bytes_of (y : ByteArray) (w : World) : ∃ (C : Nat) (w' : World), (convert 9 22 (.string y)).run Tryd.prog w = .ok (.slice (some ⟨w.heap.size, 0, none⟩) y.size C) w' ∧ y.size ≤ C ∧ BytesAt w' w.heap.size y.data.toList ∧ Below w.heap.size w w' := by
  have hN : (bytesRow y (grownCap w y.size 0 5)).size = grownCap w y.size 0 5 := by
    have := grownCap_ge w y.size 0 5
    unfold bytesRow
    rw [Array.size_append, Array.size_map, Array.size_replicate, show y.data.size = y.size from rfl]; omega
  have hge := grownCap_ge w y.size 0 5
  have hrun := run_bytes_of_string (P := Tryd.prog) w 9 22 5 y Tryd.underlying9 Tryd.underlying22 Tryd.underlying5
  refine ⟨_, _, hrun, hge, ?_, ?_⟩
  · have hnew := heap_alloc_new w.drew (.cells (bytesRow y (grownCap w y.size 0 5)) 5 ((bytesRow y (grownCap w y.size 0 5)).size, (bytesRow y (grownCap w y.size 0 5)).size + 1))
    have hsz : w.drew.heap.size = w.heap.size := rfl
    rw [hsz] at hnew
    refine ⟨(Array.getElem?_eq_some_iff.1 hnew).1, fun j hj => ⟨?_, ?_⟩⟩
    · have hj' : j < y.data.size := by simpa using hj
      rw [cell_of_row _ _ j _ _ _ hnew]
      unfold bytesRow
      rw [Array.getElem?_append_left (by simpa using hj')]
      simp
      exact ⟨y.data[j], Array.getElem?_eq_getElem hj', rfl⟩
    · have hj' : j < y.size := by simpa using hj
      unfold World.frozen?
      rw [show (w.drew.alloc (.cells (bytesRow y (grownCap w y.size 0 5)) 5 ((bytesRow y (grownCap w y.size 0 5)).size, (bytesRow y (grownCap w y.size 0 5)).size + 1))).heap[(⟨w.heap.size, j, none⟩ : Addr).block]? = _ from hnew]
      simp
      omega
  · exact (show Below w.heap.size w w.drew from ⟨rfl, rfl, rfl, Nat.le_refl _, fun _ _ => rfl⟩).alloc (Nat.le_refl _) _

theorem text_of (l : List UInt8) (g C : Nat) (w : World) (h : BytesAt w g l) : (convert 22 9 (.slice (some ⟨g, 0, none⟩) l.length C)).run Tryd.prog w = .ok (.string ⟨l.toArray⟩) w := by
  refine run_convert_bytes_back (P := Tryd.prog) w 22 9 5 ⟨g, 0, none⟩ C l Tryd.underlying22 Tryd.underlying5 Tryd.underlying9 (fun j hj => ?_)
  have e : (⟨g, 0, none⟩ : Addr).add j = ⟨g, j, none⟩ := by
    unfold Addr.add; simp; omega
  rw [e]; exact (h.2 j hj).1

/-- A byte changed by another that is not 0 is another byte. -/
theorem flip_byte (o : UInt8) (u : Int) (h0 : 0 ≤ u) : ∃ c : UInt8, c ≠ o ∧ bits BinOp.xor IntKind.u8 (o.toNat : Int) (IntKind.u8.wrap (IntKind.i64.wrap (1 + u.tmod 255))) = (c.toNat : Int) := by
  obtain ⟨d, hd⟩ : ∃ d : Nat, u.tmod 255 = d := ⟨(u.tmod 255).toNat, by have := Int.tmod_nonneg 255 h0; omega⟩
  have hd2 : d < 255 := by have := Int.tmod_lt_of_pos u (show (0 : Int) < 255 by decide); omega
  have e : IntKind.u8.wrap (IntKind.i64.wrap (1 + u.tmod 255)) = ((1 + d : Nat) : Int) := by
    rw [hd]
    simp [IntKind.wrap, IntKind.bits, IntKind.signed]
    omega
  have ho := o.toNat_lt
  have hx : o.toNat ^^^ (1 + d) < 2 ^ 8 := Nat.xor_lt_two_pow (by omega) (by omega)
  refine ⟨UInt8.ofNat (o.toNat ^^^ (1 + d)), ?_, ?_⟩
  · intro h
    have h2 := congrArg UInt8.toNat h
    rw [UInt8.toNat_ofNat_of_lt' (by omega)] at h2
    have h3 : o.toNat ^^^ (o.toNat ^^^ (1 + d)) = 0 := by rw [h2, Nat.xor_self]
    rw [← Nat.xor_assoc, Nat.xor_self, Nat.zero_xor] at h3
    omega
  · rw [e, UInt8.toNat_ofNat_of_lt' (by omega)]
    exact u8_xor_nat o.toNat (1 + d) (by omega) (by omega)

end Go.Proofs.YtgnmkmnodmlacaaDoor
