/- The program's elementsAt, by its contract. -/
import Derived.Test.YtagibgphegoagaaPerm
import Derived.Test.YtagibgphegoagaaRetI
namespace Go.Proofs.Ytagibgphegoagaa
open Go.RowKit P

set_option maxRecDepth 100000 in
set_option maxHeartbeats 4000000 in
theorem elementsAt_any (v v' : Value) (l idx : List Int) (w : World) (hv : FlatAt w v l.length (ints l)) (hv' : FlatAt w v' idx.length (ints idx)) (hn : idx.length ≤ 1048576)
    (hin : ∀ (k : Nat) i, idx[k]? = some i → 0 ≤ i ∧ i < l.length) :
    Calls Try.prog 110 #[v, v'] w (RowI (pickAt l idx) w) := by
  obtain ⟨a, c, rfl, _, h⟩ := hv
  obtain ⟨a', c', rfl, _, h'⟩ := hv'
  have H := Lib.hid h
  have H' := Lib.hid h'
  have HIN := Lib.hid hin
  clear h h' hin
  have hmk := makeInts idx.length hn
  have HPL := Lib.hid (pickAt_length l idx)
  have hrow : RowIs (w.alloc (.cells (ints (List.replicate idx.length 0)).toArray 3)) w.heap.size 3 (ints (fill (pickAt l idx) 0 0)) := by
    rw [fill_zero, HPL.out]; exact heap_alloc_new w _
  have hb0 : Below w.heap.size w (w.alloc (.cells (ints (List.replicate idx.length 0)).toArray 3)) := (Below.refl _ _).alloc (Nat.le_refl _) _
  have HROW := Lib.hid hrow
  have HB0 := Lib.hid hb0
  clear hrow hb0
  go_enter Try.func110, Try.ntmps110
  go_wp2
  go_loopw [6, 7, 13] (fun _ _ i wr => ∃ k : Nat, k ≤ idx.length ∧ i = .int .i64 k ∧ RowIs wr w.heap.size 3 (ints (fill (pickAt l idx) 0 k)) ∧ Below w.heap.size w wr) (fun _ _ i _ => idx.length - (intOf i).toNat)
  case atStart => exact ⟨0, Nat.zero_le _, rfl, HROW.out, HB0.out⟩
  case round =>
    obtain ⟨k, hk, rfl, hr, hb⟩ := hrel
    have HR := Lib.hid hr
    have HB := Lib.hid hb
    clear hr hb hmk HROW HB0
    by_cases hlt : k < idx.length
    · obtain ⟨p, hp⟩ : ∃ p, idx[k]? = some p := ⟨_, List.getElem?_eq_getElem hlt⟩
      obtain ⟨b', o', rfl, hbb', hc1'⟩ := H'.out _ _ (ints_at hp)
      have hw1' : wr.cell? ⟨b', o' + k, none⟩ = some (.int .i64 p) := (HB.out.cell (p := ⟨b', o' + k, none⟩) hbb').trans hc1'
      have hv := HIN.out _ _ hp
      obtain ⟨e, rfl⟩ : ∃ e : Nat, p = e := ⟨p.toNat, by omega⟩
      have he : e < l.length := by omega
      obtain ⟨x, hx⟩ : ∃ x, l[e]? = some x := ⟨_, List.getElem?_eq_getElem he⟩
      obtain ⟨b, o, rfl, hbb, hc1⟩ := H.out _ _ (ints_at hx)
      have hw1 : wr.cell? ⟨b, o + e, none⟩ = some (.int .i64 x) := (HB.out.cell (p := ⟨b, o + e, none⟩) hbb).trans hc1
      have HP := Lib.hid (pickAt_at hp hx)
      have hg1 : wr.cell? ⟨w.heap.size, k, none⟩ = some (.int .i64 0) := (HR.out.cell _).trans (ints_at (fill_at (d := (0 : Int)) (by rw [HPL.out]; exact hlt)))
      have hf1 := HR.out.frozen k
      clear hc1 hc1' hp hx hv
      go_wp2
      go_roundw
      case rel => exact ⟨k + 1, by omega, by go_num, by rw [← fill_set HP.out, ← ints_set]; exact HR.out.stored k _, HB.out.setCell (p := ⟨w.heap.size, k, none⟩) (Nat.le_refl _) _⟩
      case measure => simp [intOf]; omega
    · obtain rfl : k = idx.length := by omega
      have HR2 : Hid (RowIs wr w.heap.size 3 (ints (pickAt l idx))) := Lib.hid (by have h := HR.out; rw [← HPL.out, fill_all] at h; exact h)
      have HRES : Hid (RowI (pickAt l idx) w (.returned (.slice (some ⟨w.heap.size, 0, none⟩) idx.length idx.length)) wr) :=
        Lib.hid ⟨w.heap.size, idx.length, by rw [HPL.out], by rw [HPL.out]; exact Nat.le_refl _, Nat.le_refl _, CellRow.of_row HR2.out, HB.out⟩
      go_wp2
      go_ret
      exact HRES.out

attribute [local go_sem ↓ high] builtin_append_held

end Go.Proofs.Ytagibgphegoagaa
