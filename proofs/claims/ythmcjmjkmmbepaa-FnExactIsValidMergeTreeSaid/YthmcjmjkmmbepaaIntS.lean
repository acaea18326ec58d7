/- The laws' small helpers over lists of numbers (toIntS, eqIntS, markIntS, heldIntS), by their contracts. -/
import Derived.Test.YthmcjmjkmmbepaaInts
import Derived.Deep.RegionWith
namespace Go.Proofs.Ythmcjmjkmmbepaa
open Go.RowKit

theorem infoInt3 : (Try.prog.info? 3).map (fun i => (i.zero, i.size, i.bytes)) = some (some (.int .i64 0), 1, 8) := by kernel_rfl

theorem makeInts (n : Nat) (hn : n ≤ 1048576) (W : World) : (Instr.makeSlice 34 (.int .i64 (n : Int)) (.int .i64 (n : Int))).run Try.prog W = .ok (.slice (some ⟨W.heap.size, 0, none⟩) n n) (W.alloc (.cells (ints (List.replicate n 0)).toArray 3)) := by
  obtain ⟨i0, hi, hz0, hz1, hz2⟩ := info_parts infoInt3
  have h1 := run_make (P := Try.prog) W 34 3 i0 (.int .i64 0) Try.underlying34 hi hz0 .i64 .i64 (n : Int) (n : Int) (by omega) (by omega) (by rw [hz2]; omega) (by omega)
  have h2 : madeCells (Value.int .i64 0).cells ((n : Int).toNat * i0.size) = (ints (List.replicate n 0)).toArray := by
    rw [hz1, Int.toNat_natCast, Nat.mul_one]
    apply Array.toList_inj.1
    rw [show (Value.int .i64 0).cells = #[.int .i64 0] from rfl, ints_replicate, toList_madeCells_one]
  rw [h1, h2, Int.toNat_natCast]

set_option maxRecDepth 100000 in
theorem toIntS_any (v : Value) (l : List Int) (w : World) (hv : FlatAt w v l.length (ints l)) (hn : l.length ≤ 1048576) :
    Calls Try.prog 34 #[v] w fun e w' => e = .returned (.slice (some ⟨w.heap.size, 0, none⟩) l.length l.length) ∧ RowIs w' w.heap.size 3 (ints l) ∧ Below w.heap.size w w' := by
  obtain ⟨a, c, rfl, _, h⟩ := hv
  have H := Lib.hid h
  clear h
  have hmk := makeInts l.length hn
  have hrow := heap_alloc_new w (.cells (ints (fill l 0 0)).toArray 3)
  rw [fill_zero] at hrow
  have hb0 : Below w.heap.size w (w.alloc (.cells (ints (List.replicate l.length 0)).toArray 3)) := (Below.refl _ _).alloc (Nat.le_refl _) _
  have HROW := Lib.hid hrow
  have HB0 := Lib.hid hb0
  clear hrow hb0
  go_enter Try.func34, Try.ntmps34
  go_wp2
  go_loopw [4] (fun i wr => ∃ k : Nat, k ≤ l.length ∧ i = .int .i64 k ∧ RowIs wr w.heap.size 3 (ints (fill l 0 k)) ∧ Below w.heap.size w wr) (fun i _ => l.length - (intOf i).toNat)
  case atStart => exact ⟨0, Nat.zero_le _, rfl, by rw [fill_zero]; exact HROW.out, HB0.out⟩
  case round =>
    obtain ⟨k, hk, rfl, hr, hb⟩ := hrel
    have HR := Lib.hid hr
    have HB := Lib.hid hb
    clear hr hb hmk
    by_cases hlt : k < l.length
    · obtain ⟨p, hp⟩ : ∃ p, l[k]? = some p := ⟨_, List.getElem?_eq_getElem hlt⟩
      obtain ⟨b, o, rfl, hbb, hc1⟩ := H.out _ _ (ints_at hp)
      have hw1 : wr.cell? ⟨b, o + k, none⟩ = some (.int .i64 p) := (HB.out.cell (p := ⟨b, o + k, none⟩) hbb).trans hc1
      have hg1 : wr.cell? ⟨w.heap.size, k, none⟩ = some (.int .i64 0) := (HR.out.cell _).trans (ints_at (fill_at (d := (0 : Int)) hlt))
      have hf1 := HR.out.frozen k
      have HP := Lib.hid hp
      clear hc1 hp
      go_wp2
      go_roundw
      case rel => exact ⟨k + 1, by omega, by go_num, by rw [← fill_set HP.out, ← ints_set]; exact HR.out.stored k _, HB.out.setCell (p := ⟨w.heap.size, k, none⟩) (Nat.le_refl _) _⟩
      case measure => simp [intOf]; omega
    · obtain rfl : k = l.length := by omega
      go_wp2
      go_ret
      exact ⟨rfl, by rw [← fill_all l 0]; exact HR.out, HB.out⟩

end Go.Proofs.Ythmcjmjkmmbepaa
