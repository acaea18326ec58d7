/- toIntSS: a copy in new blocks. (nestgen.py) -/
import Derived.Test.YthmcjmjkmmbepaaNest
import Derived.Test.YthmcjmjkmmbepaaIntS
namespace Go.Proofs.Ythmcjmjkmmbepaa
open Go.RowKit

theorem infoIntSS3 : (Try.prog.info? 34).map (fun i => (i.zero, i.size, i.bytes)) = some (some (.slice none 0 0), 1, 24) := by kernel_rfl

theorem makeIntSS (n : Nat) (hn : n ≤ 1048576) (W : World) : (Instr.makeSlice 45 (.int .i64 (n : Int)) (.int .i64 (n : Int))).run Try.prog W = .ok (.slice (some ⟨W.heap.size, 0, none⟩) n n) (W.alloc (.cells (List.replicate n (Value.slice none 0 0)).toArray 34)) := by
  obtain ⟨i0, hi, hz0, hz1, hz2⟩ := info_parts infoIntSS3
  have h1 := run_make (P := Try.prog) W 45 34 i0 (.slice none 0 0) Try.underlying45 hi hz0 .i64 .i64 (n : Int) (n : Int) (by omega) (by omega) (by rw [hz2]; omega) (by omega)
  have h2 : madeCells (Value.slice none 0 0).cells ((n : Int).toNat * i0.size) = (List.replicate n (Value.slice none 0 0)).toArray := by
    rw [hz1, Int.toNat_natCast, Nat.mul_one]
    apply Array.toList_inj.1
    rw [show (Value.slice none 0 0).cells = #[Value.slice none 0 0] from rfl, toList_madeCells_one]
  rw [h1, h2, Int.toNat_natCast]

set_option maxRecDepth 100000 in
set_option maxHeartbeats 1000000 in
theorem toIntSS_any (v : Value) (M : List (List Int)) (w : World) (hv : RowsAt w v (M.map ints)) (hn : M.length ≤ 1048576) (hx : ∀ (j : Nat) x, M[j]? = some x → x.length ≤ 1048576) :
    Calls Try.prog 70 #[v] w fun e w' => e = .returned (.slice (some ⟨w.heap.size, 0, none⟩) M.length M.length) ∧ (∃ G C, Nest w' w.heap.size w.heap.size w'.heap.size (M.map ints) G C) ∧ Below w.heap.size w w' := by
  obtain ⟨a, c, rfl, _, h⟩ := hv
  have H := Lib.hid h
  have HX := Lib.hid hx
  have hlen : (M.map ints).length = M.length := by simp
  clear h hx
  have hmk := makeIntSS M.length hn
  have hrow := heap_alloc_new w (.cells (List.replicate M.length (Value.slice none 0 0)).toArray 34)
  have hb0 : Below w.heap.size w (w.alloc (.cells (List.replicate M.length (Value.slice none 0 0)).toArray 34)) := (Below.refl _ _).alloc (Nat.le_refl _) _
  have HP : Hid (Part w (w.alloc (.cells (List.replicate M.length (Value.slice none 0 0)).toArray 34)) w.heap.size 34 (M.map ints) (fun _ => 0) 0) := Lib.hid (Part.start _ (by rw [hlen]; exact hrow) hb0)
  clear hrow hb0
  rw [hlen]
  go_enter Try.func70, Try.ntmps70
  go_wp2
  go_loopw [4] (fun i wr => ∃ (k : Nat) (G : Nat → Nat), k ≤ M.length ∧ i = .int .i64 k ∧ Part w wr w.heap.size 34 (M.map ints) G k) (fun i _ => M.length - (intOf i).toNat)
  case atStart => exact ⟨0, fun _ => 0, Nat.zero_le _, rfl, HP.out⟩
  case round =>
    obtain ⟨k, G, hk, rfl, hp⟩ := hrel
    have HP2 := Lib.hid hp
    clear hp hmk HP
    by_cases hlt : k < M.length
    · obtain ⟨x, hx⟩ : ∃ x, M[k]? = some x := ⟨_, List.getElem?_eq_getElem hlt⟩
      have hcs : (M.map ints)[k]? = some (ints x) := by rw [List.getElem?_map, hx]; rfl
      obtain ⟨b, o, u, rfl, hbb, hc, hu⟩ := H.out k _ hcs
      have hw1 : wr.cell? ⟨b, o + k, none⟩ = some u := (HP2.out.bel.cell (p := ⟨b, o + k, none⟩) hbb).trans hc
      have HU := Lib.hid (hu.below HP2.out.bel)
      have HXX := Lib.hid (HX.out k x hx)
      have HCS := Lib.hid hcs
      clear hc hx hcs hu
      go_wp2_with fail
      refine (toIntS_any u x wr (by have := HU.out; rw [ints_length] at this; exact this) HXX.out).mono ?_
      rintro e w1 ⟨rfl, hr1, hb1⟩
      have hg1 : w1.cell? ⟨w.heap.size, k, none⟩ = some (.slice none 0 0) := ((HP2.out.row.below hb1 HP2.out.row.lt).cell _).trans (fill_at (by rw [sliceRow_length, hlen]; exact hlt))
      have hf1 := (HP2.out.row.below hb1 HP2.out.row.lt).frozen k
      have HP3 := Lib.hid (HP2.out.step HCS.out hb1 (Nat.le_refl _) (CellRow.of_row hr1))
      rw [ints_length] at HP3
      clear hb1 hr1 HP2 hw1
      go_wp2_with fail
      go_roundw
      case rel => exact ⟨k + 1, _, by omega, by go_num, HP3.out⟩
      case measure => simp [intOf]; omega
    · obtain rfl : k = M.length := by omega
      have HD : Hid (Nest wr w.heap.size w.heap.size wr.heap.size (M.map ints) G (lens (M.map ints))) := Lib.hid (Part.done (by rw [hlen]; exact HP2.out))
      go_wp2
      go_ret
      exact ⟨rfl, ⟨_, _, HD.out⟩, HP2.out.bel⟩

end Go.Proofs.Ythmcjmjkmmbepaa
