/- The laws' small helpers over lists of strings (eqStringS, toStringS, szStringS), by their contracts. -/
import Derived.Test.YtcbeoihgaccjcaaStrB
namespace Go.Proofs.Ytcbeoihgaccjcaa
open Go.RowKit

set_option maxHeartbeats 1000000 in
/-- szStringS, where all fits. -/
theorem sz_yes (v : Value) (xs : List ByteArray) (left : Nat) (w : World) (hv : StrsAt w v xs) (hl : xs.length + bytesOf xs ≤ left) (hL : left ≤ 1048576) :
    Calls Try.prog 76 #[v, .int .i64 (left : Int)] w fun e w' => e = .returned (.int .i64 ((left : Int) - xs.length - bytesOf xs)) ∧ w = w' := by
  obtain ⟨a, c, rfl, _, h⟩ := hv
  have H := Lib.hid h
  clear h
  have hn : xs.length ≤ 1048576 := by omega
  go_enter Try.func76, Try.ntmps76
  go_wp2
  go_loop [1, 5] (fun l i => ∃ k : Nat, k ≤ xs.length ∧ i = .int .i64 k ∧ l = .int .i64 ((left : Int) - xs.length - bytesOf (xs.take k))) (fun _ i => xs.length - (intOf i).toNat)
  case atStart => exact ⟨0, Nat.zero_le _, rfl, by simp [bytesOf]⟩
  case round =>
    obtain ⟨k, hk, rfl, rfl⟩ := hrel
    by_cases hlt : k < xs.length
    · obtain ⟨x, hx⟩ : ∃ x, xs[k]? = some x := ⟨_, List.getElem?_eq_getElem hlt⟩
      obtain ⟨b, o, rfl, hb, hc⟩ := H.out k x hx
      have hs := bytesOf_succ hx
      have ht := bytesOf_take xs (k + 1)
      have HS : Hid (((left : Int) - xs.length - bytesOf (xs.take (k + 1))) = ((left : Int) - xs.length - bytesOf (xs.take k)) - x.size) := Lib.hid (by omega)
      have h1 : 0 ≤ ((left : Int) - xs.length - bytesOf (xs.take k)) - x.size := by omega
      have h2 : ((left : Int) - xs.length - bytesOf (xs.take k)) ≤ 1048576 := by omega
      have h3 : (x.size : Int) ≤ 1048576 := by omega
      clear hs ht hx
      generalize ((left : Int) - xs.length - bytesOf (xs.take k)) = g at *
      go_wp2
      go_round
      case rel => exact ⟨k + 1, by omega, by go_num, by rw [HS.out]⟩
      case measure => simp [intOf]; omega
    · obtain rfl : k = xs.length := by omega
      go_wp2
      go_ret
      exact ⟨rfl, rfl⟩

set_option maxHeartbeats 1000000 in
/-- szStringS, where not all fits. -/
theorem sz_no (v : Value) (xs : List ByteArray) (left : Nat) (w : World) (hv : StrsAt w v xs) (hl : left < xs.length + bytesOf xs) (hL : left ≤ 1048576) (hn : xs.length ≤ maxLen) (hx : ∀ (j : Nat) x, xs[j]? = some x → x.size ≤ maxLen) :
    Calls Try.prog 76 #[v, .int .i64 (left : Int)] w fun e w' => e = .returned (.int .i64 (-1)) ∧ w = w' := by
  obtain ⟨a, c, rfl, _, h⟩ := hv
  have H := Lib.hid h
  have HX := Lib.hid hx
  clear h hx
  unfold maxLen at hn
  by_cases hb : left < xs.length
  · go_enter Try.func76, Try.ntmps76
    go_wp2
    go_ret
    exact ⟨rfl, rfl⟩
  · go_enter Try.func76, Try.ntmps76
    go_wp2
    go_loop [1, 5] (fun l i => ∃ k : Nat, k ≤ xs.length ∧ i = .int .i64 k ∧ l = .int .i64 ((left : Int) - xs.length - bytesOf (xs.take k)) ∧ xs.length + bytesOf (xs.take k) ≤ left) (fun _ i => xs.length - (intOf i).toNat)
    case atStart => exact ⟨0, Nat.zero_le _, rfl, by simp [bytesOf], by simp [bytesOf]; omega⟩
    case round =>
      obtain ⟨k, hk, rfl, rfl, hle⟩ := hrel
      by_cases hlt : k < xs.length
      · obtain ⟨x, hx⟩ : ∃ x, xs[k]? = some x := ⟨_, List.getElem?_eq_getElem hlt⟩
        obtain ⟨b, o, rfl, hbb, hc⟩ := H.out k x hx
        have hs := bytesOf_succ hx
        have hm := HX.out k x hx
        unfold maxLen at hm
        have HS : Hid (((left : Int) - xs.length - bytesOf (xs.take (k + 1))) = ((left : Int) - xs.length - bytesOf (xs.take k)) - x.size) := Lib.hid (by omega)
        have HL : Hid (0 ≤ ((left : Int) - xs.length - bytesOf (xs.take k)) - x.size → xs.length + bytesOf (xs.take (k + 1)) ≤ left) := Lib.hid (by omega)
        have h0 : 0 ≤ ((left : Int) - xs.length - bytesOf (xs.take k)) := by omega
        have h2 : ((left : Int) - xs.length - bytesOf (xs.take k)) ≤ 1048576 := by omega
        have h3 : (x.size : Int) ≤ 9223372036854775807 := by omega
        clear hs hx hm hle
        generalize ((left : Int) - xs.length - bytesOf (xs.take k)) = g at *
        by_cases hg : g - x.size < 0
        · go_wp2
          go_ret
          exact ⟨rfl, rfl⟩
        · go_wp2
          go_round
          case rel => exact ⟨k + 1, by omega, by go_num, by rw [HS.out], HL.out (by omega)⟩
          case measure => simp [intOf]; omega
      · obtain rfl : k = xs.length := by omega
        rw [List.take_length] at hle
        omega

set_option maxHeartbeats 1000000 in
/-- toStringS: a copy in a new block. -/
theorem to_any (v : Value) (xs : List ByteArray) (w : World) (hv : StrsAt w v xs) (hn : xs.length ≤ 1048576) :
    Calls Try.prog 78 #[v] w fun e w' => e = .returned (.slice (some ⟨w.heap.size, 0, none⟩) xs.length xs.length) ∧ RowIs w' w.heap.size 9 (xs.map Value.string) ∧ Below w.heap.size w w' := by
  obtain ⟨a, c, rfl, _, h⟩ := hv
  have H := Lib.hid h
  clear h
  obtain ⟨i0, hi, hz0, hz1, hz2⟩ := info_parts infoS
  have hmk : ∀ W : World, (Instr.makeSlice 49 (.int .i64 (xs.length : Int)) (.int .i64 (xs.length : Int))).run Try.prog W = .ok (.slice (some ⟨W.heap.size, 0, none⟩) xs.length xs.length) (W.alloc (.cells (mixed xs 0).toArray 9)) := fun W => by
    have h1 := run_make (P := Try.prog) W 49 9 i0 (.string ByteArray.empty) Try.underlying49 hi hz0 .i64 .i64 (xs.length : Int) (xs.length : Int) (by omega) (by omega) (by rw [hz2]; omega) (by omega)
    have h2 : madeCells (Value.string ByteArray.empty).cells ((xs.length : Int).toNat * i0.size) = (mixed xs 0).toArray := by
      rw [hz1, Nat.mul_one, Int.toNat_natCast]
      apply Array.toList_inj.1
      rw [show (Value.string ByteArray.empty).cells = #[Value.string ByteArray.empty] from rfl, toList_madeCells_one]
      simp [mixed]
    rw [h1, h2, Int.toNat_natCast]
  have hrow := heap_alloc_new w (.cells (mixed xs 0).toArray 9)
  have hb0 : Below w.heap.size w (w.alloc (.cells (mixed xs 0).toArray 9)) := (Below.refl _ _).alloc (Nat.le_refl _) _
  have HROW := Lib.hid hrow
  have HB0 := Lib.hid hb0
  clear hrow hb0 hi hz0 hz1 hz2
  go_enter Try.func78, Try.ntmps78
  go_wp2
  go_loopw [4] (fun i wr => ∃ k : Nat, k ≤ xs.length ∧ i = .int .i64 k ∧ RowIs wr w.heap.size 9 (mixed xs k) ∧ Below w.heap.size w wr) (fun i _ => xs.length - (intOf i).toNat)
  case atStart => exact ⟨0, Nat.zero_le _, rfl, HROW.out, HB0.out⟩
  case round =>
    obtain ⟨k, hk, rfl, hr, hb⟩ := hrel
    have HR := Lib.hid hr
    have HB := Lib.hid hb
    clear hr hb hmk
    by_cases hlt : k < xs.length
    · obtain ⟨x, hx⟩ : ∃ x, xs[k]? = some x := ⟨_, List.getElem?_eq_getElem hlt⟩
      obtain ⟨b, o, rfl, hbb, hc⟩ := H.out k x hx
      obtain ⟨u, hu⟩ := mixed_at hlt
      have hcw : wr.cell? ⟨b, o + k, none⟩ = some (.string x) := (HB.out.cell (p := ⟨b, o + k, none⟩) hbb).trans hc
      have hcg : wr.cell? ⟨w.heap.size, k, none⟩ = some u := (HR.out.cell k).trans hu
      have hfg := HR.out.frozen k
      have HX := Lib.hid hx
      clear hx hc hu
      go_wp2
      go_roundw
      case rel => exact ⟨k + 1, by omega, by go_num, by rw [← mixed_set HX.out]; exact HR.out.stored k _, HB.out.setCell (p := ⟨w.heap.size, k, none⟩) (Nat.le_refl _) _⟩
      case measure => simp [intOf]; omega
    · obtain rfl : k = xs.length := by omega
      go_wp2
      go_ret
      exact ⟨rfl, by rw [← mixed_all]; exact HR.out, HB.out⟩

set_option maxHeartbeats 1000000 in
/-- eqStringS at equal lists. -/
theorem eq_yes (v v' : Value) (xs : List ByteArray) (w : World) (hv : StrsAt w v xs) (hv' : StrsAt w v' xs) (hn : xs.length ≤ 1048576) :
    Calls Try.prog 81 #[v, v'] w fun e w' => e = .returned (.bool true) ∧ Below w.heap.size w w' := by
  obtain ⟨a, c, rfl, _, h⟩ := hv
  obtain ⟨a', c', rfl, _, h'⟩ := hv'
  have H := Lib.hid h
  have H' := Lib.hid h'
  clear h h'
  go_enter Try.func81, Try.ntmps81
  go_wp2
  go_loopw [5] (fun i wr => ∃ k m : Nat, k ≤ xs.length ∧ i = .int .i64 k ∧ wr = w.drewN m) (fun i _ => xs.length - (intOf i).toNat)
  case atStart => exact ⟨0, 0, Nat.zero_le _, rfl, rfl⟩
  case round =>
    obtain ⟨k, m, hk, rfl, rfl⟩ := hrel
    by_cases hlt : k < xs.length
    · obtain ⟨x, hx⟩ : ∃ x, xs[k]? = some x := ⟨_, List.getElem?_eq_getElem hlt⟩
      obtain ⟨b, o, rfl, hb, hc⟩ := H.out k x hx
      obtain ⟨b', o', rfl, hb', hc'⟩ := H'.out k x hx
      clear hx
      go_wp2
      go_quiet (fail)
      go_wp2
      go_roundw
      case rel => exact ⟨k + 1, _, by omega, by go_num, rfl⟩
      case measure => simp [intOf]; omega
    · go_wp2
      go_ret
      exact ⟨rfl, ⟨rfl, rfl, rfl, Nat.le_refl _, fun _ _ => rfl⟩⟩

end Go.Proofs.Ytcbeoihgaccjcaa
