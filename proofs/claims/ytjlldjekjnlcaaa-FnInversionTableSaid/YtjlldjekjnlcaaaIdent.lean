/- The identity, by its contract. -/
import Derived.Test.YtjlldjekjnlcaaaPerm
import Derived.Test.YtjlldjekjnlcaaaRetI
import Derived.Test.YtjlldjekjnlcaaaSets
import Derived.Laws.BitsLemmas
namespace Go.Proofs.Ytjlldjekjnlcaaa
open Go.RowKit P

set_option maxRecDepth 100000 in
set_option maxHeartbeats 4000000 in
theorem identity_any (n : Nat) (w : World) (hn : n ≤ 1048576) :
    Calls Try.prog 73 #[.int .i64 (n : Int)] w fun e w' => e = .returned (.slice (some ⟨w.heap.size, 0, none⟩) n n) ∧ RowIs w' w.heap.size 3 (ints (iota n)) ∧ Below w.heap.size w w' := by
  have hmk := makeInts n hn
  have hil := iota_length n
  have HIL := Lib.hid hil
  have hrow : RowIs (w.alloc (.cells (ints (List.replicate n 0)).toArray 3)) w.heap.size 3 (ints (fill (iota n) 0 0)) := by
    rw [fill_zero, HIL.out]; exact heap_alloc_new w _
  have hb0 : Below w.heap.size w (w.alloc (.cells (ints (List.replicate n 0)).toArray 3)) := (Below.refl _ _).alloc (Nat.le_refl _) _
  have HROW := Lib.hid hrow
  have HB0 := Lib.hid hb0
  clear hrow hb0 hil
  go_enter Try.func73, Try.ntmps73
  go_wp2
  go_loopw [4, 9] (fun _ i wr => ∃ k : Nat, k ≤ n ∧ i = .int .i64 k ∧ RowIs wr w.heap.size 3 (ints (fill (iota n) 0 k)) ∧ Below w.heap.size w wr) (fun _ i _ => n - (intOf i).toNat)
  case atStart => exact ⟨0, Nat.zero_le _, rfl, HROW.out, HB0.out⟩
  case round =>
    obtain ⟨k, hk, rfl, hr, hb⟩ := hrel
    have HR := Lib.hid hr
    have HB := Lib.hid hb
    clear hr hb hmk HROW HB0
    by_cases hlt : k < n
    · have HP := Lib.hid (iota_at hlt)
      have hg1 : wr.cell? ⟨w.heap.size, k, none⟩ = some (.int .i64 0) := (HR.out.cell _).trans (ints_at (fill_at (d := (0 : Int)) (by rw [HIL.out]; exact hlt)))
      have hf1 := HR.out.frozen k
      go_wp2
      go_roundw
      case rel => exact ⟨k + 1, by omega, by go_num, by rw [← fill_set HP.out, ← ints_set]; exact HR.out.stored k _, HB.out.setCell (p := ⟨w.heap.size, k, none⟩) (Nat.le_refl _) _⟩
      case measure => simp [intOf]; omega
    · obtain rfl : k = n := by omega
      have HR2 : Hid (RowIs wr w.heap.size 3 (ints (iota k))) := Lib.hid (by have h := HR.out; have e := fill_all (iota k) (0 : Int); rw [HIL.out] at e; rw [e] at h; exact h)
      go_wp2
      go_ret
      exact ⟨rfl, HR2.out, HB.out⟩

end Go.Proofs.Ytjlldjekjnlcaaa
