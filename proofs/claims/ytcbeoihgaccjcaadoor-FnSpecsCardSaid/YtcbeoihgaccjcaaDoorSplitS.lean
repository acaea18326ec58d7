/- The model's splitting (l1Split), by its contract. -/
import Derived.Test.YtcbeoihgaccjcaaDoorSplit
namespace Go.Proofs.YtcbeoihgaccjcaaDoor
open Go.RowKit

attribute [local go_sem ↓ high] builtin_append_held

set_option maxRecDepth 100000 in
set_option maxHeartbeats 2000000 in
theorem l1Split_any (s : ByteArray) (b : UInt8) (w : World) (hs : s.size ≤ 4000) :
    Calls Tryd.prog 29 #[.string s, .int .u8 (b.toNat : Int)] w fun e w' => ∃ v, e = .returned v ∧ w'.ownsRow w.heap.size 9 1 v (pieces s b).length ((pieces s b).map Value.string) ∧ Below w.heap.size w w' := by
  obtain ⟨i0, hi, hz0, hz1, hz2⟩ := info_parts infoStr
  have HI0 := Lib.hid hi
  have HZ0 := Lib.hid hz0
  have HZ1 := Lib.hid hz1
  have HZ2 := Lib.hid hz2
  have HOWN0 : Hid ((w.alloc (.cells #[] 9)).ownsRow w.heap.size 9 1 (.slice (some ⟨w.heap.size, 0, none⟩) 0 0) 0 []) := Lib.hid (World.ownsRow_made w #[] 0 (Nat.le_refl _) (by decide) rfl)
  have HB0 : Hid (Below w.heap.size w (w.alloc (.cells #[] 9))) := Lib.hid ((Below.refl _ _).alloc (Nat.le_refl _) _)
  clear hi hz0 hz1 hz2
  go_enter Tryd.func29, Tryd.ntmps29
  go_wp2
  go_loopw [5, 6, 7] (fun v f i wr => ∃ k : Nat, k ≤ s.size ∧ i = .int .i64 k ∧ f = .int .i64 ((stp s (idx s b k)).2 : Int) ∧ wr.ownsRow w.heap.size 9 1 v (stp s (idx s b k)).1.length ((stp s (idx s b k)).1.map Value.string) ∧ Below w.heap.size w wr) (fun _ _ i _ => s.size - (intOf i).toNat)
  case atStart => exact ⟨0, Nat.zero_le _, rfl, rfl, HOWN0.out, HB0.out⟩
  case round =>
    obtain ⟨k, hk, rfl, rfl, hrow, hb⟩ := hrel
    have hst := stp_le s b k hk
    have hlen := stp_length s (idx s b k)
    have hle := idx_le s b k
    by_cases hlt : k < s.size
    · by_cases he : s[k] = b
      · have hq : ((s[k].toNat : Int) == (b.toNat : Int)) = true := by rw [he]; exact beq_self_eq_true _
        have HSN := Lib.hid (stp_snoc s (idx s b k) k)
        have HIX := Lib.hid (idx_hit hlt he)
        obtain ⟨st, hstq⟩ : ∃ st, st = (stp s (idx s b k)).2 := ⟨_, rfl⟩
        obtain ⟨ps, hps⟩ : ∃ ps, ps = (stp s (idx s b k)).1 := ⟨_, rfl⟩
        obtain ⟨pc, hpc⟩ : ∃ pc, pc = s.extract st k := ⟨_, rfl⟩
        rw [← hstq] at hst ⊢
        rw [← hps] at hrow hlen
        have HI2 : Hid (stp s (idx s b (k + 1)) = (ps ++ [pc], k + 1)) := Lib.hid (by rw [HIX.out, HSN.out, ← hps, ← hstq, ← hpc])
        have hbs := hb.size
        obtain ⟨v', w1, hrun, hown', hgrow, _⟩ := run_append_own (P := Tryd.prog) (w := wr.alloc (.cells #[.string pc] 9)) w.heap.size 46 46 9 i0 (.string ByteArray.empty) 1 16 Tryd.underlying46 HI0.out HZ0.out HZ1.out HZ2.out rfl (by decide)
          _ ps.length (ps.map Value.string) (World.ownsRow.alloc hrow _) ⟨wr.heap.size, 0, none⟩ 1 1 [.string pc] rfl (cell_one_new wr _ _) (by simp [Value.oneCell']) (by unfold maxLen; omega) (by omega) (by simp; omega)
        have hrun2 : (heldAppend #[46, 46] 46 #[u5, .slice (some ⟨wr.heap.size, 0, none⟩) 1 1]).run Tryd.prog (wr.alloc (.cells #[.string pc] 9)) = .ok v' w1 := hrun
        clear hrun
        have HB1 : Hid (Below w.heap.size w w1) := Lib.hid ((hb.alloc hbs (.cells #[.string pc] 9)).grown hgrow (by simp; omega) (fun j e => (hrow.lt j e).1))
        have HO1 : Hid (w1.ownsRow w.heap.size 9 1 v' (stp s (idx s b (k + 1))).1.length ((stp s (idx s b (k + 1))).1.map Value.string)) := Lib.hid (by rw [HI2.out]; simpa using hown')
        have hx1 : (k : Int) ≤ (s.size : Int) := by omega
        have hst1 : (st : Int) ≤ (k : Int) := by omega
        have HI3 : Hid ((stp s (idx s b (k + 1))).2 = k + 1) := Lib.hid (by rw [HI2.out])
        clear HI2
        subst hpc
        clear hstq hps hrow hown' hgrow hlen hle he hb hbs
        go_wp2
        go_roundw
        case rel => exact ⟨k + 1, by omega, by go_num, by rw [HI3.out]; go_num, HO1.out, HB1.out⟩
        case measure => simp [intOf]; omega
      · have hq : ((s[k].toNat : Int) == (b.toNat : Int)) = false := by
          rw [beq_eq_false_iff_ne]; intro e; exact he (UInt8.toNat_inj.1 (by omega))
        have HIX := Lib.hid (idx_miss hlt he)
        have HR := Lib.hid hrow
        have HB := Lib.hid hb
        clear he hrow hb hlen hle
        go_wp2
        go_roundw
        case rel => exact ⟨k + 1, by omega, by go_num, by rw [HIX.out], by rw [HIX.out]; exact HR.out, HB.out⟩
        case measure => simp [intOf]; omega
    · obtain rfl : k = s.size := by omega
      obtain ⟨st, hstq⟩ : ∃ st, st = (stp s (idx s b s.size)).2 := ⟨_, rfl⟩
      obtain ⟨ps, hps⟩ : ∃ ps, ps = (stp s (idx s b s.size)).1 := ⟨_, rfl⟩
      obtain ⟨pc, hpc⟩ : ∃ pc, pc = s.extract st s.size := ⟨_, rfl⟩
      rw [← hstq] at hst ⊢
      rw [← hps] at hrow hlen
      have HPC : Hid (pieces s b = ps ++ [pc]) := Lib.hid (by unfold pieces; rw [← hps, ← hstq, ← hpc])
      have hbs := hb.size
      obtain ⟨v', w1, hrun, hown', hgrow, _⟩ := run_append_own (P := Tryd.prog) (w := wr.alloc (.cells #[.string pc] 9)) w.heap.size 46 46 9 i0 (.string ByteArray.empty) 1 16 Tryd.underlying46 HI0.out HZ0.out HZ1.out HZ2.out rfl (by decide)
        _ ps.length (ps.map Value.string) (World.ownsRow.alloc hrow _) ⟨wr.heap.size, 0, none⟩ 1 1 [.string pc] rfl (cell_one_new wr _ _) (by simp [Value.oneCell']) (by unfold maxLen; omega) (by omega) (by simp; omega)
      have hrun2 : (heldAppend #[46, 46] 46 #[u5, .slice (some ⟨wr.heap.size, 0, none⟩) 1 1]).run Tryd.prog (wr.alloc (.cells #[.string pc] 9)) = .ok v' w1 := hrun
      clear hrun
      have HB1 : Hid (Below w.heap.size w w1) := Lib.hid ((hb.alloc hbs (.cells #[.string pc] 9)).grown hgrow (by simp; omega) (fun j e => (hrow.lt j e).1))
      have HO1 : Hid (w1.ownsRow w.heap.size 9 1 v' (pieces s b).length ((pieces s b).map Value.string)) := Lib.hid (by rw [HPC.out]; simpa using hown')
      have hst1 : (st : Int) ≤ (s.size : Int) := by omega
      subst hpc
      clear hstq hps hrow hown' hgrow hlen hle hb hbs
      go_wp2
      go_ret
      exact ⟨v', rfl, HO1.out, HB1.out⟩

end Go.Proofs.YtcbeoihgaccjcaaDoor
