/- The decimal numeral of the specification (l1Num) by its contract: it is the library's numeral. -/
import Derived.Test.YtcbeoihgaccjcaaDoorRows
import Derived.WalkKit
import Derived.Lib.Hide
import Derived.Deep.QuietTactic
import Derived.BigQuiet
import Derived.WalkSpells
import Derived.IntWalk
import Derived.Lib.ItoaNum
import Derived.Lib.ItoaMem
namespace Go.Proofs.YtcbeoihgaccjcaaDoor
open Go.RowKit

theorem ret_str {a b : ByteArray} (h : a = b) : Ending.returned (.string a) = .returned (.string b) := by rw [h]
theorem ret_str2 {a b : ByteArray} {v : Value} (h : a = b) : Ending.returned (.tuple #[.string a, v]) = .returned (.tuple #[.string b, v]) := by rw [h]

theorem digs_fin : ∀ d : Fin 10, ({ data := #[48, 49, 50, 51, 52, 53, 54, 55, 56, 57] } : ByteArray).extract d.val (d.val + 1) = ⟨#[UInt8.ofNat (48 + d.val)]⟩ := by decide +kernel
theorem digs_piece (d : Nat) (h : d < 10) : ({ data := #[48, 49, 50, 51, 52, 53, 54, 55, 56, 57] } : ByteArray).extract d (d + 1) = ⟨#[UInt8.ofNat (48 + d)]⟩ := digs_fin ⟨d, h⟩

theorem dec_len (k : Nat) : ∀ u, u < 10 ^ (k + 1) → (Lib.decDigits u).length ≤ k + 1 := by
  induction k with
  | zero => intro u h; rw [Lib.decDigits_one (by simpa using h)]; simp
  | succ k ih =>
    intro u h
    rw [Lib.decDigits]
    split
    · simp
    · have := ih (u / 10) (by rw [Nat.pow_succ] at h; omega)
      simp; omega

theorem cat_lists (x y : List UInt8) : (({ data := x.toArray } : ByteArray) ++ ({ data := y.toArray } : ByteArray)) = { data := (x ++ y).toArray } := by
  apply ByteArray.ext; simp

theorem digs_run (r : Nat) (h : r < 10) (wx : World) :
    (Instr.slice 9 (.string { data := #[48, 49, 50, 51, 52, 53, 54, 55, 56, 57] }) (some (.int .i64 r)) (some (.int .i64 (r + 1))) none).run Tryd.prog wx = .ok (.string ⟨#[UInt8.ofNat (48 + r)]⟩) wx := by
  have hz : ({ data := #[48, 49, 50, 51, 52, 53, 54, 55, 56, 57] } : ByteArray).size = 10 := rfl
  rw [run_slice_string_if _ 9 _ _ _ _ _ Tryd.underlying9, if_pos ⟨by omega, by rw [hz]; omega⟩, if_pos ⟨by omega, by omega⟩]
  rw [show ((r : Int) + 1).toNat = r + 1 by omega, Int.toNat_natCast, digs_piece r h]

set_option maxRecDepth 100000 in
set_option maxHeartbeats 400000 in
theorem num_nat (u : Nat) : ∀ (w : World), u ≤ 999999 →
    Calls Tryd.prog 40 #[.int .i64 (u : Int)] w fun e w' => e = .returned (.string ⟨(Lib.decDigits u).toArray⟩) ∧ ∃ k, w' = w.drewN k := by
  induction u using Nat.strongRecOn with
  | _ u ih =>
    intro w hu
    by_cases h : u < 10
    · have hn : ¬ ((u : Int) < 0) := by omega
      go_enter Tryd.func40, Tryd.ntmps40
      go_wp2
      go_ret
      exact ⟨ret_str (by rw [digs_piece u h, Lib.decDigits_one h]), 0, rfl⟩
    · have hn : ¬ ((u : Int) < 0) := by omega
      have hn2 : ¬ ((u : Int) < 10) := by omega
      have ih' := fun w => ih (u / 10) (by omega) w (by omega)
      have hdiv : ((u / 10 : Nat) : Int) = (u : Int) / 10 := by omega
      simp only [hdiv] at ih'
      obtain ⟨r, hr⟩ : ∃ r : Nat, r = u % 10 := ⟨_, rfl⟩
      have hr1 : r < 10 := by omega
      have hm : (u : Int).tmod 10 = (r : Int) := by rw [Int.tmod_eq_emod_of_nonneg (by omega)]; omega
      have hs1 : IntKind.i64.wrap ((r : Int) + 1) = (r : Int) + 1 := IntWalk.i64_in _ (by omega)
      have HR := Lib.hid hr
      clear hr
      have hq : IntKind.i64.wrap ((u : Int) / 10) = (u : Int) / 10 := IntWalk.i64_in _ (by omega)
      have hsl := fun wx => digs_run r hr1 wx
      have hl := dec_len 5 (u / 10) (by omega)
      obtain ⟨sa, hsa⟩ : ∃ sa : ByteArray, sa = ⟨(Lib.decDigits (u / 10)).toArray⟩ := ⟨_, rfl⟩
      obtain ⟨sb, hsb⟩ : ∃ sb : ByteArray, sb = ⟨#[UInt8.ofNat (48 + r)]⟩ := ⟨_, rfl⟩
      obtain ⟨sc, hsc⟩ : ∃ sc : ByteArray, sc = sa ++ sb := ⟨_, rfl⟩
      have hadd := fun wx => run_string_add_sum (w := wx) (P := Tryd.prog) sa sb (by rw [hsa, hsb]; simp [ByteArray.size]; omega)
      have HF : Hid (sc = ⟨(Lib.decDigits u).toArray⟩) := Lib.hid (by rw [hsc, hsa, hsb, Lib.decDigits.eq_1 u, dif_neg h, ← HR.out]; exact cat_lists _ _)
      rw [← hsa] at ih'
      have IH := Lib.hid ih'
      rw [← hsb] at hsl
      rw [← hsc] at hadd
      clear ih ih' hdiv hl hsa hsb hsc HR
      go_enter Tryd.func40, Tryd.ntmps40
      go_wp2_with fail
      go_quiet ((go_at_call 40; exact Calls.quiet_of (IH.out _)))
      go_wp2
      go_ret
      exact ⟨ret_str HF.out, _, rfl⟩

end Go.Proofs.YtcbeoihgaccjcaaDoor
