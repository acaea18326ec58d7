/- rSum of the laws at a list of small numbers, by its contract. -/
import Derived.Test.YtjlldjekjnlcaaaPerm
import Derived.Test.YtjlldjekjnlcaaaInts
import Derived.BigQuiet
import Derived.Deep.QuietTactic
import Derived.Laws.BitsLemmas
import Derived.Deep.CutRange
import Derived.Deep.LoopGhost
import Derived.BigGuardPart
namespace Go.Proofs.Ytjlldjekjnlcaaa
open Go.RowKit P
set_option linter.unusedVariables false

theorem sum_take {D : List Nat} {k m : Nat} (h : D[k]? = some m) : (D.take (k + 1)).sum = (D.take k).sum + m := by
  rw [List.take_add_one, h, List.sum_append]; simp
theorem sum_small : ∀ {D : List Nat} {b : Nat}, (∀ x ∈ D, x ≤ b) → D.sum ≤ D.length * b
  | [], _, _ => by simp
  | x :: D, b, h => by
    have := sum_small (D := D) (fun y hy => h y (List.mem_cons_of_mem _ hy))
    have := h x List.mem_cons_self
    rw [List.sum_cons, List.length_cons, Nat.add_mul]; omega

set_option maxRecDepth 100000 in
theorem rSumN_any (D : List Nat) (v : Value) (W : World) (hv : FlatAt W v (nats D).length (ints (nats D))) (hl : D.length ≤ 64) (hf : ∀ x ∈ D, x ≤ 64) :
    Calls Try.prog 23 #[v] W fun e w' => e = .returned (.int .i64 (D.sum : Nat)) ∧ w' = W := by
  obtain ⟨a, c, rfl, _, h⟩ := hv
  have HE := Lib.hid (fun j (x : Nat) (hj : D[j]? = some x) => by
    obtain ⟨b, o, e, hb, hh⟩ := h j (.int .i64 (x : Int)) (ints_at (by unfold nats; rw [List.getElem?_map, hj]; rfl))
    exact (⟨b, o, e, hb, hh⟩ : ∃ b o, a = some ⟨b, o, none⟩ ∧ b < W.heap.size ∧ W.cell? ⟨b, o + j, none⟩ = some (.int .i64 (x : Int))))
  have HST : Hid (∀ k, (D.take k).sum ≤ 4096) := Lib.hid (fun k => by
    have h1 := sum_small (D := D.take k) (b := 64) (fun x hx => hf x (List.mem_of_mem_take hx))
    have h2 : (D.take k).length ≤ 64 := by rw [List.length_take]; omega
    have := Nat.mul_le_mul_right 64 h2
    omega)
  have HSM := Lib.hid hf
  have hnl : (nats D).length = D.length := nats_length D
  rw [hnl]
  clear h hf hnl
  go_enter Try.func23, Try.ntmps23
  go_wp2_with fail
  go_loopw [3, 4] (fun nv iv wr => ∃ (k n : Nat), k ≤ D.length ∧ iv = .int .i64 (k : Int) ∧ nv = .int .i64 (n : Int) ∧ Hid (n = (D.take k).sum) ∧ wr = W) (fun _ iv _ => D.length - (intOf iv).toNat)
  case atStart => exact ⟨0, 0, Nat.zero_le _, rfl, rfl, Lib.hid rfl, rfl⟩
  case round =>
    obtain ⟨k, n, hk, rfl, rfl, HN, rfl⟩ := hrel
    have hn := HST.out k
    rw [← HN.out] at hn
    by_cases hlt : k < D.length
    · obtain ⟨m, hm⟩ : ∃ m, D[k]? = some m := ⟨_, List.getElem?_eq_getElem hlt⟩
      have hm64 := HSM.out m (List.mem_of_getElem? hm)
      obtain ⟨b2, o2, rfl, hbb, hc⟩ := HE.out _ _ hm
      have HM := Lib.hid (sum_take hm)
      clear hm
      go_wp2_with fail
      go_roundw
      case rel => exact ⟨k + 1, n + m, by omega, by go_num, by go_num, Lib.hid (by rw [HM.out, ← HN.out]), by trivial⟩
      case measure => simp [intOf]; omega
    · obtain rfl : k = D.length := by omega
      have HE2 : Hid (n = D.sum) := Lib.hid (by have := HN.out; rw [List.take_length] at this; exact this)
      go_wp2_with fail
      go_ret
      exact ⟨by rw [← HE2.out]; rfl, rfl⟩

end Go.Proofs.Ytjlldjekjnlcaaa
