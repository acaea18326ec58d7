/- What FnCycles asks of cycles and signs, in pure terms. -/
import Derived.Test.YtjmmhakmidddoaaSmallSS
namespace Go.Proofs.Ytjmmhakmidddoaa
open Go.RowKit P

theorem nats_at {c : List Nat} {k : Nat} (h : k < c.length) : (nats c)[k]? = some ((c.getD k 0 : Nat) : Int) := by
  unfold nats
  rw [List.getElem?_map, List.getD_eq_getElem?_getD, List.getElem?_eq_getElem h]; rfl

theorem cyc_law {p : List Int} {R : List (List Int)} (h : cycF p = (R, true)) :
    OkP p ∧ R.length ≤ p.length ∧ offs R R.length = p.length ∧ signF p = (pm (p.length - R.length), true) ∧
    ∀ (i : Nat) x, R[i]? = some x → 0 < x.length ∧ x.length ≤ p.length ∧ ∀ k, k < x.length → ∃ e e' : Nat, x[k]? = some (e : Int) ∧ e < p.length ∧ x[(k + 1) % x.length]? = some (e' : Int) ∧ p[e]? = some (e' : Int) := by
  by_cases hp : OkP p
  · rw [cycF_yes hp] at h
    obtain rfl := (Prod.mk.inj h).1
    obtain ⟨h1, h2, h3, h4, h5, h6, _⟩ := vis_all hp p.length (Nat.le_refl _)
    have h7 := vis_length hp
    obtain ⟨h8, h9⟩ := sign_cycles hp
    have hsum : offs ((cyc p p.length).map nats) ((cyc p p.length).map nats).length = p.length := by rw [offs_sum, nats_lens, ← h5, h7]
    refine ⟨hp, by rw [List.length_map]; exact h8, hsum, by rw [signF_yes hp, h9, List.length_map], fun i x hx => ?_⟩
    have hle := offs_succ hx
    have hle2 := offs_le ((cyc p p.length).map nats) (i + 1)
    rw [hsum] at hle2
    rw [List.getElem?_map] at hx
    cases hc : (cyc p p.length)[i]? with
    | none => rw [hc] at hx; cases hx
    | some c =>
      rw [hc] at hx
      obtain rfl := Option.some.inj hx
      have C := h4 c (List.mem_of_getElem? hc)
      refine ⟨by rw [nats_length]; exact C.pos, by omega, fun k hk => ?_⟩
      rw [nats_length] at hk ⊢
      have hmod : (k + 1) % c.length < c.length := Nat.mod_lt _ C.pos
      have hsm : c.getD k 0 < p.length := C.small _ (by rw [List.getD_eq_getElem?_getD, List.getElem?_eq_getElem hk]; exact List.getElem_mem hk)
      exact ⟨c.getD k 0, c.getD ((k + 1) % c.length) 0, nats_at hk, hsm, nats_at hmod, by rw [← C.chain k hk]; exact at_getD hsm⟩
  · rw [cycF_no hp] at h; simp at h
theorem cyc_bad {p : List Int} {R : List (List Int)} (h : cycF p = (R, false)) : ¬ OkP p ∧ R = [] ∧ signF p = (0, false) := by
  by_cases hp : OkP p
  · rw [cycF_yes hp] at h; simp at h
  · rw [cycF_no hp] at h
    exact ⟨hp, (Prod.mk.inj h).1.symm, signF_no hp⟩

end Go.Proofs.Ytjmmhakmidddoaa
