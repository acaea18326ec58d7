/- The sort of parts by whatever finish, pure. Nothing of the program. -/
import Derived.Test.YtipdfmedbcafpaaQuickP
namespace Go.Proofs.Ytipdfmedbcafpaa
set_option linter.unusedVariables false
namespace Qk
open P El

/-- What a finish makes of a part at a depth: the part and what it counts, or nothing. -/
abbrev Fin3 := Nat → List Int → Option (List Int × Nat)
def sgDone (L : List Int) : Option (List Int × Nat) → List Int × Nat × Nat
  | some r => (r.1, 0, r.2)
  | none => (L, 0, 0)
def sgJoin (M : List Int) (lt gt : Nat) (A B : List Int × Nat × Nat) : List Int × Nat × Nat := (A.1 ++ ((M.take gt).drop lt ++ B.1), 1 + A.2.1 + B.2.1, A.2.2 + B.2.2)
def sg (fin : Fin3) : Nat → Nat → List Int → List Int × Nat × Nat
  | 0, d, L => sgDone L (fin d L)
  | f + 1, d, L => if (fin d L).isSome then sgDone L (fin d L) else
      sgJoin (thF L (L.getD (medF L) 0)).1 (thF L (L.getD (medF L) 0)).2.1 (thF L (L.getD (medF L) 0)).2.2
        (sg fin f (d + 1) ((thF L (L.getD (medF L) 0)).1.take (thF L (L.getD (medF L) 0)).2.1)) (sg fin f (d + 1) ((thF L (L.getD (medF L) 0)).1.drop (thF L (L.getD (medF L) 0)).2.2))
theorem sg_done {fin : Fin3} {d : Nat} {L M : List Int} {h : Nat} (e : fin d L = some (M, h)) (f : Nat) : sg fin f d L = (M, 0, h) := by
  cases f with
  | zero => show sgDone L (fin d L) = _; rw [e]; rfl
  | succ f => show (if _ then _ else _) = _; rw [e]; rfl
theorem sg_go {fin : Fin3} {f d : Nat} {L M : List Int} {lt gt : Nat} (e : fin d L = none) (ht : thF L (L.getD (medF L) 0) = (M, lt, gt)) :
    sg fin (f + 1) d L = sgJoin M lt gt (sg fin f (d + 1) (M.take lt)) (sg fin f (d + 1) (M.drop gt)) := by
  show (if _ then _ else _) = _; rw [e, ht]; rfl
/-- A good finish: it takes all small parts, it keeps the length, and it does not count too much. -/
structure FinOk (fin : Fin3) : Prop where
  small : ∀ d L, L.length < 2 → ∃ r, fin d L = some r
  len : ∀ d L M h, fin d L = some (M, h) → M.length = L.length ∧ h ≤ L.length
theorem FinOk.two {fin : Fin3} (hf : FinOk fin) {d : Nat} {L : List Int} (e : fin d L = none) : ¬ L.length < 2 := fun h => by
  obtain ⟨r, hr⟩ := hf.small d L h
  rw [hr] at e; cases e
theorem sg_spec {fin : Fin3} (hf : FinOk fin) : ∀ (f d : Nat) (L : List Int), L.length ≤ f → (sg fin f d L).1.length = L.length ∧ (sg fin f d L).2.1 ≤ L.length ∧ (sg fin f d L).2.2 ≤ L.length
  | 0, d, L, h => by
    obtain ⟨⟨M, k⟩, hr⟩ := hf.small d L (by omega)
    rw [sg_done hr]
    have := hf.len d L M k hr
    exact ⟨this.1, Nat.zero_le _, this.2⟩
  | f + 1, d, L, h => by
    cases e : fin d L with
    | some r =>
      obtain ⟨M, k⟩ := r
      rw [sg_done e]
      have := hf.len d L M k e
      exact ⟨this.1, Nat.zero_le _, this.2⟩
    | none =>
      have hs := hf.two e
      have hm := getD_mem (medF_lt (L := L) (by omega))
      have ht := thF_spec L (L.getD (medF L) 0)
      have hx := thF_some hm
      obtain ⟨⟨M, lt, gt⟩, he⟩ : ∃ T, thF L (L.getD (medF L) 0) = T := ⟨_, rfl⟩
      rw [he] at ht hx
      simp only at ht hx
      rw [sg_go e he]
      obtain ⟨p1, p2⟩ := part_lens ht
      have a3 := ht.h3
      obtain ⟨b1, b2, b3⟩ := sg_spec hf f (d + 1) (M.take lt) (by omega)
      obtain ⟨c1, c2, c3⟩ := sg_spec hf f (d + 1) (M.drop gt) (by omega)
      have hl := ht.perm.length_eq
      unfold sgJoin
      refine ⟨?_, by simp only; omega, by simp only; omega⟩
      simp only [List.length_append, List.length_drop, List.length_take]
      omega

/-- Quicksort's finish. -/
def finQ : Fin3 := fun _ L => if L.length < 2 then some (L, 0) else none
theorem finQ_ok : FinOk finQ := ⟨fun d L h => ⟨_, if_pos h⟩, fun d L M k h => by
  unfold finQ at h; split at h
  · obtain ⟨rfl, rfl⟩ := Prod.mk.inj (Option.some.inj h); exact ⟨rfl, Nat.zero_le _⟩
  · cases h⟩
theorem sg_qs : ∀ (f d : Nat) (L : List Int), L.length ≤ f → sg finQ f d L = ((qs f L).1, (qs f L).2, 0)
  | 0, d, L, h => by rw [sg_done (M := L) (h := 0) (if_pos (by omega)), qs_small (by omega)]
  | f + 1, d, L, h => by
    by_cases hs : L.length < 2
    · rw [sg_done (M := L) (h := 0) (if_pos hs), qs_small hs]
    · have ht := thF_spec L (L.getD (medF L) 0)
      have hx := thF_some (getD_mem (medF_lt (L := L) (by omega)))
      obtain ⟨⟨M, lt, gt⟩, he⟩ : ∃ T, thF L (L.getD (medF L) 0) = T := ⟨_, rfl⟩
      rw [he] at ht hx
      simp only at ht hx
      obtain ⟨p1, p2⟩ := part_lens ht
      have a3 := ht.h3
      rw [sg_go (if_neg hs) he, qs_big hs he, sg_qs f (d + 1) (M.take lt) (by omega), sg_qs f (d + 1) (M.drop gt) (by omega)]
      rfl
/-- Introsort's. -/
def finI (m : Nat) : Fin3 := fun d L => if L.length ≤ 5 then some (srt L, 0) else if d = m then some (srt L, 1) else none
theorem finI_small {m d : Nat} {L : List Int} (h : L.length ≤ 5) : finI m d L = some (srt L, 0) := if_pos h
theorem finI_heap {m d : Nat} {L : List Int} (h : ¬ L.length ≤ 5) (hd : d = m) : finI m d L = some (srt L, 1) := by unfold finI; rw [if_neg h, if_pos hd]
theorem finI_none {m d : Nat} {L : List Int} (h : ¬ L.length ≤ 5) (hd : ¬ d = m) : finI m d L = none := by unfold finI; rw [if_neg h, if_neg hd]
theorem finI_ok (m : Nat) : FinOk (finI m) := ⟨fun d L h => ⟨_, finI_small (by omega)⟩, fun d L M k h => by
  by_cases h5 : L.length ≤ 5
  · rw [finI_small h5] at h; obtain ⟨rfl, rfl⟩ := Prod.mk.inj (Option.some.inj h); exact ⟨srt_length _, Nat.zero_le _⟩
  · by_cases hd : d = m
    · rw [finI_heap h5 hd] at h; obtain ⟨rfl, rfl⟩ := Prod.mk.inj (Option.some.inj h); exact ⟨srt_length _, by omega⟩
    · rw [finI_none h5 hd] at h; cases h⟩
theorem sg_it (m : Nat) : ∀ (k f d : Nat) (L : List Int), L.length ≤ f → d + k = m → sg (finI m) f d L = itn k L
  | k, f, d, L, h, hd => by
    by_cases h5 : L.length ≤ 5
    · rw [sg_done (finI_small h5), itn_small h5]
    · cases k with
      | zero => rw [sg_done (finI_heap h5 (by omega)), itn_heap h5]
      | succ k =>
        obtain ⟨f, rfl⟩ : ∃ f', f = f' + 1 := ⟨f - 1, by omega⟩
        have ht := thF_spec L (L.getD (medF L) 0)
        have hx := thF_some (getD_mem (medF_lt (L := L) (by omega)))
        obtain ⟨⟨M, lt, gt⟩, he⟩ : ∃ T, thF L (L.getD (medF L) 0) = T := ⟨_, rfl⟩
        rw [he] at ht hx
        simp only at ht hx
        obtain ⟨p1, p2⟩ := part_lens ht
        have a3 := ht.h3
        rw [sg_go (finI_none h5 (by omega)) he, itn_big h5 he, sg_it m k f (d + 1) (M.take lt) (by omega) (by omega), sg_it m k f (d + 1) (M.drop gt) (by omega) (by omega)]
        rfl

end Qk
end Go.Proofs.Ytipdfmedbcafpaa
