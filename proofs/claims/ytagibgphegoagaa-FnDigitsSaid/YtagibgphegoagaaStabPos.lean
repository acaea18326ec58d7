/- Where the elements of a stable arrangement come from. Nothing of the program. -/
import Derived.Test.YtagibgphegoagaaStab
namespace Go.Proofs.Ytagibgphegoagaa
namespace Stab

variable {α : Type}

def ins (key : α → Int) (x : α) : List α → List α
  | [] => [x]
  | y :: r => if key y < key x then y :: ins key x r else x :: y :: r

theorem ins_mem {key : α → Int} {x y : α} : ∀ {r : List α}, y ∈ ins key x r ↔ y = x ∨ y ∈ r
  | [] => by simp [ins]
  | z :: r => by
    unfold ins
    split
    · rw [List.mem_cons, ins_mem, List.mem_cons]
      constructor
      · rintro (h | h | h)
        · exact .inr (.inl h)
        · exact .inl h
        · exact .inr (.inr h)
      · rintro (h | h | h)
        · exact .inr (.inl h)
        · exact .inl h
        · exact .inr (.inr h)
    · simp

theorem ins_sorted {key : α → Int} {x : α} : ∀ {r : List α}, r.Pairwise (fun a b => key a ≤ key b) → (ins key x r).Pairwise (fun a b => key a ≤ key b)
  | [], _ => by simp [ins]
  | z :: r, h => by
    have h1 := List.pairwise_cons.1 h
    unfold ins
    split
    · rename_i hlt
      refine List.pairwise_cons.2 ⟨fun y hy => ?_, ins_sorted h1.2⟩
      rcases ins_mem.1 hy with rfl | hy
      · omega
      · exact h1.1 y hy
    · rename_i hge
      refine List.pairwise_cons.2 ⟨fun y hy => ?_, h⟩
      rcases List.mem_cons.1 hy with rfl | hy
      · omega
      · have := h1.1 y hy; omega

theorem ins_filter {key : α → Int} {x : α} (q : Int) : ∀ {r : List α}, (ins key x r).filter (fun a => key a == q) = (x :: r).filter (fun a => key a == q)
  | [] => rfl
  | z :: r => by
    unfold ins
    split
    · rename_i hlt
      rw [List.filter_cons, ins_filter q, List.filter_cons, List.filter_cons, List.filter_cons]
      by_cases hz : key z = q
      · have hx : ¬ key x = q := by omega
        simp [hz, hx]
      · simp [hz]
    · rfl

theorem Of.exists_ (key : α → Int) : ∀ l : List α, ∃ r, Of key l r
  | [] => ⟨[], ⟨List.Pairwise.nil, fun _ => rfl⟩⟩
  | x :: l => by
    obtain ⟨r, h⟩ := Of.exists_ key l
    refine ⟨ins key x r, ins_sorted h.sorted, fun q => ?_⟩
    rw [ins_filter, List.filter_cons, List.filter_cons, h.same q]

/-- Where the elements of r stand in l: the same elements, each place once, equal keys in their order. -/
theorem Of.positions {key : α → Int} {l r : List α} (h : Of key l r) : ∃ σ : Nat → Nat,
    (∀ (i : Nat) x, r[i]? = some x → l[σ i]? = some x) ∧ (∀ (i j : Nat) x y, i < j → r[i]? = some x → r[j]? = some y → key x = key y → σ i < σ j) ∧ (∀ (k : Nat) x, l[k]? = some x → ∃ j, σ j = k ∧ r[j]? = some x) := by
  obtain ⟨rz, hz⟩ := Of.exists_ (fun p : α × Nat => key p.1) l.zipIdx
  have hmap : r = rz.map (·.1) := by
    refine h.uniq ⟨?_, fun q => ?_⟩
    · rw [List.pairwise_map]; exact hz.sorted
    · have e1 : (rz.map (·.1)).filter (fun a => key a == q) = (rz.filter (fun p => key p.1 == q)).map (·.1) := by rw [List.filter_map]; rfl
      have e2 : l.filter (fun a => key a == q) = (l.zipIdx.filter (fun p => key p.1 == q)).map (·.1) := by
        conv => lhs; rw [← List.zipIdx_map_fst 0 l]
        rw [List.filter_map]; rfl
      rw [e1, e2, hz.same q]
  have hidx : l.zipIdx.Pairwise (fun a b => a.2 < b.2) := by
    rw [List.pairwise_iff_getElem]
    intro i j hi hj hij
    rw [List.getElem_zipIdx, List.getElem_zipIdx]
    simpa using hij
  have hord : ∀ q : Int, rz.Pairwise (fun a b => (key a.1 == q) = true → (key b.1 == q) = true → a.2 < b.2) := by
    intro q
    rw [← List.pairwise_filter, hz.same q]
    exact hidx.filter _
  have hget : ∀ (i : Nat) x, r[i]? = some x → ∃ k, rz[i]? = some (x, k) := by
    intro i x hx
    rw [hmap, List.getElem?_map] at hx
    cases hr : rz[i]? with
    | none => rw [hr] at hx; simp at hx
    | some p =>
      rw [hr] at hx
      obtain rfl := Option.some.inj hx
      exact ⟨p.2, rfl⟩
  refine ⟨fun i => ((rz[i]?).map (·.2)).getD 0, fun i x hx => ?_, fun i j x y hij hx hy he => ?_, fun k x hx => ?_⟩
  · obtain ⟨k, hk⟩ := hget i x hx
    have hm : (x, k) ∈ l.zipIdx := (hz.mem _).1 (List.mem_of_getElem? hk)
    simp only [hk, Option.map_some, Option.getD_some]
    exact List.mem_zipIdx_iff_getElem?.1 hm
  · obtain ⟨k, hk⟩ := hget i x hx
    obtain ⟨m, hm⟩ := hget j y hy
    simp only [hk, hm, Option.map_some, Option.getD_some]
    have hi := (List.getElem?_eq_some_iff.1 hk)
    have hj := (List.getElem?_eq_some_iff.1 hm)
    obtain ⟨hi1, hi2⟩ := hi
    obtain ⟨hj1, hj2⟩ := hj
    have := (List.pairwise_iff_getElem.1 (hord (key x))) i j hi1 hj1 hij
    rw [hi2, hj2] at this
    exact this (by simp) (by simp [he])
  · have hm : (x, k) ∈ l.zipIdx := List.mem_zipIdx_iff_getElem?.2 hx
    obtain ⟨j, hj, hj2⟩ := List.getElem_of_mem ((hz.mem _).2 hm)
    have hg : rz[j]? = some (x, k) := by rw [List.getElem?_eq_getElem hj, hj2]
    refine ⟨j, by simp only [hg, Option.map_some, Option.getD_some], ?_⟩
    rw [hmap, List.getElem?_map, hg]; rfl

end Stab
end Go.Proofs.Ytagibgphegoagaa
