/- Class OrdW HeldQ InsQ OrdG Arr ICls SCls ClsS ClsP, as one text. -/
import Derived.Test.YtipdfmedbcafpaaStC
import Derived.Test.YtipdfmedbcafpaaOrdC
import Derived.Test.YtipdfmedbcafpaaPerm
import Derived.Test.YtipdfmedbcafpaaHeldR
import Derived.Test.YtipdfmedbcafpaaISortP
import Derived.Test.YtipdfmedbcafpaaIOrd
import Derived.Test.YtipdfmedbcafpaaSmallS

section
/- Classes of ties, in pure terms. -/
namespace Go.Proofs.Ytipdfmedbcafpaa
open Go.Sort StC
namespace Cl
variable {lt : Nat → Nat → Bool}

/-- The first of a class. -/
def hd (c : List Nat) : Nat := c.headD 0
theorem hd_append {c d : List Nat} (h : c ≠ []) : hd (c ++ d) = hd c := by cases c with
  | nil => exact absurd rfl h
  | cons x c => rfl

/-- An element put into the classes found so far. -/
def ins (lt : Nat → Nat → Bool) (x : Nat) : List (List Nat) → List (List Nat)
  | [] => [[x]]
  | c :: C => if lt (hd c) x then c :: ins lt x C else if tie lt (hd c) x then (c ++ [x]) :: C else [x] :: c :: C

theorem tie_iff {a b : Nat} : tie lt a b = true ↔ lt a b = false ∧ lt b a = false := by
  unfold tie; cases lt a b <;> cases lt b a <;> simp
theorem tie_symm {a b : Nat} : tie lt a b = tie lt b a := by unfold tie; rw [Bool.and_comm]
theorem asym (hO : SWO lt) {a b : Nat} (h : lt a b = true) : lt b a = false := by
  cases h2 : lt b a with
  | false => rfl
  | true => have := hO.trans a b a h h2; rw [hO.irrefl] at this; exact this.symm
theorem lt_tie (hO : SWO lt) {a b c : Nat} (h : lt a b = true) (k : tie lt b c = true) : lt a c = true := by
  obtain ⟨k1, k2⟩ := tie_iff.1 k
  cases h2 : lt a c with
  | true => rfl
  | false => have := hO.ntrans a c b h2 k2; rw [h] at this; exact this.symm
theorem tie_lt (hO : SWO lt) {a b c : Nat} (h : tie lt a b = true) (k : lt b c = true) : lt a c = true := by
  obtain ⟨k1, k2⟩ := tie_iff.1 h
  cases h2 : lt a c with
  | true => rfl
  | false => have := hO.ntrans b a c k2 h2; rw [k] at this; exact this.symm
theorem tie_trans (hO : SWO lt) {a b c : Nat} (h : tie lt a b = true) (k : tie lt b c = true) : tie lt a c = true := by
  obtain ⟨h1, h2⟩ := tie_iff.1 h
  obtain ⟨k1, k2⟩ := tie_iff.1 k
  exact tie_iff.2 ⟨hO.ntrans _ _ _ h1 k1, hO.ntrans _ _ _ k2 h2⟩
theorem no_tie (hO : SWO lt) {q x y : Nat} (h : lt x y = true) (k : tie lt q x = true) : tie lt q y = false := by
  have := tie_lt hO k h
  unfold tie; rw [this]; rfl

/-- Classes of a list: each of ties, in ascending order, in the list's order within. -/
structure Cls (lt : Nat → Nat → Bool) (l : List Nat) (C : List (List Nat)) : Prop where
  ne : ∀ c ∈ C, c ≠ []
  ties : ∀ c ∈ C, ∀ y ∈ c, tie lt (hd c) y = true
  ord : C.Pairwise (fun c d => lt (hd c) (hd d) = true)
  same : ∀ q, C.flatten.filter (tie lt q) = l.filter (tie lt q)

theorem Cls.nil : Cls lt ([] : List Nat) [] := ⟨by simp, by simp, .nil, by simp⟩

theorem mem_ins {x : Nat} : ∀ {C : List (List Nat)} {c}, c ∈ ins lt x C → c ∈ C ∨ c = [x] ∨ ∃ d ∈ C, c = d ++ [x] ∧ tie lt (hd d) x = true
  | [], c, h => by simp [ins] at h; exact .inr (.inl h)
  | d :: C, c, h => by
    unfold ins at h
    split at h
    · rcases List.mem_cons.1 h with rfl | h
      · exact .inl (List.mem_cons_self ..)
      · rcases mem_ins h with h | h | ⟨e, h1, h2⟩
        · exact .inl (List.mem_cons_of_mem _ h)
        · exact .inr (.inl h)
        · exact .inr (.inr ⟨e, List.mem_cons_of_mem _ h1, h2⟩)
    · split at h
      · rename_i ht
        rcases List.mem_cons.1 h with rfl | h
        · exact .inr (.inr ⟨d, List.mem_cons_self .., rfl, ht⟩)
        · exact .inl (List.mem_cons_of_mem _ h)
      · rcases List.mem_cons.1 h with rfl | h
        · exact .inr (.inl rfl)
        · exact .inl h

theorem ins_ord (hO : SWO lt) {x : Nat} : ∀ {C : List (List Nat)}, (∀ c ∈ C, c ≠ []) → C.Pairwise (fun c d => lt (hd c) (hd d) = true) → (ins lt x C).Pairwise (fun c d => lt (hd c) (hd d) = true)
  | [], _, _ => by simp [ins]
  | c :: C, hne, h => by
    obtain ⟨h1, h2⟩ := List.pairwise_cons.1 h
    unfold ins
    split
    · rename_i hl
      refine List.pairwise_cons.2 ⟨fun d hd' => ?_, ins_ord hO (fun c hc => hne c (List.mem_cons_of_mem _ hc)) h2⟩
      rcases mem_ins hd' with h3 | rfl | ⟨e, h3, rfl, _⟩
      · exact h1 d h3
      · exact hl
      · rw [hd_append (hne e (List.mem_cons_of_mem _ h3))]; exact h1 e h3
    · rename_i hl
      split
      · refine List.pairwise_cons.2 ⟨fun d hd' => ?_, h2⟩
        rw [hd_append (hne c (List.mem_cons_self ..))]; exact h1 d hd'
      · rename_i ht
        have hxc : lt x (hd c) = true := by
          cases h3 : lt x (hd c) with
          | true => rfl
          | false => exact absurd (tie_iff.2 ⟨by simpa using hl, h3⟩) ht
        refine List.pairwise_cons.2 ⟨fun d hd' => ?_, h⟩
        rcases List.mem_cons.1 hd' with rfl | h3
        · exact hxc
        · exact hO.trans x (hd c) (hd d) hxc (h1 d h3)

theorem filter_none {q : Nat} {l : List Nat} (h : ∀ y ∈ l, tie lt q y = false) : l.filter (tie lt q) = [] := by
  rw [List.filter_eq_nil_iff]; intro y hy; rw [h y hy]; simp

theorem ins_same (hO : SWO lt) {x : Nat} (q : Nat) : ∀ {C : List (List Nat)}, (∀ c ∈ C, ∀ y ∈ c, tie lt (hd c) y = true) → C.Pairwise (fun c d => lt (hd c) (hd d) = true) →
    (ins lt x C).flatten.filter (tie lt q) = C.flatten.filter (tie lt q) ++ [x].filter (tie lt q)
  | [], _, _ => by simp [ins]
  | c :: C, ht, h => by
    obtain ⟨h1, h2⟩ := List.pairwise_cons.1 h
    have htC := fun d hd' => ht d (List.mem_cons_of_mem c hd')
    unfold ins
    split
    · rw [List.flatten_cons, List.filter_append, ins_same hO q htC h2, List.flatten_cons, List.filter_append, List.append_assoc]
    · rename_i hl
      have hlf : lt (hd c) x = false := by simpa using hl
      split
      · rename_i htx
        rw [List.flatten_cons, List.flatten_cons, List.filter_append, List.filter_append, List.filter_append]
        by_cases hq : tie lt q x = true
        · have : C.flatten.filter (tie lt q) = [] := filter_none (fun y hy => by
            obtain ⟨d, hd1, hd2⟩ := List.mem_flatten.1 hy
            have h3 : lt x (hd d) = true := tie_lt hO (tie_symm ▸ htx) (h1 d hd1)
            exact no_tie hO (lt_tie hO h3 (htC d hd1 y hd2)) hq)
          rw [this]; simp
        · have : [x].filter (tie lt q) = [] := by simp [hq]
          rw [this]; simp
      · rename_i htx
        have hxc : lt x (hd c) = true := by
          cases h3 : lt x (hd c) with
          | true => rfl
          | false => exact absurd (tie_iff.2 ⟨hlf, h3⟩) htx
        rw [List.flatten_cons, List.filter_append]
        by_cases hq : tie lt q x = true
        · have : (c :: C).flatten.filter (tie lt q) = [] := filter_none (fun y hy => by
            obtain ⟨d, hd1, hd2⟩ := List.mem_flatten.1 hy
            have h3 : lt x (hd d) = true := by
              rcases List.mem_cons.1 hd1 with rfl | hd1
              · exact hxc
              · exact hO.trans _ _ _ hxc (h1 d hd1)
            exact no_tie hO (lt_tie hO h3 (ht d hd1 y hd2)) hq)
          rw [this]; simp
        · have : [x].filter (tie lt q) = [] := by simp [hq]
          rw [this]; simp

theorem Cls.put (hO : SWO lt) {l : List Nat} {C : List (List Nat)} (h : Cls lt l C) (x : Nat) : Cls lt (l ++ [x]) (ins lt x C) := by
  refine ⟨fun c hc => ?_, fun c hc y hy => ?_, ins_ord hO h.ne h.ord, fun q => ?_⟩
  · rcases mem_ins hc with h1 | rfl | ⟨d, h1, rfl, _⟩
    · exact h.ne c h1
    · simp
    · simp
  · rcases mem_ins hc with h1 | rfl | ⟨d, h1, rfl, h2⟩
    · exact h.ties c h1 y hy
    · simp at hy; subst hy; exact tie_iff.2 ⟨hO.irrefl y, hO.irrefl y⟩
    · rw [hd_append (h.ne d h1)]
      rcases List.mem_append.1 hy with hy | hy
      · exact h.ties d h1 y hy
      · simp at hy; subst hy; exact h2
  · rw [ins_same hO q h.ties h.ord, List.filter_append, h.same]

/-- The classes laid one behind the other are in order. -/
theorem flat_sorted (hO : SWO lt) : ∀ {C : List (List Nat)}, (∀ c ∈ C, ∀ y ∈ c, tie lt (hd c) y = true) → C.Pairwise (fun c d => lt (hd c) (hd d) = true) → C.flatten.Pairwise (fun a b => lt b a = false)
  | [], _, _ => .nil
  | c :: C, ht, h => by
    obtain ⟨h1, h2⟩ := List.pairwise_cons.1 h
    rw [List.flatten_cons]
    refine List.pairwise_append.2 ⟨?_, flat_sorted hO (fun d hd' => ht d (List.mem_cons_of_mem c hd')) h2, fun a ha b hb => ?_⟩
    · have hc := ht c (List.mem_cons_self ..)
      refine List.pairwise_iff_forall_sublist.2 fun {a b} hab => ?_
      have ha : a ∈ c := hab.subset (by simp)
      have hb : b ∈ c := hab.subset (by simp)
      exact (tie_iff.1 (tie_trans hO (tie_symm ▸ hc a ha) (hc b hb))).2
    · obtain ⟨d, hd1, hd2⟩ := List.mem_flatten.1 hb
      exact asym hO (tie_lt hO (tie_symm ▸ ht c (List.mem_cons_self ..) a ha) (lt_tie hO (h1 d hd1) (ht d (List.mem_cons_of_mem _ hd1) b hd2)))

/-- A stable arrangement is one alone. -/
theorem sorted_uniq (hO : SWO lt) : ∀ (r s : List Nat), r.Pairwise (fun a b => lt b a = false) → s.Pairwise (fun a b => lt b a = false) → (∀ q, r.filter (tie lt q) = s.filter (tie lt q)) → r = s
  | [], [], _, _, _ => rfl
  | [], y :: s, _, _, h => by have := h y; rw [List.filter_cons (x := y), if_pos (tie_iff.2 ⟨hO.irrefl y, hO.irrefl y⟩)] at this; simp at this
  | x :: r, [], _, _, h => by have := h x; rw [List.filter_cons, if_pos (tie_iff.2 ⟨hO.irrefl x, hO.irrefl x⟩)] at this; simp at this
  | x :: r, y :: s, hr, hs, h => by
    obtain ⟨hr1, hr2⟩ := List.pairwise_cons.1 hr
    obtain ⟨hs1, hs2⟩ := List.pairwise_cons.1 hs
    have hxx : tie lt x x = true := tie_iff.2 ⟨hO.irrefl x, hO.irrefl x⟩
    have hyy : tie lt y y = true := tie_iff.2 ⟨hO.irrefl y, hO.irrefl y⟩
    have hx : x ∈ y :: s := (List.mem_filter.1 (by rw [← h x]; exact List.mem_filter.2 ⟨List.mem_cons_self .., hxx⟩)).1
    have hy : y ∈ x :: r := (List.mem_filter.1 (by rw [h y]; exact List.mem_filter.2 ⟨List.mem_cons_self .., hyy⟩)).1
    have h1 : lt x y = false := by
      rcases List.mem_cons.1 hx with rfl | hx
      · exact hO.irrefl x
      · exact hs1 x hx
    have h2 : lt y x = false := by
      rcases List.mem_cons.1 hy with rfl | hy
      · exact hO.irrefl y
      · exact hr1 y hy
    have hxy : tie lt x y = true := tie_iff.2 ⟨h1, h2⟩
    have h3 := h x
    rw [List.filter_cons, if_pos hxx, List.filter_cons, if_pos hxy] at h3
    obtain rfl := (List.cons.inj h3).1
    rw [sorted_uniq hO r s hr2 hs2 (fun q => by
      have h4 := h q
      rw [List.filter_cons, List.filter_cons] at h4
      by_cases hq : tie lt q x = true
      · rw [if_pos hq, if_pos hq] at h4; exact (List.cons.inj h4).2
      · rw [if_neg hq, if_neg hq] at h4; exact h4)]

/-- Neighbours that tie, grouped: one more element. -/
def grpStep (lt : Nat → Nat → Bool) (acc : List (List Nat)) (e : Nat) : List (List Nat) :=
  match acc.getLast? with
  | some c => if tie lt (hd c) e then acc.dropLast ++ [c ++ [e]] else acc ++ [[e]]
  | none => acc ++ [[e]]
def grp (lt : Nat → Nat → Bool) (l : List Nat) : List (List Nat) := l.foldl (grpStep lt) []

theorem grp_tail (lt : Nat → Nat → Bool) (acc : List (List Nat)) : ∀ (t d : List Nat), d ≠ [] → (∀ y ∈ t, tie lt (hd d) y = true) → t.foldl (grpStep lt) (acc ++ [d]) = acc ++ [d ++ t]
  | [], d, _, _ => by simp
  | e :: t, d, hne, h => by
    rw [List.foldl_cons]
    have : grpStep lt (acc ++ [d]) e = acc ++ [d ++ [e]] := by
      unfold grpStep
      simp [h e (List.mem_cons_self ..)]
    rw [this, grp_tail lt acc t (d ++ [e]) (by simp) (fun y hy => by rw [hd_append hne]; exact h y (List.mem_cons_of_mem _ hy))]
    simp

theorem grp_from (lt : Nat → Nat → Bool) : ∀ (C acc : List (List Nat)), (∀ c ∈ C, c ≠ []) → (∀ c ∈ C, ∀ y ∈ c, tie lt (hd c) y = true) → (acc ++ C).Pairwise (fun c d => lt (hd c) (hd d) = true) → C.flatten.foldl (grpStep lt) acc = acc ++ C
  | [], acc, _, _, _ => by simp
  | c :: C, acc, hne, ht, ho => by
    cases c with
    | nil => exact absurd rfl (hne [] (List.mem_cons_self ..))
    | cons x t =>
      rw [List.flatten_cons, List.foldl_append, List.foldl_cons]
      have h1 : grpStep lt acc x = acc ++ [[x]] := by
        unfold grpStep
        split
        · rename_i d hd'
          have hm : d ∈ acc := List.mem_of_getLast? hd'
          have := (List.pairwise_append.1 ho).2.2 d hm (x :: t) (List.mem_cons_self ..)
          rw [if_neg]
          intro hh
          rw [show hd (x :: t) = x from rfl] at this
          rw [(tie_iff.1 hh).1] at this
          exact absurd this (by simp)
        · rfl
      rw [h1, grp_tail lt acc t [x] (by simp) (fun y hy => ht (x :: t) (List.mem_cons_self ..) y (List.mem_cons_of_mem _ hy))]
      have := grp_from lt C (acc ++ [x :: t]) (fun c hc => hne c (List.mem_cons_of_mem _ hc)) (fun c hc => ht c (List.mem_cons_of_mem _ hc)) (by simpa using ho)
      simpa using this

theorem Cls.grouped (hO : SWO lt) {l r : List Nat} {C : List (List Nat)} (h : Cls lt l C) (hr : r.Pairwise (fun a b => lt b a = false)) (hs : ∀ q, r.filter (tie lt q) = l.filter (tie lt q)) : grp lt r = C := by
  have e : r = C.flatten := sorted_uniq hO r _ hr (flat_sorted hO h.ties h.ord) (fun q => (hs q).trans (h.same q).symm)
  have := grp_from lt C [] h.ne h.ties (by simpa using h.ord)
  rw [e]; simpa [grp] using this

/-- Where the model puts an element. -/
theorem ins_at {x : Nat} : ∀ (C : List (List Nat)) (k : Nat), k ≤ C.length → (∀ j, j < k → ∀ c, C[j]? = some c → lt (hd c) x = true) → (∀ c, C[k]? = some c → lt (hd c) x = false) →
    ins lt x C = (match C[k]? with | some c => if tie lt (hd c) x then C.set k (c ++ [x]) else C.take k ++ [[x]] ++ C.drop k | none => C.take k ++ [[x]] ++ C.drop k)
  | [], k, hk, _, _ => by
    have : k = 0 := by simpa using hk
    subst this; simp [ins]
  | c :: C, 0, _, _, h2 => by
    have := h2 c rfl
    unfold ins
    rw [this]
    simp
  | c :: C, k + 1, hk, h1, h2 => by
    have h3 := h1 0 (by omega) c rfl
    unfold ins
    rw [if_pos h3, ins_at C k (by simpa using hk) (fun j hj c hc => h1 (j + 1) (by omega) c (by simpa using hc)) (fun c hc => h2 c (by simpa using hc))]
    simp only [List.getElem?_cons_succ]
    split
    · split <;> simp
    · simp
end Cl

end Go.Proofs.Ytipdfmedbcafpaa
end

section
/- A relation without a defect, and its classes, in pure terms. -/
namespace Go.Proofs.Ytipdfmedbcafpaa
open Go.Sort StC Cl

theorem DefectOf.clean {M : List (List Bool)} (h : DefectOf M []) : (∀ i, i < M.length → at2 M i i = false) ∧ (∀ i k m, i < M.length → k < M.length → m < M.length → at2 M i k = true → at2 M k m = true → at2 M i m = true) ∧
    (∀ i k m, i < M.length → k < M.length → m < M.length → tie2 M i k = true → tie2 M k m = true → tie2 M i m = true) := by
  have n1 : ∀ {P : Nat → Bool} {n}, First1 P n [] → ∀ i, i < n → P i = false := fun h => by
    rcases h with ⟨i, _, _, e, _⟩ | ⟨_, h⟩
    · simp at e
    · exact h
  have n3 : ∀ {P : Nat → Nat → Nat → Bool} {n}, FirstT P n [] → ∀ i k m, i < n → k < n → m < n → P i k m = false := fun h => by
    rcases h with ⟨i, k, m, _, _, _, _, e, _⟩ | ⟨_, h⟩
    · simp at e
    · exact h
  obtain ⟨L1, f1, h⟩ := h
  rcases h with ⟨h1, h2⟩ | ⟨rfl, L2, f2, h⟩
  · exact absurd h2.symm h1
  rcases h with ⟨h1, h2⟩ | ⟨rfl, L3, f3, h⟩
  · exact absurd h2.symm h1
  rcases h with ⟨h1, h2⟩ | ⟨rfl, f4⟩
  · exact absurd h2.symm h1
  refine ⟨fun i hi => n1 f1 i hi, fun i k m hi hk hm h1 h2 => ?_, fun i k m hi hk hm h1 h2 => ?_⟩
  · have := n3 f3 i k m hi hk hm
    unfold pTra at this
    rw [h1, h2] at this
    simpa using this
  · have := n3 f4 i k m hi hk hm
    unfold pTie at this
    rw [h1, h2] at this
    simpa using this

/-- The relation on all numbers: those beyond the table come last. -/
def ltM (M : List (List Bool)) (i k : Nat) : Bool := if i < M.length then (if k < M.length then at2 M i k else true) else false
theorem ltM_in {M : List (List Bool)} {i k : Nat} (hi : i < M.length) (hk : k < M.length) : ltM M i k = at2 M i k := by unfold ltM; rw [if_pos hi, if_pos hk]
theorem tieM_in {M : List (List Bool)} {i k : Nat} (hi : i < M.length) (hk : k < M.length) : tie (ltM M) i k = tie2 M i k := by unfold tie tie2; rw [ltM_in hi hk, ltM_in hk hi]
theorem ltM_out {M : List (List Bool)} {i k : Nat} (hi : i < M.length) (hk : ¬ k < M.length) : ltM M i k = true := by unfold ltM; rw [if_pos hi, if_neg hk]
theorem ltM_no {M : List (List Bool)} {i k : Nat} (hi : ¬ i < M.length) : ltM M i k = false := by unfold ltM; rw [if_neg hi]

theorem swoM {M : List (List Bool)} (h : DefectOf M []) : SWO (ltM M) := by
  obtain ⟨h1, h2, h3⟩ := h.clean
  have htr : ∀ x y z, ltM M x y = true → ltM M y z = true → ltM M x z = true := fun x y z a b => by
    by_cases hx : x < M.length
    · by_cases hz : z < M.length
      · by_cases hy : y < M.length
        · rw [ltM_in hx hy] at a
          rw [ltM_in hy hz] at b
          rw [ltM_in hx hz]
          exact h2 x y z hx hy hz a b
        · rw [ltM_no hy] at b; cases b
      · exact ltM_out hx hz
    · rw [ltM_no hx] at a; cases a
  refine ⟨fun x => ?_, htr, fun x y z a b => ?_⟩
  · by_cases hx : x < M.length
    · rw [ltM_in hx hx]; exact h1 x hx
    · exact ltM_no hx
  · by_cases hx : x < M.length
    · by_cases hy : y < M.length
      · by_cases hz : z < M.length
        · cases hxz : ltM M x z with
          | false => rfl
          | true =>
            exfalso
            cases hyx : ltM M y x with
            | true => rw [htr y x z hyx hxz] at b; cases b
            | false =>
              cases hzy : ltM M z y with
              | true => rw [htr x z y hxz hzy] at a; cases a
              | false =>
                rw [ltM_in hx hy] at a
                rw [ltM_in hy hz] at b
                rw [ltM_in hy hx] at hyx
                rw [ltM_in hz hy] at hzy
                rw [ltM_in hx hz] at hxz
                have := h3 x y z hx hy hz (by unfold tie2; rw [a, hyx]; rfl) (by unfold tie2; rw [b, hzy]; rfl)
                unfold tie2 at this
                rw [hxz] at this
                simp at this
        · rw [ltM_out hy hz] at b; cases b
      · rw [ltM_out hx hy] at a; cases a
    · exact ltM_no hx

/-- The classes of the first i elements. -/
def clsM (M : List (List Bool)) (i : Nat) : List (List Nat) := (List.range i).foldl (fun C x => ins (ltM M) x C) []
theorem clsM_zero (M : List (List Bool)) : clsM M 0 = [] := rfl
theorem clsM_succ (M : List (List Bool)) (i : Nat) : clsM M (i + 1) = ins (ltM M) i (clsM M i) := by unfold clsM; rw [List.range_succ, List.foldl_append]; rfl
theorem clsM_cls {M : List (List Bool)} (h : DefectOf M []) : ∀ i, Cls (ltM M) (List.range i) (clsM M i)
  | 0 => Cls.nil
  | i + 1 => by rw [clsM_succ, List.range_succ]; exact (clsM_cls h i).put (swoM h) i

theorem ins_len (lt : Nat → Nat → Bool) (x : Nat) : ∀ C : List (List Nat), (ins lt x C).flatten.length = C.flatten.length + 1
  | [] => by simp [ins]
  | c :: C => by
    unfold ins
    split
    · rw [List.flatten_cons, List.length_append, ins_len lt x C, List.flatten_cons, List.length_append]; omega
    · split
      · simp; omega
      · simp
theorem clsM_total (M : List (List Bool)) : ∀ i, (clsM M i).flatten.length = i
  | 0 => rfl
  | i + 1 => by rw [clsM_succ, ins_len, clsM_total M i]
theorem ins_mem (lt : Nat → Nat → Bool) (x : Nat) : ∀ (C : List (List Nat)) y, y ∈ (ins lt x C).flatten → y = x ∨ y ∈ C.flatten
  | [], y, h => by simp [ins] at h; exact .inl h
  | c :: C, y, h => by
    unfold ins at h
    split at h
    · rw [List.flatten_cons] at h ⊢
      rcases List.mem_append.1 h with h | h
      · exact .inr (List.mem_append_left _ h)
      · rcases ins_mem lt x C y h with h | h
        · exact .inl h
        · exact .inr (List.mem_append_right _ h)
    · split at h
      · rw [List.flatten_cons] at h ⊢
        rcases List.mem_append.1 h with h | h
        · rcases List.mem_append.1 h with h | h
          · exact .inr (List.mem_append_left _ h)
          · simp at h; exact .inl h
        · exact .inr (List.mem_append_right _ h)
      · rw [List.flatten_cons] at h
        rcases List.mem_append.1 h with h | h
        · simp at h; exact .inl h
        · exact .inr h
theorem clsM_mem (M : List (List Bool)) : ∀ i y, y ∈ (clsM M i).flatten → y < i
  | 0, y, h => by simp [clsM_zero] at h
  | i + 1, y, h => by
    rw [clsM_succ] at h
    rcases ins_mem _ _ _ _ h with h | h
    · omega
    · have := clsM_mem M i y h; omega
theorem ins_ne (lt : Nat → Nat → Bool) (x : Nat) (C : List (List Nat)) (h : ∀ c ∈ C, c ≠ []) : ∀ c ∈ ins lt x C, c ≠ [] := fun c hc => by
  rcases mem_ins hc with h1 | rfl | ⟨d, h1, rfl, _⟩
  · exact h c h1
  · simp
  · simp
theorem clsM_ne (M : List (List Bool)) : ∀ i, ∀ c ∈ clsM M i, c ≠ []
  | 0 => by simp [clsM_zero]
  | i + 1 => by rw [clsM_succ]; exact ins_ne _ _ _ (clsM_ne M i)
theorem len_flat : ∀ {C : List (List Nat)}, (∀ c ∈ C, c ≠ []) → C.length ≤ C.flatten.length
  | [], _ => Nat.le_refl _
  | c :: C, h => by
    have h1 := len_flat (fun d hd' => h d (List.mem_cons_of_mem c hd'))
    have h2 := List.length_pos_iff.2 (h c (List.mem_cons_self ..))
    simp only [List.length_cons, List.flatten_cons, List.length_append]
    omega
theorem clsM_len (M : List (List Bool)) (i : Nat) : (clsM M i).length ≤ i := by
  have := len_flat (clsM_ne M i); rw [clsM_total] at this; exact this
theorem hd_at {c : List Nat} (h : c ≠ []) : c[0]? = some (hd c) := by cases c with
  | nil => exact absurd rfl h
  | cons x c => rfl
theorem clsM_hd {M : List (List Bool)} {i : Nat} {c : List Nat} (h : c ∈ clsM M i) : hd c < i := by
  have hne := clsM_ne M i c h
  exact clsM_mem M i _ (List.mem_flatten.2 ⟨c, h, List.mem_of_getElem? (hd_at hne)⟩)
theorem mem_len {C : List (List Nat)} {c : List Nat} (h : c ∈ C) : c.length ≤ C.flatten.length := by
  obtain ⟨s, t, rfl⟩ := List.append_of_mem h
  simp; omega
theorem clsM_row {M : List (List Bool)} {i : Nat} {c : List Nat} (h : c ∈ clsM M i) : c.length ≤ i := by
  have := mem_len h; rw [clsM_total] at this; exact this

open Classical in
/-- The classes, and whether there are any. -/
noncomputable def clsF (M : List (List Bool)) : List (List Int) × Bool := if OkM M ∧ DefectOf M [] then ((clsM M M.length).map P.nats, true) else ([], false)
theorem clsF_yes {M : List (List Bool)} (h : OkM M) (h2 : DefectOf M []) : clsF M = ((clsM M M.length).map P.nats, true) := if_pos ⟨h, h2⟩
theorem clsF_no {M : List (List Bool)} (h : ¬ (OkM M ∧ DefectOf M [])) : clsF M = ([], false) := if_neg h
theorem clsF_ord {M : List (List Bool)} {L : List Int} (h : OrdOf M L) : (OkM M ∧ L = [] ∧ DefectOf M []) ∨ ((¬ OkM M ∨ L ≠ []) ∧ clsF M = ([], false)) := by
  rcases h with ⟨h1, h2⟩ | ⟨h1, h2⟩
  · by_cases hL : L = []
    · subst hL; exact .inl ⟨h1, rfl, h2⟩
    · exact .inr ⟨.inr hL, clsF_no fun h => hL (h2.uniq h.2)⟩
  · exact .inr ⟨.inl h1, clsF_no fun h => h1 h.1⟩

end Go.Proofs.Ytipdfmedbcafpaa
end

section
/- Lists of rows whose rows grow too. -/
namespace Go.Proofs.Ytipdfmedbcafpaa
open Go.RowKit P

/-- Rows that can be appended to. -/
structure HeldQ (base : Nat) (w : World) (v : Value) (X : List CRow) : Prop where
  r : HeldR base w v X
  q : ∀ x ∈ X, Held base w (slv x) (nats x.L)

theorem HeldQ.start (w : World) (base : Nat) (hb : base ≤ w.heap.size) : HeldQ base (w.alloc (.cells #[] 26)) (.slice (some ⟨w.heap.size, 0, none⟩) 0 0) [] := ⟨HeldR.start w base hb, by simp⟩
theorem HeldQ.same {base : Nat} {w w' : World} {v : Value} {X : List CRow} (h : HeldQ base w v X) (hb : ∀ k, k < w.heap.size → base ≤ k → Blk v X k → w'.heap[k]? = w.heap[k]?) (hs : w.heap.size ≤ w'.heap.size) : HeldQ base w' v X := by
  refine ⟨h.r.same hb hs, fun x hx => (h.q x hx).own fun g c e hlt => ?_⟩
  have hB : Blk v X g := .inr ⟨x, hx, by simp [slv] at e; exact e.1.symm⟩
  exact hb g hlt (h.r.lt hB).1 hB
theorem HeldQ.below {base : Nat} {w w' : World} {v : Value} {X : List CRow} (h : HeldQ base w v X) (hb : Below w.heap.size w w') : HeldQ base w' v X := h.same (fun k hk _ _ => hb.block k hk) hb.size

/-- A row's own facts, said of its parts. -/
theorem Held.parts {base : Nat} {w : World} {x : CRow} (h : Held base w (slv x) (nats x.L)) : base ≤ x.g ∧ x.L.length ≤ x.c ∧ CellRow w x.g (ints (nats x.L)) := by
  obtain ⟨g, c, e, h1, h2, h3⟩ := h.row
  simp [slv] at e
  obtain ⟨rfl, _, rfl⟩ := e
  exact ⟨h1, by simpa [nats_length] using h2, h3⟩

/-- 'append(l, row)' of one row. -/
theorem appendRowQ (base : Nat) (v : Value) (X : List CRow) (x : CRow) (w : World) (h : HeldQ base w v X) (hb : base ≤ w.heap.size) (hx : Held base w (slv x) (nats x.L)) (hx4 : ¬ Blk v X x.g) (hn : X.length ≤ 1048576) :
    ∃ v' w', (heldAppend #[30, 30] 30 #[v, .slice (some ⟨w.heap.size, 0, none⟩) 1 1]).run Try.prog (w.alloc (.cells #[slv x] 26)) = .ok v' w' ∧
      HeldQ base w' v' (X ++ [x]) ∧ Below base w w' ∧ (∀ k, k < w.heap.size → v.ownBlock ≠ some k → w'.heap[k]? = w.heap[k]?) ∧ (∀ k, v'.ownBlock = some k → v.ownBlock = some k ∨ w.heap.size ≤ k) := by
  obtain ⟨h1, h2, h3⟩ := hx.parts
  obtain ⟨v', w', r, hR, hB, hk, hbl⟩ := appendRow base v X x w h.r hb h1 h2 h3 hx4 hn
  refine ⟨v', w', r, ⟨hR, fun y hy => ?_⟩, hB, hk, hbl⟩
  obtain ⟨g, c, rfl, hother⟩ := h.r.nn
  rcases List.mem_append.1 hy with hy | hy
  · refine (h.q y hy).own fun g2 c2 e hlt => hk g2 hlt ?_
    simp [slv] at e
    have := hother y hy
    simp [Value.ownBlock]
    omega
  · simp at hy; subst hy
    refine hx.own fun g2 c2 e hlt => hk g2 hlt ?_
    simp [slv] at e
    obtain ⟨rfl, _⟩ := e
    exact fun e2 => hx4 (.inl e2)

/-- 'append(l, n)' of one number, told of where it lies. -/
theorem appendOneAt (base : Nat) (v : Value) (L : List Int) (x : Int) (w : World) (h : Held base w v L) (hb : base ≤ w.heap.size) (hn : L.length ≤ 1048576) :
    ∃ v' w', (heldAppend #[26, 26] 26 #[v, .slice (some ⟨w.heap.size, 0, none⟩) 1 1]).run Try.prog (w.alloc (.cells #[.int .i64 x] 3)) = .ok v' w' ∧
      Held base w' v' (L ++ [x]) ∧ Below base w w' ∧ (∀ k, k < w.heap.size → v.ownBlock ≠ some k → w'.heap[k]? = w.heap[k]?) ∧ (∀ k, v'.ownBlock = some k → v.ownBlock = some k ∨ w.heap.size ≤ k) := by
  obtain ⟨i0, hi, hz0, hz1, hz2⟩ := info_parts infoIntH
  obtain ⟨h, g, c, rfl⟩ := h
  obtain ⟨v', w', hrun, hown, hgrow, hnil, hblk⟩ := run_append_own_at (P := Try.prog) (w := w.alloc (.cells #[.int .i64 x] 3)) base 26 26 3 i0 (.int .i64 0) 1 8 Try.underlying26 hi hz0 hz1 hz2 rfl (by decide)
    _ L.length (ints L) (World.ownsRow.alloc h _) ⟨w.heap.size, 0, none⟩ 1 1 [.int .i64 x] rfl (cell_one_new w _ _) (by simp [Value.oneCell']) (by unfold maxLen; omega) (by omega) (by simp; omega)
  rw [show [Value.int .i64 x] = ints [x] from rfl, ← ints_append L [x], ← show (L ++ [x]).length = L.length + 1 by simp] at hown
  refine ⟨v', w', hrun, ⟨hown, ?_⟩, ((Below.refl base w).alloc hb _).grown hgrow (by simp; omega) (fun j e => (h.lt j e).1), fun k hk hne => (hgrow.block k (by simp; omega) (fun e => hne e.symm)).trans (heap_alloc_old w _ hk), fun k hk => ?_⟩
  · rcases hown.2 with ⟨e, hz⟩ | ⟨g', cap, cur, e, _⟩
    · have := (hnil.1 e).1
      simp at this
    · exact ⟨g', cap, e⟩
  · rcases hblk with e | e
    · exact .inl (by rw [← e]; exact hk)
    · rw [e] at hk; simp at hk; exact .inr (by omega)

/-- 'l[k] = append(l[k], n)'. -/
theorem appendIn (base g c k : Nat) (X : List CRow) (x : CRow) (e : Nat) (w : World) (h : HeldQ base w (.slice (some ⟨g, 0, none⟩) X.length c) X) (hx : X[k]? = some x) (hb : base ≤ w.heap.size) (hn : x.L.length ≤ 1048576) :
    ∃ g' c' w1, (heldAppend #[26, 26] 26 #[.slice (some ⟨x.g, 0, none⟩) x.L.length x.c, .slice (some ⟨w.heap.size, 0, none⟩) 1 1]).run Try.prog (w.alloc (.cells #[.int .i64 (e : Int)] 3)) = .ok (.slice (some ⟨g', 0, none⟩) (x.L.length + 1) c') w1 ∧
      HeldQ base (w1.setCell ⟨g, k, none⟩ (.slice (some ⟨g', 0, none⟩) (x.L.length + 1) c')) (.slice (some ⟨g, 0, none⟩) X.length c) (X.set k ⟨g', c', x.L ++ [e]⟩) ∧ Below base w (w1.setCell ⟨g, k, none⟩ (.slice (some ⟨g', 0, none⟩) (x.L.length + 1) c')) ∧
      w1.cell? ⟨g, k, none⟩ = some (.slice (some ⟨x.g, 0, none⟩) x.L.length x.c) ∧ w1.frozen? ⟨g, k, none⟩ = false ∧
      (∀ j, j < w.heap.size → ¬ Blk (.slice (some ⟨g, 0, none⟩) X.length c) X j → (w1.setCell ⟨g, k, none⟩ (.slice (some ⟨g', 0, none⟩) (x.L.length + 1) c')).heap[j]? = w.heap[j]? ∧ ¬ Blk (.slice (some ⟨g, 0, none⟩) X.length c) (X.set k ⟨g', c', x.L ++ [e]⟩) j) := by
  have hkl := (List.getElem?_eq_some_iff.1 hx).1
  have hxm := List.mem_of_getElem? hx
  have hQ := h.q x hxm
  obtain ⟨g0, c0, e0, hother⟩ := h.r.nn
  simp at e0
  obtain ⟨rfl, rfl⟩ := e0
  obtain ⟨v', w1, r, hH, hB, hk, hbl⟩ := appendOneAt base (slv x) (nats x.L) (e : Int) w hQ hb (by rw [nats_length]; exact hn)
  obtain ⟨g', c', rfl, hg1, hg2, hg3⟩ := hH.row
  have hlen : (nats x.L ++ [(e : Int)]).length = x.L.length + 1 := by simp [nats_length]
  rw [hlen] at hH hg2 r hbl
  have hnats : nats (x.L ++ [e]) = nats x.L ++ [(e : Int)] := by rw [nats_append]; rfl
  have hgsz : g < w.heap.size := (h.r.lt (.inl (by simp [Value.ownBlock]) : Blk (.slice (some ⟨g, 0, none⟩) X.length c) X g)).2
  have hgb : base ≤ g := (h.r.lt (.inl (by simp [Value.ownBlock]) : Blk (.slice (some ⟨g, 0, none⟩) X.length c) X g)).1
  have hgx := hother x hxm
  have hg' : g' = x.g ∨ w.heap.size ≤ g' := by
    rcases hbl g' (by simp [Value.ownBlock]) with h1 | h1
    · simp [slv, Value.ownBlock] at h1; exact .inl h1.symm
    · exact .inr h1
  have hgg' : g' ≠ g := by rcases hg' with h1 | h1 <;> omega
  have hblock : w1.heap[g]? = w.heap[g]? := hk g hgsz (by simp [slv, Value.ownBlock]; exact hgx)
  have hown1 : w1.ownsRow base 26 1 (.slice (some ⟨g, 0, none⟩) X.length c) X.length (X.map slv) := by
    refine ⟨h.r.own.1, ?_⟩
    rcases h.r.own.2 with hz | ⟨j, cap, cur, ee, h1, h2, rest⟩
    · exact .inl hz
    · simp at ee
      obtain ⟨rfl, rfl⟩ := ee
      exact .inr ⟨g, c, cur, rfl, h1, hblock.trans h2, rest⟩
  obtain ⟨hst, hgr⟩ := hown1.stored k (.slice (some ⟨g', 0, none⟩) (x.L.length + 1) c')
  have hoth : ∀ j, j ≠ g → (w1.setCell ⟨g, k, none⟩ (.slice (some ⟨g', 0, none⟩) (x.L.length + 1) c')).heap[j]? = w1.heap[j]? := fun j hj => Below.heap_setCell _ _ _ _ (fun e => hj e)
  have hsz : w1.heap.size ≤ (w1.setCell ⟨g, k, none⟩ (.slice (some ⟨g', 0, none⟩) (x.L.length + 1) c')).heap.size := by simp
  have hnew : Held base (w1.setCell ⟨g, k, none⟩ (.slice (some ⟨g', 0, none⟩) (x.L.length + 1) c')) (.slice (some ⟨g', 0, none⟩) (x.L.length + 1) c') (nats (x.L ++ [e])) := by
    rw [hnats]
    exact hH.own fun g2 c2 ee _ => hoth g2 (by simp at ee; omega)
  have hrowsne : ∀ (j : Nat) y, j ≠ k → X[j]? = some y → y.g ≠ x.g := fun j y hj hy e2 => by
    obtain ⟨hjl, rfl⟩ := List.getElem?_eq_some_iff.1 hy
    obtain ⟨_, rfl⟩ := List.getElem?_eq_some_iff.1 hx
    have hnd := List.pairwise_iff_getElem.1 h.r.apart
    rcases Nat.lt_or_gt_of_ne hj with h1 | h1
    · have := hnd j k (by simpa using hjl) (by simpa using hkl) h1; simp at this; exact this e2
    · have := hnd k j (by simpa using hkl) (by simpa using hjl) h1; simp at this; exact this e2.symm
  have hold : ∀ (j : Nat) y, j ≠ k → X[j]? = some y → Held base (w1.setCell ⟨g, k, none⟩ (.slice (some ⟨g', 0, none⟩) (x.L.length + 1) c')) (slv y) (nats y.L) := fun j y hj hy => by
    have hym := List.mem_of_getElem? hy
    refine (h.q y hym).own fun g2 c2 ee hlt => ?_
    simp [slv] at ee
    obtain ⟨rfl, _⟩ := ee
    exact (hoth _ (hother y hym)).trans (hk _ hlt (by simp [slv, Value.ownBlock]; exact fun e2 => hrowsne j y hj hy e2.symm))
  have hall : ∀ y ∈ X.set k ⟨g', c', x.L ++ [e]⟩, Held base (w1.setCell ⟨g, k, none⟩ (.slice (some ⟨g', 0, none⟩) (x.L.length + 1) c')) (slv y) (nats y.L) ∧ y.g ≠ g := fun y hy => by
    obtain ⟨j, hj⟩ := List.mem_iff_getElem?.1 hy
    rw [List.getElem?_set] at hj
    by_cases hjk : k = j
    · rw [if_pos hjk, if_pos hkl] at hj
      simp at hj; subst hj
      refine ⟨?_, hgg'⟩
      have e2 : slv ⟨g', c', x.L ++ [e]⟩ = .slice (some ⟨g', 0, none⟩) (x.L.length + 1) c' := by simp [slv]
      rw [e2]; exact hnew
    · rw [if_neg hjk] at hj
      exact ⟨hold j y (fun e => hjk e.symm) hj, hother y (List.mem_of_getElem? hj)⟩
  refine ⟨g', c', w1, by simpa [slv] using r, ⟨⟨?_, ⟨g, c, by simp, fun y hy => (hall y hy).2⟩, fun y hy => (hall y hy).1.parts, ?_⟩, fun y hy => (hall y hy).1⟩, hB.setCell (p := ⟨g, k, none⟩) hgb _, ?_, hown1.frozenAt k, fun j hj hB' => ?_⟩
  · have e2 : (X.map slv).set k (.slice (some ⟨g', 0, none⟩) (x.L.length + 1) c') = (X.set k ⟨g', c', x.L ++ [e]⟩).map slv := by
      rw [List.map_set]; simp [slv]
    rw [← e2, List.length_set]; exact hst
  · refine List.pairwise_iff_getElem.2 fun i j hi hj hij => ?_
    simp only [List.length_map, List.length_set] at hi hj
    simp only [List.getElem_map, List.getElem_set]
    have hnd := List.pairwise_iff_getElem.1 h.r.apart i j (by simpa using hi) (by simpa using hj) hij
    simp only [List.getElem_map] at hnd
    have hgi := hrowsne i X[i]
    have hgj := hrowsne j X[j]
    have hsi := (h.r.rows X[i] (List.getElem_mem hi)).2.2.1
    have hsj := (h.r.rows X[j] (List.getElem_mem hj)).2.2.1
    by_cases h1 : k = i
    · by_cases h2 : k = j
      · omega
      · rw [if_pos h1, if_neg h2]
        have := hgj (fun e => h2 e.symm) (List.getElem?_eq_getElem hj)
        show g' ≠ _
        rcases hg' with h3 | h3
        · exact fun e4 => this (e4.symm.trans h3)
        · omega
    · by_cases h2 : k = j
      · rw [if_neg h1, if_pos h2]
        have := hgi (fun e => h1 e.symm) (List.getElem?_eq_getElem hi)
        show _ ≠ g'
        rcases hg' with h3 | h3
        · exact fun e4 => this (e4.trans h3)
        · omega
      · rw [if_neg h1, if_neg h2]; exact hnd
  · have := hown1.cellAt k (by omega)
    rw [this, List.getElem?_map, hx]; rfl
  · have hj1 : j ≠ g := fun e => hB' (.inl (by simp [Value.ownBlock, e]))
    refine ⟨(hoth j hj1).trans (hk j hj (by simp [slv, Value.ownBlock]; exact fun e => hB' (.inr ⟨x, hxm, e.symm⟩))), ?_⟩
    rintro (h1 | ⟨y, hy, rfl⟩)
    · exact hB' (.inl h1)
    · rcases List.mem_or_eq_of_mem_set hy with h1 | rfl
      · exact hB' (.inr ⟨y, h1, rfl⟩)
      · rcases hg' with h1 | h1
        · exact hB' (.inr ⟨x, hxm, h1⟩)
        · have : g' < w.heap.size := hj
          omega

end Go.Proofs.Ytipdfmedbcafpaa
end

section
/- 'append(append(append([][]int{}, l[:k]...), []int{x}), l[k:]...)': a row put into a list of rows, in whatever order its parts are laid. -/
namespace Go.Proofs.Ytipdfmedbcafpaa
open Go.RowKit P

/-- A list of slices of the call's own, above base, and not nil. -/
structure HR (base : Nat) (W : World) (v : Value) (cs : List Value) : Prop where
  own : W.ownsRow base 26 1 v cs.length cs
  nn : ∃ g c, v = .slice (some ⟨g, 0, none⟩) cs.length c
theorem HR.start (base : Nat) (W : World) (hb : base ≤ W.heap.size) : HR base (W.alloc (.cells #[] 26)) (.slice (some ⟨W.heap.size, 0, none⟩) 0 0) [] :=
  ⟨World.ownsRow_lit W #[] 0 hb (by decide) rfl, _, _, rfl⟩
theorem HR.alloc {base : Nat} {W : World} {v : Value} {cs : List Value} (h : HR base W v cs) (o : Obj) : HR base (W.alloc o) v cs := ⟨World.ownsRow.alloc h.own o, h.nn⟩
theorem HR.drew {base : Nat} {W : World} {v : Value} {cs : List Value} (h : HR base W v cs) : HR base W.drew v cs := ⟨h.own, h.nn⟩
theorem Held.one (base : Nat) (w : World) (x : Int) (hb : base ≤ w.heap.size) : Held base (w.alloc (.cells #[.int .i64 x] 3)) (.slice (some ⟨w.heap.size, 0, none⟩) 1 1) [x] :=
  ⟨World.ownsRow_lit w #[.int .i64 x] 1 hb (by decide) rfl, _, _, rfl⟩
theorem Held.drew {base : Nat} {W : World} {v : Value} {L : List Int} (h : Held base W v L) : Held base W.drew v L := h

/-- 'append(l, rows...)'. -/
theorem appMany (base : Nat) (v : Value) (cs : List Value) (b o m c : Nat) (ls : List Value) (w : World) (h : HR base w v cs) (hb : base ≤ w.heap.size) (hm : ls.length = m) (hn : cs.length + m ≤ 2097152)
    (hl : ∀ (j : Nat) u, ls[j]? = some u → w.cell? ⟨b, o + j, none⟩ = some u) (h1 : ∀ u ∈ ls, u.oneCell' = true) :
    ∃ v' w', (heldAppend #[30, 30] 30 #[v, .slice (some ⟨b, o, none⟩) m c]).run Try.prog w = .ok v' w' ∧ HR base w' v' (cs ++ ls) ∧ Below base w w' ∧
      (∀ j, j < w.heap.size → v.ownBlock ≠ some j → w'.heap[j]? = w.heap[j]?) ∧ (∀ j, v'.ownBlock = some j → v.ownBlock = some j ∨ w.heap.size ≤ j) := by
  subst hm
  obtain ⟨i0, hi, hz0, hz1, hz2⟩ := info_parts infoIntsR
  obtain ⟨hown0, g, cv, rfl⟩ := h
  obtain ⟨v', w', hrun, hown, hgrow, hnil, hblk⟩ := run_append_own_at (P := Try.prog) (w := w) base 30 30 26 i0 (.slice none 0 0) 1 24 Try.underlying30 hi hz0 hz1 hz2 rfl (by decide)
    _ cs.length cs hown0 ⟨b, o, none⟩ ls.length c ls (by omega) (fun j u hu => by
      have e : (⟨b, o, none⟩ : Addr).add j = ⟨b, o + j, none⟩ := by
        unfold Addr.add; split
        · rename_i h; subst h; rfl
        · rfl
      rw [e]; exact hl j u hu) h1 (by unfold maxLen; omega) (by omega) hb
  rw [← show (cs ++ ls).length = cs.length + ls.length by simp] at hown
  refine ⟨v', w', hrun, ⟨hown, ?_⟩, (Below.refl base w).grown hgrow hb (fun j e => (hown0.lt j e).1), fun k hk hne => hgrow.block k hk (fun e => hne e.symm), fun k hk => ?_⟩
  · rcases hown.2 with ⟨e, hz⟩ | ⟨g', cap, cur, e, _⟩
    · have := (hnil.1 e).1
      simp at this
    · exact ⟨g', cap, e⟩
  · rcases hblk with e | e
    · exact .inl (by rw [← e]; exact hk)
    · rw [e] at hk; simp at hk; exact .inr (by omega)

/-- The new row's value. -/
abbrev rv (rb : Nat) : Value := .slice (some ⟨rb, 0, none⟩) 1 1

/-- What the three appends leave. -/
structure InsQ (wr : World) (X : List CRow) (k rb e : Nat) (v3 : Value) (w3 : World) : Prop where
  hr : HR wr.heap.size w3 v3 ((X.take k).map slv ++ [rv rb] ++ (X.drop k).map slv)
  row : Held wr.heap.size w3 (rv rb) [(e : Int)]
  ne : v3.ownBlock ≠ some rb
  b : Below wr.heap.size wr w3

theorem InsQ.held {base : Nat} {wr w3 : World} {ov v3 : Value} {X : List CRow} {k rb e : Nat} (h : InsQ wr X k rb e v3 w3) (hH : HeldQ base wr ov X) (hb : base ≤ wr.heap.size) : HeldQ base w3 v3 (X.take k ++ [⟨rb, 1, [e]⟩] ++ X.drop k) := by
  have hmem : ∀ x ∈ X.take k ++ [(⟨rb, 1, [e]⟩ : CRow)] ++ X.drop k, x ∈ X ∨ x = ⟨rb, 1, [e]⟩ := fun x hx => by
    rcases List.mem_append.1 hx with h1 | h1
    · rcases List.mem_append.1 h1 with h2 | h2
      · exact .inl (List.mem_of_mem_take h2)
      · simp at h2; exact .inr h2
    · exact .inl (List.mem_of_mem_drop h1)
  have hmap : (X.take k).map slv ++ [rv rb] ++ (X.drop k).map slv = (X.take k ++ [(⟨rb, 1, [e]⟩ : CRow)] ++ X.drop k).map slv := by simp [slv]
  have hq : ∀ x ∈ X.take k ++ [(⟨rb, 1, [e]⟩ : CRow)] ++ X.drop k, Held base w3 (slv x) (nats x.L) := fun x hx => by
    rcases hmem x hx with h1 | rfl
    · exact (hH.q x h1).below h.b
    · exact h.row.lower hb
  have hrb := (h.row.1.lt rb rfl)
  obtain ⟨g3, c3, e3⟩ := h.hr.nn
  have hg3 := (h.hr.own.lt g3 (by rw [e3]; rfl)).1
  have hr := h.hr.own
  rw [hmap] at hr e3
  refine ⟨⟨?_, ⟨g3, c3, by rw [e3]; simp, fun x hx => ?_⟩, fun x hx => (hq x hx).parts, ?_⟩, hq⟩
  · rw [List.length_map] at hr
    refine ⟨hr.1, ?_⟩
    rcases hr.2 with hn | ⟨j, cap, cur, e4, h1, rest⟩
    · exact .inl hn
    · exact .inr ⟨j, cap, cur, e4, by omega, rest⟩
  · rcases hmem x hx with h1 | rfl
    · have := (hH.r.lt (.inr ⟨x, h1, rfl⟩)).2; omega
    · intro e4; exact h.ne (by rw [e3]; simp [Value.ownBlock]; exact e4.symm)
  · have hp : (X.take k ++ [(⟨rb, 1, [e]⟩ : CRow)] ++ X.drop k).Perm (⟨rb, 1, [e]⟩ :: X) := by
      have := List.perm_middle (a := (⟨rb, 1, [e]⟩ : CRow)) (l₁ := X.take k) (l₂ := X.drop k)
      rw [List.take_append_drop] at this
      simpa using this
    refine (hp.map CRow.g).nodup_iff.2 ?_
    rw [List.map_cons]
    refine List.nodup_cons.2 ⟨fun hm => ?_, hH.r.apart⟩
    obtain ⟨y, hy, ey⟩ := List.mem_map.1 hm
    have := (hH.r.lt (.inr ⟨y, hy, rfl⟩)).2
    simp at ey
    omega

/-- The second and the third append. -/
theorem ins23 {wr W : World} {X : List CRow} {g k o m c' vb rb e : Nat} {v1 : Value} (hX : CellRow wr g (X.map slv)) (hk : k ≤ X.length) (hn : X.length ≤ 12) (hm : m = X.length - k) (ho : k < X.length → o = k)
    (h1 : HR wr.heap.size W v1 ((X.take k).map slv)) (hb : Below wr.heap.size wr W) (hV : W.cell? ⟨vb, 0, none⟩ = some (rv rb)) (hR : Held wr.heap.size W (rv rb) [(e : Int)]) (hne : v1.ownBlock ≠ some rb) :
    ∃ v2 w2 v3 w3, (heldAppend #[30, 30] 30 #[v1, .slice (some ⟨vb, 0, none⟩) 1 1]).run Try.prog W = .ok v2 w2 ∧
      (heldAppend #[30, 30] 30 #[v2, .slice (some ⟨g, o, none⟩) m c']).run Try.prog w2 = .ok v3 w3 ∧ InsQ wr X k rb e v3 w3 := by
  have hbs := hb.size
  have hone : ∀ Y : List CRow, ∀ u ∈ Y.map slv, u.oneCell' = true := fun Y u hu => by
    obtain ⟨x, _, rfl⟩ := List.mem_map.1 hu; rfl
  obtain ⟨v2, w2, r2, h2, b2, k2, n2⟩ := appMany wr.heap.size v1 _ vb 0 1 1 [rv rb] W h1 hbs rfl (by simp; omega) (fun j u hu => by
    cases j with
    | zero => simp at hu; subst hu; exact hV
    | succ j => simp at hu) (fun u hu => by simp at hu; subst hu; rfl)
  have hrb := (hR.1.lt rb rfl).2
  have hR2 : Held wr.heap.size w2 (rv rb) [(e : Int)] := hR.own fun g2 c2 e2 hlt => by
    simp at e2
    obtain ⟨rfl, _⟩ := e2
    exact k2 _ hlt hne
  have hne2 : v2.ownBlock ≠ some rb := fun h => by
    rcases n2 rb h with h3 | h3
    · exact hne h3
    · omega
  have hb2 := hb.trans b2
  obtain ⟨v3, w3, r3, h3, b3, k3, n3⟩ := appMany wr.heap.size v2 _ g o m c' ((X.drop k).map slv) w2 h2 (Nat.le_trans hbs b2.size) (by simp [hm]) (by simp; omega) (fun j u hu => by
    have hj := (List.getElem?_eq_some_iff.1 hu).1
    rw [List.length_map, List.length_drop] at hj
    rw [ho (by omega)]
    have hu2 : (X.map slv)[k + j]? = some u := by rw [List.getElem?_map, List.getElem?_drop] at hu; rw [List.getElem?_map]; exact hu
    exact (hb2.cell (p := ⟨g, k + j, none⟩) hX.1).trans (hX.2 _ u hu2).1) (hone _)
  have hrb2 := (hR2.1.lt rb rfl).2
  refine ⟨v2, w2, v3, w3, r2, r3, ⟨h3, hR2.own fun g2 c2 e2 hlt => ?_, fun h => ?_, hb2.trans b3⟩⟩
  · simp at e2
    obtain ⟨rfl, _⟩ := e2
    exact k3 _ hlt hne2
  · rcases n3 rb h with h4 | h4
    · exact hne2 h4
    · omega

/-- The first append. -/
theorem insA {wr U : World} {X : List CRow} {g k c e : Nat} (hX : CellRow wr g (X.map slv)) (hk : k ≤ X.length) (hn : X.length ≤ 12) (hE : HR wr.heap.size U (.slice (some ⟨e, 0, none⟩) 0 0) []) (hU : Below wr.heap.size wr U) :
    ∃ v1 w1, (heldAppend #[30, 30] 30 #[.slice (some ⟨e, 0, none⟩) 0 0, .slice (some ⟨g, 0, none⟩) k c]).run Try.prog U = .ok v1 w1 ∧ HR wr.heap.size w1 v1 ((X.take k).map slv) ∧ Below wr.heap.size wr w1 ∧ U.heap.size ≤ w1.heap.size ∧
      (∀ j, j < U.heap.size → j ≠ e → w1.heap[j]? = U.heap[j]?) ∧ (∀ j, v1.ownBlock = some j → j = e ∨ U.heap.size ≤ j) := by
  obtain ⟨v1, w1, r, h, b, k1, n1⟩ := appMany wr.heap.size _ [] g 0 k c ((X.take k).map slv) U hE hU.size (by simp; omega) (by simp; omega) (fun j u hu => by
    rw [Nat.zero_add]
    have hj := (List.getElem?_eq_some_iff.1 hu).1
    rw [List.length_map, List.length_take] at hj
    have hu2 : (X.map slv)[j]? = some u := by rw [List.getElem?_map, List.getElem?_take_of_lt (by omega)] at hu; rw [List.getElem?_map]; exact hu
    exact (hU.cell (p := ⟨g, j, none⟩) hX.1).trans (hX.2 _ u hu2).1) (fun u hu => by obtain ⟨x, _, rfl⟩ := List.mem_map.1 hu; rfl)
  rw [List.nil_append] at h
  refine ⟨v1, w1, r, h, hU.trans b, b.size, fun j hj hne => k1 j hj (by simp [Value.ownBlock]; omega), fun j hj => ?_⟩
  rcases n1 j hj with h1 | h1
  · simp [Value.ownBlock] at h1; exact .inl h1.symm
  · exact .inr h1

section
variable {wr U : World} {X : List CRow} {g k o m c c' eb vb rb e : Nat} (hX : CellRow wr g (X.map slv)) (hk : k ≤ X.length) (hn : X.length ≤ 12) (hm : m = X.length - k) (ho : k < X.length → o = k)
include hX hk hn hm ho

/-- Both literals ahead of the first append. -/
theorem ord3 (hE : HR wr.heap.size U (.slice (some ⟨eb, 0, none⟩) 0 0) []) (hU : Below wr.heap.size wr U) (hR : Held wr.heap.size U (rv rb) [(e : Int)]) (hV : U.cell? ⟨vb, 0, none⟩ = some (rv rb)) (hv : vb < U.heap.size) (h1 : rb ≠ eb) (h2 : vb ≠ eb) :
    ∃ v1 w1 v2 w2 v3 w3, (heldAppend #[30, 30] 30 #[.slice (some ⟨eb, 0, none⟩) 0 0, .slice (some ⟨g, 0, none⟩) k c]).run Try.prog U = .ok v1 w1 ∧
      (heldAppend #[30, 30] 30 #[v1, .slice (some ⟨vb, 0, none⟩) 1 1]).run Try.prog w1 = .ok v2 w2 ∧
      (heldAppend #[30, 30] 30 #[v2, .slice (some ⟨g, o, none⟩) m c']).run Try.prog w2 = .ok v3 w3 ∧ InsQ wr X k rb e v3 w3 := by
  obtain ⟨v1, w1, r, h, b, s, k1, n1⟩ := insA (c := c) hX hk hn hE hU
  have hrb := (hR.1.lt rb rfl).2
  obtain ⟨v2, w2, v3, w3, r2, r3, hI⟩ := ins23 (c' := c') (vb := vb) hX hk hn hm ho h b (by rw [World.cell?_of_block (w := U) (k1 vb hv h2)]; exact hV) (hR.own fun g2 c2 e2 hlt => by
    simp at e2
    obtain ⟨rfl, _⟩ := e2
    exact k1 _ hlt h1) (fun h3 => by rcases n1 rb h3 with h4 | h4 <;> omega)
  exact ⟨v1, w1, v2, w2, v3, w3, r, r2, r3, hI⟩

/-- The row ahead of the first append. -/
theorem ord2 (hE : HR wr.heap.size U (.slice (some ⟨eb, 0, none⟩) 0 0) []) (hU : Below wr.heap.size wr U) (hR : Held wr.heap.size U (rv rb) [(e : Int)]) (h1 : rb ≠ eb) :
    ∃ v1 w1 v2 w2 v3 w3, (heldAppend #[30, 30] 30 #[.slice (some ⟨eb, 0, none⟩) 0 0, .slice (some ⟨g, 0, none⟩) k c]).run Try.prog U = .ok v1 w1 ∧
      (heldAppend #[30, 30] 30 #[v1, .slice (some ⟨w1.heap.size, 0, none⟩) 1 1]).run Try.prog (w1.alloc (.cells #[.slice (some ⟨rb, 0, none⟩) 1 1] 26)) = .ok v2 w2 ∧
      (heldAppend #[30, 30] 30 #[v2, .slice (some ⟨g, o, none⟩) m c']).run Try.prog w2 = .ok v3 w3 ∧ InsQ wr X k rb e v3 w3 := by
  obtain ⟨v1, w1, r, h, b, s, k1, n1⟩ := insA (c := c) hX hk hn hE hU
  have hrb := (hR.1.lt rb rfl).2
  obtain ⟨v2, w2, v3, w3, r2, r3, hI⟩ := ins23 (c' := c') (vb := w1.heap.size) hX hk hn hm ho (h.alloc (.cells #[rv rb] 26)) (b.alloc b.size _) (by simp) ((hR.own (w' := w1) fun g2 c2 e2 hlt => by
    simp at e2
    obtain ⟨rfl, _⟩ := e2
    exact k1 _ hlt h1).alloc _) (fun h3 => by rcases n1 rb h3 with h4 | h4 <;> omega)
  exact ⟨v1, w1, v2, w2, v3, w3, r, r2, r3, hI⟩

/-- Both behind it. -/
theorem ord1 (hE : HR wr.heap.size U (.slice (some ⟨eb, 0, none⟩) 0 0) []) (hU : Below wr.heap.size wr U) :
    ∃ v1 w1 v2 w2 v3 w3, (heldAppend #[30, 30] 30 #[.slice (some ⟨eb, 0, none⟩) 0 0, .slice (some ⟨g, 0, none⟩) k c]).run Try.prog U = .ok v1 w1 ∧
      (heldAppend #[30, 30] 30 #[v1, .slice (some ⟨w1.heap.size + 1, 0, none⟩) 1 1]).run Try.prog ((w1.alloc (.cells #[.int .i64 (e : Int)] 3)).alloc (.cells #[.slice (some ⟨w1.heap.size, 0, none⟩) 1 1] 26)) = .ok v2 w2 ∧
      (heldAppend #[30, 30] 30 #[v2, .slice (some ⟨g, o, none⟩) m c']).run Try.prog w2 = .ok v3 w3 ∧ InsQ wr X k w1.heap.size e v3 w3 := by
  obtain ⟨v1, w1, r, h, b, s, k1, n1⟩ := insA (c := c) hX hk hn hE hU
  obtain ⟨v2, w2, v3, w3, r2, r3, hI⟩ := ins23 (c' := c') (vb := w1.heap.size + 1) (rb := w1.heap.size) (e := e) hX hk hn hm ho ((h.alloc (.cells #[.int .i64 (e : Int)] 3)).alloc (.cells #[rv w1.heap.size] 26)) ((b.alloc b.size _).alloc (by have := b.size; simp; omega) _)
    (by simp) ((Held.one wr.heap.size w1 (e : Int) b.size).alloc _) (fun h3 => by have := (h.own.lt _ h3).2; omega)
  exact ⟨v1, w1, v2, w2, v3, w3, r, r2, r3, hI⟩
end

end Go.Proofs.Ytipdfmedbcafpaa
end

section
/- Sorted neighbours, grouped. -/
namespace Go.Proofs.Ytipdfmedbcafpaa
open Go.RowKit Go.Sort Go.Lib StC P Cl

/-- The comparison of two elements. -/
def cfM (M : List (List Bool)) (i k : Nat) : Int := if at2 M i k = true then -1 else if at2 M k i = true then 1 else 0
theorem cfM_tie {M : List (List Bool)} {i k : Nat} : (cfM M i k == 0) = tie2 M i k := by
  unfold cfM tie2
  cases at2 M i k <;> cases at2 M k i <;> simp
def cfN {NN : Nat} (M : List (List Bool)) (x y : Fin (NN + 1)) : Int := cfM M x.val y.val
theorem ltN {NN : Nat} {M : List (List Bool)} (hl : M.length = NN + 1) (x y : Fin (NN + 1)) : ltOf (cfN M) x y = ltM M x.val y.val := by
  rw [ltM_in (by have := x.isLt; omega) (by have := y.isLt; omega)]
  unfold ltOf cfN cfM
  cases at2 M x.val y.val with
  | true => simp
  | false => cases at2 M y.val x.val <;> simp
theorem swoN {NN : Nat} {M : List (List Bool)} (hl : M.length = NN + 1) (h : DefectOf M []) : SWO (ltOf (cfN (NN := NN) M)) := by
  have hO := swoM h
  refine ⟨fun x => ?_, fun x y z a b => ?_, fun x y z a b => ?_⟩
  · rw [ltN hl]; exact hO.irrefl _
  · rw [ltN hl] at a b ⊢; exact hO.trans _ _ _ a b
  · rw [ltN hl] at a b ⊢; exact hO.ntrans _ _ _ a b
def valsN {NN : Nat} (L : List (Fin (NN + 1))) : List Nat := L.map fun x => x.val
theorem valsN_length {NN : Nat} (L : List (Fin (NN + 1))) : (valsN L).length = L.length := by simp [valsN]
theorem valsF_nats {NN : Nat} (L : List (Fin (NN + 1))) : valsF L = nats (valsN L) := by unfold valsF nats valsN; rw [List.map_map]; rfl
theorem valsN_lt {NN : Nat} (L : List (Fin (NN + 1))) : ∀ y ∈ valsN L, y < NN + 1 := fun y hy => by
  obtain ⟨x, _, rfl⟩ := List.mem_map.1 hy; exact x.isLt

theorem grp_sorted {NN : Nat} {M : List (List Bool)} (hl : M.length = NN + 1) (h : DefectOf M []) {L : List (Fin (NN + 1))} (hL : St (ltOf (cfN M)) (fins NN) L) : grp (ltM M) (valsN L) = clsM M M.length := by
  refine (clsM_cls h M.length).grouped (swoM h) ?_ ?_
  · unfold valsN
    rw [List.pairwise_map]
    refine hL.sorted.imp fun {a b} hh => ?_
    rw [ltN hl] at hh
    exact hh
  · intro q
    have e : List.range M.length = valsN (fins NN) := by
      unfold valsN fins
      rw [hl]
      apply List.ext_getElem?
      intro i
      by_cases hi : i < NN + 1
      · simp [hi]
      · rw [List.getElem?_eq_none (by simp; omega), List.getElem?_eq_none (by simp; omega)]
    have ef : ∀ K : List (Fin (NN + 1)), (valsN K).filter (tie (ltM M) q) = valsN (K.filter fun x => tie (ltM M) q x.val) := fun K => by
      unfold valsN; rw [List.filter_map]; rfl
    rw [e, ef, ef]
    congr 1
    by_cases hq : q < M.length
    · have e2 : (fun x : Fin (NN + 1) => tie (ltM M) q x.val) = tie (ltOf (cfN M)) (⟨q, by omega⟩ : Fin (NN + 1)) := by
        funext x
        unfold tie
        rw [ltN hl, ltN hl]
      rw [e2]; exact hL.same _
    · have e2 : ∀ K : List (Fin (NN + 1)), K.filter (fun x => tie (ltM M) q x.val) = [] := fun K => by
        rw [List.filter_eq_nil_iff]
        intro x _
        unfold tie
        rw [ltM_no hq, ltM_out (by have := x.isLt; omega) hq]
        simp
      rw [e2, e2]

/-- The first k elements grouped. -/
def grpTo (lt : Nat → Nat → Bool) (L : List Nat) (k : Nat) : List (List Nat) := grp lt (L.take k)
theorem grpTo_zero (lt : Nat → Nat → Bool) (L : List Nat) : grpTo lt L 0 = [] := rfl
theorem grpTo_succ {lt : Nat → Nat → Bool} {L : List Nat} {k e : Nat} (h : L[k]? = some e) : grpTo lt L (k + 1) = grpStep lt (grpTo lt L k) e := by
  unfold grpTo grp; rw [List.take_add_one, h, List.foldl_append]; rfl
theorem grpTo_all (lt : Nat → Nat → Bool) (L : List Nat) : grpTo lt L L.length = grp lt L := by unfold grpTo; rw [List.take_length]
theorem grpStep_nil (lt : Nat → Nat → Bool) (e : Nat) : grpStep lt [] e = [[e]] := rfl
theorem grpStep_at {lt : Nat → Nat → Bool} {acc : List (List Nat)} {m e : Nat} {c : List Nat} (hl : acc.length = m + 1) (hc : acc[m]? = some c) : grpStep lt acc e = if tie lt (hd c) e then acc.set m (c ++ [e]) else acc ++ [[e]] := by
  obtain ⟨A, d, rfl⟩ : ∃ A d, acc = A ++ [d] := ⟨acc.dropLast, acc.getLast (by intro h; rw [h] at hl; simp at hl), (List.dropLast_concat_getLast _).symm⟩
  have hA : A.length = m := by simpa using hl
  rw [List.getElem?_append_right (by omega)] at hc
  simp [hA] at hc
  subst hc
  unfold grpStep
  simp only [List.getLast?_append, List.getLast?_singleton, Option.some_or]
  split
  · rw [List.dropLast_concat, List.set_append_right _ _ (by omega)]
    simp [hA]
  · rfl
theorem grpStep_ok {lt : Nat → Nat → Bool} {acc : List (List Nat)} {n e : Nat} (h : ∀ c ∈ acc, c ≠ [] ∧ ∀ y ∈ c, y < n) (he : e < n) : ∀ c ∈ grpStep lt acc e, c ≠ [] ∧ ∀ y ∈ c, y < n := by
  intro c hc
  unfold grpStep at hc
  split at hc
  · rename_i d hd'
    have hm : d ∈ acc := List.mem_of_getLast? hd'
    split at hc
    · rcases List.mem_append.1 hc with h1 | h1
      · exact h c ((List.dropLast_subset acc h1))
      · simp at h1; subst h1
        refine ⟨by simp, fun y hy => ?_⟩
        rcases List.mem_append.1 hy with h2 | h2
        · exact (h d hm).2 y h2
        · simp at h2; omega
    · rcases List.mem_append.1 hc with h1 | h1
      · exact h c h1
      · simp at h1; subst h1; simp [he]
  · rcases List.mem_append.1 hc with h1 | h1
    · exact h c h1
    · simp at h1; subst h1; simp [he]
theorem grpTo_ok {lt : Nat → Nat → Bool} {L : List Nat} {n : Nat} (h : ∀ y ∈ L, y < n) : ∀ k, ∀ c ∈ grpTo lt L k, c ≠ [] ∧ ∀ y ∈ c, y < n
  | 0 => by simp [grpTo_zero]
  | k + 1 => by
    cases hk : L[k]? with
    | none =>
      have := List.getElem?_eq_none_iff.1 hk
      have e : grpTo lt L (k + 1) = grpTo lt L k := by unfold grpTo; rw [List.take_of_length_le (by omega), List.take_of_length_le (by omega)]
      rw [e]; exact grpTo_ok h k
    | some e => rw [grpTo_succ hk]; exact grpStep_ok (grpTo_ok h k) (h e (List.mem_of_getElem? hk))
theorem grpStep_len (lt : Nat → Nat → Bool) (acc : List (List Nat)) (e : Nat) : (grpStep lt acc e).flatten.length = acc.flatten.length + 1 := by
  unfold grpStep
  split
  · rename_i d hd'
    obtain ⟨A, rfl⟩ : ∃ A, acc = A ++ [d] := by
      have hne : acc ≠ [] := by intro h; rw [h] at hd'; simp at hd'
      refine ⟨acc.dropLast, ?_⟩
      have := List.getLast?_eq_some_getLast hne
      rw [this] at hd'
      rw [← Option.some.inj hd', List.dropLast_concat_getLast]
    split
    · rw [List.dropLast_concat]; simp; omega
    · simp; omega
  · simp
theorem grpTo_total {lt : Nat → Nat → Bool} {L : List Nat} : ∀ k, k ≤ L.length → (grpTo lt L k).flatten.length = k
  | 0, _ => rfl
  | k + 1, h => by rw [grpTo_succ (List.getElem?_eq_getElem (show k < L.length by omega)), grpStep_len, grpTo_total k (by omega)]

end Go.Proofs.Ytipdfmedbcafpaa
end

section
/- The stable arrangement of indices, of any number of them. -/
namespace Go.Proofs.Ytipdfmedbcafpaa
open Go.RowKit Go.Sort Go.Lib StC P

theorem ins0_any (a : Option Addr) (c : Nat) (fv : Value) (w : World) :
    Calls Try.prog 159 #[.slice a 0 c, .int .i64 0, .int .i64 0, fv] w fun e w' => e = .returned (.tuple #[]) ∧ w' = w := by
  go_enter Try.func159, Try.ntmps159
  go_wp2_with fail
  go_loopw [8] (fun i wr => i = .int .i64 1 ∧ wr = w) (fun _ _ => 0)
  case atStart => exact ⟨rfl, rfl⟩
  case round =>
    obtain ⟨rfl, rfl⟩ := hrel
    go_wp2_with fail
    go_end0
    first | exact ⟨rfl, rfl⟩ | exact ⟨rfl, by trivial⟩

theorem sort0_any (a : Option Addr) (c : Nat) (fv : Value) (w : World) :
    Calls Try.prog 118 #[.slice a 0 c, fv] w fun e w' => e = .returned (.tuple #[]) ∧ w' = w := by
  have HI := Lib.hid (fun W => ins0_any a c fv W)
  have HS : Hid (∀ W, Calls Try.prog 145 #[.slice a 0 c, .int .i64 0, fv] W fun e w' => e = .returned (.tuple #[]) ∧ w' = W) := Lib.hid (fun W => by
    go_enter Try.func145, Try.ntmps145
    go_wp2_with fail
    go_loopw [7, 8] (fun i j wr => i = .int .i64 0 ∧ j = .int .i64 20 ∧ wr = W) (fun _ _ _ => 0)
    case atStart => exact ⟨rfl, rfl, rfl⟩
    case round =>
      obtain ⟨rfl, rfl, rfl⟩ := hrel
      go_wp2_with fail
      refine (HI.out _).mono ?_
      rintro e w1 ⟨rfl, rfl⟩
      go_wp2_with fail
      go_loopw [6, 7, 8] (fun i j k wr => i = .int .i64 20 ∧ wr = w1) (fun _ _ _ _ => 0)
      case atStart => exact ⟨rfl, rfl⟩
      case round =>
        obtain ⟨rfl, rfl⟩ := hrel
        go_wp2_with fail
        go_end0
        first | exact ⟨rfl, rfl⟩ | exact ⟨rfl, by trivial⟩)
  go_enter Try.func118, Try.ntmps118
  go_wp2_with fail
  refine (HS.out _).mono ?_
  rintro e w1 ⟨rfl, rfl⟩
  go_wp2_with fail
  go_end0
  first | exact ⟨rfl, rfl⟩ | exact ⟨rfl, by trivial⟩

theorem arrange0_any (b c : Nat) (fv : Value) (w : World) (_hb : b < w.heap.size) :
    Calls Try.prog 68 #[.slice (some ⟨b, 0, none⟩) 0 c, fv] w (RowI [] w) := by
  have HCL := Lib.hid (cloneInts_any b 0 c [] w ⟨_, c, rfl, Nat.zero_le _, fun j u hu => by simp [ints] at hu⟩ (by simp))
  go_enter Try.func68, Try.ntmps68
  go_wp2_with fail
  refine (HCL.out).mono ?_
  rintro e w1 ⟨g, cap, rfl, hcp, hg, hrow, hb⟩
  have HRES : Hid (RowI [] w (.returned (.slice (some ⟨g, 0, none⟩) 0 cap)) w1) := Lib.hid ⟨g, cap, rfl, hcp, hg, hrow, hb⟩
  clear hcp hg hrow hb HCL
  go_wp2_with fail
  refine (sort0_any _ _ _ _).mono ?_
  rintro e w2 ⟨rfl, rfl⟩
  go_wp2_with fail
  go_ret
  exact HRES.out

theorem arrangeN_any {NN : Nat} (N : Nat) (hN : N = NN + 1) (cf : Fin (NN + 1) → Fin (NN + 1) → Int) (hO : SWO (ltOf cf)) (gf : Nat) (cb : Array Value) (eg : ∀ args w, (callFunc gf args).run Try.prog w = .ok (.enter gf args) w) (b c : Nat) (w : World) (hr : CellRow w b (ints (iota N))) (hn : N ≤ 1048576)
    (hC : ∀ (W : World), Below w.heap.size w W → ∀ x y : Fin (NN + 1), Calls Try.prog gf (#[.int .i64 (x.val : Int), .int .i64 (y.val : Int)] ++ cb) W fun e w' => e = .returned (.int .i64 (cf x y)) ∧ ∃ q os', w' = grow (W.drewN q) os') (hcap : N ≤ c) :
    Calls Try.prog 68 #[.slice (some ⟨b, 0, none⟩) N c, .func (.func gf) #[] cb] w fun e w' =>
      ∃ (g cg : Nat) (M : List (Fin (NN + 1))), e = .returned (.slice (some ⟨g, 0, none⟩) N cg) ∧ N ≤ cg ∧ w.heap.size ≤ g ∧ CellRow w' g (ints (valsF M)) ∧ St (ltOf cf) (fins NN) M ∧ Below w.heap.size w w' := by
  subst hN
  exact arrange_any cf hO gf cb eg b c w hr hn hC hcap

end Go.Proofs.Ytipdfmedbcafpaa
end

section
/- The program's OrderClasses, by its contract. -/
namespace Go.Proofs.Ytipdfmedbcafpaa
open Go.RowKit Go.Sort Go.Lib StC P Cl
attribute [local go_sem ↓ high] builtin_append_held
set_option linter.unusedVariables false

set_option maxRecDepth 100000 in
theorem cmpO_any (B : Nat) (v : Value) (M : List (List Bool)) (w : World) (hT : Tab w B v M) (hsq : ∀ x ∈ M, x.length = M.length) (i k : Nat) (hi : i < M.length) (hk : k < M.length) :
    Calls Try.prog 67 #[.int .i64 (i : Int), .int .i64 (k : Int), .pointer (some ⟨B, 0, none⟩)] w fun e w' => e = .returned (.int .i64 (cfM M i k)) ∧ w' = w := by
  obtain ⟨_, hcell, a, c, rfl, hc0, hH⟩ := hT
  have hlen : (M.map bools).length = M.length := by simp
  rw [hlen] at hcell
  obtain ⟨b, o, b2, o2, c2, rfl, h1, h2⟩ := rel_el hH hsq hi hk
  obtain ⟨b', o', b3, o3, c3, he, h3, h4⟩ := rel_el hH hsq hk hi
  obtain rfl : b = b' := congrArg Addr.block (Option.some.inj he)
  obtain rfl : o = o' := congrArg Addr.off (Option.some.inj he)
  have hiz : (i : Int) < (M.length : Int) := by omega
  have hkz : (k : Int) < (M.length : Int) := by omega
  unfold cfM
  generalize at2 M i k = x at *
  generalize at2 M k i = y at *
  clear hH hsq hc0 hlen he
  cases x
  · cases y
    · go_enter Try.func67, Try.ntmps67
      go_wp2_with fail
      go_ret
      exact ⟨by simp, rfl⟩
    · go_enter Try.func67, Try.ntmps67
      go_wp2_with fail
      go_ret
      exact ⟨by simp, rfl⟩
  · go_enter Try.func67, Try.ntmps67
    go_wp2_with fail
    go_ret
    exact ⟨by simp, rfl⟩

/-- The grouping loop's word at k. -/
structure ClsAt (M : List (List Bool)) (LL : List Nat) (gs : Nat) (w0 : World) (k : Nat) (cv : Value) (X : List CRow) (w : World) : Prop where
  le : k ≤ LL.length
  map : X.map CRow.L = grpTo (ltM M) LL k
  held : HeldQ w0.heap.size w cv X
  off : ¬ Blk cv X gs
  row : CellRow w gs (ints (nats LL))
  b : Below w0.heap.size w0 w

theorem len_of_map {X : List CRow} {C : List (List Nat)} (h : X.map CRow.L = C) : X.length = C.length := by rw [← h]; simp

theorem grp_few {M : List (List Bool)} {LL : List Nat} {k : Nat} (hlt : ∀ y ∈ LL, y < M.length) (hk : k ≤ LL.length) : (grpTo (ltM M) LL k).length ≤ k := by
  have := len_flat (C := grpTo (ltM M) LL k) (fun c hc => (grpTo_ok hlt k c hc).1)
  rw [grpTo_total k hk] at this; exact this

/-- A class more. -/
theorem ClsAt.fresh {M : List (List Bool)} {LL : List Nat} {gs : Nat} {w0 wr : World} {k e : Nat} {cv : Value} {X : List CRow} (h : ClsAt M LL gs w0 k cv X wr) (hlt : ∀ y ∈ LL, y < M.length) (hk : LL[k]? = some e) (hLL : LL.length ≤ 12)
    (hs : grpStep (ltM M) (grpTo (ltM M) LL k) e = grpTo (ltM M) LL k ++ [[e]]) :
    ∃ v2 w2, (heldAppend #[30, 30] 30 #[cv, .slice (some ⟨wr.heap.size + 1, 0, none⟩) 1 1]).run Try.prog ((wr.alloc (.cells #[.int .i64 (e : Int)] 3)).alloc (.cells #[.slice (some ⟨wr.heap.size, 0, none⟩) 1 1] 26)) = .ok v2 w2 ∧
      ClsAt M LL gs w0 (k + 1) v2 (X ++ [⟨wr.heap.size, 1, [e]⟩]) w2 := by
  have hbw := h.b.size
  have hH := h.held.below ((Below.refl wr.heap.size wr).alloc (Nat.le_refl _) (.cells #[.int .i64 (e : Int)] 3))
  have h1 := Held.one w0.heap.size wr (e : Int) hbw
  have hnb : ¬ Blk cv X wr.heap.size := fun hb => by have := (h.held.r.lt hb).2; omega
  have hlen := len_of_map h.map
  have hfew := grp_few hlt h.le
  have hle := h.le
  obtain ⟨v2, w2, r, hQ, hb2, hk2, hbl⟩ := appendRowQ w0.heap.size cv X ⟨wr.heap.size, 1, [e]⟩ _ hH (by simp; omega) h1 hnb (by omega)
  simp only [World.size_alloc, slv, List.length_cons, List.length_nil, Nat.zero_add] at r
  have hgsz : gs < wr.heap.size := h.row.1
  have hB2 : Below w0.heap.size wr w2 := ((Below.refl _ wr).alloc hbw _).trans hb2
  refine ⟨v2, w2, r, ⟨(List.getElem?_eq_some_iff.1 hk).1, ?_, hQ, ?_, ?_, h.b.trans hB2⟩⟩
  · rw [List.map_append, h.map, grpTo_succ hk, hs]; rfl
  · rintro (h2 | ⟨y, hy, rfl⟩)
    · rcases hbl _ h2 with h3 | h3
      · exact h.off (.inl h3)
      · rw [World.size_alloc] at h3; omega
    · rcases List.mem_append.1 hy with h3 | h3
      · exact h.off (.inr ⟨y, h3, rfl⟩)
      · simp at h3; subst h3; simp at hgsz
  · exact h.row.same ((hk2 gs (by rw [World.size_alloc]; omega) (fun e2 => h.off (.inl e2))).trans (heap_alloc_old wr _ hgsz)) hB2.size

/-- An element into the last class. -/
theorem ClsAt.into {M : List (List Bool)} {LL : List Nat} {gs : Nat} {w0 wr : World} {k e g c m : Nat} {X : List CRow} {x : CRow} (h : ClsAt M LL gs w0 k (.slice (some ⟨g, 0, none⟩) X.length c) X wr) (hlt : ∀ y ∈ LL, y < M.length) (hk : LL[k]? = some e) (hLL : LL.length ≤ 12)
    (hm : X.length = m + 1) (hx : X[m]? = some x) (ht : tie (ltM M) (hd x.L) e = true) :
    ∃ g' c' w1, (heldAppend #[26, 26] 26 #[.slice (some ⟨x.g, 0, none⟩) x.L.length x.c, .slice (some ⟨wr.heap.size, 0, none⟩) 1 1]).run Try.prog (wr.alloc (.cells #[.int .i64 (e : Int)] 3)) = .ok (.slice (some ⟨g', 0, none⟩) (x.L.length + 1) c') w1 ∧
      w1.cell? ⟨g, m, none⟩ = some (.slice (some ⟨x.g, 0, none⟩) x.L.length x.c) ∧ w1.frozen? ⟨g, m, none⟩ = false ∧
      ClsAt M LL gs w0 (k + 1) (.slice (some ⟨g, 0, none⟩) X.length c) (X.set m ⟨g', c', x.L ++ [e]⟩) (w1.setCell ⟨g, m, none⟩ (.slice (some ⟨g', 0, none⟩) (x.L.length + 1) c')) := by
  have hbw := h.b.size
  have hle := h.le
  have hlen := len_of_map h.map
  have hxl : x.L.length ≤ k := by
    have h1 : x.L ∈ grpTo (ltM M) LL k := by rw [← h.map]; exact List.mem_map_of_mem (List.mem_of_getElem? hx)
    have := mem_len h1; rw [grpTo_total k h.le] at this; exact this
  obtain ⟨g', c', w1, r, hQ, hB, hc, hf, hoth⟩ := appendIn w0.heap.size g c m X x e wr h.held hx hbw (by omega)
  have hgsz : gs < wr.heap.size := h.row.1
  obtain ⟨hg1, hg2⟩ := hoth gs hgsz h.off
  refine ⟨g', c', w1, r, hc, hf, ⟨(List.getElem?_eq_some_iff.1 hk).1, ?_, hQ, hg2, h.row.same hg1 hB.size, h.b.trans hB⟩⟩
  rw [List.map_set, h.map, grpTo_succ hk, grpStep_at (m := m) (by omega) (show (grpTo (ltM M) LL k)[m]? = some x.L by rw [← h.map, List.getElem?_map, hx]; rfl), if_pos ht]

set_option maxRecDepth 100000 in
set_option maxHeartbeats 4000000 in
theorem implCls_any (v : Value) (M : List (List Bool)) (w : World) (hv : RowsAt w v (M.map bools)) (hn : M.length ≤ 1048576) :
    Calls Try.prog 21 #[v] w (RetSS (clsF M) w) := by
  have hv0 := hv
  obtain ⟨a, c, rfl, hc0, _⟩ := hv0
  have hlen : (M.map bools).length = M.length := by simp
  rw [hlen] at hv hc0 ⊢
  have HB0 := Lib.hid (show Below w.heap.size w (w.alloc (.cells #[.slice a M.length c] 24)) from (Below.refl _ w).alloc (Nat.le_refl _) _)
  have HT0 : Hid (Tab (w.alloc (.cells #[.slice a M.length c] 24)) w.heap.size (.slice a M.length c) M) := Lib.hid ⟨by simp, by simp, hv.below HB0.out⟩
  have eg : ∀ args w, (callFunc 67 args).run Try.prog w = .ok (.enter 67 args) w := enters_of Try.func67 (by kernel_rfl) rfl
  have EG := Lib.hid eg
  have HORD := Lib.hid (implOrd_any (.slice a M.length c) M _ HT0.out.rows hn)
  have hcellB := HT0.out.cell
  clear hv hc0 eg
  go_enter Try.func21, Try.ntmps21
  go_wp2_with fail
  refine (HORD.out).mono ?_
  rintro e w1 ⟨g1, cap1, L1, rfl, hcap1, hg1, hrow1, hord, hb1⟩
  have HB1 := Lib.hid (HB0.out.trans (hb1.mono HB0.out.size))
  have HT1 := Lib.hid (HT0.out.below hb1)
  have hcellB1 := HT1.out.cell
  have HORDC := Lib.hid (clsF_ord hord)
  clear hb1 HB0 HT0 hcellB hord HORD hrow1 hcap1
  rcases HORDC.out with ⟨hok, rfl, hdef⟩ | ⟨hbad, hcl⟩
  · have hd : decide (OkM M) = true := decide_eq_true hok
    rw [hd]
    have HOK := Lib.hid hok
    have HDEF := Lib.hid hdef
    have HID := Lib.hid (fun W => identity_any M.length W hn)
    have HQ0 := Lib.hid (HeldQ.start w1 w1.heap.size (Nat.le_refl _))
    have HBA : Hid (Below w1.heap.size w1 (w1.alloc (.cells #[] 26))) := Lib.hid ((Below.refl _ w1).alloc (Nat.le_refl _) _)
    obtain ⟨NN, hNN⟩ : ∃ NN, M.length = NN + 1 := ⟨M.length - 1, by have := hok.1; omega⟩
    have HNN := Lib.hid hNN
    have h12 : M.length ≤ 12 := hok.1.2
    have H12 := Lib.hid h12
    have hcellB2 := (HT1.out.below HBA.out).cell
    clear hok hdef hd hNN h12 HORDC
    go_wp2_with fail
    refine (HID.out _).mono ?_
    rintro e w2 ⟨rfl, hrow, hb2⟩
    have HB2 := Lib.hid (HBA.out.trans (hb2.mono (by simp)))
    have HR2 := Lib.hid (CellRow.of_row hrow)
    have HQ2 := Lib.hid (HQ0.out.below hb2)
    have hsz2 : w1.heap.size + 1 ≤ w2.heap.size := by have := hb2.size; simpa using this
    clear hrow hb2 HID HQ0 HBA
    have HA := Lib.hid (arrangeN_any M.length HNN.out (cfN M) (swoN HNN.out HDEF.out) 67 #[.pointer (some ⟨w.heap.size, 0, none⟩)] EG.out (w1.alloc (.cells #[] 26)).heap.size M.length w2 HR2.out hn (fun W hW x y =>
      (cmpO_any w.heap.size _ M W (HT1.out.below (HB2.out.trans (hW.mono HB2.out.size))) HOK.out.2 x.val y.val (by have := HNN.out; have := x.isLt; omega) (by have := HNN.out; have := y.isLt; omega)).mono (by rintro e w' ⟨rfl, rfl⟩; exact ⟨rfl, 0, #[], by rw [World.drewN_zero, grow_empty]⟩)) (Nat.le_refl _))
    rw [World.size_alloc] at HA
    go_wp2_with fail
    refine (HA.out).mono ?_
    rintro e w3 ⟨gs, cg, Mf, rfl, hcg, hgs, hrow, hM, hb3⟩
    have hlM : (valsN Mf).length = M.length := by rw [valsN_length, hM.perm.length_eq, fins_length, HNN.out]
    have hgsz := hrow.1
    rw [valsF_nats] at hrow
    have HC0 : Hid (ClsAt M (valsN Mf) gs w1 0 (.slice (some ⟨w1.heap.size, 0, none⟩) 0 0) [] w3) := Lib.hid ⟨Nat.zero_le _, rfl, HQ2.out.below hb3, fun h => by
      rcases h with h | ⟨x, hx, _⟩
      · simp [Value.ownBlock] at h; omega
      · simp at hx, hrow, HB2.out.trans (hb3.mono HB2.out.size)⟩
    have HGRP := Lib.hid (grp_sorted HNN.out HDEF.out hM)
    have HLT : Hid (∀ y ∈ valsN Mf, y < M.length) := Lib.hid (by rw [HNN.out]; exact valsN_lt Mf)
    have HLM := Lib.hid hlM
    clear hrow hM hb3 HA HR2 HQ2 HB2 hgsz hsz2 hcellB2 hcellB1
    generalize valsN Mf = LL at *
    go_wp2_with fail
    go_loopw [7, 9, 10, 32] (fun cv _ _ iv wr => ∃ (k : Nat) (X : List CRow), iv = .int .i64 k ∧ ClsAt M LL gs w1 k cv X wr) (fun _ _ _ iv _ => M.length - (intOf iv).toNat)
    case atStart => exact ⟨0, [], rfl, HC0.out⟩
    case round =>
      obtain ⟨k, X, rfl, hc⟩ := hrel
      have HC := Lib.hid hc
      have hkM : k ≤ M.length := by have := hc.le; omega
      clear hc HC0
      by_cases hlt : k < M.length
      · have hkz : (k : Int) < (M.length : Int) := by omega
        obtain ⟨e, he⟩ : ∃ e, LL[k]? = some e := ⟨_, List.getElem?_eq_getElem (by omega)⟩
        have HE := Lib.hid he
        have hce : wr.cell? ⟨gs, k, none⟩ = some (.int .i64 (e : Int)) := (HC.out.row.2 k _ (ints_at (by unfold nats; rw [List.getElem?_map, he]; rfl))).1
        obtain ⟨g, c2, rfl, hother⟩ := HC.out.held.r.nn
        by_cases hX : X = []
        · subst hX
          have hg0 : grpTo (ltM M) LL k = [] := by rw [← HC.out.map]; rfl
          obtain ⟨v2, w4, hrun, hn4⟩ := HC.out.fresh HLT.out he (by have := H12.out; omega) (by rw [hg0]; rfl)
          have HN := Lib.hid hn4
          clear hn4 hg0 he HC hother
          have hz0 : (([] : List CRow).length : Int) = 0 := rfl
          simp only [List.length_nil] at *
          go_wp2_with fail
          go_roundw
          case rel => exact ⟨k + 1, _, by go_num, HN.out⟩
          case measure => simp [intOf]; omega
        · obtain ⟨m, hm⟩ : ∃ m, X.length = m + 1 := ⟨X.length - 1, by have := List.length_pos_iff.2 hX; omega⟩
          obtain ⟨x, hx⟩ : ∃ x, X[m]? = some x := ⟨_, List.getElem?_eq_getElem (by omega)⟩
          have hxm := List.mem_of_getElem? hx
          have hcx : wr.cell? ⟨g, m, none⟩ = some (.slice (some ⟨x.g, 0, none⟩) x.L.length x.c) := by
            rw [HC.out.held.r.own.cellAt m (by omega), List.getElem?_map, hx]; rfl
          have hmem : x.L ∈ grpTo (ltM M) LL k := by rw [← HC.out.map]; exact List.mem_map_of_mem hxm
          obtain ⟨hne, hall⟩ := grpTo_ok HLT.out k x.L hmem
          have hh0 := hd_at hne
          have hdl : hd x.L < M.length := hall _ (List.mem_of_getElem? hh0)
          have hel : e < M.length := HLT.out e (List.mem_of_getElem? he)
          have hpos : (0 : Int) < (x.L.length : Int) := by have := List.length_pos_iff.2 hne; omega
          have hcd : wr.cell? ⟨x.g, 0, none⟩ = some (.int .i64 ((hd x.L : Nat) : Int)) := ((HC.out.held.r.rows x hxm).2.2.2 0 _ (ints_at (by unfold nats; rw [List.getElem?_map, hh0]; rfl))).1
          have HCMP := Lib.hid (cmpO_any w.heap.size _ M wr (HT1.out.below HC.out.b) HOK.out.2 (hd x.L) e hdl hel)
          have HTIE : Hid ((cfM M (hd x.L) e == 0) = tie (ltM M) (hd x.L) e) := Lib.hid (by rw [cfM_tie, tieM_in hdl hel])
          have hfew := grp_few (M := M) (k := k) HLT.out HC.out.le
          have hXk : X.length ≤ 12 := by have := len_of_map HC.out.map; have := H12.out; omega
          have hwm : IntKind.i64.wrap ((X.length : Int) - 1) = (m : Int) := by rw [IntKind.wrap_i64]; omega
          have hm0 : (0 : Int) ≤ (m : Int) := by omega
          have hmX : (m : Int) < (X.length : Int) := by omega
          generalize hz : cfM M (hd x.L) e = z at *
          by_cases hz0 : z = 0
          · have ht : tie (ltM M) (hd x.L) e = true := by rw [← HTIE.out, hz0]; rfl
            have hzb : (z == 0) = true := by rw [hz0]; rfl
            obtain ⟨g', c', w4, hrun, hcx4, hfr4, hn4⟩ := HC.out.into HLT.out he (by have := H12.out; omega) hm hx ht
            have HN := Lib.hid hn4
            clear hn4 ht hmem hne hall hh0 hdl hel HTIE hfew hother hX hx hxm he hm hXk HC
            subst hz0
            go_wp2_with fail
            refine (HCMP.out).mono ?_
            rintro e w5 ⟨rfl, rfl⟩
            go_wp2_with fail
            go_roundw
            case rel => exact ⟨k + 1, _, by go_num, HN.out⟩
            case measure => simp [intOf]; omega
          · have hzb : (z == 0) = false := by simpa using hz0
            have ht : tie (ltM M) (hd x.L) e = false := by rw [← HTIE.out, hzb]
            have hgl : (grpTo (ltM M) LL k).length = m + 1 := by rw [← len_of_map HC.out.map, hm]
            have hgm : (grpTo (ltM M) LL k)[m]? = some x.L := by rw [← HC.out.map, List.getElem?_map, hx]; rfl
            obtain ⟨v2, w4, hrun, hn4⟩ := HC.out.fresh HLT.out he (by have := H12.out; omega) (by rw [grpStep_at hgl hgm, ht]; rfl)
            have HN := Lib.hid hn4
            clear hn4 ht hgl hgm hmem hne hall hh0 hdl hel HTIE hfew hother hX hx hxm he hm hXk HC
            go_wp2_with fail
            refine (HCMP.out).mono ?_
            rintro e w5 ⟨rfl, rfl⟩
            go_wp2_with fail
            go_roundw
            case rel => exact ⟨k + 1, _, by go_num, HN.out⟩
            case measure => simp [intOf]; omega
      · obtain rfl : k = M.length := by omega
        have HRES : Hid (RetSS (clsF M) w (.returned (.tuple #[_, .bool true])) wr) := Lib.hid (by
          rw [clsF_yes HOK.out HDEF.out]
          refine (HC.out.held.r.lower HB1.out.size).ret ?_ (HB1.out.trans (HC.out.b.mono HB1.out.size))
          rw [← HGRP.out, ← grpTo_all, HLM.out, ← HC.out.map, List.map_map]; rfl)
        clear HC
        go_wp2_with fail
        go_ret2
        exact HRES.out
  · have HRES : Hid (RetSS (clsF M) w (.returned (.tuple #[.slice (some ⟨w1.heap.size, 0, none⟩) 0 0, .bool false])) (w1.alloc (.cells #[] 26))) := Lib.hid (by rw [hcl]; exact RetSS.none w w1 HB1.out _ (Below.refl _ _))
    clear hcl HORDC
    by_cases hok : OkM M
    · rw [decide_eq_true hok]
      have hl : (0 : Int) < (L1.length : Int) := by
        rcases hbad with h | h
        · exact absurd hok h
        · have := List.length_pos_iff.2 h; omega
      clear hbad hok
      go_wp2_with fail
      go_ret2
      exact HRES.out
    · rw [decide_eq_false hok]
      clear hbad hok
      go_wp2_with fail
      go_ret2
      exact HRES.out

end Go.Proofs.Ytipdfmedbcafpaa
end

section
/- The model's OrderClasses, by its contract. -/
namespace Go.Proofs.Ytipdfmedbcafpaa
open Go.RowKit Go.Sort StC P Cl
attribute [local go_sem ↓ high] builtin_append_held
set_option linter.unusedVariables false

/-- The model's word at i. -/
structure SClsAt (M : List (List Bool)) (w0 : World) (i : Nat) (ov : Value) (X : List CRow) (w : World) : Prop where
  le : i ≤ M.length
  map : X.map CRow.L = clsM M i
  held : HeldQ w0.heap.size w ov X
  b : Below w0.heap.size w0 w

/-- All six orders of the literals and the first append. -/
theorem six {wr : World} {X : List CRow} {g k o m c c' i : Nat} (hX : CellRow wr g (X.map slv)) (hk : k ≤ X.length) (hn : X.length ≤ 12) (hm : m = X.length - k) (ho : k < X.length → o = k) :
    (∃ v1 w1 v2 w2 v3 w3, (heldAppend #[30, 30] 30 #[.slice (some ⟨wr.heap.size, 0, none⟩) 0 0, .slice (some ⟨g, 0, none⟩) k c]).run Try.prog (wr.alloc (.cells #[] 26)).drew = .ok v1 w1 ∧
      (heldAppend #[30, 30] 30 #[v1, .slice (some ⟨w1.heap.size + 1, 0, none⟩) 1 1]).run Try.prog ((w1.alloc (.cells #[.int .i64 (i : Int)] 3)).alloc (.cells #[.slice (some ⟨w1.heap.size, 0, none⟩) 1 1] 26)) = .ok v2 w2 ∧
      (heldAppend #[30, 30] 30 #[v2, .slice (some ⟨g, o, none⟩) m c']).run Try.prog w2 = .ok v3 w3 ∧ InsQ wr X k (w1.heap.size) i v3 w3) ∧
    (∃ v1 w1 v2 w2 v3 w3, (heldAppend #[30, 30] 30 #[.slice (some ⟨wr.heap.size, 0, none⟩) 0 0, .slice (some ⟨g, 0, none⟩) k c]).run Try.prog ((wr.alloc (.cells #[] 26)).alloc (.cells #[.int .i64 (i : Int)] 3)).drew = .ok v1 w1 ∧
      (heldAppend #[30, 30] 30 #[v1, .slice (some ⟨w1.heap.size, 0, none⟩) 1 1]).run Try.prog (w1.alloc (.cells #[.slice (some ⟨wr.heap.size + 1, 0, none⟩) 1 1] 26)) = .ok v2 w2 ∧
      (heldAppend #[30, 30] 30 #[v2, .slice (some ⟨g, o, none⟩) m c']).run Try.prog w2 = .ok v3 w3 ∧ InsQ wr X k (wr.heap.size + 1) i v3 w3) ∧
    (∃ v1 w1 v2 w2 v3 w3, (heldAppend #[30, 30] 30 #[.slice (some ⟨wr.heap.size, 0, none⟩) 0 0, .slice (some ⟨g, 0, none⟩) k c]).run Try.prog (((wr.alloc (.cells #[] 26)).alloc (.cells #[.int .i64 (i : Int)] 3)).alloc (.cells #[.slice (some ⟨wr.heap.size + 1, 0, none⟩) 1 1] 26)).drew = .ok v1 w1 ∧
      (heldAppend #[30, 30] 30 #[v1, .slice (some ⟨wr.heap.size + 1 + 1, 0, none⟩) 1 1]).run Try.prog w1 = .ok v2 w2 ∧
      (heldAppend #[30, 30] 30 #[v2, .slice (some ⟨g, o, none⟩) m c']).run Try.prog w2 = .ok v3 w3 ∧ InsQ wr X k (wr.heap.size + 1) i v3 w3) ∧
    (∃ v1 w1 v2 w2 v3 w3, (heldAppend #[30, 30] 30 #[.slice (some ⟨wr.heap.size + 1, 0, none⟩) 0 0, .slice (some ⟨g, 0, none⟩) k c]).run Try.prog ((wr.alloc (.cells #[.int .i64 (i : Int)] 3)).alloc (.cells #[] 26)).drew = .ok v1 w1 ∧
      (heldAppend #[30, 30] 30 #[v1, .slice (some ⟨w1.heap.size, 0, none⟩) 1 1]).run Try.prog (w1.alloc (.cells #[.slice (some ⟨wr.heap.size, 0, none⟩) 1 1] 26)) = .ok v2 w2 ∧
      (heldAppend #[30, 30] 30 #[v2, .slice (some ⟨g, o, none⟩) m c']).run Try.prog w2 = .ok v3 w3 ∧ InsQ wr X k (wr.heap.size) i v3 w3) ∧
    (∃ v1 w1 v2 w2 v3 w3, (heldAppend #[30, 30] 30 #[.slice (some ⟨wr.heap.size + 1, 0, none⟩) 0 0, .slice (some ⟨g, 0, none⟩) k c]).run Try.prog (((wr.alloc (.cells #[.int .i64 (i : Int)] 3)).alloc (.cells #[] 26)).alloc (.cells #[.slice (some ⟨wr.heap.size, 0, none⟩) 1 1] 26)).drew = .ok v1 w1 ∧
      (heldAppend #[30, 30] 30 #[v1, .slice (some ⟨wr.heap.size + 1 + 1, 0, none⟩) 1 1]).run Try.prog w1 = .ok v2 w2 ∧
      (heldAppend #[30, 30] 30 #[v2, .slice (some ⟨g, o, none⟩) m c']).run Try.prog w2 = .ok v3 w3 ∧ InsQ wr X k (wr.heap.size) i v3 w3) ∧
    (∃ v1 w1 v2 w2 v3 w3, (heldAppend #[30, 30] 30 #[.slice (some ⟨wr.heap.size + 1 + 1, 0, none⟩) 0 0, .slice (some ⟨g, 0, none⟩) k c]).run Try.prog (((wr.alloc (.cells #[.int .i64 (i : Int)] 3)).alloc (.cells #[.slice (some ⟨wr.heap.size, 0, none⟩) 1 1] 26)).alloc (.cells #[] 26)).drew = .ok v1 w1 ∧
      (heldAppend #[30, 30] 30 #[v1, .slice (some ⟨wr.heap.size + 1, 0, none⟩) 1 1]).run Try.prog w1 = .ok v2 w2 ∧
      (heldAppend #[30, 30] 30 #[v2, .slice (some ⟨g, o, none⟩) m c']).run Try.prog w2 = .ok v3 w3 ∧ InsQ wr X k (wr.heap.size) i v3 w3) := by
  have hb1 : Below wr.heap.size wr (wr.alloc (.cells #[] 26)) := (Below.refl _ _).alloc (Nat.le_refl _) _
  have hb2 : Below wr.heap.size wr (wr.alloc (.cells #[.int .i64 (i : Int)] 3)) := (Below.refl _ _).alloc (Nat.le_refl _) _
  have hE := HR.start wr.heap.size wr (Nat.le_refl _)
  have hR := Held.one wr.heap.size wr (i : Int) (Nat.le_refl _)
  have hER : Held wr.heap.size ((wr.alloc (.cells #[] 26)).alloc (.cells #[.int .i64 (i : Int)] 3)) (rv (wr.heap.size + 1)) [(i : Int)] := by have := Held.one wr.heap.size (wr.alloc (.cells #[] 26)) (i : Int) (by simp); rw [World.size_alloc] at this; exact this
  have hRE : HR wr.heap.size ((wr.alloc (.cells #[.int .i64 (i : Int)] 3)).alloc (.cells #[] 26)) (.slice (some ⟨wr.heap.size + 1, 0, none⟩) 0 0) [] := by have := HR.start wr.heap.size (wr.alloc (.cells #[.int .i64 (i : Int)] 3)) (by simp); rw [World.size_alloc] at this; exact this
  have hRVE : HR wr.heap.size (((wr.alloc (.cells #[.int .i64 (i : Int)] 3)).alloc (.cells #[.slice (some ⟨wr.heap.size, 0, none⟩) 1 1] 26)).alloc (.cells #[] 26)) (.slice (some ⟨wr.heap.size + 1 + 1, 0, none⟩) 0 0) [] := by have := HR.start wr.heap.size ((wr.alloc (.cells #[.int .i64 (i : Int)] 3)).alloc (.cells #[.slice (some ⟨wr.heap.size, 0, none⟩) 1 1] 26)) (by simp only [World.size_alloc]; omega); rw [World.size_alloc, World.size_alloc] at this; exact this
  have c0 : ∀ (W : World) (u : Value), (W.alloc (.cells #[u] 26)).cell? ⟨W.heap.size, 0, none⟩ = some u := fun W u => by simp
  refine ⟨ord1 hX hk hn hm ho hE.drew (hb1.trans ((Below.refl _ _).drew)), ?_, ?_, ?_, ?_, ?_⟩
  · exact ord2 hX hk hn hm ho (hE.alloc _).drew ((hb1.alloc (by simp) _).trans ((Below.refl _ _).drew)) hER.drew (by omega)
  · exact ord3 hX hk hn hm ho ((hE.alloc _).alloc _).drew (((hb1.alloc (by simp) _).alloc (by simp only [World.size_alloc]; omega) _).trans ((Below.refl _ _).drew)) (hER.alloc _).drew (by have := c0 ((wr.alloc (.cells #[] 26)).alloc (.cells #[.int .i64 (i : Int)] 3)) (rv (wr.heap.size + 1)); rw [World.size_alloc, World.size_alloc] at this; exact this) (by simp [World.drew]) (by omega) (by omega)
  · exact ord2 hX hk hn hm ho hRE.drew ((hb2.alloc (by simp) _).trans ((Below.refl _ _).drew)) (hR.alloc _).drew (by omega)
  · exact ord3 hX hk hn hm ho (hRE.alloc _).drew (((hb2.alloc (by simp) _).alloc (by simp only [World.size_alloc]; omega) _).trans ((Below.refl _ _).drew)) ((hR.alloc _).alloc _).drew (by have := c0 ((wr.alloc (.cells #[.int .i64 (i : Int)] 3)).alloc (.cells #[] 26)) (rv (wr.heap.size)); rw [World.size_alloc, World.size_alloc] at this; exact this) (by simp [World.drew]) (by omega) (by omega)
  · exact ord3 hX hk hn hm ho hRVE.drew (((hb2.alloc (by simp) _).alloc (by simp only [World.size_alloc]; omega) _).trans ((Below.refl _ _).drew)) ((hR.alloc _).alloc _).drew (by
      have e1 := c0 (wr.alloc (.cells #[.int .i64 (i : Int)] 3)) (rv (wr.heap.size))
      rw [World.size_alloc] at e1
      have e2 := ((Below.refl (wr.heap.size + 1 + 1) ((wr.alloc (.cells #[.int .i64 (i : Int)] 3)).alloc (.cells #[.slice (some ⟨wr.heap.size, 0, none⟩) 1 1] 26))).alloc (by simp only [World.size_alloc]; omega) (.cells #[] 26)).cell (p := ⟨wr.heap.size + 1, 0, none⟩) (by show wr.heap.size + 1 < wr.heap.size + 1 + 1; omega)
      exact e2.trans e1) (by simp [World.drew]) (by omega) (by omega)

theorem map_len {X : List CRow} {C : List (List Nat)} (h : X.map CRow.L = C) : X.length = C.length := by rw [← h]; simp

/-- A class more. -/
theorem SClsAt.put {M : List (List Bool)} {w0 wr w3 : World} {i k rb : Nat} {ov v3 : Value} {X : List CRow} (h : SClsAt M w0 i ov X wr) (hi : i < M.length) (hk : k ≤ X.length) (h1 : ∀ j x, j < k → X[j]? = some x → ltM M (hd x.L) i = true)
    (h2 : ∀ x, X[k]? = some x → ltM M (hd x.L) i = false ∧ tie (ltM M) (hd x.L) i = false) (hI : InsQ wr X k rb i v3 w3) : SClsAt M w0 (i + 1) v3 (X.take k ++ [⟨rb, 1, [i]⟩] ++ X.drop k) w3 := by
  refine ⟨hi, ?_, hI.held h.held h.b.size, h.b.trans (hI.b.mono h.b.size)⟩
  have e := ins_at (lt := ltM M) (x := i) (clsM M i) k (by rw [← map_len h.map]; exact hk) (fun j hj c hc => by
    rw [← h.map, List.getElem?_map] at hc
    obtain ⟨x, hx, rfl⟩ := Option.map_eq_some_iff.1 hc
    exact h1 j x hj hx) (fun c hc => by
    rw [← h.map, List.getElem?_map] at hc
    obtain ⟨x, hx, rfl⟩ := Option.map_eq_some_iff.1 hc
    exact (h2 x hx).1)
  rw [clsM_succ, e, ← h.map]
  cases hx : X[k]? with
  | none => simp [List.getElem?_map, hx, List.map_take, List.map_drop]
  | some x => simp [List.getElem?_map, hx, List.map_take, List.map_drop, (h2 x hx).2]

/-- An element into a class. -/
theorem SClsAt.into {M : List (List Bool)} {w0 wr : World} {i k g c : Nat} {X : List CRow} {x : CRow} (h : SClsAt M w0 i (.slice (some ⟨g, 0, none⟩) X.length c) X wr) (hi : i < M.length) (h12 : M.length ≤ 12) (hx : X[k]? = some x) (h1 : ∀ j x, j < k → X[j]? = some x → ltM M (hd x.L) i = true)
    (h2 : ltM M (hd x.L) i = false) (ht : tie (ltM M) (hd x.L) i = true) :
    ∃ g' c' w1, (heldAppend #[26, 26] 26 #[.slice (some ⟨x.g, 0, none⟩) x.L.length x.c, .slice (some ⟨wr.heap.size, 0, none⟩) 1 1]).run Try.prog (wr.alloc (.cells #[.int .i64 (i : Int)] 3)) = .ok (.slice (some ⟨g', 0, none⟩) (x.L.length + 1) c') w1 ∧
      w1.cell? ⟨g, k, none⟩ = some (.slice (some ⟨x.g, 0, none⟩) x.L.length x.c) ∧ w1.frozen? ⟨g, k, none⟩ = false ∧
      SClsAt M w0 (i + 1) (.slice (some ⟨g, 0, none⟩) X.length c) (X.set k ⟨g', c', x.L ++ [i]⟩) (w1.setCell ⟨g, k, none⟩ (.slice (some ⟨g', 0, none⟩) (x.L.length + 1) c')) := by
  have hxl : x.L.length ≤ i := clsM_row (M := M) (by rw [← h.map]; exact List.mem_map_of_mem (List.mem_of_getElem? hx))
  obtain ⟨g', c', w1, r, hQ, hB, hc, hf, _⟩ := appendIn w0.heap.size g c k X x i wr h.held hx h.b.size (by omega)
  refine ⟨g', c', w1, r, hc, hf, ⟨hi, ?_, hQ, h.b.trans hB⟩⟩
  have e := ins_at (lt := ltM M) (x := i) (clsM M i) k (by rw [← map_len h.map]; exact Nat.le_of_lt (List.getElem?_eq_some_iff.1 hx).1) (fun j hj c hc => by
    rw [← h.map, List.getElem?_map] at hc
    obtain ⟨x, hx, rfl⟩ := Option.map_eq_some_iff.1 hc
    exact h1 j x hj hx) (fun c hc => by
    rw [← h.map, List.getElem?_map, hx] at hc
    simp at hc
    subst hc
    exact h2)
  rw [clsM_succ, e, ← h.map, List.map_set]
  simp [List.getElem?_map, hx, ht]

set_option maxRecDepth 100000 in
set_option maxHeartbeats 40000000 in
theorem specCls_any (v : Value) (M : List (List Bool)) (w : World) (hv : RowsAt w v (M.map bools)) (hn : M.length ≤ 1048576) (hx : ∀ (j : Nat) x, M[j]? = some x → x.length ≤ 1048576) :
    Calls Try.prog 22 #[v] w (RetSS (clsF M) w) := by
  have hv0 := hv
  obtain ⟨a, c, rfl, hc0, _⟩ := hv0
  have hlen : (M.map bools).length = M.length := by simp
  rw [hlen] at hv hc0 ⊢
  have HBA : Hid (Below w.heap.size w (w.alloc (.cells #[] 26))) := Lib.hid ((Below.refl _ w).alloc (Nat.le_refl _) _)
  have HVA := Lib.hid (hv.below HBA.out)
  have HREL := Lib.hid (l2Relation_any (.slice a M.length c) M _ HVA.out hn hx)
  by_cases hok : OkM M
  · have hd : decide (OkM M) = true := decide_eq_true hok
    have HDEFC := Lib.hid (l2Defect_any (.slice a M.length c) M _ HVA.out hok.2 (by have := hok.1.2; omega))
    rw [hd] at HREL
    have HOK := Lib.hid hok
    have HQ0 := Lib.hid (HeldQ.start w w.heap.size (Nat.le_refl _))
    clear hd hok hc0
    go_enter Try.func22, Try.ntmps22
    go_wp2_with fail
    refine HREL.out.mono ?_
    rintro e w1 ⟨rfl, rfl⟩
    go_wp2_with fail
    refine HDEFC.out.mono ?_
    rintro e w2 ⟨g2, cap2, L2, rfl, hcap2, hg2, hrow2, hdef, hb2⟩
    by_cases hL : L2 = []
    · subst hL
      have HDEF := Lib.hid hdef
      have HQ2 := Lib.hid (HQ0.out.below hb2)
      have HB2 := Lib.hid (HBA.out.trans (hb2.mono HBA.out.size))
      clear hdef hb2 hrow2 hcap2 hg2 HQ0 HBA HVA HREL HDEFC
      have HV := Lib.hid hv
      clear hv
      go_wp2_with fail
      go_loopw [4, 5, 6] (fun ov iv _ wr => ∃ (i : Nat) (X : List CRow), iv = .int .i64 i ∧ SClsAt M w i ov X wr) (fun _ iv _ _ => M.length - (intOf iv).toNat)
      case atStart => exact ⟨0, [], rfl, Nat.zero_le _, rfl, HQ2.out, HB2.out⟩
      case round =>
        obtain ⟨i, X, rfl, hc⟩ := hrel
        have HC := Lib.hid hc
        have hiM : i ≤ M.length := hc.le
        clear hc HQ2 HB2
        by_cases hlt : i < M.length
        · have hiz : (i : Int) < (M.length : Int) := by omega
          obtain ⟨g, c2, rfl, hother⟩ := HC.out.held.r.nn
          have hXi : X.length ≤ i := by have := clsM_len M i; rw [← HC.out.map] at this; simpa using this
          go_wp2_with fail
          go_loop [6] (fun av => ∃ k : Nat, k ≤ X.length ∧ av = .int .i64 k ∧ (∀ j x, j < k → X[j]? = some x → ltM M (hd x.L) i = true)) (fun av => X.length - (intOf av).toNat)
          case atStart => exact ⟨0, Nat.zero_le _, rfl, fun j x hj => by omega⟩
          case round =>
            obtain ⟨k, hk, rfl, hall⟩ := hrel
            have HALL := Lib.hid hall
            clear hall
            have HROW : Hid (CellRow wr g (X.map slv)) := Lib.hid (CellRow.of_own HC.out.held.r.own).2.2
            have hcap : X.length ≤ c2 := (HC.out.held.r.nest).2.1
            have h12 := HOK.out.1.2
            by_cases hkl : k < X.length
            · have hkz : (k : Int) < (X.length : Int) := by omega
              obtain ⟨x, hx⟩ : ∃ x, X[k]? = some x := ⟨_, List.getElem?_eq_getElem hkl⟩
              have hxm := List.mem_of_getElem? hx
              have hcx : wr.cell? ⟨g, k, none⟩ = some (.slice (some ⟨x.g, 0, none⟩) x.L.length x.c) := (HROW.out.2 k _ (by rw [List.getElem?_map, hx]; rfl)).1
              have hmem : x.L ∈ clsM M i := by rw [← HC.out.map]; exact List.mem_map_of_mem hxm
              have hne := clsM_ne M i x.L hmem
              have hh0 := hd_at hne
              have hdl : hd x.L < M.length := by have := clsM_hd hmem; omega
              have hdz : ((hd x.L : Nat) : Int) < (M.length : Int) := by omega
              have hpos : (0 : Int) < (x.L.length : Int) := by have := List.length_pos_iff.2 hne; omega
              have hcd : wr.cell? ⟨x.g, 0, none⟩ = some (.int .i64 ((hd x.L : Nat) : Int)) := ((HC.out.held.r.rows x hxm).2.2.2 0 _ (ints_at (by unfold nats; rw [List.getElem?_map, hh0]; rfl))).1
              have HVR := Lib.hid (HV.out.below HC.out.b)
              obtain ⟨a', c', he, _, hH⟩ := HVR.out
              simp at he
              obtain ⟨rfl, rfl⟩ := he
              obtain ⟨b, o, b2, o2, c3, rfl, hr1, hr2⟩ := rel_el hH HOK.out.2 hdl hlt
              have HTIE := Lib.hid (l2Tie_any _ M (hd x.L) i wr HVR.out HOK.out.2 hdl hlt)
              have HLT : Hid (ltM M (hd x.L) i = at2 M (hd x.L) i) := Lib.hid (ltM_in hdl hlt)
              have HTM : Hid (tie (ltM M) (hd x.L) i = tie2 M (hd x.L) i) := Lib.hid (tieM_in hdl hlt)
              have HX := Lib.hid hx
              generalize at2 M (hd x.L) i = y at *
              clear hH hmem hne hh0 hdl hxm hx HVR
              cases y
              · generalize tie2 M (hd x.L) i = z at *
                cases z
                · obtain ⟨⟨p1, q1, p2, q2, p3, q3, a1, b1, c1, i1⟩, ⟨p4, q4, p5, q5, p6, q6, a2, b2', c2', i2⟩, ⟨p7, q7, p8, q8, p9, q9, a3, b3, c3', i3⟩, ⟨r1, s1, r2, s2, r3, s3, a4, b4, c4, i4⟩, ⟨r4, s4, r5, s5, r6, s6, a5, b5, c5, i5⟩, ⟨r7, s7, r8, s8, r9, s9, a6, b6, c6, i6⟩⟩ := six (i := i) HROW.out (k := k) (o := k) (m := X.length - k) (c := c2) (c' := c2 - k) (by omega) (by omega) rfl (fun _ => rfl)
                  have HPUT := Lib.hid (fun rb v3 w3 (hI : InsQ wr X k rb i v3 w3) => HC.out.put hlt (by omega) HALL.out (fun x' hx' => by
                    rw [HX.out] at hx'
                    obtain rfl := Option.some.inj hx'
                    exact ⟨HLT.out, HTM.out⟩) hI)
                  have I1 := Lib.hid (HPUT.out _ _ _ i1)
                  have I2 := Lib.hid (HPUT.out _ _ _ i2)
                  have I3 := Lib.hid (HPUT.out _ _ _ i3)
                  have I4 := Lib.hid (HPUT.out _ _ _ i4)
                  have I5 := Lib.hid (HPUT.out _ _ _ i5)
                  have I6 := Lib.hid (HPUT.out _ _ _ i6)
                  clear i1 i2 i3 i4 i5 i6 HPUT HC HALL hother HLT HTM HX
                  go_wp2_with fail
                  refine HTIE.out.mono ?_
                  rintro e w5 ⟨rfl, rfl⟩
                  go_wp2_with fail
                  go_region
                  all_goals (
                    go_wp2_with fail
                    go_roundw
                    case rel => first | exact ⟨i + 1, _, by go_num, I1.out⟩ | exact ⟨i + 1, _, by go_num, I2.out⟩ | exact ⟨i + 1, _, by go_num, I3.out⟩ | exact ⟨i + 1, _, by go_num, I4.out⟩ | exact ⟨i + 1, _, by go_num, I5.out⟩ | exact ⟨i + 1, _, by go_num, I6.out⟩
                    case measure => simp [intOf]; omega)
                · obtain ⟨g', c4, w4, hrun, hcx4, hfr4, hn4⟩ := HC.out.into hlt h12 HX.out HALL.out HLT.out HTM.out
                  have HN := Lib.hid hn4
                  clear hn4 HC HALL hother HLT HTM HX
                  go_wp2_with fail
                  refine HTIE.out.mono ?_
                  rintro e w5 ⟨rfl, rfl⟩
                  go_wp2_with fail
                  go_roundw
                  case rel => exact ⟨i + 1, _, by go_num, HN.out⟩
                  case measure => simp [intOf]; omega
              · clear HTIE HTM
                go_wp2_with fail
                go_round
                case rel =>
                  refine ⟨k + 1, by omega, by go_num, fun j y hj hy => ?_⟩
                  by_cases e : j < k
                  · exact HALL.out j y e hy
                  · obtain rfl : j = k := by omega
                    rw [HX.out] at hy
                    obtain rfl := Option.some.inj hy
                    exact HLT.out
                case measure => simp [intOf]; omega
            · obtain rfl : k = X.length := by omega
              have hnlt : ¬ (X.length : Int) < (X.length : Int) := by omega
              by_cases hco : c2 = X.length
              · subst hco
                obtain ⟨⟨p1, q1, p2, q2, p3, q3, a1, b1, c1, i1⟩, ⟨p4, q4, p5, q5, p6, q6, a2, b2, c2', i2⟩, ⟨p7, q7, p8, q8, p9, q9, a3, b3, c3, i3⟩, ⟨r1, s1, r2, s2, r3, s3, a4, b4, c4, i4⟩, ⟨r4, s4, r5, s5, r6, s6, a5, b5, c5, i5⟩, ⟨r7, s7, r8, s8, r9, s9, a6, b6, c6, i6⟩⟩ := six (i := i) HROW.out (k := X.length) (o := 0) (m := 0) (c := X.length) (c' := 0) (Nat.le_refl _) (by omega) (by omega) (fun h => by omega)
                have HPUT := Lib.hid (fun rb v3 w3 (hI : InsQ wr X X.length rb i v3 w3) => HC.out.put hlt (by omega) HALL.out (fun x hx => by simp at hx) hI)
                have I1 := Lib.hid (HPUT.out _ _ _ i1)
                have I2 := Lib.hid (HPUT.out _ _ _ i2)
                have I3 := Lib.hid (HPUT.out _ _ _ i3)
                have I4 := Lib.hid (HPUT.out _ _ _ i4)
                have I5 := Lib.hid (HPUT.out _ _ _ i5)
                have I6 := Lib.hid (HPUT.out _ _ _ i6)
                clear i1 i2 i3 i4 i5 i6 HPUT HC HALL hother
                go_wp2_with fail
                go_region
                all_goals (
                  go_wp2_with fail
                  go_roundw
                  case rel => first | exact ⟨i + 1, _, by go_num, I1.out⟩ | exact ⟨i + 1, _, by go_num, I2.out⟩ | exact ⟨i + 1, _, by go_num, I3.out⟩ | exact ⟨i + 1, _, by go_num, I4.out⟩ | exact ⟨i + 1, _, by go_num, I5.out⟩ | exact ⟨i + 1, _, by go_num, I6.out⟩
                  case measure => simp [intOf]; omega)
              · have hlt3 : X.length < c2 := by omega
                obtain ⟨⟨p1, q1, p2, q2, p3, q3, a1, b1, c1, i1⟩, ⟨p4, q4, p5, q5, p6, q6, a2, b2, c2', i2⟩, ⟨p7, q7, p8, q8, p9, q9, a3, b3, c3, i3⟩, ⟨r1, s1, r2, s2, r3, s3, a4, b4, c4, i4⟩, ⟨r4, s4, r5, s5, r6, s6, a5, b5, c5, i5⟩, ⟨r7, s7, r8, s8, r9, s9, a6, b6, c6, i6⟩⟩ := six (i := i) HROW.out (k := X.length) (o := X.length) (m := 0) (c := c2) (c' := c2 - X.length) (Nat.le_refl _) (by omega) (by omega) (fun _ => rfl)
                have HPUT := Lib.hid (fun rb v3 w3 (hI : InsQ wr X X.length rb i v3 w3) => HC.out.put hlt (by omega) HALL.out (fun x hx => by simp at hx) hI)
                have I1 := Lib.hid (HPUT.out _ _ _ i1)
                have I2 := Lib.hid (HPUT.out _ _ _ i2)
                have I3 := Lib.hid (HPUT.out _ _ _ i3)
                have I4 := Lib.hid (HPUT.out _ _ _ i4)
                have I5 := Lib.hid (HPUT.out _ _ _ i5)
                have I6 := Lib.hid (HPUT.out _ _ _ i6)
                clear i1 i2 i3 i4 i5 i6 HPUT HC HALL hother
                go_wp2_with fail
                go_region
                all_goals (
                  go_wp2_with fail
                  go_roundw
                  case rel => first | exact ⟨i + 1, _, by go_num, I1.out⟩ | exact ⟨i + 1, _, by go_num, I2.out⟩ | exact ⟨i + 1, _, by go_num, I3.out⟩ | exact ⟨i + 1, _, by go_num, I4.out⟩ | exact ⟨i + 1, _, by go_num, I5.out⟩ | exact ⟨i + 1, _, by go_num, I6.out⟩
                  case measure => simp [intOf]; omega)
        · obtain rfl : i = M.length := by omega
          have HRES : Hid (RetSS (clsF M) w (.returned (.tuple #[_, .bool true])) wr) := Lib.hid (by
            rw [clsF_yes HOK.out HDEF.out]
            exact HC.out.held.r.ret (by rw [← HC.out.map, List.map_map]; rfl) HC.out.b)
          clear HC
          go_wp2_with fail
          go_ret2
          exact HRES.out
    · have hl : (0 : Int) < (L2.length : Int) := by have := List.length_pos_iff.2 hL; omega
      have hcl : clsF M = ([], false) := clsF_no fun h => hL (hdef.uniq h.2)
      have HRES : Hid (RetSS (clsF M) w (.returned (.tuple #[.slice (some ⟨w.heap.size, 0, none⟩) 0 0, .bool false])) w2) := Lib.hid (by rw [hcl]; exact RetSS.none w w (Below.refl _ _) w2 (hb2.mono (by simp)))
      clear hcl hdef hb2 hrow2 hcap2 hg2 hL HREL HDEFC HQ0 HVA HBA
      go_wp2_with fail
      go_ret2
      exact HRES.out
  · have hd : decide (OkM M) = false := decide_eq_false hok
    rw [hd] at HREL
    have HRES : Hid (RetSS (clsF M) w (.returned (.tuple #[.slice (some ⟨w.heap.size, 0, none⟩) 0 0, .bool false])) (w.alloc (.cells #[] 26))) := Lib.hid (by rw [clsF_no fun h => hok h.1]; exact RetSS.none w w (Below.refl _ _) _ (Below.refl _ _))
    clear hd hok hc0
    go_enter Try.func22, Try.ntmps22
    go_wp2_with fail
    refine HREL.out.mono ?_
    rintro e w1 ⟨rfl, rfl⟩
    go_wp2_with fail
    go_ret2
    exact HRES.out

end Go.Proofs.Ytipdfmedbcafpaa
end

section
/- The classes are few and small. -/
namespace Go.Proofs.Ytipdfmedbcafpaa
open Go.RowKit P StC Cl

theorem sum_flat : ∀ C : List (List Nat), (C.map List.length).sum = C.flatten.length
  | [] => rfl
  | c :: C => by rw [List.map_cons, List.sum_cons, List.flatten_cons, List.length_append, sum_flat C]
theorem clsF_small (M : List (List Bool)) : SmallSS (clsF M).1 := by
  by_cases h : OkM M ∧ DefectOf M []
  · rw [clsF_yes h.1 h.2]
    have h1 := clsM_len M M.length
    have h2 := clsM_total M M.length
    have h3 := h.1.1.2
    exact .of (by simp only [List.length_map]; omega) (by show (((clsM M M.length).map nats).map List.length).sum ≤ _; rw [nats_lens, sum_flat]; omega)
  · rw [clsF_no h]; exact .of (by simp) (by simp)

end Go.Proofs.Ytipdfmedbcafpaa
end

section
/- What the promise says of classes and witnesses, in pure terms. -/
namespace Go.Proofs.Ytipdfmedbcafpaa
open Go.Sort StC Cl

/-- An element of an earlier class precedes one of a later. -/
theorem cls_before {M : List (List Bool)} (h : DefectOf M []) {i k : Nat} {c d : List Nat} (hi : (clsM M M.length)[i]? = some c) (hk : (clsM M M.length)[k]? = some d) (hik : i < k) {y : Nat} (hy : y ∈ d) : at2 M (hd c) y = true := by
  have hC := clsM_cls h M.length
  obtain ⟨hil, rfl⟩ := List.getElem?_eq_some_iff.1 hi
  obtain ⟨hkl, rfl⟩ := List.getElem?_eq_some_iff.1 hk
  have h1 := List.pairwise_iff_getElem.1 hC.ord i k hil hkl hik
  have h2 := hC.ties _ (List.getElem_mem hkl) y hy
  have h3 := lt_tie (swoM h) h1 h2
  have hc := clsM_hd (List.getElem_mem hil)
  have hyl := clsM_mem M M.length y (List.mem_flatten.2 ⟨_, List.getElem_mem hkl, hy⟩)
  rw [ltM_in hc hyl] at h3
  exact h3

/-- The classes are told exactly where there is no witness. -/
theorem clsF_told {M : List (List Bool)} {L : List Int} (h : OrdOf M L) : (clsF M).2 = (decide (OkM M) && (L.length == 0)) := by
  rcases clsF_ord h with ⟨h1, rfl, h2⟩ | ⟨h1, h2⟩
  · rw [clsF_yes h1 h2, decide_eq_true h1]; rfl
  · rw [h2]
    rcases h1 with h1 | h1
    · rw [decide_eq_false h1]; rfl
    · have : (L.length == 0) = false := by cases L with
        | nil => exact absurd rfl h1
        | cons => rfl
      rw [this]; simp

/-- What a witness can be. -/
theorem ord_cases {M : List (List Bool)} {L : List Int} (h : OrdOf M L) : (∃ i : Nat, L = [(i : Int)]) ∨ L = [] ∨
    (∃ i k : Nat, i < M.length ∧ k < M.length ∧ L = [(i : Int), (k : Int)] ∧ at2 M i k = true ∧ at2 M k i = true) ∨
    (∃ i k m : Nat, i < M.length ∧ k < M.length ∧ m < M.length ∧ L = [(i : Int), (k : Int), (m : Int)] ∧ ((at2 M i k = true ∧ at2 M k m = true ∧ at2 M i m = false) ∨ (tie2 M i k = true ∧ tie2 M k m = true ∧ tie2 M i m = false))) := by
  rcases h with ⟨_, L1, f1, h⟩ | ⟨_, rfl⟩
  · rcases h with ⟨_, rfl⟩ | ⟨_, L2, f2, h⟩
    · rcases f1 with ⟨i, _, _, rfl, _⟩ | ⟨rfl, _⟩
      · exact .inl ⟨i, rfl⟩
      · exact .inr (.inl rfl)
    · rcases h with ⟨_, rfl⟩ | ⟨_, L3, f3, h⟩
      · rcases f2 with ⟨i, k, hi, hk, hp, rfl, _⟩ | ⟨rfl, _⟩
        · unfold pAsy at hp
          rw [Bool.and_eq_true] at hp
          exact .inr (.inr (.inl ⟨i, k, hi, hk, rfl, hp.1, hp.2⟩))
        · exact .inr (.inl rfl)
      · rcases h with ⟨_, rfl⟩ | ⟨_, f4⟩
        · rcases f3 with ⟨i, k, m, hi, hk, hm, hp, rfl, _⟩ | ⟨rfl, _⟩
          · unfold pTra at hp
            simp only [Bool.and_eq_true, Bool.not_eq_true'] at hp
            exact .inr (.inr (.inr ⟨i, k, m, hi, hk, hm, rfl, .inl ⟨hp.1.1, hp.1.2, hp.2⟩⟩))
          · exact .inr (.inl rfl)
        · rcases f4 with ⟨i, k, m, hi, hk, hm, hp, rfl, _⟩ | ⟨rfl, _⟩
          · unfold pTie at hp
            simp only [Bool.and_eq_true, Bool.not_eq_true'] at hp
            exact .inr (.inr (.inr ⟨i, k, m, hi, hk, hm, rfl, .inr ⟨hp.1.1, hp.1.2, hp.2⟩⟩))
          · exact .inr (.inl rfl)
  · exact .inr (.inl rfl)

end Go.Proofs.Ytipdfmedbcafpaa
end
