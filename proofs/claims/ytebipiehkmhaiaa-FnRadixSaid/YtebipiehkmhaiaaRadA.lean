/- What the laws of chapter 8 say: the answers as functions. Nothing of the program. -/
import Derived.Test.YtebipiehkmhaiaaRadP
import Derived.Test.YtebipiehkmhaiaaFlagP
import Derived.Test.YtebipiehkmhaiaaStabPos
import Derived.Test.YtebipiehkmhaiaaSortD
import Derived.Test.YtebipiehkmhaiaaList
namespace Go.Proofs.Ytebipiehkmhaiaa
open Rx P
set_option linter.unusedVariables false

/-- A key shifted. -/
def sk (k : Int) : Nat := (k + 100000).toNat
theorem sk_eq {k : Int} (h : -100000 ≤ k) : k + 100000 = (sk k : Int) := by unfold sk; omega
theorem sk_le {k : Int} (h : k ≤ 100000) : sk k ≤ 200000 := by unfold sk; omega
theorem OkR.key {l : List (Int × Int)} (h : OkR l) {p : Int × Int} (hp : p ∈ l) : -100000 ≤ p.1 ∧ p.1 ≤ 100000 := (h.2 p hp).1

/-- The stable arrangement. -/
noncomputable def stb (l : List (Int × Int)) : List (Int × Int) := Classical.epsilon fun r => Stab.Of (·.1) l r
theorem stb_of (l : List (Int × Int)) : Stab.Of (·.1) l (stb l) := Classical.epsilon_spec (p := fun r => Stab.Of (·.1) l r) (Stab.Of.exists_ _ l)
theorem stb_eq {l r : List (Int × Int)} (h : Stab.Of (·.1) l r) : r = stb l := h.uniq (stb_of l)
theorem stb_len (l : List (Int × Int)) : (stb l).length = l.length := (stb_of l).length

/-- The digit of a record's key; of a number. -/
def dgR (b p : Nat) (q : Int × Int) : Nat := dg b p (sk q.1)
def dgI (b p : Nat) (x : Int) : Nat := dg b p (sk x)

def OkB (b : Int) : Prop := 2 ≤ b ∧ b ≤ 256
instance (b : Int) : Decidable (OkB b) := by unfold OkB; exact inferInstance

def OkC (l : List (Int × Int)) (a z : Int) : Prop := OkR l ∧ ((-100000 ≤ a ∧ a ≤ 100000) ∧ a ≤ z ∧ z ≤ a + 1000) ∧ ∀ p ∈ l, a ≤ p.1 ∧ p.1 ≤ z
instance (l : List (Int × Int)) (a z : Int) : Decidable (OkC l a z) := by unfold OkC; exact inferInstance
noncomputable def csAll (l : List (Int × Int)) (a z : Int) : List (Int × Int) × Bool := if OkC l a z then (stb l, true) else ([], false)
theorem csAll_yes {l : List (Int × Int)} {a z : Int} (h : OkC l a z) : csAll l a z = (stb l, true) := if_pos h
theorem csAll_no {l : List (Int × Int)} {a z : Int} (h : ¬ OkC l a z) : csAll l a z = ([], false) := if_neg h
theorem csAll_len (l : List (Int × Int)) (a z : Int) : (csAll l a z).1.length ≤ 1048576 := by
  by_cases h : OkC l a z
  · rw [csAll_yes h]; have := h.1.1; simp only [stb_len]; omega
  · rw [csAll_no h]; simp

def dofAll (k b p : Int) : Int × Bool := if (-100000 ≤ k ∧ k ≤ 100000) ∧ OkBP b p then ((dgI b.toNat p.toNat k : Nat), true) else (0, false)
theorem dofAll_yes {k b p : Int} (h : (-100000 ≤ k ∧ k ≤ 100000) ∧ OkBP b p) : dofAll k b p = (((dgI b.toNat p.toNat k : Nat) : Int), true) := if_pos h
theorem dofAll_no {k b p : Int} (h : ¬ ((-100000 ≤ k ∧ k ≤ 100000) ∧ OkBP b p)) : dofAll k b p = (0, false) := if_neg h

def dcAll (l : List (Int × Int)) (b p : Int) : List Int × Bool := if OkR l ∧ OkBP b p then ((List.range b.toNat).map fun d => (cnt (dgR b.toNat p.toNat) l d : Int), true) else ([], false)
theorem dcAll_yes {l : List (Int × Int)} {b p : Int} (h : OkR l ∧ OkBP b p) : dcAll l b p = ((List.range b.toNat).map fun d => (cnt (dgR b.toNat p.toNat) l d : Int), true) := if_pos h
theorem dcAll_no {l : List (Int × Int)} {b p : Int} (h : ¬ (OkR l ∧ OkBP b p)) : dcAll l b p = ([], false) := if_neg h
theorem dcAll_len (l : List (Int × Int)) (b p : Int) : (dcAll l b p).1.length ≤ 1048576 := by
  by_cases h : OkR l ∧ OkBP b p
  · rw [dcAll_yes h]; have := h.2.1.2; simp; omega
  · rw [dcAll_no h]; simp

def rpAll (l : List (Int × Int)) (b p : Int) : List (Int × Int) × Bool := if OkR l ∧ OkBP b p then (bk (dgR b.toNat p.toNat) l b.toNat, true) else ([], false)
theorem rpAll_yes {l : List (Int × Int)} {b p : Int} (h : OkR l ∧ OkBP b p) : rpAll l b p = (bk (dgR b.toNat p.toNat) l b.toNat, true) := if_pos h
theorem rpAll_no {l : List (Int × Int)} {b p : Int} (h : ¬ (OkR l ∧ OkBP b p)) : rpAll l b p = ([], false) := if_neg h
theorem bk_dg_len (l : List (Int × Int)) {b p : Nat} (hb : 0 < b) : (bk (dgR b p) l b).length = l.length := by
  rw [bk_length]; exact bk_len fun x _ => dg_lt hb p _
theorem rpAll_len (l : List (Int × Int)) (b p : Int) : (rpAll l b p).1.length ≤ 1048576 := by
  by_cases h : OkR l ∧ OkBP b p
  · rw [rpAll_yes h]; have := h.1.1; have h2 := h.2.1.1
    simp only
    rw [bk_dg_len l (by omega)]; omega
  · rw [rpAll_no h]; simp

/-- The shifted keys. -/
def sks (l : List (Int × Int)) : List Nat := l.map fun p => sk p.1
noncomputable def pnAll (l : List (Int × Int)) (b : Int) : Int × Bool := if OkR l ∧ OkB b then ((most b.toNat (sks l) : Nat), true) else (0, false)
theorem pnAll_yes {l : List (Int × Int)} {b : Int} (h : OkR l ∧ OkB b) : pnAll l b = (((most b.toNat (sks l) : Nat) : Int), true) := if_pos h
theorem pnAll_no {l : List (Int × Int)} {b : Int} (h : ¬ (OkR l ∧ OkB b)) : pnAll l b = (0, false) := if_neg h
theorem most_18 {l : List (Int × Int)} {b : Nat} (h : OkR l) (hb : 2 ≤ b) : most b (sks l) ≤ 18 := most_le fun n hn => by
  obtain ⟨p, hp, rfl⟩ := List.mem_map.1 hn
  exact (dl_is hb _).most hb (sk_le (h.key hp).2)

noncomputable def rsAll (l : List (Int × Int)) (b : Int) : List (Int × Int) × Int × Bool := if OkR l ∧ OkB b then (stb l, ((most b.toNat (sks l) : Nat) : Int), true) else ([], 0, false)
theorem rsAll_yes {l : List (Int × Int)} {b : Int} (h : OkR l ∧ OkB b) : rsAll l b = (stb l, ((most b.toNat (sks l) : Nat) : Int), true) := if_pos h
theorem rsAll_no {l : List (Int × Int)} {b : Int} (h : ¬ (OkR l ∧ OkB b)) : rsAll l b = ([], 0, false) := if_neg h
theorem rsAll_len (l : List (Int × Int)) (b : Int) : (rsAll l b).1.length ≤ 1048576 := by
  by_cases h : OkR l ∧ OkB b
  · rw [rsAll_yes h]; have := h.1.1; simp only [stb_len]; omega
  · rw [rsAll_no h]; simp
/-- All passes: the stable arrangement by the keys. -/
theorem passes_stb {l : List (Int × Int)} {b : Nat} (h : OkR l) (hb : 2 ≤ b) : passes (fun p : Int × Int => sk p.1) b l (most b (sks l)) = stb l := by
  refine stb_eq ?_
  have h1 := passes_all (key := fun p : Int × Int => sk p.1) hb (l := l) (k := most b (sks l)) fun x hx => lt_most hb (List.mem_map_of_mem (f := fun p : Int × Int => sk p.1) hx)
  obtain ⟨hs, hq⟩ := h1
  have hm : ∀ x ∈ passes (fun p : Int × Int => sk p.1) b l (most b (sks l)), x ∈ l := fun x hx => ((passes_all (key := fun p : Int × Int => sk p.1) hb (l := l) (k := most b (sks l)) fun x hx => lt_most hb (List.mem_map_of_mem (f := fun p : Int × Int => sk p.1) hx)).mem x).1 hx
  refine ⟨?_, fun q => ?_⟩
  · refine List.Pairwise.imp_of_mem ?_ hs
    intro a c ha hc hac
    have h1 := h.key (hm a ha)
    have h2 := h.key (hm c hc)
    simp only [sk] at hac
    omega
  · have e : ∀ m : List (Int × Int), (∀ x ∈ m, x ∈ l) → m.filter (fun a => a.1 == q) = m.filter (fun a => ((sk a.1 : Nat) : Int) == q + 100000) := fun m hml => by
      refine List.filter_congr fun x hx => ?_
      have h1 := sk_eq (h.key (hml x hx)).1
      by_cases hxq : x.1 = q
      · have e1 : ((sk x.1 : Nat) : Int) = q + 100000 := by omega
        rw [e1, hxq]; simp only [BEq.rfl]
      · have e1 : ¬ ((sk x.1 : Nat) : Int) = q + 100000 := by omega
        have e2 : ((((sk x.1 : Nat) : Int)) == q + 100000) = false := by simp only [beq_eq_false_iff_ne, ne_eq]; exact e1
        have e3 : (x.1 == q) = false := by simpa using hxq
        rw [e2, e3]
    rw [e _ hm, e l fun x hx => hx]
    exact hq _

noncomputable def fpAll (l : List Int) (b p : Int) : List Int × Int × Bool := if OkL l ∧ OkBP b p then ((flagR (dgI b.toNat p.toNat) b.toNat l).L, (((flagR (dgI b.toNat p.toNat) b.toNat l).sw : Nat) : Int), true) else ([], 0, false)
theorem fpAll_yes {l : List Int} {b p : Int} (h : OkL l ∧ OkBP b p) : fpAll l b p = ((flagR (dgI b.toNat p.toNat) b.toNat l).L, (((flagR (dgI b.toNat p.toNat) b.toNat l).sw : Nat) : Int), true) := if_pos h
theorem fpAll_no {l : List Int} {b p : Int} (h : ¬ (OkL l ∧ OkBP b p)) : fpAll l b p = ([], 0, false) := if_neg h
theorem dgI_lt {b : Nat} (hb : 0 < b) (p : Nat) (l : List Int) : ∀ x ∈ l, dgI b p x < b := fun x _ => dg_lt hb p _
theorem flag_len (l : List Int) {b : Nat} (p : Nat) (hb : 0 < b) : (flagR (dgI b p) b l).L.length = l.length := (flagR_is (dgI_lt hb p l)).2.perm.length_eq
theorem fpAll_len (l : List Int) (b p : Int) : (fpAll l b p).1.length ≤ 1048576 := by
  by_cases h : OkL l ∧ OkBP b p
  · rw [fpAll_yes h]; have := h.1.1; have h2 := h.2.1.1
    simp only
    rw [flag_len l _ (by omega)]; omega
  · rw [fpAll_no h]; simp

/-- The place of element i in the stable arrangement. -/
def rk (l : List (Int × Int)) (i : Nat) : Nat := ((List.range l.length).filter fun k => decide ((l.getD k (0, 0)).1 < (l.getD i (0, 0)).1) || (decide ((l.getD k (0, 0)).1 = (l.getD i (0, 0)).1) && decide (k < i))).length
def spF (l : List (Int × Int)) : List Int := (List.range l.length).map fun i => (rk l i : Int)
def spAll (l : List (Int × Int)) : List Int × Bool := if OkR l then (spF l, true) else ([], false)
theorem spAll_yes {l : List (Int × Int)} (h : OkR l) : spAll l = (spF l, true) := if_pos h
theorem spAll_no {l : List (Int × Int)} (h : ¬ OkR l) : spAll l = ([], false) := if_neg h
theorem spF_len (l : List (Int × Int)) : (spF l).length = l.length := by simp [spF]
theorem spAll_len (l : List (Int × Int)) : (spAll l).1.length ≤ 1048576 := by
  by_cases h : OkR l
  · rw [spAll_yes h]; have := h.1; simp only [spF_len]; omega
  · rw [spAll_no h]; simp

end Go.Proofs.Ytebipiehkmhaiaa
