/- StabI SortF SortT PosP Sets Ident IPermV IInvI ISortP Arr ISortQ ISp SSp, as one text. -/
import Derived.Test.YtebipiehkmhaiaaPerm
import Derived.Test.YtebipiehkmhaiaaStab
import Derived.Test.YtebipiehkmhaiaaList
import Derived.Test.YtebipiehkmhaiaaRadA
import Derived.Test.YtebipiehkmhaiaaInts
import Derived.Deep.Upon
import Derived.Deep.MidRow
import Derived.Test.YtebipiehkmhaiaaRetI
import Derived.Laws.BitsLemmas
import Derived.Test.YtebipiehkmhaiaaBools
import Derived.Deep.RegionWith
import Derived.Test.YtebipiehkmhaiaaStF
import Derived.Test.YtebipiehkmhaiaaIList
import Derived.Test.YtebipiehkmhaiaaCloneI
import Derived.Lib.SliceRun
import Derived.BigQuiet
import Derived.Deep.QuietTactic
import Derived.Test.YtebipiehkmhaiaaStabPos
import Derived.Test.YtebipiehkmhaiaaIDist
import Derived.Test.YtebipiehkmhaiaaIRecs
import Derived.Test.YtebipiehkmhaiaaRetCE
import Derived.Test.YtebipiehkmhaiaaOkR
import Derived.BigRegion

section
/- The stable arrangement of indices by the numbers they stand for: inserting from behind finds it. Nothing of the program. -/
namespace Go.Proofs.Ytebipiehkmhaiaa
open P

/-- The number that an index stands for. -/
def keyOf (l : List Int) (i : Int) : Int := l.getD i.toNat 0

/-- Where the next index goes in: behind all whose number is not greater. -/
theorem ins_of {l : List Int} {n k : Nat} {out : List Int} (h : Stab.Of (keyOf l) (iota n) out) (_hk : k ≤ out.length) (h1 : ∀ x ∈ out.take k, keyOf l x ≤ keyOf l (n : Int)) (h2 : ∀ x ∈ out.drop k, keyOf l (n : Int) < keyOf l x) :
    Stab.Of (keyOf l) (iota (n + 1)) (out.take k ++ [(n : Int)] ++ out.drop k) := by
  have hp := h.sorted
  rw [← List.take_append_drop k out] at hp
  obtain ⟨p1, p2, p3⟩ := List.pairwise_append.1 hp
  refine ⟨?_, fun q => ?_⟩
  · rw [List.append_assoc]
    refine List.pairwise_append.2 ⟨p1, List.pairwise_append.2 ⟨by simp, p2, fun a ha b hb => ?_⟩, fun a ha b hb => ?_⟩
    · rw [List.mem_singleton.1 ha]; have := h2 b hb; omega
    · rcases List.mem_append.1 hb with hb | hb
      · rw [List.mem_singleton.1 hb]; exact h1 a ha
      · exact p3 a ha b hb
  · have hs := h.same q
    rw [← List.take_append_drop k out, List.filter_append] at hs
    rw [iota_succ, List.filter_append, List.filter_append, List.filter_append, ← hs]
    by_cases hq : keyOf l (n : Int) = q
    · have e : (out.drop k).filter (fun a => keyOf l a == q) = [] := by
        rw [List.filter_eq_nil_iff]
        intro a ha
        have := h2 a ha
        simp; omega
      rw [e]; simp
    · have e : [(n : Int)].filter (fun a => keyOf l a == q) = [] := by simp [hq]
      rw [e]; simp

theorem mem_takeWhile {α : Type} {p : α → Bool} : ∀ {l : List α} {x : α}, x ∈ l.takeWhile p → p x = true
  | [], x, h => by simp at h
  | a :: l, x, h => by
    rw [List.takeWhile_cons] at h
    split at h
    · rename_i ha
      rcases List.mem_cons.1 h with e | e
      · rw [e]; exact ha
      · exact mem_takeWhile e
    · simp at h

/-- The sorting permutation. -/
def sortTo (l : List Int) : Nat → List Int
  | 0 => []
  | i + 1 => (sortTo l i).takeWhile (fun x => decide (keyOf l x ≤ keyOf l (i : Int))) ++ [(i : Int)] ++ (sortTo l i).dropWhile (fun x => decide (keyOf l x ≤ keyOf l (i : Int)))
theorem sortTo_of (l : List Int) : ∀ n, Stab.Of (keyOf l) (iota n) (sortTo l n)
  | 0 => ⟨by simp [sortTo], fun q => by simp [sortTo, iota]⟩
  | n + 1 => by
    have ih := sortTo_of l n
    obtain ⟨k, hk⟩ : ∃ k, k = ((sortTo l n).takeWhile (fun x => decide (keyOf l x ≤ keyOf l (n : Int)))).length := ⟨_, rfl⟩
    have e0 := List.takeWhile_append_dropWhile (p := fun x => decide (keyOf l x ≤ keyOf l (n : Int))) (l := sortTo l n)
    have e1 : (sortTo l n).take k = (sortTo l n).takeWhile (fun x => decide (keyOf l x ≤ keyOf l (n : Int))) := by
      conv => lhs; rw [← e0, hk]
      exact List.take_left
    have e2 : (sortTo l n).drop k = (sortTo l n).dropWhile (fun x => decide (keyOf l x ≤ keyOf l (n : Int))) := by
      conv => lhs; rw [← e0, hk]
      exact List.drop_left
    have hkl : k ≤ (sortTo l n).length := by rw [hk]; exact (List.takeWhile_sublist _).length_le
    have hall := ins_of ih hkl (fun x hx => by
      rw [e1] at hx
      have := mem_takeWhile hx
      simpa using this) (fun x hx => by
      have hs := ih.sorted
      rw [← List.take_append_drop k (sortTo l n)] at hs
      have hp := (List.pairwise_append.1 hs).2.1
      rw [e2] at hx hp
      cases hd : (sortTo l n).dropWhile (fun x => decide (keyOf l x ≤ keyOf l (n : Int))) with
      | nil => rw [hd] at hx; simp at hx
      | cons y r =>
        have hy := List.head_dropWhile_not (fun x => decide (keyOf l x ≤ keyOf l (n : Int))) (l := sortTo l n) (by rw [hd]; simp)
        simp only [hd, List.head_cons] at hy
        have hy2 : keyOf l (n : Int) < keyOf l y := by simpa using hy
        rw [hd] at hx hp
        rcases List.mem_cons.1 hx with e | e
        · rw [e]; exact hy2
        · have := (List.pairwise_cons.1 hp).1 x e; omega)
    rw [e1, e2] at hall
    exact hall
theorem sortTo_uniq {l : List Int} {n : Nat} {M : List Int} (h : Stab.Of (keyOf l) (iota n) M) : M = sortTo l n := Stab.Of.uniq h (sortTo_of l n)
theorem sortTo_length (l : List Int) (n : Nat) : (sortTo l n).length = n := by rw [Stab.Of.length (sortTo_of l n), iota_length]

/-- The last places hold greater numbers: one more. -/
theorem up_step {l out : List Int} {k : Nat} {x q : Int} (h : ∀ y ∈ out.drop (k + 1), q < keyOf l y) (hx : out[k]? = some x) (hlt : q < keyOf l x) : ∀ y ∈ out.drop k, q < keyOf l y := by
  intro y hy
  obtain ⟨hk, e⟩ := List.getElem?_eq_some_iff.1 hx
  rw [List.drop_eq_getElem_cons hk, e] at hy
  rcases List.mem_cons.1 hy with rfl | hy
  · exact hlt
  · exact h y hy
theorem low_all {l out : List Int} {n k : Nat} {x q : Int} (h : Stab.Of (keyOf l) (iota n) out) (hx : out[k]? = some x) (hle : keyOf l x ≤ q) : ∀ y ∈ out.take (k + 1), keyOf l y ≤ q := by
  intro y hy
  have hs := h.sorted
  rw [List.pairwise_iff_getElem] at hs
  obtain ⟨hk, e⟩ := List.getElem?_eq_some_iff.1 hx
  obtain ⟨j, hj, e2⟩ := List.getElem_of_mem hy
  rw [List.length_take] at hj
  rw [List.getElem_take] at e2
  by_cases hjk : j = k
  · subst hjk; rw [← e2, e]; exact hle
  · have := hs j k (by omega) hk (by omega)
    rw [e2, e] at this; omega

end Go.Proofs.Ytebipiehkmhaiaa
end

section
/- The sorting permutation, and whether there is one. Nothing of the program. -/
namespace Go.Proofs.Ytebipiehkmhaiaa
open Go.RowKit P

/-- The sorting permutation, and whether there is one. -/
def sortF (l : List Int) : List Int × Bool := if OkL l then (sortTo l l.length, true) else ([], false)
theorem sortF_yes {l : List Int} (h : OkL l) : sortF l = (sortTo l l.length, true) := if_pos h
theorem sortF_no {l : List Int} (h : ¬ OkL l) : sortF l = ([], false) := if_neg h
theorem sortF_len (l : List Int) : (sortF l).1.length ≤ 1048576 := by
  unfold sortF; split
  · rename_i h; simp only [sortTo_length]; have := h.1; omega
  · simp

end Go.Proofs.Ytebipiehkmhaiaa
end

section
/- The sorting permutation: a permutation, in the order of the numbers and of the indices where they tie. Nothing of the program. -/
namespace Go.Proofs.Ytebipiehkmhaiaa
open Go.RowKit P

theorem sortTo_perm (l : List Int) : ∀ n, (sortTo l n).Perm (iota n)
  | 0 => by simp [sortTo, iota]
  | n + 1 => by
    have ih := sortTo_perm l n
    have e0 := List.takeWhile_append_dropWhile (p := fun x => decide (keyOf l x ≤ keyOf l (n : Int))) (l := sortTo l n)
    rw [iota_succ]
    show ((sortTo l n).takeWhile (fun x => decide (keyOf l x ≤ keyOf l (n : Int))) ++ [(n : Int)] ++ (sortTo l n).dropWhile (fun x => decide (keyOf l x ≤ keyOf l (n : Int)))).Perm _
    have h1 : ((sortTo l n).takeWhile (fun x => decide (keyOf l x ≤ keyOf l (n : Int))) ++ [(n : Int)] ++ (sortTo l n).dropWhile (fun x => decide (keyOf l x ≤ keyOf l (n : Int)))).Perm ((n : Int) :: sortTo l n) := by
      rw [List.append_assoc]
      refine List.perm_middle.trans ?_
      rw [show (∀ X : List Int, [].append X = X) from fun _ => rfl, e0]
    exact h1.trans ((ih.cons _).trans (List.perm_append_singleton _ _).symm)
/-- In the order of the numbers, and of the indices where they tie. -/
theorem sortTo_lex (l : List Int) : ∀ n, (sortTo l n).Pairwise (fun x y => keyOf l x < keyOf l y ∨ (keyOf l x = keyOf l y ∧ x < y))
  | 0 => by simp [sortTo]
  | n + 1 => by
    have ih := sortTo_lex l n
    have hof := sortTo_of l n
    have e0 := List.takeWhile_append_dropWhile (p := fun x => decide (keyOf l x ≤ keyOf l (n : Int))) (l := sortTo l n)
    have hof2 := (sortTo_of l (n + 1)).sorted
    have e1 : sortTo l (n + 1) = (sortTo l n).takeWhile (fun x => decide (keyOf l x ≤ keyOf l (n : Int))) ++ [(n : Int)] ++ (sortTo l n).dropWhile (fun x => decide (keyOf l x ≤ keyOf l (n : Int))) := rfl
    rw [e1]
    rw [← e0] at ih
    obtain ⟨p1, p2, p3⟩ := List.pairwise_append.1 ih
    have hdrop : ∀ y ∈ (sortTo l n).dropWhile (fun x => decide (keyOf l x ≤ keyOf l (n : Int))), keyOf l (n : Int) < keyOf l y := by
      intro y hy
      cases hd : (sortTo l n).dropWhile (fun x => decide (keyOf l x ≤ keyOf l (n : Int))) with
      | nil => rw [hd] at hy; simp at hy
      | cons z r =>
        have hz := List.head_dropWhile_not (fun x => decide (keyOf l x ≤ keyOf l (n : Int))) (l := sortTo l n) (by rw [hd]; simp)
        simp only [hd, List.head_cons] at hz
        have hz2 : keyOf l (n : Int) < keyOf l z := by simpa using hz
        rw [hd] at hy p2
        rcases List.mem_cons.1 hy with e | e
        · rw [e]; exact hz2
        · have := (List.pairwise_cons.1 p2).1 y e; omega
    rw [List.append_assoc]
    refine List.pairwise_append.2 ⟨p1, List.pairwise_append.2 ⟨by simp, p2, fun a ha b hb => ?_⟩, fun a ha b hb => ?_⟩
    · rw [List.mem_singleton.1 ha]; exact .inl (hdrop b hb)
    · rcases List.mem_append.1 hb with hb | hb
      · rw [List.mem_singleton.1 hb]
        have h1 := mem_takeWhile ha
        have h2 : a ∈ sortTo l n := by rw [← e0]; exact List.mem_append_left _ ha
        have h3 := iota_mem.1 ((sortTo_perm l n).mem_iff.1 h2)
        have h4 : keyOf l a ≤ keyOf l (n : Int) := by simpa using h1
        by_cases h5 : keyOf l a = keyOf l (n : Int)
        · exact .inr ⟨h5, h3.2⟩
        · exact .inl (by omega)
      · exact p3 a ha b hb
theorem sortTo_ok {l : List Int} (h : l.length ≤ 64) : OkP (sortTo l l.length) := OkP.of_perm (sortTo_perm l l.length) h

end Go.Proofs.Ytebipiehkmhaiaa
end

section
/- The places in the stable arrangement: the inverse of the sorting permutation. Nothing of the program. -/
namespace Go.Proofs.Ytebipiehkmhaiaa
open P
set_option linter.unusedVariables false

theorem keyOf_map (l : List (Int × Int)) (k : Nat) : keyOf (l.map (·.1)) (k : Int) = (l.getD k (0, 0)).1 := by
  unfold keyOf
  rw [Int.toNat_natCast]
  simp only [List.getD_eq_getElem?_getD, List.getElem?_map]
  cases l[k]? <;> rfl

def lx (K : List Int) (i : Int) (x : Int) : Bool := decide (keyOf K x < keyOf K i) || (decide (keyOf K x = keyOf K i) && decide (x < i))

theorem rk_count (l : List (Int × Int)) (i : Nat) : rk l i = (iota l.length).countP (lx (l.map (·.1)) (i : Int)) := by
  unfold rk iota
  rw [List.countP_map, List.countP_eq_length_filter]
  congr 1
  refine List.filter_congr fun k _ => ?_
  simp only [Function.comp, lx, keyOf_map]
  congr 2
  exact decide_eq_decide.2 (by omega)

theorem idx_rk (l : List (Int × Int)) {m i : Nat} (hm : (sortTo (l.map (·.1)) l.length)[m]? = some (i : Int)) : rk l i = m := by
  have hp := sortTo_perm (l.map (·.1)) l.length
  have hx := sortTo_lex (l.map (·.1)) l.length
  rw [rk_count, ← hp.countP_eq]
  generalize sortTo (l.map (·.1)) l.length = P at *
  generalize l.map (·.1) = K at *
  obtain ⟨hml, he⟩ := List.getElem?_eq_some_iff.1 hm
  have e : P = P.take m ++ P.drop m := (List.take_append_drop m P).symm
  have h1 : (P.take m).countP (lx K (i : Int)) = m := by
    have hall : ∀ a ∈ P.take m, lx K (i : Int) a = true := by
      intro a ha
      obtain ⟨j, hj, rfl⟩ := List.getElem_of_mem ha
      have hj' : j < m := by simp at hj; omega
      have := List.pairwise_iff_getElem.1 hx j m (by omega) hml hj'
      rw [he] at this
      rw [List.getElem_take]
      unfold lx
      rcases this with h | ⟨h, h2⟩
      · simp [h]
      · simp [h, h2]
    rw [List.countP_eq_length.2 hall, List.length_take]; omega
  have h2 : (P.drop m).countP (lx K (i : Int)) = 0 := by
    rw [List.countP_eq_zero]
    intro a ha
    obtain ⟨j, hj, rfl⟩ := List.getElem_of_mem ha
    rw [List.getElem_drop]
    have hjl : m + j < P.length := by simp at hj; omega
    unfold lx
    cases j with
    | zero => simp [he]
    | succ j =>
      have := List.pairwise_iff_getElem.1 hx m (m + (j + 1)) hml hjl (by omega)
      rw [he] at this
      generalize P[m + (j + 1)] = z at *
      simp only [Bool.or_eq_true, Bool.and_eq_true, decide_eq_true_eq]
      omega
  conv => lhs; rw [e]
  rw [List.countP_append, h1, h2]; omega

/-- The inverse of the sorting permutation of the keys. -/
theorem pos_inv {l : List (Int × Int)} (hok : OkR l) : invF (sortTo (l.map (·.1)) l.length) = (spF l, true) := by
  have hlm : (l.map (·.1)).length = l.length := by simp
  have hpo : OkP (sortTo (l.map (·.1)) l.length) := by
    have := sortTo_ok (l := l.map (·.1)) (by rw [hlm]; exact hok.1)
    rw [hlm] at this; exact this
  have hlen := sortTo_length (l.map (·.1)) l.length
  rw [invF_yes hpo]
  congr 1
  refine List.ext_getElem? fun j => ?_
  by_cases hj : j < l.length
  · have hmem := hpo.mem (x := (j : Int)) (by omega) (by rw [hlen]; omega)
    rw [invTo_at (by rw [hlen]; exact hj) hmem]
    have hg := at_idxOf hmem
    rw [← idx_rk l hg]
    unfold spF
    simp [hj]
  · rw [List.getElem?_eq_none (by rw [invTo_length, hlen]; omega), List.getElem?_eq_none (by rw [spF_len]; omega)]

theorem okL_map {l : List (Int × Int)} (h : OkR l) : OkL (l.map (·.1)) := ⟨by simpa using h.1, fun x hx => by
  obtain ⟨p, hp, rfl⟩ := List.mem_map.1 hx
  exact h.key hp⟩

end Go.Proofs.Ytebipiehkmhaiaa
end

section
/- Many cells of a row at once. -/
namespace Go.Proofs.Ytebipiehkmhaiaa
open Go.RowKit

theorem But.sets0 {g : Nat} {a : World} : ∀ (vs : List Value) (o : Nat) (w : World), But g a w → But g a (w.setCells g o vs)
  | [], _, _, h => h
  | v :: r, o, _, h => But.sets0 r (o + 1) _ (h.setCell o v)
theorem But.sets {g : Nat} {a w : World} (h : But g a w) (o q : Nat) (vs : List Value) : But g a ((w.drewN q).setCells g o vs) := But.sets0 vs o _ (h.drewN q)

theorem CellRow.sets {w : World} {g : Nat} {cs : List Value} (h : CellRow w g cs) (o q : Nat) (vs : List Value) (hl : o + vs.length ≤ cs.length) :
    CellRow ((w.drewN q).setCells g o vs) g (cs.take o ++ vs ++ cs.drop (o + vs.length)) := by
  refine ⟨?_, fun j u hu => ⟨?_, by rw [World.frozen?_setCells]; obtain ⟨hj, _⟩ := List.getElem?_eq_some_iff.1 hu; exact (h.2 j _ (List.getElem?_eq_getElem (by simp at hj; omega))).2⟩⟩
  · exact Nat.lt_of_lt_of_le h.1 ((But.refl g w).sets o q vs).size
  · by_cases h1 : j < o
    · rw [World.cell?_setCells_out g vs o (w.drewN q) ⟨g, j, none⟩ (fun _ _ => .inl h1)]
      rw [List.append_assoc, List.getElem?_append_left (by simp; omega), List.getElem?_take_of_lt h1] at hu
      exact (h.2 j u hu).1
    · by_cases h2 : j < o + vs.length
      · obtain ⟨k, rfl⟩ : ∃ k, j = o + k := ⟨j - o, by omega⟩
        have hk : k < vs.length := by omega
        rw [World.cell?_setCells_in g vs o (w.drewN q) (fun i hi => by rw [show (w.drewN q).cell? ⟨g, o + i, none⟩ = _ from (h.2 (o + i) _ (List.getElem?_eq_getElem (by omega))).1]; rfl) k hk]
        rw [List.append_assoc, List.getElem?_append_right (by simp; omega), List.length_take, Nat.min_eq_left (by omega), Nat.add_sub_cancel_left, List.getElem?_append_left hk, List.getElem?_eq_getElem hk] at hu
        exact hu
      · rw [World.cell?_setCells_out g vs o (w.drewN q) ⟨g, j, none⟩ (fun _ _ => .inr (by simpa using h2))]
        rw [List.getElem?_append_right (by simp; omega), List.getElem?_drop] at hu
        rw [show o + vs.length + (j - (cs.take o ++ vs).length) = j by simp; omega] at hu
        exact (h.2 j u hu).1

end Go.Proofs.Ytebipiehkmhaiaa
end

section
/- The identity, by its contract. -/
namespace Go.Proofs.Ytebipiehkmhaiaa
open Go.RowKit P

set_option maxRecDepth 100000 in
set_option maxHeartbeats 4000000 in
theorem identity_any (n : Nat) (w : World) (hn : n ≤ 1048576) :
    Calls Try.prog 133 #[.int .i64 (n : Int)] w fun e w' => e = .returned (.slice (some ⟨w.heap.size, 0, none⟩) n n) ∧ RowIs w' w.heap.size 3 (ints (iota n)) ∧ Below w.heap.size w w' := by
  have hmk := makeInts n hn
  have hil := iota_length n
  have HIL := Lib.hid hil
  have hrow : RowIs (w.alloc (.cells (ints (List.replicate n 0)).toArray 3)) w.heap.size 3 (ints (fill (iota n) 0 0)) := by
    rw [fill_zero, HIL.out]; exact heap_alloc_new w _
  have hb0 : Below w.heap.size w (w.alloc (.cells (ints (List.replicate n 0)).toArray 3)) := (Below.refl _ _).alloc (Nat.le_refl _) _
  have HROW := Lib.hid hrow
  have HB0 := Lib.hid hb0
  clear hrow hb0 hil
  go_enter Try.func133, Try.ntmps133
  go_wp2
  go_loopw [4, 9] (fun _ i wr => ∃ k : Nat, k ≤ n ∧ i = .int .i64 k ∧ RowIs wr w.heap.size 3 (ints (fill (iota n) 0 k)) ∧ Below w.heap.size w wr) (fun _ i _ => n - (intOf i).toNat)
  case atStart => exact ⟨0, Nat.zero_le _, rfl, HROW.out, HB0.out⟩
  case round =>
    obtain ⟨k, hk, rfl, hr, hb⟩ := hrel
    have HR := Lib.hid hr
    have HB := Lib.hid hb
    clear hr hb hmk HROW HB0
    by_cases hlt : k < n
    · have HP := Lib.hid (iota_at hlt)
      have hg1 : wr.cell? ⟨w.heap.size, k, none⟩ = some (.int .i64 0) := (HR.out.cell _).trans (ints_at (fill_at (d := (0 : Int)) (by rw [HIL.out]; exact hlt)))
      have hf1 := HR.out.frozen k
      go_wp2
      go_roundw
      case rel => exact ⟨k + 1, by omega, by go_num, by rw [← fill_set HP.out, ← ints_set]; exact HR.out.stored k _, HB.out.setCell (p := ⟨w.heap.size, k, none⟩) (Nat.le_refl _) _⟩
      case measure => simp [intOf]; omega
    · obtain rfl : k = n := by omega
      have HR2 : Hid (RowIs wr w.heap.size 3 (ints (iota k))) := Lib.hid (by have h := HR.out; have e := fill_all (iota k) (0 : Int); rw [HIL.out] at e; rw [e] at h; exact h)
      go_wp2
      go_ret
      exact ⟨rfl, HR2.out, HB.out⟩

end Go.Proofs.Ytebipiehkmhaiaa
end

section
/- The program's IsValidPermutation, by its contract. -/
namespace Go.Proofs.Ytebipiehkmhaiaa
open Go.RowKit P

set_option maxRecDepth 100000 in
set_option maxHeartbeats 4000000 in
theorem implValidPerm_any (v : Value) (l : List Int) (w : World) (hv : FlatAt w v l.length (ints l)) (hn : l.length ≤ 1048576) :
    Calls Try.prog 134 #[v] w fun e w' => e = .returned (.bool (decide (OkP l))) ∧ Below w.heap.size w w' := by
  obtain ⟨a, c, rfl, _, h⟩ := hv
  have H := Lib.hid h
  clear h
  by_cases h64 : l.length ≤ 64
  · have hz : ¬ (64 : Int) < l.length := by omega
    go_enter Try.func134, Try.ntmps134
    go_wp2
    go_loopw [5, 11] (fun _ i wr => ∃ k : Nat, k ≤ l.length ∧ i = .int .i64 k ∧ GoodTo l k ∧ RowIs wr w.heap.size 137 (bools (seenTo l k 64)) ∧ Below w.heap.size w wr) (fun _ i _ => l.length - (intOf i).toNat)
    case atStart => exact ⟨0, Nat.zero_le _, rfl, GoodTo.zero l, by rw [seenTo_zero]; exact heap_alloc_new w _, (Below.refl _ _).alloc (Nat.le_refl _) _⟩
    case round =>
      obtain ⟨k, hk, rfl, hgood, hr, hb⟩ := hrel
      have HG := Lib.hid hgood
      have HR := Lib.hid hr
      have HB := Lib.hid hb
      clear hgood hr hb
      by_cases hlt : k < l.length
      · obtain ⟨p, hp⟩ : ∃ p, l[k]? = some p := ⟨_, List.getElem?_eq_getElem hlt⟩
        obtain ⟨b, o, rfl, hbb, hc1⟩ := H.out _ _ (ints_at hp)
        have hw1 : wr.cell? ⟨b, o + k, none⟩ = some (.int .i64 p) := (HB.out.cell (p := ⟨b, o + k, none⟩) hbb).trans hc1
        have HP := Lib.hid hp
        clear hc1 hp
        by_cases h0 : p < 0
        · have HN : Hid (decide (OkP l) = false) := Lib.hid (decide_eq_false (OkP.notRange HP.out (.inl h0)))
          go_wp2
          go_ret
          exact ⟨by rw [HN.out]; rfl, HB.out⟩
        · by_cases h1 : (l.length : Int) ≤ p
          · have HN : Hid (decide (OkP l) = false) := Lib.hid (decide_eq_false (OkP.notRange HP.out (.inr h1)))
            go_wp2
            go_ret
            exact ⟨by rw [HN.out]; rfl, HB.out⟩
          · obtain ⟨e, rfl⟩ : ∃ e : Nat, p = e := ⟨p.toNat, by omega⟩
            have he : e < l.length := by omega
            have he64 : e < 64 := by omega
            have hs1 := HR.out.cell e
            have hf1 := HR.out.frozen e
            rw [bools_at (seenTo_at he64)] at hs1
            by_cases hs : (e : Int) ∈ l.take k
            · rw [decide_eq_true hs] at hs1
              have HN : Hid (decide (OkP l) = false) := Lib.hid (decide_eq_false (OkP.notTwice HP.out hs))
              clear hs
              go_wp2
              go_ret
              exact ⟨by rw [HN.out]; rfl, HB.out⟩
            · rw [decide_eq_false hs] at hs1
              have HS := Lib.hid hs
              clear hs
              go_wp2
              go_roundw
              case rel => exact ⟨k + 1, by omega, by go_num, HG.out.step HP.out (by omega) (by omega) HS.out, by rw [← seenTo_set HP.out, ← bools_set]; exact HR.out.stored e _, HB.out.setCell (p := ⟨w.heap.size, e, none⟩) (Nat.le_refl _) _⟩
              case measure => simp [intOf]; omega
      · obtain rfl : k = l.length := by omega
        have HN : Hid (decide (OkP l) = true) := Lib.hid (decide_eq_true (HG.out.all h64))
        go_wp2
        go_ret
        exact ⟨by rw [HN.out]; rfl, HB.out⟩
  · have hz : (64 : Int) < l.length := by omega
    have HN : Hid (decide (OkP l) = false) := Lib.hid (decide_eq_false fun h => h64 h.1)
    clear h64
    go_enter Try.func134, Try.ntmps134
    go_wp2
    go_ret
    exact ⟨by rw [HN.out]; rfl, Below.refl _ _⟩

end Go.Proofs.Ytebipiehkmhaiaa
end

section
/- InversePermutation, the program's and the model's, by one contract. -/
namespace Go.Proofs.Ytebipiehkmhaiaa
open Go.RowKit P

set_option maxRecDepth 100000 in
set_option maxHeartbeats 4000000 in
theorem implInv_any (v : Value) (l : List Int) (w : World) (hv : FlatAt w v l.length (ints l)) (hn : l.length ≤ 1048576) :
    Calls Try.prog 100 #[v] w (RetI (invF l) w) := by
  have HV := Lib.hid hv
  obtain ⟨a, c, rfl, _, h⟩ := hv
  have H := Lib.hid h
  clear h
  by_cases hok : OkP l
  · have hd : decide (OkP l) = true := decide_eq_true hok
    have HOK := Lib.hid hok
    rw [invF_yes hok]
    clear hok
    have hmk := fun W => makeInts l.length hn W
    go_enter Try.func100, Try.ntmps100
    go_wp2_with fail
    refine (implValidPerm_any _ l w HV.out hn).mono ?_
    rw [hd]
    rintro e w1 ⟨rfl, hb1⟩
    have HB1 := Lib.hid hb1
    have hmk1 := hmk w1
    have HROW := Lib.hid (heap_alloc_new w1 (.cells (ints (List.replicate l.length 0)).toArray 3))
    have HB2 : Hid (Below w1.heap.size w1 (w1.alloc (.cells (ints (List.replicate l.length 0)).toArray 3))) := Lib.hid ((Below.refl _ _).alloc (Nat.le_refl _) _)
    clear hb1 hmk hd
    go_wp2_with fail
    go_loopw [5, 6, 16] (fun _ _ i wr => ∃ k : Nat, k ≤ l.length ∧ i = .int .i64 k ∧ RowIs wr w1.heap.size 3 (ints (invTo l k)) ∧ Below w1.heap.size w1 wr) (fun _ _ i _ => l.length - (intOf i).toNat)
    case atStart => exact ⟨0, Nat.zero_le _, rfl, by rw [invTo_zero]; exact HROW.out, HB2.out⟩
    case round =>
      obtain ⟨k, hk, rfl, hr, hb⟩ := hrel
      have HR := Lib.hid hr
      have HB := Lib.hid hb
      clear hr hb hmk1 HROW HB2
      by_cases hlt : k < l.length
      · obtain ⟨p, hp⟩ : ∃ p, l[k]? = some p := ⟨_, List.getElem?_eq_getElem hlt⟩
        obtain ⟨b, o, rfl, hbb, hc1⟩ := H.out _ _ (ints_at hp)
        have hw1 : wr.cell? ⟨b, o + k, none⟩ = some (.int .i64 p) := (HB.out.cell (p := ⟨b, o + k, none⟩) (Nat.lt_of_lt_of_le hbb HB1.out.size)).trans ((HB1.out.cell (p := ⟨b, o + k, none⟩) hbb).trans hc1)
        have hv := HOK.out.at hp
        obtain ⟨e, rfl⟩ : ∃ e : Nat, p = e := ⟨p.toNat, by omega⟩
        have he : e < l.length := by omega
        have HP := Lib.hid hp
        obtain ⟨u, hu⟩ : ∃ u, (invTo l k)[e]? = some u := ⟨_, List.getElem?_eq_getElem (by rw [invTo_length]; exact he)⟩
        have hg1 : wr.cell? ⟨w1.heap.size, e, none⟩ = some (.int .i64 u) := (HR.out.cell _).trans (ints_at hu)
        have hf1 := HR.out.frozen e
        clear hc1 hp hv hu
        go_wp2
        go_roundw
        case rel => exact ⟨k + 1, by omega, by go_num, by rw [← invTo_set HOK.out HP.out, ← ints_set]; exact HR.out.stored e _, HB.out.setCell (p := ⟨w1.heap.size, e, none⟩) (Nat.le_refl _) _⟩
        case measure => simp [intOf]; omega
      · obtain rfl : k = l.length := by omega
        have HRES : Hid (RetI (invTo l l.length, true) w (.returned (.tuple #[.slice (some ⟨w1.heap.size, 0, none⟩) l.length l.length, .bool true])) wr) :=
          Lib.hid ⟨w1.heap.size, l.length, by rw [invTo_length], by rw [invTo_length]; exact Nat.le_refl _, HB1.out.size, CellRow.of_row HR.out, HB1.out.trans (HB.out.mono HB1.out.size)⟩
        go_wp2_with fail
        go_ret2
        exact HRES.out
  · have hd : decide (OkP l) = false := decide_eq_false hok
    rw [invF_no hok]
    clear hok
    go_enter Try.func100, Try.ntmps100
    go_wp2_with fail
    refine (implValidPerm_any _ l w HV.out hn).mono ?_
    rw [hd]
    rintro e w1 ⟨rfl, hb1⟩
    have HRES := Lib.hid (RetI.none w w1 hb1)
    clear hb1 hd
    go_wp2_with fail
    go_ret2
    exact HRES.out

end Go.Proofs.Ytebipiehkmhaiaa
end

section
/- The program's SortingPermutation, by its contract. -/
namespace Go.Proofs.Ytebipiehkmhaiaa
open Go.RowKit Go.Sort Go.Lib StC P

/-- Indices as elements of a finite type. -/
def fins (NN : Nat) : List (Fin (NN + 1)) := List.finRange (NN + 1)
def valsF {NN : Nat} (L : List (Fin (NN + 1))) : List Int := L.map fun x => (x.val : Int)
theorem valsF_length {NN : Nat} (L : List (Fin (NN + 1))) : (valsF L).length = L.length := by simp [valsF]
theorem valsF_fins (NN : Nat) : valsF (fins NN) = iota (NN + 1) := by
  unfold valsF fins
  apply List.ext_getElem?
  intro j
  by_cases hj : j < NN + 1
  · rw [iota_at hj]; simp [hj]
  · rw [List.getElem?_eq_none (by simp; omega), List.getElem?_eq_none (by rw [iota_length]; omega)]
theorem fins_length (NN : Nat) : (fins NN).length = NN + 1 := by simp [fins]

theorem flat_fins {NN : Nat} (L : List (Fin (NN + 1))) : flatK encF 1 L.toArray = (ints (valsF L)).toArray := by
  refine ext_get! (by simp [ints_length, valsF_length]) fun t ht => ?_
  have ht' : t < L.toArray.size * 1 := by simpa using ht
  rw [get_flatK _ _ _ _ ht']
  have hd : t < L.length := by simpa using ht'
  have h2 : t < (ints (valsF L)).length := by rw [ints_length, valsF_length]; exact hd
  simp only [Nat.div_one, Nat.mod_one]
  rw [show L.toArray[t]! = L[t] by simp [hd], show (ints (valsF L)).toArray[t]! = (ints (valsF L))[t] by simp [h2]]
  simp [ints, valsF, encF]

theorem holdsF_of_row {NN : Nat} {w : World} {g : Nat} {L : List (Fin (NN + 1))} (h : CellRow w g (ints (valsF L))) : HoldsK encF 1 w g 0 L.toArray := by
  unfold HoldsK
  rw [flat_fins]
  intro j hj
  have hj' : j < (ints (valsF L)).length := by simpa using hj
  have := h.2 j _ (List.getElem?_eq_getElem hj')
  rw [Nat.zero_add]
  have e : (ints (valsF L)).toArray[j]! = (ints (valsF L))[j] := by simp [hj']
  show _ = some (id ((ints (valsF L)).toArray[j]!)) ∧ _
  rw [e]; exact this

theorem row_of_sortedF {NN : Nat} {w0 w : World} {g : Nat} {d0 : Array (Fin (NN + 1))} {M : List (Fin (NN + 1))} (R : RowK encF 1 w0 g 0 d0) (S : SWK encF 1 w0 g 0 M.toArray w) (hs : M.length = d0.size) : CellRow w g (ints (valsF M)) := by
  have h := S.holds R.hblk R.hH (by simpa using hs)
  unfold HoldsK at h
  rw [flat_fins] at h
  refine ⟨S.lt R.hblk, fun j u hu => ?_⟩
  obtain ⟨hj, e⟩ := List.getElem?_eq_some_iff.1 hu
  have := h j (by simpa using hj)
  rw [Nat.zero_add] at this
  have e2 : (ints (valsF M)).toArray[j]! = u := by simp [hj, e]
  have e3 : id ((ints (valsF M)).toArray[j]!) = u := e2
  rw [e3] at this
  exact this

theorem but_of_sortedF {NN : Nat} {w0 w : World} {g : Nat} {d : Array (Fin (NN + 1))} (S : SWK encF 1 w0 g 0 d w) : But g w0 w := by
  obtain ⟨n, os, rfl⟩ := S
  refine ⟨rfl, rfl, rfl, ?_, fun k hk hg => ?_⟩
  · unfold sortWorldK; rw [size_grow, size_putRowK]; exact Nat.le_add_right _ _
  · unfold sortWorldK
    rw [heap_grow_old _ _ (by rw [size_putRowK]; exact hk)]
    show (w0.heap.modify g _)[k]? = _
    rw [Array.getElem?_modify, if_neg (fun e => hg e.symm)]

/-- The stable arrangement of all the indices under a comparison of them. -/
theorem arrange_any {NN : Nat} (cf : Fin (NN + 1) → Fin (NN + 1) → Int) (hO : SWO (ltOf cf)) (gf : Nat) (cb : Array Value) (eg : ∀ args w, (callFunc gf args).run Try.prog w = .ok (.enter gf args) w) (b c : Nat) (w : World) (hr : CellRow w b (ints (iota (NN + 1)))) (hn : NN + 1 ≤ 1048576)
    (hC : ∀ (W : World), Below w.heap.size w W → ∀ x y : Fin (NN + 1), Calls Try.prog gf (#[.int .i64 (x.val : Int), .int .i64 (y.val : Int)] ++ cb) W fun e w' => e = .returned (.int .i64 (cf x y)) ∧ ∃ q os', w' = grow (W.drewN q) os') (hcap : NN + 1 ≤ c) :
    Calls Try.prog 132 #[.slice (some ⟨b, 0, none⟩) (NN + 1) c, .func (.func gf) #[] cb] w fun e w' =>
      ∃ (g cg : Nat) (M : List (Fin (NN + 1))), e = .returned (.slice (some ⟨g, 0, none⟩) (NN + 1) cg) ∧ NN + 1 ≤ cg ∧ w.heap.size ≤ g ∧ CellRow w' g (ints (valsF M)) ∧ St (ltOf cf) (fins NN) M ∧ Below w.heap.size w w' := by
  have hil : (iota (NN + 1)).length = NN + 1 := iota_length _
  have HCL := Lib.hid (by have := cloneInts_any b 0 c (iota (NN + 1)) w (by have := hr.flat (c := c) (n := NN + 1) hcap; rw [hil]; exact this) (by rw [hil]; exact hn); rw [hil] at this; exact this)
  have HS := Lib.hid (fun (g cap : Nat) (W : World) (hw : Below w.heap.size w W) (hg : w.heap.size ≤ g) (hr : CellRow W g (ints (valsF (fins NN)))) => sortStableF cf hO gf cb g 0 cap (fins NN).toArray W ⟨fun _ => rfl, fun x v hv => by simp [encF] at hv; subst hv; rfl, holdsF_of_row hr, hr.1⟩ (by rw [List.size_toArray, fins_length]; omega) eg
    (fun m os dk _ x y => hC _ (hw.trans ((but_of_sortedF (d := dk) ⟨m, os, rfl⟩).below hg hw.size)) x y) (by rw [List.size_toArray, fins_length]; omega) (fins NN) W (by simp) (SWK.start (holdsF_of_row hr)))
  have HW := Lib.hid (fun (g : Nat) (W w' : World) (M : List (Fin (NN + 1))) (hr : CellRow W g (ints (valsF (fins NN)))) (hS : SWK encF 1 W g 0 M.toArray w') (hl : M.length = (fins NN).length) => row_of_sortedF (d0 := (fins NN).toArray) ⟨fun _ => rfl, fun x v hv => by simp [encF] at hv; subst hv; rfl, holdsF_of_row hr, hr.1⟩ hS (by simpa using hl))
  clear eg hC hr hil
  go_enter Try.func132, Try.ntmps132
  go_wp2_with fail
  refine (HCL.out).mono ?_
  rintro e w1 ⟨g, cap, rfl, hcp, hg, hrow, hb⟩
  rw [iota_length] at hcp ⊢
  rw [← valsF_fins] at hrow
  have HG := Lib.hid hg
  have HR := Lib.hid hrow
  have HB := Lib.hid hb
  have HQ := Lib.hid (HS.out g cap w1 hb hg hrow)
  rw [List.size_toArray, fins_length] at HQ
  clear hg hrow hb HCL HS
  go_wp2_with fail
  refine (HQ.out).mono ?_
  rintro e w2 ⟨rfl, M, hM, hS⟩
  have HRES : Hid (∃ (g' cg : Nat) (M : List (Fin (NN + 1))), Ending.returned (.slice (some ⟨g, 0, none⟩) (NN + 1) cap) = .returned (.slice (some ⟨g', 0, none⟩) (NN + 1) cg) ∧ NN + 1 ≤ cg ∧ w.heap.size ≤ g' ∧ CellRow w2 g' (ints (valsF M)) ∧ St (ltOf cf) (fins NN) M ∧ Below w.heap.size w w2) :=
    Lib.hid ⟨g, cap, M, rfl, hcp, HG.out, HW.out g w1 w2 M HR.out hS hM.len, hM, HB.out.trans ((but_of_sortedF hS).below HG.out HB.out.size)⟩
  clear hM hS HQ HW
  go_wp2_with fail
  go_ret
  exact HRES.out

end Go.Proofs.Ytebipiehkmhaiaa
end

section
/- The stable arrangement of indices, of any number of them. -/
namespace Go.Proofs.Ytebipiehkmhaiaa
open Go.RowKit Go.Sort Go.Lib StC P

theorem ins0_any (a : Option Addr) (c : Nat) (fv : Value) (w : World) :
    Calls Try.prog 149 #[.slice a 0 c, .int .i64 0, .int .i64 0, fv] w fun e w' => e = .returned (.tuple #[]) ∧ w' = w := by
  go_enter Try.func149, Try.ntmps149
  go_wp2_with fail
  go_loopw [8] (fun i wr => i = .int .i64 1 ∧ wr = w) (fun _ _ => 0)
  case atStart => exact ⟨rfl, rfl⟩
  case round =>
    obtain ⟨rfl, rfl⟩ := hrel
    go_wp2_with fail
    go_end0
    first | exact ⟨rfl, rfl⟩ | exact ⟨rfl, by trivial⟩

theorem sort0_any (a : Option Addr) (c : Nat) (fv : Value) (w : World) :
    Calls Try.prog 143 #[.slice a 0 c, fv] w fun e w' => e = .returned (.tuple #[]) ∧ w' = w := by
  have HI := Lib.hid (fun W => ins0_any a c fv W)
  have HS : Hid (∀ W, Calls Try.prog 147 #[.slice a 0 c, .int .i64 0, fv] W fun e w' => e = .returned (.tuple #[]) ∧ w' = W) := Lib.hid (fun W => by
    go_enter Try.func147, Try.ntmps147
    go_wp2_with fail
    go_loopw [7, 8] (fun i j wr => i = .int .i64 0 ∧ j = .int .i64 20 ∧ wr = W) (fun _ _ _ => 0)
    case atStart => exact ⟨rfl, rfl, rfl⟩
    case round =>
      obtain ⟨rfl, rfl, rfl⟩ := hrel
      go_wp2_with fail
      refine (HI.out _).mono ?_
      rintro e w1 ⟨rfl, rfl⟩
      go_wp2_with fail
      go_loopw [6, 7, 8] (fun i j k wr => i = .int .i64 20 ∧ wr = w1) (fun _ _ _ _ => 0)
      case atStart => exact ⟨rfl, rfl⟩
      case round =>
        obtain ⟨rfl, rfl⟩ := hrel
        go_wp2_with fail
        go_end0
        first | exact ⟨rfl, rfl⟩ | exact ⟨rfl, by trivial⟩)
  go_enter Try.func143, Try.ntmps143
  go_wp2_with fail
  refine (HS.out _).mono ?_
  rintro e w1 ⟨rfl, rfl⟩
  go_wp2_with fail
  go_end0
  first | exact ⟨rfl, rfl⟩ | exact ⟨rfl, by trivial⟩

theorem arrange0_any (b c : Nat) (fv : Value) (w : World) (_hb : b < w.heap.size) :
    Calls Try.prog 132 #[.slice (some ⟨b, 0, none⟩) 0 c, fv] w (RowI [] w) := by
  have HCL := Lib.hid (cloneInts_any b 0 c [] w ⟨_, c, rfl, Nat.zero_le _, fun j u hu => by simp [ints] at hu⟩ (by simp))
  go_enter Try.func132, Try.ntmps132
  go_wp2_with fail
  refine (HCL.out).mono ?_
  rintro e w1 ⟨g, cap, rfl, hcp, hg, hrow, hb⟩
  have HRES : Hid (RowI [] w (.returned (.slice (some ⟨g, 0, none⟩) 0 cap)) w1) := Lib.hid ⟨g, cap, rfl, hcp, hg, hrow, hb⟩
  clear hcp hg hrow hb HCL
  go_wp2_with fail
  refine (sort0_any _ _ _ _).mono ?_
  rintro e w2 ⟨rfl, rfl⟩
  go_wp2_with fail
  go_ret
  exact HRES.out

theorem arrangeN_any {NN : Nat} (N : Nat) (hN : N = NN + 1) (cf : Fin (NN + 1) → Fin (NN + 1) → Int) (hO : SWO (ltOf cf)) (gf : Nat) (cb : Array Value) (eg : ∀ args w, (callFunc gf args).run Try.prog w = .ok (.enter gf args) w) (b c : Nat) (w : World) (hr : CellRow w b (ints (iota N))) (hn : N ≤ 1048576)
    (hC : ∀ (W : World), Below w.heap.size w W → ∀ x y : Fin (NN + 1), Calls Try.prog gf (#[.int .i64 (x.val : Int), .int .i64 (y.val : Int)] ++ cb) W fun e w' => e = .returned (.int .i64 (cf x y)) ∧ ∃ q os', w' = grow (W.drewN q) os') (hcap : N ≤ c) :
    Calls Try.prog 132 #[.slice (some ⟨b, 0, none⟩) N c, .func (.func gf) #[] cb] w fun e w' =>
      ∃ (g cg : Nat) (M : List (Fin (NN + 1))), e = .returned (.slice (some ⟨g, 0, none⟩) N cg) ∧ N ≤ cg ∧ w.heap.size ≤ g ∧ CellRow w' g (ints (valsF M)) ∧ St (ltOf cf) (fins NN) M ∧ Below w.heap.size w w' := by
  subst hN
  exact arrange_any cf hO gf cb eg b c w hr hn hC hcap

end Go.Proofs.Ytebipiehkmhaiaa
end

section
/- The program's SortingPermutation, by its contract: the whole. -/
namespace Go.Proofs.Ytebipiehkmhaiaa
open Go.RowKit Go.Sort Go.Lib StC P

theorem compareI_any (x y : Int) (W : World) : Calls Try.prog 125 #[.int .i64 x, .int .i64 y] W fun e w' => e = .returned (.int .i64 (compareInt x y)) ∧ w' = W := by
  by_cases h1 : x < y
  · have hd : Hid (compareInt x y = -1) := Lib.hid (by unfold compareInt; rw [if_pos h1])
    go_enter Try.func125, Try.ntmps125
    go_wp2
    go_ret
    exact ⟨by rw [hd.out]; rfl, rfl⟩
  · by_cases h2 : y < x
    · have hd : Hid (compareInt x y = 1) := Lib.hid (by unfold compareInt; rw [if_neg h1, if_pos h2])
      go_enter Try.func125, Try.ntmps125
      go_wp2
      go_ret
      exact ⟨by rw [hd.out]; rfl, rfl⟩
    · have hd : Hid (compareInt x y = 0) := Lib.hid (by unfold compareInt; rw [if_neg h1, if_neg h2])
      go_enter Try.func125, Try.ntmps125
      go_wp2
      go_ret
      exact ⟨by rw [hd.out]; rfl, rfl⟩

/-- The comparison of indices by the numbers that they stand for. -/
def cfL {NN : Nat} (l : List Int) (x y : Fin (NN + 1)) : Int := compareInt (l.getD x.val 0) (l.getD y.val 0)
theorem ltL {NN : Nat} (l : List Int) (x y : Fin (NN + 1)) : ltOf (cfL l) x y = decide (l.getD x.val 0 < l.getD y.val 0) := by
  unfold ltOf cfL compareInt
  by_cases h1 : l.getD x.val 0 < l.getD y.val 0
  · rw [if_pos h1]; simp only [h1]; rfl
  · rw [if_neg h1]
    by_cases h2 : l.getD y.val 0 < l.getD x.val 0
    · rw [if_pos h2]; simp only [h1]; rfl
    · rw [if_neg h2]; simp only [h1]; rfl
theorem swoL {NN : Nat} (l : List Int) : SWO (ltOf (cfL (NN := NN) l)) where
  irrefl x := by rw [ltL]; simp
  trans x y z h1 h2 := by rw [ltL] at *; simp only [decide_eq_true_eq] at *; omega
  ntrans x y z h1 h2 := by rw [ltL] at *; simp only [decide_eq_false_iff_not] at *; omega

theorem filter_vals {NN : Nat} (p : Int → Bool) (L : List (Fin (NN + 1))) : (valsF L).filter p = valsF (L.filter fun x => p (x.val : Int)) := by
  unfold valsF; rw [List.filter_map]; rfl
theorem stab_ofL {NN : Nat} {l : List Int} {M : List (Fin (NN + 1))} (h : St (ltOf (cfL l)) (fins NN) M) : Stab.Of (keyOf l) (iota (NN + 1)) (valsF M) := by
  have hk : ∀ x : Fin (NN + 1), keyOf l (x.val : Int) = l.getD x.val 0 := fun x => by unfold keyOf; rw [Int.toNat_natCast]
  refine ⟨?_, fun q => ?_⟩
  · unfold valsF
    rw [List.pairwise_map]
    refine h.sorted.imp fun {a b} hh => ?_
    rw [ltL] at hh
    rw [hk, hk]
    simp only [decide_eq_false_iff_not] at hh
    omega
  · rw [← valsF_fins, filter_vals, filter_vals]
    congr 1
    by_cases hq : ∃ z : Fin (NN + 1), l.getD z.val 0 = q
    · obtain ⟨z, hz⟩ := hq
      have e : (fun x : Fin (NN + 1) => keyOf l (x.val : Int) == q) = tie (ltOf (cfL l)) z := by
        funext x
        rw [hk]
        unfold tie
        rw [ltL, ltL, hz]
        generalize l.getD x.val 0 = y
        by_cases h1 : y = q
        · rw [h1]; simp
        · have h2 : (y == q) = false := by simpa using h1
          rw [h2]
          by_cases h3 : q < y
          · simp [h3]
          · have h4 : y < q := by omega
            simp [h4]
      have := h.same z
      rw [e]; exact this
    · have e : ∀ L : List (Fin (NN + 1)), L.filter (fun x => keyOf l (x.val : Int) == q) = [] := fun L => by
        rw [List.filter_eq_nil_iff]
        intro x _
        rw [hk]
        intro hx
        exact hq ⟨x, by simpa using hx⟩
      rw [e, e]

set_option maxRecDepth 100000 in
set_option maxHeartbeats 4000000 in
theorem byElement_any (a : Option Addr) (c box : Nat) (l : List Int) (x y : Nat) (W : World) (hbox : W.cell? ⟨box, 0, none⟩ = some (.slice a l.length c)) (H : ∀ (j : Nat) z, l[j]? = some z → ∃ b o, a = some ⟨b, o, none⟩ ∧ W.cell? ⟨b, o + j, none⟩ = some (.int .i64 z)) (hx : x < l.length) (hy : y < l.length) :
    Calls Try.prog 131 #[.int .i64 (x : Int), .int .i64 (y : Int), .pointer (some ⟨box, 0, none⟩)] W fun e w' => e = .returned (.int .i64 (compareInt (l.getD x 0) (l.getD y 0))) ∧ ∃ q os', w' = grow (W.drewN q) os' := by
  obtain ⟨b, o, rfl, hcx⟩ := H _ _ (at_getD hx)
  obtain ⟨b', o', e', hcy⟩ := H _ _ (at_getD hy)
  simp at e'
  obtain ⟨rfl, rfl⟩ := e'
  have HC := Lib.hid (fun W' => compareI_any (l.getD x 0) (l.getD y 0) W')
  have hxz : (x : Int) < l.length := by omega
  have hyz : (y : Int) < l.length := by omega
  generalize l.getD x 0 = p at *
  generalize l.getD y 0 = q at *
  generalize compareInt p q = r at *
  clear H hx hy
  go_enter Try.func131, Try.ntmps131
  go_wp2_with fail
  go_quiet (first | (go_at_call 125; refine Calls.quiet_of_same (HC.out _)))
  go_wp2_with fail
  go_ret
  exact ⟨rfl, nq, #[], by rw [grow_empty]⟩

set_option maxRecDepth 100000 in
set_option maxHeartbeats 4000000 in
theorem implSortP_any (v : Value) (l : List Int) (w : World) (hv : FlatAt w v l.length (ints l)) (hn : l.length ≤ 1048576) :
    Calls Try.prog 99 #[v] w (RetI (sortF l) w) := by
  obtain ⟨a, c, rfl, _⟩ := id hv
  have hB0 : Below w.heap.size w (w.alloc (.cells #[.slice a l.length c] 39)) := (Below.refl _ _).alloc (Nat.le_refl _) _
  have HB0 := Lib.hid hB0
  have hbox := cell_one_new w (.slice a l.length c) 39
  have HV := Lib.hid (hv.below hB0)
  obtain ⟨a', c', he, _, h⟩ := hv
  simp at he
  obtain ⟨rfl, rfl⟩ := he
  have HCELL : Hid (∀ (j : Nat) z, l[j]? = some z → ∃ b o, a = some ⟨b, o, none⟩ ∧ b < w.heap.size ∧ w.cell? ⟨b, o + j, none⟩ = some (.int .i64 z)) := Lib.hid (fun j z hj => h _ _ (ints_at hj))
  clear hB0 h
  obtain ⟨W0, hW0⟩ : ∃ W0, W0 = w.alloc (.cells #[.slice a l.length c] 39) := ⟨_, rfl⟩
  have hbx : W0.cell? ⟨w.heap.size, 0, none⟩ = some (.slice a l.length c) := by rw [hW0]; simp
  have hlt : w.heap.size < W0.heap.size := by rw [hW0]; simp
  rw [← hW0] at HB0 HV
  by_cases hok : OkL l
  · have hd : decide (OkL l) = true := decide_eq_true hok
    have HI := Lib.hid (fun W (h : FlatAt W (.slice a l.length c) l.length (ints l)) => by have := implValidList_any _ l W h hn; rw [hd] at this; exact this)
    have HF := Lib.hid (sortF_yes hok)
    have HID := Lib.hid (fun W => identity_any l.length W hn)
    have eg : ∀ args w, (callFunc 131 args).run Try.prog w = .ok (.enter 131 args) w := enters_of Try.func131 (by kernel_rfl) rfl
    have EG := Lib.hid eg
    clear hok hd hbox eg
    go_enter Try.func99, Try.ntmps99
    go_wp2_with fail
    rw [← hW0]
    refine (HI.out _ HV.out).mono ?_
    rintro e w1 ⟨rfl, hb1⟩
    have hbx1 : w1.cell? ⟨w.heap.size, 0, none⟩ = some (.slice a l.length c) := (hb1.cell (p := ⟨w.heap.size, 0, none⟩) hlt).trans hbx
    have hlt1 : w.heap.size < w1.heap.size := Nat.lt_of_lt_of_le hlt hb1.size
    have HB1 := Lib.hid (HB0.out.trans (hb1.mono HB0.out.size))
    clear hb1 HI HV hbx hlt HB0 hW0
    go_wp2_with fail
    refine (HID.out _).mono ?_
    rintro e w2 ⟨rfl, hrow, hb2⟩
    have HBX2 : Hid (w2.cell? ⟨w.heap.size, 0, none⟩ = some (.slice a l.length c)) := Lib.hid ((hb2.cell (p := ⟨w.heap.size, 0, none⟩) hlt1).trans hbx1)
    have hlt2 : w.heap.size < w2.heap.size := Nat.lt_of_lt_of_le hlt1 hb2.size
    have HB2 := Lib.hid (HB1.out.trans (hb2.mono HB1.out.size))
    have HR2 := Lib.hid (CellRow.of_row hrow)
    clear hrow hb2 hbx1 HID
    by_cases hz : l.length = 0
    · have HFZ : Hid (sortF l = ([], true)) := Lib.hid (by rw [HF.out, hz]; rfl)
      rw [hz] at HR2 HBX2 ⊢
      have HA := Lib.hid (arrange0_any w1.heap.size 0 (.func (.func 131) #[] #[.pointer (some ⟨w.heap.size, 0, none⟩)]) w2 HR2.out.1)
      clear hz
      go_wp2_with fail
      refine (HA.out).mono ?_
      rintro e w3 ⟨g, cg, rfl, hcg, hg, hrow, hb3⟩
      have HRES : Hid (RetI (sortF l) w (.returned (.tuple #[.slice (some ⟨g, 0, none⟩) 0 cg, .bool true])) w3) := Lib.hid (by rw [HFZ.out]; exact ⟨g, cg, rfl, hcg, Nat.le_trans HB2.out.size hg, hrow, HB2.out.trans (hb3.mono HB2.out.size)⟩)
      clear hcg hg hrow hb3 HA
      go_wp2_with fail
      go_ret2
      exact HRES.out
    · obtain ⟨NN, hNN⟩ : ∃ NN, l.length = NN + 1 := ⟨l.length - 1, by omega⟩
      have HNN := Lib.hid hNN
      have HA := Lib.hid (arrangeN_any l.length hNN (cfL l) (swoL l) 131 #[.pointer (some ⟨w.heap.size, 0, none⟩)] EG.out w1.heap.size l.length w2 HR2.out hn (fun W hW x y =>
          byElement_any a c w.heap.size l x.val y.val W ((hW.cell (p := ⟨w.heap.size, 0, none⟩) hlt2).trans HBX2.out) (fun j z hj => by
            obtain ⟨b, o, e, h1, h2⟩ := HCELL.out j z hj
            exact ⟨b, o, e, (hW.cell (p := ⟨b, o + j, none⟩) (show b < w2.heap.size by omega)).trans ((HB2.out.cell (p := ⟨b, o + j, none⟩) h1).trans h2)⟩) (by omega) (by omega)) (Nat.le_refl _))
      clear hz hNN
      go_wp2_with fail
      refine (HA.out).mono ?_
      rintro e w3 ⟨g, cg, M, rfl, hcg, hg, hrow, hM, hb3⟩
      have hst := stab_ofL hM
      rw [← HNN.out] at hst
      have hu := sortTo_uniq hst
      have hlen := sortTo_length l l.length
      rw [hu] at hrow
      have HRES : Hid (RetI (sortF l) w (.returned (.tuple #[.slice (some ⟨g, 0, none⟩) l.length cg, .bool true])) w3) := Lib.hid (by
        rw [HF.out]; exact ⟨g, cg, by rw [hlen], by rw [hlen]; exact hcg, Nat.le_trans HB2.out.size hg, hrow, HB2.out.trans (hb3.mono HB2.out.size)⟩)
      clear hcg hg hrow hM hb3 HA hst hu hlen
      go_wp2_with fail
      go_ret2
      exact HRES.out
  · have hd : decide (OkL l) = false := decide_eq_false hok
    have HI := Lib.hid (fun W (h : FlatAt W (.slice a l.length c) l.length (ints l)) => by have := implValidList_any _ l W h hn; rw [hd] at this; exact this)
    have HF := Lib.hid (sortF_no hok)
    clear hok hd hbox
    go_enter Try.func99, Try.ntmps99
    go_wp2_with fail
    rw [← hW0]
    refine (HI.out _ HV.out).mono ?_
    rintro e w1 ⟨rfl, hb1⟩
    have HRES : Hid (RetI (sortF l) w (.returned (.tuple #[.slice (some ⟨w1.heap.size, 0, none⟩) 0 0, .bool false])) (w1.alloc (.cells #[] 3))) := Lib.hid (by rw [HF.out]; exact RetI.none w w1 (HB0.out.trans (hb1.mono HB0.out.size)))
    clear hb1
    go_wp2_with fail
    go_ret2
    exact HRES.out

end Go.Proofs.Ytebipiehkmhaiaa
end

section
/- The program's SortedPositions, by its contract. -/
namespace Go.Proofs.Ytebipiehkmhaiaa
open Go.RowKit Rx P
set_option linter.unusedVariables false

set_option maxRecDepth 100000 in
set_option maxHeartbeats 4000000 in
theorem implSp_any (b' o c : Nat) (l : List (Int × Int)) (w : World) (hv : FlatAt w (.slice (some ⟨b', o, none⟩) l.length c) l.length (recs l)) (hn : l.length ≤ 1048576) :
    Calls Try.prog 35 #[.slice (some ⟨b', o, none⟩) l.length c] w (RetIE (spAll l) w) := by
  have HV := Lib.hid (implValidRecs_any _ l w hv hn)
  by_cases hok : OkR l
  · rw [decide_eq_true hok] at HV
    have HF := Lib.hid (spAll_yes hok)
    have hlm : (l.map (·.1)).length = l.length := by simp
    have HKEYS := Lib.hid (fun W (h : Below w.heap.size w W) => keysOf_any _ l W (hv.below h) hn)
    have HSP := Lib.hid (fun (g : Nat) W (hr : CellRow W g (ints (l.map (·.1)))) => implSortP_any (.slice (some ⟨g, 0, none⟩) l.length l.length) (l.map (·.1)) W (by rw [hlm]; exact hr.flat (Nat.le_refl _)) (by rw [hlm]; exact hn))
    have e1 : sortF (l.map (·.1)) = (sortTo (l.map (·.1)) l.length, true) := by rw [sortF_yes (okL_map hok), hlm]
    rw [e1] at HSP
    have HPL := Lib.hid (sortTo_length (l.map (·.1)) l.length)
    have HINV := Lib.hid (fun (v : Value) W (h : FlatAt W v (sortTo (l.map (·.1)) l.length).length (ints (sortTo (l.map (·.1)) l.length))) => implInv_any v _ W h (by rw [HPL.out]; exact hn))
    rw [pos_inv hok] at HINV
    rw [HF.out]
    clear hok hv hlm e1 HF
    generalize sortTo (l.map (·.1)) l.length = P at *
    generalize spF l = M at *
    go_enter Try.func35, Try.ntmps35
    go_wp2_with fail
    refine HV.out.mono ?_
    rintro e w1 ⟨rfl, hb1⟩
    have HB1 := Lib.hid hb1
    clear hb1 HV
    go_wp2_with fail
    refine (HKEYS.out _ HB1.out).mono ?_
    rintro e w2 ⟨gk, rfl, hgk, hrk, hb2⟩
    have HB2 := Lib.hid (HB1.out.trans (hb2.mono HB1.out.size))
    have HS := Lib.hid (HSP.out gk w2 hrk)
    clear hgk hrk hb2 HB1 HKEYS HSP
    go_wp2_with fail
    refine HS.out.mono ?_
    rintro e w3 ⟨g3, c3, rfl, hc3, hg3, hr3, hb3⟩
    simp only at hc3 hr3
    have HB3 := Lib.hid (HB2.out.trans (hb3.mono HB2.out.size))
    have HI := Lib.hid (HINV.out _ w3 (hr3.flat hc3))
    clear hg3 hr3 hb3 hc3 HB2 HS HINV
    go_wp2_with fail
    refine HI.out.mono ?_
    rintro e w4 ⟨g4, c4, rfl, hc4, hg4, hr4, hb4⟩
    have HRES : Hid (RetIE (M, true) w (.returned (.tuple #[.slice (some ⟨g4, 0, none⟩) M.length c4, .bool true])) w4) := Lib.hid (.inl ⟨g4, c4, rfl, hc4, Nat.le_trans HB3.out.size hg4, hr4, HB3.out.trans (hb4.mono HB3.out.size)⟩)
    clear hc4 hg4 hr4 hb4 HI HB3
    go_wp2_with fail
    go_ret2
    exact HRES.out
  · rw [decide_eq_false hok] at HV
    rw [spAll_no hok]
    clear hok hv
    go_enter Try.func35, Try.ntmps35
    go_wp2_with fail
    refine HV.out.mono ?_
    rintro e w1 ⟨rfl, hb1⟩
    have HRES : Hid (RetIE ([], false) w (.returned (.tuple #[.slice none 0 0, .bool false])) w1) := Lib.hid (.inr ⟨rfl, _, _, rfl, hb1⟩)
    clear hb1 HV
    go_wp2_with fail
    go_ret2
    exact HRES.out

end Go.Proofs.Ytebipiehkmhaiaa
end

section
/- The model's SortedPositions, by its contract. -/
namespace Go.Proofs.Ytebipiehkmhaiaa
open Go.RowKit Rx P
set_option linter.unusedVariables false
attribute [local go_sem ↓ high] builtin_append_held

/-- The elements ahead of element i among the first m. -/
def rkTo (l : List (Int × Int)) (i m : Nat) : Nat := ((List.range m).filter fun k => decide ((l.getD k (0, 0)).1 < (l.getD i (0, 0)).1) || (decide ((l.getD k (0, 0)).1 = (l.getD i (0, 0)).1) && decide (k < i))).length
theorem rkTo_zero (l : List (Int × Int)) (i : Nat) : rkTo l i 0 = 0 := rfl
theorem rkTo_le (l : List (Int × Int)) (i m : Nat) : rkTo l i m ≤ m := by unfold rkTo; have := List.length_filter_le (fun k => decide ((l.getD k (0, 0)).1 < (l.getD i (0, 0)).1) || (decide ((l.getD k (0, 0)).1 = (l.getD i (0, 0)).1) && decide (k < i))) (List.range m); simpa using this
theorem rkTo_succ (l : List (Int × Int)) (i m : Nat) {p q : Int × Int} (hp : l[m]? = some p) (hq : l[i]? = some q) : rkTo l i (m + 1) = rkTo l i m + if p.1 < q.1 ∨ (p.1 = q.1 ∧ m < i) then 1 else 0 := by
  have e1 : l.getD m (0, 0) = p := by rw [List.getD_eq_getElem?_getD, hp]; rfl
  have e2 : l.getD i (0, 0) = q := by rw [List.getD_eq_getElem?_getD, hq]; rfl
  unfold rkTo
  rw [List.range_succ, List.filter_append, List.length_append]
  congr 1
  simp only [List.filter_cons, List.filter_nil, e1, e2]
  by_cases h : p.1 < q.1 ∨ (p.1 = q.1 ∧ m < i)
  · rw [if_pos h]
    have : (decide (p.1 < q.1) || (decide (p.1 = q.1) && decide (m < i))) = true := by simp only [Bool.or_eq_true, Bool.and_eq_true, decide_eq_true_eq]; exact h
    rw [this]; rfl
  · rw [if_neg h]
    have : (decide (p.1 < q.1) || (decide (p.1 = q.1) && decide (m < i))) = false := by
      rw [Bool.eq_false_iff]; intro h2
      simp only [Bool.or_eq_true, Bool.and_eq_true, decide_eq_true_eq] at h2
      exact h h2
    rw [this]; rfl

def spTo (l : List (Int × Int)) (n : Nat) : List Int := (List.range n).map fun i => (rk l i : Int)
theorem spTo_succ (l : List (Int × Int)) (n : Nat) : spTo l (n + 1) = spTo l n ++ [(rk l n : Int)] := by unfold spTo; rw [List.range_succ, List.map_append]; rfl

set_option maxRecDepth 100000 in
set_option maxHeartbeats 8000000 in
theorem specSp_any (b' o c : Nat) (l : List (Int × Int)) (w : World) (hv : FlatAt w (.slice (some ⟨b', o, none⟩) l.length c) l.length (recs l)) (hn : l.length ≤ 1048576) :
    Calls Try.prog 55 #[.slice (some ⟨b', o, none⟩) l.length c] w (RetIE (spAll l) w) := by
  have HV := Lib.hid (l2Records_any _ l w hv hn)
  by_cases hok : OkR l
  · rw [decide_eq_true hok] at HV
    have HF := Lib.hid (spAll_yes hok)
    have h64 := hok.1
    have HREAD : Hid (∀ (k : Nat) q, l[k]? = some q → b' < w.heap.size ∧ w.cell? ⟨b', o + k * 2, none⟩ = some (.int .i64 q.1)) := Lib.hid (fun k q hq => by
      obtain ⟨a0, c0, e0, _, h⟩ := hv
      simp at e0
      obtain ⟨rfl, rfl⟩ := e0
      obtain ⟨b2, o2, e2, h1, h2, h3⟩ := recs_el h hq
      obtain rfl : b' = b2 := congrArg Addr.block (Option.some.inj e2)
      obtain rfl : o = o2 := congrArg Addr.off (Option.some.inj e2)
      exact ⟨h1, h2⟩)
    clear hok hv
    rw [HF.out]
    go_enter Try.func55, Try.ntmps55
    go_wp2_with fail
    refine HV.out.mono ?_
    rintro e w1 ⟨rfl, hb1⟩
    have HS := Lib.hid ((Held.start w1 w.heap.size hb1.size))
    have HB1 : Hid (Below w.heap.size w (w1.alloc (.cells #[] 3))) := Lib.hid (hb1.alloc hb1.size _)
    clear hb1 HV
    go_wp2_with fail
    go_loopw [4, 5, 6, 7] (fun out iv _ _ wr => ∃ i : Nat, i ≤ l.length ∧ iv = .int .i64 (i : Int) ∧ Held w.heap.size wr out (spTo l i) ∧ Below w.heap.size w wr) (fun _ iv _ _ _ => l.length - (intOf iv).toNat)
    case atStart => exact ⟨0, Nat.zero_le _, rfl, HS.out, HB1.out⟩
    case round =>
      obtain ⟨i, hi, rfl, hO, hb⟩ := hrel
      have HO := Lib.hid hO
      have HB := Lib.hid hb
      clear hO hb HS HB1
      by_cases hlt : i < l.length
      · have hltz : (i : Int) < (l.length : Int) := by omega
        obtain ⟨⟨x, xt⟩, hx⟩ : ∃ q, l[i]? = some q := ⟨_, List.getElem?_eq_getElem hlt⟩
        have HX := Lib.hid hx
        obtain ⟨g, cg, he, hg, hcg, hrow⟩ := HO.out.row
        subst he
        have hsl : (spTo l i).length = i := by simp [spTo]
        have HSL := Lib.hid hsl
        have HOn : Hid (∀ n, Held w.heap.size (wr.drewN n) (.slice (some ⟨g, 0, none⟩) (spTo l i).length cg) (spTo l i)) := Lib.hid (fun n => HO.out.same (fun _ _ _ => rfl) (Nat.le_refl _))
        have HBn : Hid (∀ n, Below w.heap.size w (wr.drewN n)) := Lib.hid (fun n => HB.out.trans ⟨rfl, rfl, rfl, Nat.le_refl _, fun _ _ => rfl⟩)
        have HC : Hid (∀ (j : Nat) q, l[j]? = some q → wr.cell? ⟨b', o + j * 2, none⟩ = some (.int .i64 q.1)) := Lib.hid (fun j q hq => by
          obtain ⟨h1, h2⟩ := HREAD.out j q hq
          exact (HB.out.cell (p := ⟨b', o + j * 2, none⟩) h1).trans h2)
        clear hx hg hcg hrow hsl HO HB
        go_wp2_with fail
        go_loopw [6, 7] (fun nv kv ws => ∃ (k n m : Nat), k ≤ l.length ∧ kv = .int .i64 (k : Int) ∧ nv = .int .i64 (n : Int) ∧ n = rkTo l i k ∧ ws = wr.drewN m) (fun _ kv _ => l.length - (intOf kv).toNat)
        case atStart => exact ⟨0, 0, 0, Nat.zero_le _, rfl, rfl, rfl, rfl⟩
        case round =>
          obtain ⟨k, n, m, hk, rfl, rfl, hn', rfl⟩ := hrel
          have hn64 : n ≤ 64 := by rw [hn']; have := rkTo_le l i k; omega
          have HN := Lib.hid hn'
          clear hn'
          by_cases hlt2 : k < l.length
          · have hltz2 : (k : Int) < (l.length : Int) := by omega
            obtain ⟨⟨y, yt⟩, hp⟩ : ∃ q, l[k]? = some q := ⟨_, List.getElem?_eq_getElem hlt2⟩
            have ck := HC.out k _ hp
            have ci := HC.out i _ HX.out
            have HS := Lib.hid (rkTo_succ l i k hp HX.out)
            simp only at ck ci HS
            clear hp
            by_cases h1 : y < x
            · have hd1 : decide (y < x) = true := decide_eq_true h1
              have HN2 : Hid (n + 1 = rkTo l i (k + 1)) := Lib.hid (by rw [HS.out, if_pos (.inl h1), HN.out])
              clear HS HN
              go_wp2_with fail
              go_quiet (fail)
              go_wp2_with fail
              go_roundw
              case rel => exact ⟨k + 1, n + 1, m + nq, by omega, by go_num, by go_num, HN2.out, by first | trivial | rfl | simp⟩
              case measure => simp [intOf]; omega
            · have hd1 : decide (y < x) = false := decide_eq_false h1
              by_cases h2 : y = x
              · subst h2
                by_cases h3 : k < i
                · have hd3 : decide ((k : Int) < (i : Int)) = true := decide_eq_true (by omega)
                  have h3z : (k : Int) < (i : Int) := by omega
                  have HN2 : Hid (n + 1 = rkTo l i (k + 1)) := Lib.hid (by rw [HS.out, if_pos (.inr ⟨rfl, h3⟩), HN.out])
                  clear HS HN
                  go_wp2_with fail
                  go_quiet (fail)
                  go_wp2_with fail
                  go_roundw
                  case rel => exact ⟨k + 1, n + 1, m + nq, by omega, by go_num, by go_num, HN2.out, by first | trivial | rfl | simp⟩
                  case measure => simp [intOf]; omega
                · have hd3 : decide ((k : Int) < (i : Int)) = false := decide_eq_false (by omega)
                  have h3z : ¬ (k : Int) < (i : Int) := by omega
                  have HN2 : Hid (n = rkTo l i (k + 1)) := Lib.hid (by rw [HS.out, if_neg (by omega), HN.out, Nat.add_zero])
                  clear HS HN
                  go_wp2_with fail
                  go_quiet (fail)
                  go_wp2_with fail
                  go_roundw
                  case rel => exact ⟨k + 1, n, m + nq, by omega, by go_num, by first | rfl | go_num, HN2.out, by first | trivial | rfl | simp⟩
                  case measure => simp [intOf]; omega
              · have h2b : ¬ x = y := fun e => h2 e.symm
                have hdq : decide (y = x) = false := decide_eq_false h2
                have hdb : (y == x) = false := by simpa using h2
                have HN2 : Hid (n = rkTo l i (k + 1)) := Lib.hid (by rw [HS.out, if_neg (by omega), HN.out, Nat.add_zero])
                clear HS HN
                go_wp2_with fail
                go_quiet (fail)
                go_wp2_with fail
                go_roundw
                case rel => exact ⟨k + 1, n, m + nq, by omega, by go_num, by first | rfl | go_num, HN2.out, by first | trivial | rfl | simp⟩
                case measure => simp [intOf]; omega
          · have hltz2 : ¬ (k : Int) < (l.length : Int) := by omega
            obtain rfl : k = l.length := by omega
            have HOm := Lib.hid (HOn.out m)
            have HBm := Lib.hid (HBn.out m)
            have hnr : n = rk l i := HN.out
            generalize wr.drewN m = wq at HOm HBm ⊢
            obtain ⟨v2, w2, hrun, hh, hb2⟩ := appendOne w.heap.size _ (spTo l i) (n : Int) wq HOm.out HBm.out.size (by rw [HSL.out]; omega)
            have HN2 : Hid (Held w.heap.size w2 v2 (spTo l (i + 1)) ∧ Below w.heap.size w w2) := Lib.hid ⟨by rw [spTo_succ, ← hnr]; exact hh, HBm.out.trans hb2⟩
            clear hh hb2 HOm HBm HOn HBn HC HREAD hnr HN
            go_wp2_with fail
            go_roundw
            case rel => exact ⟨i + 1, by omega, by go_num, HN2.out.1, HN2.out.2⟩
            case measure => simp [intOf]; omega
      · have hltz : ¬ (i : Int) < (l.length : Int) := by omega
        obtain rfl : i = l.length := by omega
        obtain ⟨g, cg, rfl, hg, hcg, hrow⟩ := HO.out.row
        have HRES : Hid (RetIE (spF l, true) w (.returned (.tuple #[.slice (some ⟨g, 0, none⟩) (spTo l l.length).length cg, .bool true])) wr) := Lib.hid (.inl ⟨g, cg, rfl, hcg, hg, hrow, HB.out⟩)
        clear hg hcg hrow HO HB
        go_wp2_with fail
        go_ret2
        exact HRES.out
  · rw [decide_eq_false hok] at HV
    rw [spAll_no hok]
    clear hok hv
    go_enter Try.func55, Try.ntmps55
    go_wp2_with fail
    refine HV.out.mono ?_
    rintro e w1 ⟨rfl, hb1⟩
    have HRES : Hid (RetIE ([], false) w (.returned (.tuple #[.slice none 0 0, .bool false])) w1) := Lib.hid (.inr ⟨rfl, _, _, rfl, hb1⟩)
    clear hb1 HV
    go_wp2_with fail
    go_ret2
    exact HRES.out

end Go.Proofs.Ytebipiehkmhaiaa
end
