/- The draw of SortingPermutation's law, by its contract; what a sorting permutation is good for. -/
import Derived.Test.YtckogbmaahenhaaDrawAp
import Derived.Test.YtckogbmaahenhaaSSort
import Derived.Test.YtckogbmaahenhaaIComp
namespace Go.Proofs.Ytckogbmaahenhaa
open Go.RowKit P

theorem sortTo_perm (l : List Int) : ∀ n, (sortTo l n).Perm (iota n)
  | 0 => by simp [sortTo, iota]
  | n + 1 => by
    have ih := sortTo_perm l n
    have e0 := List.takeWhile_append_dropWhile (p := fun x => decide (keyOf l x ≤ keyOf l (n : Int))) (l := sortTo l n)
    rw [iota_succ]
    show ((sortTo l n).takeWhile (fun x => decide (keyOf l x ≤ keyOf l (n : Int))) ++ [(n : Int)] ++ (sortTo l n).dropWhile (fun x => decide (keyOf l x ≤ keyOf l (n : Int)))).Perm _
    have h1 : ((sortTo l n).takeWhile (fun x => decide (keyOf l x ≤ keyOf l (n : Int))) ++ [(n : Int)] ++ (sortTo l n).dropWhile (fun x => decide (keyOf l x ≤ keyOf l (n : Int)))).Perm ((n : Int) :: sortTo l n) := by
      rw [List.append_assoc]
      refine List.perm_middle.trans ?_
      rw [show (∀ X : List Int, [].append X = X) from fun _ => rfl, e0]
    exact h1.trans ((ih.cons _).trans (List.perm_append_singleton _ _).symm)
/-- In the order of the numbers, and of the indices where they tie. -/
theorem sortTo_lex (l : List Int) : ∀ n, (sortTo l n).Pairwise (fun x y => keyOf l x < keyOf l y ∨ (keyOf l x = keyOf l y ∧ x < y))
  | 0 => by simp [sortTo]
  | n + 1 => by
    have ih := sortTo_lex l n
    have hof := sortTo_of l n
    have e0 := List.takeWhile_append_dropWhile (p := fun x => decide (keyOf l x ≤ keyOf l (n : Int))) (l := sortTo l n)
    have hof2 := (sortTo_of l (n + 1)).sorted
    have e1 : sortTo l (n + 1) = (sortTo l n).takeWhile (fun x => decide (keyOf l x ≤ keyOf l (n : Int))) ++ [(n : Int)] ++ (sortTo l n).dropWhile (fun x => decide (keyOf l x ≤ keyOf l (n : Int))) := rfl
    rw [e1]
    rw [← e0] at ih
    obtain ⟨p1, p2, p3⟩ := List.pairwise_append.1 ih
    have hdrop : ∀ y ∈ (sortTo l n).dropWhile (fun x => decide (keyOf l x ≤ keyOf l (n : Int))), keyOf l (n : Int) < keyOf l y := by
      intro y hy
      cases hd : (sortTo l n).dropWhile (fun x => decide (keyOf l x ≤ keyOf l (n : Int))) with
      | nil => rw [hd] at hy; simp at hy
      | cons z r =>
        have hz := List.head_dropWhile_not (fun x => decide (keyOf l x ≤ keyOf l (n : Int))) (l := sortTo l n) (by rw [hd]; simp)
        simp only [hd, List.head_cons] at hz
        have hz2 : keyOf l (n : Int) < keyOf l z := by simpa using hz
        rw [hd] at hy p2
        rcases List.mem_cons.1 hy with e | e
        · rw [e]; exact hz2
        · have := (List.pairwise_cons.1 p2).1 y e; omega
    rw [List.append_assoc]
    refine List.pairwise_append.2 ⟨p1, List.pairwise_append.2 ⟨by simp, p2, fun a ha b hb => ?_⟩, fun a ha b hb => ?_⟩
    · rw [List.mem_singleton.1 ha]; exact .inl (hdrop b hb)
    · rcases List.mem_append.1 hb with hb | hb
      · rw [List.mem_singleton.1 hb]
        have h1 := mem_takeWhile ha
        have h2 : a ∈ sortTo l n := by rw [← e0]; exact List.mem_append_left _ ha
        have h3 := iota_mem.1 ((sortTo_perm l n).mem_iff.1 h2)
        have h4 : keyOf l a ≤ keyOf l (n : Int) := by simpa using h1
        by_cases h5 : keyOf l a = keyOf l (n : Int)
        · exact .inr ⟨h5, h3.2⟩
        · exact .inl (by omega)
      · exact p3 a ha b hb
theorem sortTo_ok {l : List Int} (h : l.length ≤ 64) : OkP (sortTo l l.length) := OkP.of_perm (sortTo_perm l l.length) h
theorem sort_apply {l : List Int} (h : OkL l) : applyF (sortTo l l.length) l = (pickAt l (sortTo l l.length), true) := applyF_yes ⟨sortTo_ok h.1, h, sortTo_length l l.length⟩
theorem sort_next {l : List Int} {k : Nat} (h : k + 1 < l.length) : ∃ p0 p1 s0 s1 : Int, (sortTo l l.length)[k]? = some p0 ∧ (sortTo l l.length)[k + 1]? = some p1 ∧ (pickAt l (sortTo l l.length))[k]? = some s0 ∧ (pickAt l (sortTo l l.length))[k + 1]? = some s1 ∧ (s0 < s1 ∨ (s0 = s1 ∧ p0 < p1)) := by
  have hl := sortTo_length l l.length
  have h0 := at_getD (l := sortTo l l.length) (k := k) (by omega)
  have h1 := at_getD (l := sortTo l l.length) (k := k + 1) (by omega)
  have hlex := sortTo_lex l l.length
  rw [List.pairwise_iff_getElem] at hlex
  have hx := hlex k (k + 1) (by omega) (by omega) (by omega)
  obtain ⟨_, e0⟩ := List.getElem?_eq_some_iff.1 h0
  obtain ⟨_, e1⟩ := List.getElem?_eq_some_iff.1 h1
  rw [e0, e1] at hx
  refine ⟨_, _, keyOf l ((sortTo l l.length).getD k 0), keyOf l ((sortTo l l.length).getD (k + 1) 0), h0, h1, ?_, ?_, hx⟩
  · unfold pickAt keyOf; rw [List.getElem?_map, h0]; rfl
  · unfold pickAt keyOf; rw [List.getElem?_map, h1]; rfl

/-- A short list. -/
def OneL (w : World) (e : Ending) (w' : World) : Prop :=
  ∃ (a1 : Option Addr) (c1 : Nat) (L1 : List Int), L1.length ≤ 70 ∧ e = .returned (.slice a1 L1.length c1) ∧ FlatAt w' (.slice a1 L1.length c1) L1.length (ints L1) ∧ Below w.heap.size w w'

set_option maxRecDepth 100000 in
theorem drawSort_any (a : Option Addr) (len cap : Nat) (w : World) (h : Code0 w a len) :
    Calls Try.prog 38 #[.slice a len cap] w (OneL w) := by
  have HD : Hid (Calls Try.prog 79 #[.slice a len cap] w (OneL w)) := Lib.hid (by
    have H := Lib.hid (cur_new h cap 60)
    clear h
    go_enter Try.func79, Try.ntmps79
    go_wp2_with fail
    refine (anyInts_any w.heap.size w.heap.size a len cap 0 _ H.out (by omega)).mono ?_
    rintro e w1 ⟨v2, l2, hl2, _, rfl, hown, hc, hb⟩
    obtain ⟨a2, c2, rfl, hf⟩ := own_row' hown
    have HRES : Hid (OneL w (.returned (.slice a2 l2.length c2)) w1) := Lib.hid ⟨a2, c2, l2, by omega, rfl, hf, hb.fresh⟩
    clear hown hc hb hf H
    go_wp2_with fail
    go_ret
    exact HRES.out)
  clear h
  go_enter Try.func38, Try.ntmps38
  go_wp2_with fail
  refine (HD.out).mono ?_
  rintro e w1 ⟨a1, c1, L1, hl, rfl, hf, hb⟩
  have HRES : Hid (OneL w (.returned (.slice a1 L1.length c1)) w1) := Lib.hid ⟨a1, c1, L1, hl, rfl, hf, hb⟩
  clear hl hf hb HD
  go_wp2_with fail
  go_ret
  exact HRES.out

end Go.Proofs.Ytckogbmaahenhaa
