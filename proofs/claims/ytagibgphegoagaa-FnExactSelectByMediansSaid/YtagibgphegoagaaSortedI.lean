/- slices.Sorted over slices.Values, at lists of numbers, by its contract. -/
import Derived.Test.YtagibgphegoagaaVals
import Derived.Test.YtagibgphegoagaaShelf
import Derived.Lib.SlKeysI
namespace Go.Proofs.Ytagibgphegoagaa
open Go.RowKit Go.Sort
set_option linter.unusedVariables false

theorem merge_srt (l : List Int) : l.mergeSort (fun x y => decide (x ≤ y)) = El.srt l := by
  refine El.srt_uniq ?_ (List.mergeSort_perm _ _)
  have h := List.pairwise_mergeSort (le := fun x y : Int => decide (x ≤ y)) (fun a b c h1 h2 => by simp only [decide_eq_true_eq] at *; omega) (fun a b => by simp only [Bool.or_eq_true, decide_eq_true_eq]; omega) l
  exact h.imp fun h => by simpa using h

theorem collect_any (w : World) (B1 bp o c : Nat) (a : Option Addr) (l : List Int) (hl : l.length ≤ 1048576) (hB1 : B1 < w.heap.size) (hbp : bp < w.heap.size)
    (hc1 : w.cell? ⟨B1, 0, none⟩ = some (.slice a l.length c)) (hcp : ∀ (j : Nat) x, l[j]? = some x → a = some ⟨bp, o, none⟩ ∧ w.cell? ⟨bp, o + j, none⟩ = some (.int .i64 x)) :
    Calls Try.prog 148 #[.func (.func 149) #[] #[.pointer (some ⟨B1, 0, none⟩)]] w fun e w' => ∃ v', e = .returned v' ∧ w'.ownsRow w.heap.size 3 1 v' l.length (ints l) ∧ Below w.heap.size w w' := by
  have HA := Lib.hid (appendSeqI_any w B1 bp o c a l hl hB1 hbp hc1 hcp)
  clear hc1 hcp
  go_enter Try.func148, Try.ntmps148
  go_wp2_with fail
  refine (HA.out).mono ?_
  rintro e w1 ⟨v, rfl, h1, h2⟩
  have H1 := Lib.hid h1
  have H2 := Lib.hid h2
  clear h1 h2
  go_wp2_with fail
  go_ret
  exact ⟨v, rfl, H1.out, H2.out⟩

theorem sortedI_any (w : World) (B1 bp o c : Nat) (a : Option Addr) (l : List Int) (hl : l.length ≤ 1048576) (hB1 : B1 < w.heap.size) (hbp : bp < w.heap.size)
    (hc1 : w.cell? ⟨B1, 0, none⟩ = some (.slice a l.length c)) (hcp : ∀ (j : Nat) x, l[j]? = some x → a = some ⟨bp, o, none⟩ ∧ w.cell? ⟨bp, o + j, none⟩ = some (.int .i64 x)) :
    Calls Try.prog 104 #[.func (.func 149) #[] #[.pointer (some ⟨B1, 0, none⟩)]] w fun e w' => ∃ a' c', e = .returned (.slice a' (El.srt l).length c') ∧ FlatAt w' (.slice a' (El.srt l).length c') (El.srt l).length (ints (El.srt l)) ∧ Below w.heap.size w w' := by
  have HC := Lib.hid (collect_any w B1 bp o c a l hl hB1 hbp hc1 hcp)
  have hsl := El.srt_length l
  have HMS := Lib.hid (merge_srt l)
  clear hc1 hcp
  go_enter Try.func104, Try.ntmps104
  go_wp2_with fail
  refine (HC.out).mono ?_
  rintro e w1 ⟨v, rfl, hrow, hb⟩
  have HB := Lib.hid hb
  clear hb HC
  rcases hrow.2 with ⟨rfl, hz⟩ | ⟨gb, cap, cur, rfl, hbase, hgb, r1, r2, r3, r4⟩
  · have hl0 : l = [] := List.eq_nil_of_length_eq_zero hz
    subst hl0
    have HS := Lib.hid (Try.slices_Sort_int_none none 0 w1)
    clear hrow hz hsl HMS
    go_wp2_with fail
    refine (HS.out).mono ?_
    rintro e w2 ⟨rfl, rfl⟩
    go_wp2_with fail
    go_ret
    exact ⟨none, 0, rfl, ⟨none, 0, rfl, Nat.le_refl _, fun j u hu => by simp [El.srt, El.insF, El.gapF, El.insN, ints] at hu⟩, HB.out⟩
  · have hH : Holds encZ w1 gb 0 l.toArray := holds_of_block_i hgb (by simpa [ints, encZ] using r4)
    have hgl : gb < w1.heap.size := (Array.getElem?_eq_some_iff.1 hgb).1
    have HS := Lib.hid (Try.slices_Sort_int gb 0 cap l w1 hH hgl (by omega))
    have HR : Hid (∀ n os, FlatAt (grow (putRow encZ (Sort.ahead w1 n) gb 0 (El.srt l).toArray) os) (.slice (some ⟨gb, 0, none⟩) l.length cap) l.length (ints (El.srt l)) ∧ Below w.heap.size w (grow (putRow encZ (Sort.ahead w1 n) gb 0 (El.srt l).toArray) os)) := Lib.hid (fun n os => by
      have h := ownsRow_sorted_i (n := n) (os := os) (ts := El.srt l) hsl hbase hgb r1 r2 r3
      obtain ⟨_, h2, h3⟩ := CellRow.of_own h
      exact ⟨h3.flat h2, HB.out.grown (grownBy_sorted_i _) HB.out.size (fun j hj => by cases hj; exact hbase)⟩)
    clear hrow hbase hgb r1 r2 r3 r4 hH hgl
    go_wp2_with fail
    refine (HS.out).mono ?_
    rintro e w2 ⟨rfl, n, os, rfl⟩
    rw [HMS.out]
    have HR2 := Lib.hid (HR.out n os)
    clear HR HS
    generalize grow (putRow (Value.int .i64) (Sort.ahead w1 n) gb 0 (El.srt l).toArray) os = w3 at *
    have HRES : Hid (∃ a' c', Ending.returned (.slice (some ⟨gb, 0, none⟩) l.length cap) = .returned (.slice a' (El.srt l).length c') ∧ FlatAt w3 (.slice a' (El.srt l).length c') (El.srt l).length (ints (El.srt l)) ∧ Below w.heap.size w w3) := Lib.hid ⟨_, _, by rw [hsl], by rw [hsl]; exact HR2.out.1, HR2.out.2⟩
    clear HR2 hsl HMS
    go_wp2_with fail
    go_ret
    exact HRES.out

end Go.Proofs.Ytagibgphegoagaa
