/- Three lists that grow by append, in different blocks. -/
import Derived.Test.YtagibgphegoagaaQuickA
import Derived.Test.YtagibgphegoagaaOwnN
import Derived.Test.YtagibgphegoagaaRet12
import Derived.Test.YtagibgphegoagaaRes4
import Derived.BigRegion
import Derived.BigQuiet
import Derived.Deep.QuietTactic
import Derived.Laws.BitsLemmas
namespace Go.Proofs.Ytagibgphegoagaa
open Go.RowKit P El Qk
set_option linter.unusedVariables false
attribute [local go_sem ↓ high] builtin_append_held

/-- Two lists in different blocks. -/
def Apart (u v : Value) : Prop := ∀ g, u.ownBlock = some g → v.ownBlock = some g → False
theorem Apart.symm {u v : Value} (h : Apart u v) : Apart v u := fun g a b => h g b a
theorem Apart.of {base g n c : Nat} {w : World} {u v : Value} {M : List Int} (h : Apart u v) (hv : Held base w v M) (hg : u.ownBlock = some g ∨ w.heap.size ≤ g) : Apart (.slice (some ⟨g, 0, none⟩) n c) v := fun k a b => by
  obtain rfl : g = k := by simpa [Value.ownBlock] using a
  rcases hg with hg | hg
  · exact h g hg b
  · have := (hv.1.lt g b).2; omega
theorem Held.keepN {base : Nat} {w w' : World} {u v : Value} {M : List Int} (hv : Held base w v M) (h : Apart u v) (hf : ∀ k, k < w.heap.size → u.ownBlock ≠ some k → w'.heap[k]? = w.heap[k]?) : Held base w' v M :=
  hv.own (fun g c e hg => hf g hg (fun hu => h g hu (by rw [e]; rfl)))
/-- The three lists. -/
structure Du3 (base : Nat) (u v t : Value) (A B C : List Int) (w0 w : World) : Prop where
  a : Held base w u A
  b : Held base w v B
  c : Held base w t C
  ab : Apart u v
  ac : Apart u t
  bc : Apart v t
  bl : Below base w0 w
/-- 'append(l, n)' to one of them. -/
theorem appD (base : Nat) (v : Value) (L : List Int) (x : Int) (w : World) (h : Held base w v L) (hb : base ≤ w.heap.size) (hn : L.length ≤ 1048576) :
    ∃ g' c' w', (heldAppend #[34, 34] 34 #[v, .slice (some ⟨w.heap.size, 0, none⟩) 1 1]).run Try.prog (w.alloc (.cells #[.int .i64 x] 3)) = .ok (.slice (some ⟨g', 0, none⟩) (L.length + 1) c') w' ∧
      Held base w' (.slice (some ⟨g', 0, none⟩) (L.length + 1) c') (L ++ [x]) ∧ Below base w w' ∧ (∀ k, k < w.heap.size → v.ownBlock ≠ some k → w'.heap[k]? = w.heap[k]?) ∧ (v.ownBlock = some g' ∨ w.heap.size ≤ g') := by
  obtain ⟨g', c', w', h1, h2, h3, h4, h5⟩ := appendN base v L x w h.1 hb hn
  have e : (L ++ [x]).length = L.length + 1 := by simp
  rw [e] at h2
  exact ⟨g', c', w', h1, ⟨h2, g', c', by rw [e]⟩, h3, h4, h5⟩
/-- 'append(l, list...)', and what else stays. -/
theorem appM (base : Nat) (v : Value) (L : List Int) (b o c : Nat) (l : List Int) (w : World) (h : Held base w v L) (hb : base ≤ w.heap.size) (hn : L.length + l.length ≤ 2097152)
    (hl : ∀ (j : Nat) u, (ints l)[j]? = some u → w.cell? ⟨b, o + j, none⟩ = some u) :
    ∃ v' w', (heldAppend #[34, 34] 34 #[v, .slice (some ⟨b, o, none⟩) l.length c]).run Try.prog w = .ok v' w' ∧
      Held base w' v' (L ++ l) ∧ Below base w w' ∧ (∀ k, k < w.heap.size → v.ownBlock ≠ some k → w'.heap[k]? = w.heap[k]?) ∧ w.heap.size ≤ w'.heap.size := by
  obtain ⟨i0, hi, hz0, hz1, hz2⟩ := info_parts infoIntH
  obtain ⟨h, g, cv, rfl⟩ := h
  obtain ⟨v', w', hrun, hown, hgrow, hnil⟩ := run_append_own (P := Try.prog) (w := w) base 34 34 3 i0 (.int .i64 0) 1 8 Try.underlying34 hi hz0 hz1 hz2 rfl (by decide)
    _ L.length (ints L) h ⟨b, o, none⟩ l.length c (ints l) (by rw [ints_length, Nat.mul_one]) (fun j u hu => by
      have e : (⟨b, o, none⟩ : Addr).add j = ⟨b, o + j, none⟩ := by
        unfold Addr.add; split
        · rename_i h; subst h; rfl
        · rfl
      rw [e]; exact hl j u hu) (ints_one l) (by unfold maxLen; omega) (by omega) (by omega)
  rw [← ints_append L l, ← show (L ++ l).length = L.length + l.length by simp] at hown
  have hbl : Below base w w' := (Below.refl base w).grown hgrow (by omega) (fun j e => (h.lt j e).1)
  refine ⟨v', w', hrun, ⟨hown, ?_⟩, hbl, fun k hk hne => hgrow.block k hk (Ne.symm hne), hbl.size⟩
  rcases hown.2 with ⟨e, hz⟩ | ⟨g', cap, cur, e, _⟩
  · have := (hnil.1 e).1
    simp at this
  · exact ⟨g', cap, e⟩
theorem Du3.low {base : Nat} {u v t : Value} {A B C : List Int} {w0 w : World} (h : Du3 base u v t A B C w0 w) (hb : base ≤ w.heap.size) (hn : A.length ≤ 1048576) (x : Int) :
    ∃ g' c' w', (heldAppend #[34, 34] 34 #[u, .slice (some ⟨w.heap.size, 0, none⟩) 1 1]).run Try.prog (w.alloc (.cells #[.int .i64 x] 3)) = .ok (.slice (some ⟨g', 0, none⟩) (A.length + 1) c') w' ∧ Du3 base (.slice (some ⟨g', 0, none⟩) (A.length + 1) c') v t (A ++ [x]) B C w0 w' := by
  obtain ⟨g', c', w', h1, h2, h3, h4, h5⟩ := appD base u A x w h.a hb hn
  exact ⟨g', c', w', h1, h2, h.b.keepN h.ab h4, h.c.keepN h.ac h4, h.ab.of h.b h5, h.ac.of h.c h5, h.bc, h.bl.trans h3⟩
theorem Du3.mid {base : Nat} {u v t : Value} {A B C : List Int} {w0 w : World} (h : Du3 base u v t A B C w0 w) (hb : base ≤ w.heap.size) (hn : B.length ≤ 1048576) (x : Int) :
    ∃ g' c' w', (heldAppend #[34, 34] 34 #[v, .slice (some ⟨w.heap.size, 0, none⟩) 1 1]).run Try.prog (w.alloc (.cells #[.int .i64 x] 3)) = .ok (.slice (some ⟨g', 0, none⟩) (B.length + 1) c') w' ∧ Du3 base u (.slice (some ⟨g', 0, none⟩) (B.length + 1) c') t A (B ++ [x]) C w0 w' := by
  obtain ⟨g', c', w', h1, h2, h3, h4, h5⟩ := appD base v B x w h.b hb hn
  exact ⟨g', c', w', h1, h.a.keepN h.ab.symm h4, h2, h.c.keepN h.bc h4, (h.ab.symm.of h.a h5).symm, h.ac, h.bc.of h.c h5, h.bl.trans h3⟩
theorem Du3.high {base : Nat} {u v t : Value} {A B C : List Int} {w0 w : World} (h : Du3 base u v t A B C w0 w) (hb : base ≤ w.heap.size) (hn : C.length ≤ 1048576) (x : Int) :
    ∃ g' c' w', (heldAppend #[34, 34] 34 #[t, .slice (some ⟨w.heap.size, 0, none⟩) 1 1]).run Try.prog (w.alloc (.cells #[.int .i64 x] 3)) = .ok (.slice (some ⟨g', 0, none⟩) (C.length + 1) c') w' ∧ Du3 base u v (.slice (some ⟨g', 0, none⟩) (C.length + 1) c') A B (C ++ [x]) w0 w' := by
  obtain ⟨g', c', w', h1, h2, h3, h4, h5⟩ := appD base t C x w h.c hb hn
  exact ⟨g', c', w', h1, h.a.keepN h.ac.symm h4, h.b.keepN h.bc.symm h4, h2, h.ab, (h.ac.symm.of h.a h5).symm, (h.bc.symm.of h.b h5).symm, h.bl.trans h3⟩

theorem filt_yes {l : List Int} {p : Int → Bool} {k : Nat} {x : Int} (h : l[k]? = some x) (hp : p x = true) : (l.take (k + 1)).filter p = (l.take k).filter p ++ [x] := by
  rw [List.take_add_one, h, List.filter_append]; simp [hp]
theorem filt_no {l : List Int} {p : Int → Bool} {k : Nat} {x : Int} (h : l[k]? = some x) (hp : p x = false) : (l.take (k + 1)).filter p = (l.take k).filter p := by
  rw [List.take_add_one, h, List.filter_append]; simp [hp]
theorem filt_len {l : List Int} (p : Int → Bool) (k : Nat) : ((l.take k).filter p).length ≤ l.length :=
  Nat.le_trans (List.length_filter_le _ _) (by rw [List.length_take]; omega)

end Go.Proofs.Ytagibgphegoagaa
