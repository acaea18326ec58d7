/- SegT SegB SrtG IPs IPs2 IPs3 IFin IIk SInsS SIt0 SIt SIk, as one text. -/
import Derived.Test.YtipdfmedbcafpaaSeg
import Derived.Test.YtipdfmedbcafpaaQuickP
import Derived.Test.YtipdfmedbcafpaaIThr
import Derived.Test.YtipdfmedbcafpaaIMed
import Derived.Defers
import Derived.StillTailTactics
import Derived.Deep.RegionWith
import Derived.Test.YtipdfmedbcafpaaList
import Derived.Test.YtipdfmedbcafpaaIList
import Derived.Test.YtipdfmedbcafpaaCloneI
import Derived.Test.YtipdfmedbcafpaaRet12
import Derived.Laws.EntriesVeiled
import Derived.Test.YtipdfmedbcafpaaIInsF
import Derived.Test.YtipdfmedbcafpaaIBld
import Derived.Laws.IdiomCopy
import Derived.Test.YtipdfmedbcafpaaRes4
import Derived.Test.YtipdfmedbcafpaaElem2
import Derived.BigRegion
import Derived.BigQuiet
import Derived.Deep.QuietTactic
import Derived.Laws.BitsLemmas
import Derived.Test.YtipdfmedbcafpaaSMed
import Derived.Test.YtipdfmedbcafpaaSThr
import Derived.Test.YtipdfmedbcafpaaSrt
import Derived.Test.YtipdfmedbcafpaaIn
import Derived.Test.YtipdfmedbcafpaaQuickA

section
/- A part of a row, partitioned in three, its outer two sorted. Nothing of the program. -/
namespace Go.Proofs.Ytipdfmedbcafpaa
open Go.RowKit P El Qk
set_option linter.unusedVariables false

theorem cut_three {M : List Int} {lt gt : Nat} (h : lt ≤ gt) : M = M.take lt ++ ((M.take gt).drop lt ++ M.drop gt) := by
  have e : M.take lt ++ (M.take gt).drop lt = M.take gt := by
    have := List.take_append_drop lt (M.take gt)
    rw [List.take_take, Nat.min_eq_left h] at this; exact this
  rw [← List.append_assoc, e, List.take_append_drop]
theorem Seg.parts {g o lt gt : Nat} {M : List Int} {w : World} (h : Seg w g o (ints M)) (h1 : lt ≤ gt) (h2 : gt ≤ M.length) :
    Seg w g o (ints (M.take lt)) ∧ Seg w g (o + lt) (ints ((M.take gt).drop lt)) ∧ Seg w g (o + gt) (ints (M.drop gt)) := by
  rw [cut_three (M := M) h1, ints_append, ints_append] at h
  have e1 := h.fst
  have e2 := h.snd.fst
  have e3 := h.snd.snd
  rw [ints_length, List.length_take, Nat.min_eq_left (by omega)] at e2 e3
  rw [ints_length, List.length_drop, List.length_take, Nat.min_eq_left h2, show o + lt + (gt - lt) = o + gt by omega] at e3
  exact ⟨e1, e2, e3⟩
theorem Seg.three {g o n lt gt : Nat} {M A B : List Int} {w2 w3 w4 : World} (h : Seg w2 g o (ints M)) (hM : M.length = n) (h1 : lt ≤ gt) (h2 : gt ≤ n) (hA : A.length = lt) (hB : B.length = n - gt)
    (p1 : SegP g o lt A w2 w3) (p2 : SegP g (o + gt) (n - gt) B w3 w4) : SegP g o n (A ++ ((M.take gt).drop lt ++ B)) w2 w4 := by
  obtain ⟨e1, e2, e3⟩ := h.parts h1 (by omega)
  have hml : ((M.take gt).drop lt).length = gt - lt := by rw [List.length_drop, List.length_take, Nat.min_eq_left (by omega)]
  have m3 := e2.keep p1.2 (.inr (Nat.le_refl _))
  have m4 := m3.keep p2.2 (.inl (by rw [ints_length, hml]; omega))
  have a4 := p1.1.keep p2.2 (.inl (by rw [ints_length, hA]; omega))
  refine ⟨?_, (p1.2.wide (Nat.le_refl _) (by omega)).trans (p2.2.wide (by omega) (by omega))⟩
  rw [ints_append, ints_append]
  exact a4.join (m4.join p2.1 (by rw [ints_length, hml]; omega)) (by rw [ints_length, hA])

end Go.Proofs.Ytipdfmedbcafpaa
end

section
/- What moves beside a part of a row: some blocks. Nothing of the program. -/
namespace Go.Proofs.Ytipdfmedbcafpaa
open Go.RowKit P El Qk
set_option linter.unusedVariables false

/-- Nothing but n cells of block g from o on, and the blocks of Q, moved. -/
structure SegB (g o n : Nat) (Q : Nat → Prop) (w w' : World) : Prop where
  os : w'.os = w.os
  tape : w'.tape = w.tape
  output : w'.output = w.output
  size : w.heap.size ≤ w'.heap.size
  block : ∀ k, k < w.heap.size → k ≠ g → ¬ Q k → w'.heap[k]? = w.heap[k]?
  fz : ∀ j, w'.frozen? ⟨g, j, none⟩ = w.frozen? ⟨g, j, none⟩
  cell : ∀ j, j < o ∨ o + n ≤ j → w'.cell? ⟨g, j, none⟩ = w.cell? ⟨g, j, none⟩
theorem SegB.refl (g o n : Nat) (Q : Nat → Prop) (w : World) : SegB g o n Q w w := ⟨rfl, rfl, rfl, Nat.le_refl _, fun _ _ _ _ => rfl, fun _ => rfl, fun _ _ => rfl⟩
theorem SegB.trans {g o n : Nat} {Q : Nat → Prop} {a b c : World} (h : SegB g o n Q a b) (k : SegB g o n Q b c) : SegB g o n Q a c :=
  ⟨k.os.trans h.os, k.tape.trans h.tape, k.output.trans h.output, Nat.le_trans h.size k.size, fun i hi hg hq => (k.block i (Nat.lt_of_lt_of_le hi h.size) hg hq).trans (h.block i hi hg hq),
    fun j => (k.fz j).trans (h.fz j), fun j hj => (k.cell j hj).trans (h.cell j hj)⟩
theorem SegB.wide {g o n o' n' : Nat} {Q : Nat → Prop} {a b : World} (h : SegB g o n Q a b) (h1 : o' ≤ o) (h2 : o + n ≤ o' + n') : SegB g o' n' Q a b :=
  ⟨h.os, h.tape, h.output, h.size, h.block, h.fz, fun j hj => h.cell j (by omega)⟩
theorem SegB.zero {g o p : Nat} {Q : Nat → Prop} {a b : World} (h : SegB g o 0 Q a b) : SegB g p 0 Q a b :=
  ⟨h.os, h.tape, h.output, h.size, h.block, h.fz, fun j _ => h.cell j (by omega)⟩
theorem SegB.more {g o n : Nat} {Q R : Nat → Prop} {a b : World} (h : SegB g o n Q a b) (hq : ∀ k, Q k → R k) : SegB g o n R a b :=
  ⟨h.os, h.tape, h.output, h.size, fun k hk hg hr => h.block k hk hg (fun h => hr (hq k h)), h.fz, h.cell⟩
theorem ButS.segB {g o n : Nat} {a b : World} (h : ButS g o n a b) (Q : Nat → Prop) : SegB g o n Q a b :=
  ⟨h.but.os, h.but.tape, h.but.output, h.but.size, fun k hk hg _ => h.but.block k hk hg, h.fz, h.cell⟩
theorem SegB.drewN {g o n : Nat} {Q : Nat → Prop} {a w : World} (h : SegB g o n Q a w) (t : Nat) : SegB g o n Q a (w.drewN t) := ⟨h.os, h.tape, h.output, h.size, h.block, h.fz, h.cell⟩
theorem SegB.ofBelow {g o n : Nat} {a b : World} (h : Below a.heap.size a b) (hg : g < a.heap.size) (Q : Nat → Prop) : SegB g o n Q a b := (ButS.ofBelow h hg).segB Q
/-- A store in one of the blocks. -/
theorem SegB.put {g o n : Nat} {Q : Nat → Prop} {a w : World} (h : SegB g o n Q a w) (s i : Nat) (u : Value) (hs : Q s) (hg : s ≠ g) : SegB g o n Q a (w.setCell ⟨s, i, none⟩ u) := by
  have hb := (Below.refl s w).setCell (p := ⟨s, i, none⟩) (Nat.le_refl _) u
  have hbg : (w.setCell ⟨s, i, none⟩ u).heap[g]? = w.heap[g]? := Below.heap_setCell w ⟨s, i, none⟩ u g (fun e => hg e.symm)
  refine ⟨hb.os.trans h.os, hb.tape.trans h.tape, hb.output.trans h.output, Nat.le_trans h.size hb.size, fun k hk hkg hq => (Below.heap_setCell w ⟨s, i, none⟩ u k (fun e => hq (e ▸ hs))).trans (h.block k hk hkg hq), fun j => ?_, fun j hj => ?_⟩
  · rw [World.frozen?_setCell]; exact h.fz j
  · rw [World.cell?_of_block (w := w) hbg]; exact h.cell j hj
theorem SegB.row {g o n k : Nat} {Q : Nat → Prop} {a b : World} {cs : List Value} (h : SegB g o n Q a b) (hr : CellRow a k cs) (hg : k ≠ g) (hq : ¬ Q k) : CellRow b k cs := hr.same (h.block k hr.1 hg hq) h.size
theorem Seg.keepB {w w' : World} {g o p n : Nat} {Q : Nat → Prop} {cs : List Value} (h : Seg w g o cs) (hb : SegB g p n Q w w') (hd : o + cs.length ≤ p ∨ p + n ≤ o) : Seg w' g o cs :=
  ⟨Nat.lt_of_lt_of_le h.1 hb.size, fun j u hu => by
    have hj := (List.getElem?_eq_some_iff.1 hu).1
    rw [hb.cell _ (by omega), hb.fz]
    exact h.2 j u hu⟩
theorem SegB.below {g o n B : Nat} {Q : Nat → Prop} {a b : World} (h : SegB g o n Q a b) (hg : B ≤ g) (hq : ∀ k, Q k → B ≤ k) (hs : B ≤ a.heap.size) : Below B a b :=
  ⟨h.os, h.tape, h.output, h.size, fun k hk => h.block k (by omega) (by omega) (fun hh => by have := hq k hh; omega)⟩
/-- Three parts, the outer two sorted one after the other. -/
theorem Seg.threeB {g o n lt gt : Nat} {Q : Nat → Prop} {M A B : List Int} {w2 w3 w4 : World} (h : Seg w2 g o (ints M)) (hM : M.length = n) (h1 : lt ≤ gt) (h2 : gt ≤ n) (hA : A.length = lt) (hB : B.length = n - gt)
    (s1 : Seg w3 g o (ints A)) (p1 : SegB g o lt Q w2 w3) (s2 : Seg w4 g (o + gt) (ints B)) (p2 : SegB g (o + gt) (n - gt) Q w3 w4) : Seg w4 g o (ints (A ++ ((M.take gt).drop lt ++ B))) ∧ SegB g o n Q w2 w4 := by
  obtain ⟨e1, e2, e3⟩ := h.parts h1 (by omega)
  have hml : ((M.take gt).drop lt).length = gt - lt := by rw [List.length_drop, List.length_take, Nat.min_eq_left (by omega)]
  have m3 := e2.keepB p1 (.inr (Nat.le_refl _))
  have m4 := m3.keepB p2 (.inl (by rw [ints_length, hml]; omega))
  have a4 := s1.keepB p2 (.inl (by rw [ints_length, hA]; omega))
  refine ⟨?_, (p1.wide (Nat.le_refl _) (by omega)).trans (p2.wide (by omega) (by omega))⟩
  rw [ints_append, ints_append]
  exact a4.join (m4.join s2 (by rw [ints_length, hml]; omega)) (by rw [ints_length, hA])

end Go.Proofs.Ytipdfmedbcafpaa
end

section
/- The sort of parts by whatever finish, pure. Nothing of the program. -/
namespace Go.Proofs.Ytipdfmedbcafpaa
set_option linter.unusedVariables false
namespace Qk
open P El

/-- What a finish makes of a part at a depth: the part and what it counts, or nothing. -/
abbrev Fin3 := Nat → List Int → Option (List Int × Nat)
def sgDone (L : List Int) : Option (List Int × Nat) → List Int × Nat × Nat
  | some r => (r.1, 0, r.2)
  | none => (L, 0, 0)
def sgJoin (M : List Int) (lt gt : Nat) (A B : List Int × Nat × Nat) : List Int × Nat × Nat := (A.1 ++ ((M.take gt).drop lt ++ B.1), 1 + A.2.1 + B.2.1, A.2.2 + B.2.2)
def sg (fin : Fin3) : Nat → Nat → List Int → List Int × Nat × Nat
  | 0, d, L => sgDone L (fin d L)
  | f + 1, d, L => if (fin d L).isSome then sgDone L (fin d L) else
      sgJoin (thF L (L.getD (medF L) 0)).1 (thF L (L.getD (medF L) 0)).2.1 (thF L (L.getD (medF L) 0)).2.2
        (sg fin f (d + 1) ((thF L (L.getD (medF L) 0)).1.take (thF L (L.getD (medF L) 0)).2.1)) (sg fin f (d + 1) ((thF L (L.getD (medF L) 0)).1.drop (thF L (L.getD (medF L) 0)).2.2))
theorem sg_done {fin : Fin3} {d : Nat} {L M : List Int} {h : Nat} (e : fin d L = some (M, h)) (f : Nat) : sg fin f d L = (M, 0, h) := by
  cases f with
  | zero => show sgDone L (fin d L) = _; rw [e]; rfl
  | succ f => show (if _ then _ else _) = _; rw [e]; rfl
theorem sg_go {fin : Fin3} {f d : Nat} {L M : List Int} {lt gt : Nat} (e : fin d L = none) (ht : thF L (L.getD (medF L) 0) = (M, lt, gt)) :
    sg fin (f + 1) d L = sgJoin M lt gt (sg fin f (d + 1) (M.take lt)) (sg fin f (d + 1) (M.drop gt)) := by
  show (if _ then _ else _) = _; rw [e, ht]; rfl
/-- A good finish: it takes all small parts, it keeps the length, and it does not count too much. -/
structure FinOk (fin : Fin3) : Prop where
  small : ∀ d L, L.length < 2 → ∃ r, fin d L = some r
  len : ∀ d L M h, fin d L = some (M, h) → M.length = L.length ∧ h ≤ L.length
theorem FinOk.two {fin : Fin3} (hf : FinOk fin) {d : Nat} {L : List Int} (e : fin d L = none) : ¬ L.length < 2 := fun h => by
  obtain ⟨r, hr⟩ := hf.small d L h
  rw [hr] at e; cases e
theorem sg_spec {fin : Fin3} (hf : FinOk fin) : ∀ (f d : Nat) (L : List Int), L.length ≤ f → (sg fin f d L).1.length = L.length ∧ (sg fin f d L).2.1 ≤ L.length ∧ (sg fin f d L).2.2 ≤ L.length
  | 0, d, L, h => by
    obtain ⟨⟨M, k⟩, hr⟩ := hf.small d L (by omega)
    rw [sg_done hr]
    have := hf.len d L M k hr
    exact ⟨this.1, Nat.zero_le _, this.2⟩
  | f + 1, d, L, h => by
    cases e : fin d L with
    | some r =>
      obtain ⟨M, k⟩ := r
      rw [sg_done e]
      have := hf.len d L M k e
      exact ⟨this.1, Nat.zero_le _, this.2⟩
    | none =>
      have hs := hf.two e
      have hm := getD_mem (medF_lt (L := L) (by omega))
      have ht := thF_spec L (L.getD (medF L) 0)
      have hx := thF_some hm
      obtain ⟨⟨M, lt, gt⟩, he⟩ : ∃ T, thF L (L.getD (medF L) 0) = T := ⟨_, rfl⟩
      rw [he] at ht hx
      simp only at ht hx
      rw [sg_go e he]
      obtain ⟨p1, p2⟩ := part_lens ht
      have a3 := ht.h3
      obtain ⟨b1, b2, b3⟩ := sg_spec hf f (d + 1) (M.take lt) (by omega)
      obtain ⟨c1, c2, c3⟩ := sg_spec hf f (d + 1) (M.drop gt) (by omega)
      have hl := ht.perm.length_eq
      unfold sgJoin
      refine ⟨?_, by simp only; omega, by simp only; omega⟩
      simp only [List.length_append, List.length_drop, List.length_take]
      omega

/-- Quicksort's finish. -/
def finQ : Fin3 := fun _ L => if L.length < 2 then some (L, 0) else none
theorem finQ_ok : FinOk finQ := ⟨fun d L h => ⟨_, if_pos h⟩, fun d L M k h => by
  unfold finQ at h; split at h
  · obtain ⟨rfl, rfl⟩ := Prod.mk.inj (Option.some.inj h); exact ⟨rfl, Nat.zero_le _⟩
  · cases h⟩
theorem sg_qs : ∀ (f d : Nat) (L : List Int), L.length ≤ f → sg finQ f d L = ((qs f L).1, (qs f L).2, 0)
  | 0, d, L, h => by rw [sg_done (M := L) (h := 0) (if_pos (by omega)), qs_small (by omega)]
  | f + 1, d, L, h => by
    by_cases hs : L.length < 2
    · rw [sg_done (M := L) (h := 0) (if_pos hs), qs_small hs]
    · have ht := thF_spec L (L.getD (medF L) 0)
      have hx := thF_some (getD_mem (medF_lt (L := L) (by omega)))
      obtain ⟨⟨M, lt, gt⟩, he⟩ : ∃ T, thF L (L.getD (medF L) 0) = T := ⟨_, rfl⟩
      rw [he] at ht hx
      simp only at ht hx
      obtain ⟨p1, p2⟩ := part_lens ht
      have a3 := ht.h3
      rw [sg_go (if_neg hs) he, qs_big hs he, sg_qs f (d + 1) (M.take lt) (by omega), sg_qs f (d + 1) (M.drop gt) (by omega)]
      rfl
/-- Introsort's. -/
def finI (m : Nat) : Fin3 := fun d L => if L.length ≤ 5 then some (srt L, 0) else if d = m then some (srt L, 1) else none
theorem finI_small {m d : Nat} {L : List Int} (h : L.length ≤ 5) : finI m d L = some (srt L, 0) := if_pos h
theorem finI_heap {m d : Nat} {L : List Int} (h : ¬ L.length ≤ 5) (hd : d = m) : finI m d L = some (srt L, 1) := by unfold finI; rw [if_neg h, if_pos hd]
theorem finI_none {m d : Nat} {L : List Int} (h : ¬ L.length ≤ 5) (hd : ¬ d = m) : finI m d L = none := by unfold finI; rw [if_neg h, if_neg hd]
theorem finI_ok (m : Nat) : FinOk (finI m) := ⟨fun d L h => ⟨_, finI_small (by omega)⟩, fun d L M k h => by
  by_cases h5 : L.length ≤ 5
  · rw [finI_small h5] at h; obtain ⟨rfl, rfl⟩ := Prod.mk.inj (Option.some.inj h); exact ⟨srt_length _, Nat.zero_le _⟩
  · by_cases hd : d = m
    · rw [finI_heap h5 hd] at h; obtain ⟨rfl, rfl⟩ := Prod.mk.inj (Option.some.inj h); exact ⟨srt_length _, by omega⟩
    · rw [finI_none h5 hd] at h; cases h⟩
theorem sg_it (m : Nat) : ∀ (k f d : Nat) (L : List Int), L.length ≤ f → d + k = m → sg (finI m) f d L = itn k L
  | k, f, d, L, h, hd => by
    by_cases h5 : L.length ≤ 5
    · rw [sg_done (finI_small h5), itn_small h5]
    · cases k with
      | zero => rw [sg_done (finI_heap h5 (by omega)), itn_heap h5]
      | succ k =>
        obtain ⟨f, rfl⟩ : ∃ f', f = f' + 1 := ⟨f - 1, by omega⟩
        have ht := thF_spec L (L.getD (medF L) 0)
        have hx := thF_some (getD_mem (medF_lt (L := L) (by omega)))
        obtain ⟨⟨M, lt, gt⟩, he⟩ : ∃ T, thF L (L.getD (medF L) 0) = T := ⟨_, rfl⟩
        rw [he] at ht hx
        simp only at ht hx
        obtain ⟨p1, p2⟩ := part_lens ht
        have a3 := ht.h3
        rw [sg_go (finI_none h5 (by omega)) he, itn_big h5 he, sg_it m k f (d + 1) (M.take lt) (by omega) (by omega), sg_it m k f (d + 1) (M.drop gt) (by omega) (by omega)]
        rfl

end Qk
end Go.Proofs.Ytipdfmedbcafpaa
end

section
/- The program's sorter of parts: its deferred step back, by its contract. -/
namespace Go.Proofs.Ytipdfmedbcafpaa
open Go.RowKit P El Qk
set_option linter.unusedVariables false

/-- The sorter's cells. -/
def pst (fv : Value) (d q : Nat) : List Value := [fv, .int .i64 (d : Int), .int .i64 (q : Int)]
theorem pst_at {w : World} {s : Nat} {fv : Value} {d q : Nat} (h : CellRow w s (pst fv d q)) :
    w.cell? ⟨s, 0, none⟩ = some fv ∧ w.cell? ⟨s, 1, none⟩ = some (.int .i64 (d : Int)) ∧ w.cell? ⟨s, 2, none⟩ = some (.int .i64 (q : Int)) ∧ w.frozen? ⟨s, 1, none⟩ = false ∧ w.frozen? ⟨s, 2, none⟩ = false := by
  have h0 := h.2 0 _ rfl
  have h1 := h.2 1 _ rfl
  have h2 := h.2 2 _ rfl
  exact ⟨h0.1, h1.1, h2.1, h1.2, h2.2⟩
theorem pst_depth {w : World} {s : Nat} {fv : Value} {d q : Nat} (h : CellRow w s (pst fv d q)) (x : Nat) : CellRow (w.setCell ⟨s, 1, none⟩ (.int .i64 (x : Int))) s (pst fv x q) := by
  rw [show pst fv x q = (pst fv d q).set 1 (.int .i64 (x : Int)) from rfl]; exact h.set 1 _ (by simp [pst])
theorem pst_steps {w : World} {s : Nat} {fv : Value} {d q : Nat} (h : CellRow w s (pst fv d q)) (x : Nat) : CellRow (w.setCell ⟨s, 2, none⟩ (.int .i64 (x : Int))) s (pst fv d x) := by
  rw [show pst fv d x = (pst fv d q).set 2 (.int .i64 (x : Int)) from rfl]; exact h.set 2 _ (by simp [pst])

set_option maxRecDepth 100000 in
theorem psback (p s d : Nat) (u : FrameMode) (w : World) (hp : w.cell? ⟨p, 0, none⟩ = some (.pointer (some ⟨s, 0, none⟩))) (hc : w.cell? ⟨s, 1, none⟩ = some (.int .i64 ((d + 1 : Nat) : Int))) (hf : w.frozen? ⟨s, 1, none⟩ = false) (hd : d ≤ 1000) :
    CallsD Try.prog 140 #[.pointer (some ⟨p, 0, none⟩)] u w fun e u' w' => u' = u ∧ (e = .returned (.tuple #[]) ∧ w' = w.setCell ⟨s, 1, none⟩ (.int .i64 (d : Int))) := by
  have hw : IntKind.i64.wrap (((d + 1 : Nat) : Int) - 1) = (d : Int) := by rw [IntKind.wrap_i64]; omega
  have he : ((d + 1 : Nat) : Int) - 1 = (d : Int) := by omega
  go_enter_d Try.func140, Try.ntmps140
  go_wp2_with fail
  go_end0
  first | exact ⟨rfl, rfl⟩ | (refine ⟨rfl, ?_⟩; rw [he])

end Go.Proofs.Ytipdfmedbcafpaa
end

section
/- The program's sorter of parts, by its contract: whatever finish it has. -/
namespace Go.Proofs.Ytipdfmedbcafpaa
open Go.RowKit P El Qk
set_option linter.unusedVariables false

/-- What a finish's call leaves. -/
def FinC (fin : Fin3) (d : Nat) (M : List Int) (g o n h : Nat) (Hp : Nat → World → Prop) (Qh : Nat → Prop) (W : World) (e : Ending) (w' : World) : Prop :=
  match fin d M with
  | some r => e = .returned (.bool true) ∧ Seg w' g o (ints r.1) ∧ Hp (h + r.2) w' ∧ SegB g o n Qh W w'
  | none => e = .returned (.bool false) ∧ Below W.heap.size W w'
/-- A finish: its function, what it counts and where. -/
structure FinW (ff : Nat) (lb : Array Value) (fin : Fin3) (Hp : Nat → World → Prop) (Qh : Nat → Prop) : Prop where
  ok : FinOk fin
  eg : ∀ args w, (callFunc ff args).run Try.prog w = .ok (.enter ff args) w
  frame : ∀ h w w', Hp h w → w.heap.size ≤ w'.heap.size → (∀ k, k < w.heap.size → Qh k → w'.heap[k]? = w.heap[k]?) → Hp h w'
  lt : ∀ h w k, Hp h w → Qh k → k < w.heap.size
  call : ∀ g o c n d h M W, OkL M → ¬ Qh g → Hp h W → Seg W g o (ints M) → M.length = n → n ≤ c → n ≤ 64 → h + n ≤ 500 → d ≤ 500 →
    Calls Try.prog ff (#[.slice (some ⟨g, o, none⟩) n c, .int .i64 (d : Int)] ++ lb) W (FinC fin d M g o n h Hp Qh W)
/-- What the sort of a part leaves. -/
def PsC (s g o n : Nat) (fv : Value) (d q h : Nat) (R : List Int × Nat × Nat) (Hp : Nat → World → Prop) (Qh : Nat → Prop) (w : World) (e : Ending) (w' : World) : Prop :=
  e = .returned (.tuple #[]) ∧ CellRow w' s (pst fv d (q + R.2.1)) ∧ Hp (h + R.2.2) w' ∧ Seg w' g o (ints R.1) ∧ SegB g o n (fun k => k = s ∨ Qh k) w w'

set_option maxRecDepth 100000 in
set_option maxHeartbeats 8000000 in
theorem psort_done {ff : Nat} {lb : Array Value} {fin : Fin3} {Hp : Nat → World → Prop} {Qh : Nat → Prop} (FW : FinW ff lb fin Hp Qh) (s g o c n d q h : Nat) (L M : List Int) (k : Nat) (w : World) (hok : OkL L)
    (hsq : ¬ Qh s) (hgs : g ≠ s) (hgq : ¬ Qh g) (hs : CellRow w s (pst (.func (.func ff) #[] lb) d q)) (hh : Hp h w) (hg : Seg w g o (ints L)) (hL : L.length = n) (h64 : n ≤ 64) (hc : n ≤ c) (hd : d ≤ 500) (hhn : h + n ≤ 500) (hfin : fin d L = some (M, k)) :
    Calls Try.prog 105 #[.pointer (some ⟨s, 0, none⟩), .slice (some ⟨g, o, none⟩) n c] w (PsC s g o n (.func (.func ff) #[] lb) d q h (M, 0, k) Hp Qh w) := by
  have eg := FW.eg
  obtain ⟨W1, hW1⟩ : ∃ W1, W1 = w.alloc (.cells #[.pointer (some ⟨s, 0, none⟩)] 136) := ⟨_, rfl⟩
  have hb1 : Below w.heap.size w W1 := by rw [hW1]; exact (Below.refl _ _).alloc (Nat.le_refl _) _
  have hp1 : CellRow W1 w.heap.size [.pointer (some ⟨s, 0, none⟩)] := by
    have hA : RowIs (w.alloc (.cells #[.pointer (some ⟨s, 0, none⟩)] 136)) w.heap.size 136 [.pointer (some ⟨s, 0, none⟩)] := heap_alloc_new w _
    rw [hW1]; exact CellRow.of_row hA
  have hs1 := hs.below hb1 hs.1
  have hg1 := hg.below hb1 hg.1
  have hh1 : Hp h W1 := FW.frame h w W1 hh hb1.size (fun k hk _ => hb1.block k hk)
  have HB1 : Hid (SegB g o n (fun k => k = s ∨ Qh k) w W1) := Lib.hid (SegB.ofBelow hb1 hg.1 _)
  have hcall := FW.call g o c n d h L (W1.drewN 1) hok hgq (FW.frame h W1 _ hh1 (Nat.le_refl _) (fun _ _ _ => rfl)) (hg1.drewN 1) hL hc h64 hhn hd
  have HCALL : Hid (Calls Try.prog ff (#[.slice (some ⟨g, o, none⟩) n c, .int .i64 (d : Int)] ++ lb) (W1.drewN 1) (fun e w' => e = .returned (.bool true) ∧ Seg w' g o (ints M) ∧ Hp (h + k) w' ∧ SegB g o n Qh (W1.drewN 1) w')) := Lib.hid (hcall.mono fun e w' hx => by
    unfold FinC at hx; rw [hfin] at hx; exact hx)
  have HS1 : Hid (CellRow (W1.drewN 1) s (pst (.func (.func ff) #[] lb) d q)) := Lib.hid (hs1.same rfl (Nat.le_refl _))
  have HSG : Hid (s ≠ g ∧ ¬ Qh s) := Lib.hid ⟨fun e => hgs e.symm, hsq⟩
  obtain ⟨hc0, hc1, _⟩ := pst_at hs1
  have hcp := (hp1.2 0 _ rfl).1
  have HW1 := Lib.hid hW1
  clear hs hh hg hL hfin hcall hh1 hg1 hp1 hb1 hs1 hW1 hgs hgq hsq hok
  go_enter_defers Try.func105, Try.ntmps105
  go_wp2_with fail
  rw [← HW1.out]
  go_still_tail 9, (by kernel_rfl)
  go_wp2_with (go_at_fn ff; refine (HCALL.out).mono ?_; rintro e w2 ⟨rfl, hg2, hh2, hb2⟩)
  have HRES : PsC s g o n (.func (.func ff) #[] lb) d q h (M, 0, k) Hp Qh w (.returned (.tuple #[])) w2 :=
    ⟨rfl, hb2.row HS1.out HSG.out.1 HSG.out.2, hh2, hg2, (HB1.out.drewN 1).trans (hb2.more (fun _ hk => .inr hk))⟩
  exact ⟨_, results_none rfl _ _ _, HRES⟩

/-- What holds on the way: the sorter's cells, its boxed address, the finish's count, the part, and what moved. -/
structure PsX (s p g o n : Nat) (cs : List Value) (h : Nat) (L : List Int) (Hp : Nat → World → Prop) (Qh : Nat → Prop) (w w' : World) : Prop where
  st : CellRow w' s cs
  pt : CellRow w' p [.pointer (some ⟨s, 0, none⟩)]
  hp : Hp h w'
  sg : Seg w' g o (ints L)
  b : SegB g o n (fun k => k = s ∨ Qh k) w w'
theorem PsX.store {s p g o n : Nat} {cs ds : List Value} {h : Nat} {L : List Int} {Hp : Nat → World → Prop} {Qh : Nat → Prop} {w w' : World} (H : PsX s p g o n cs h L Hp Qh w w')
    (fr : ∀ h w w', Hp h w → w.heap.size ≤ w'.heap.size → (∀ k, k < w.heap.size → Qh k → w'.heap[k]? = w.heap[k]?) → Hp h w') (hsg : s ≠ g) (hsq : ¬ Qh s) (hps : p ≠ s) (i : Nat) (u : Value) (hd : CellRow (w'.setCell ⟨s, i, none⟩ u) s ds) : PsX s p g o n ds h L Hp Qh w (w'.setCell ⟨s, i, none⟩ u) := by
  have hz : w'.heap.size ≤ (w'.setCell ⟨s, i, none⟩ u).heap.size := by simp
  exact ⟨hd, H.pt.same (Below.heap_setCell _ _ _ _ hps) hz, fr _ _ _ H.hp hz (fun k _ hk => Below.heap_setCell _ _ _ _ (fun e => hsq ((show k = s from e) ▸ hk))), H.sg.same (Below.heap_setCell _ _ _ _ (fun e => hsg e.symm)) hz, H.b.put s i u (.inl rfl) hsg⟩
theorem PsX.step {s p g o n : Nat} {cs : List Value} {h : Nat} {L M : List Int} {Hp : Nat → World → Prop} {Qh : Nat → Prop} {w w' w2 : World} (H : PsX s p g o n cs h L Hp Qh w w') (t : Nat)
    (fr : ∀ h w w', Hp h w → w.heap.size ≤ w'.heap.size → (∀ k, k < w.heap.size → Qh k → w'.heap[k]? = w.heap[k]?) → Hp h w') (hsg : s ≠ g) (hgq : ¬ Qh g) (hpg : p ≠ g) (hm : Seg w2 g o (ints M)) (hb : ButS g o n (w'.drewN t) w2) : PsX s p g o n cs h M Hp Qh w w2 :=
  ⟨H.st.same (hb.but.block s H.st.1 hsg) hb.but.size, H.pt.same (hb.but.block p H.pt.1 hpg) hb.but.size, fr _ _ _ H.hp hb.but.size (fun k hk hq => hb.but.block k hk (fun e => hgq (e ▸ hq))), hm, (H.b.drewN t).trans (hb.segB _)⟩

set_option maxRecDepth 100000 in
set_option maxHeartbeats 32000000 in
theorem psort_go {ff : Nat} {lb : Array Value} {fin : Fin3} {Hp : Nat → World → Prop} {Qh : Nat → Prop} (FW : FinW ff lb fin Hp Qh) (s g o c n d q h : Nat) (L M : List Int) (lt gt : Nat) (A B : List Int × Nat × Nat) (w : World) (hok : OkL L)
    (hsq : ¬ Qh s) (hgs : g ≠ s) (hgq : ¬ Qh g) (hs : CellRow w s (pst (.func (.func ff) #[] lb) d q)) (hh : Hp h w) (hg : Seg w g o (ints L)) (hL : L.length = n) (h2 : 2 ≤ n) (h64 : n ≤ 64) (hc : n ≤ c) (hd : d + n ≤ 500) (hqn : q + n ≤ 500) (hhn : h + n ≤ 500) (hfin : fin d L = none)
    (he : thF L (L.getD (medF L) 0) = (M, lt, gt)) (hlg : lt < gt) (hgn : gt ≤ n) (hML : M.length = n)
    (hA : A.1.length = lt ∧ A.2.1 ≤ lt ∧ A.2.2 ≤ lt) (hB : B.1.length = n - gt ∧ B.2.1 ≤ n - gt ∧ B.2.2 ≤ n - gt)
    (CA : ∀ W, CellRow W s (pst (.func (.func ff) #[] lb) (d + 1) (q + 1)) → Hp h W → Seg W g o (ints (M.take lt)) → Calls Try.prog 105 #[.pointer (some ⟨s, 0, none⟩), .slice (some ⟨g, o, none⟩) lt c] W (PsC s g o lt (.func (.func ff) #[] lb) (d + 1) (q + 1) h A Hp Qh W))
    (o2 c2 n3 : Nat) (hn3 : n3 = n - gt) (ho2 : (gt < c ∧ o2 = o + gt ∧ c2 = c - gt) ∨ (gt = c ∧ o = o2 ∧ 0 = c2))
    (CB : ∀ W, CellRow W s (pst (.func (.func ff) #[] lb) (d + 1) (q + 1 + A.2.1)) → Hp (h + A.2.2) W → Seg W g (o + gt) (ints (M.drop gt)) → Calls Try.prog 105 #[.pointer (some ⟨s, 0, none⟩), .slice (some ⟨g, o2, none⟩) n3 c2] W (fun e w' => e = .returned (.tuple #[]) ∧ CellRow w' s (pst (.func (.func ff) #[] lb) (d + 1) (q + 1 + A.2.1 + B.2.1)) ∧ Hp (h + A.2.2 + B.2.2) w' ∧ Seg w' g (o + gt) (ints B.1) ∧ SegB g (o + gt) (n - gt) (fun k => k = s ∨ Qh k) W w')) :
    Calls Try.prog 105 #[.pointer (some ⟨s, 0, none⟩), .slice (some ⟨g, o, none⟩) n c] w (PsC s g o n (.func (.func ff) #[] lb) d q h (sgJoin M lt gt A B) Hp Qh w) := by
  have eg := FW.eg
  have hpq : ¬ Qh w.heap.size := fun hq => by have := FW.lt h w _ hh hq; omega
  have hps : w.heap.size ≠ s := by have := hs.1; omega
  have hpg : w.heap.size ≠ g := by have := hg.1; omega
  obtain ⟨W1, hW1⟩ : ∃ W1, W1 = w.alloc (.cells #[.pointer (some ⟨s, 0, none⟩)] 136) := ⟨_, rfl⟩
  have hb1 : Below w.heap.size w W1 := by rw [hW1]; exact (Below.refl _ _).alloc (Nat.le_refl _) _
  have hp1 : CellRow W1 w.heap.size [.pointer (some ⟨s, 0, none⟩)] := by
    have hA : RowIs (w.alloc (.cells #[.pointer (some ⟨s, 0, none⟩)] 136)) w.heap.size 136 [.pointer (some ⟨s, 0, none⟩)] := heap_alloc_new w _
    rw [hW1]; exact CellRow.of_row hA
  have hs1 := hs.below hb1 hs.1
  have hg1 := hg.below hb1 hg.1
  have hh1 : Hp h W1 := FW.frame h w W1 hh hb1.size (fun k hk _ => hb1.block k hk)
  have HB1 : Hid (SegB g o n (fun k => k = s ∨ Qh k) w W1) := Lib.hid (SegB.ofBelow hb1 hg.1 _)
  have hcall := FW.call g o c n d h L (W1.drewN 1) hok hgq (FW.frame h W1 _ hh1 (Nat.le_refl _) (fun _ _ _ => rfl)) (hg1.drewN 1) hL hc h64 hhn (by omega)
  have HCALL : Hid (Calls Try.prog ff (#[.slice (some ⟨g, o, none⟩) n c, .int .i64 (d : Int)] ++ lb) (W1.drewN 1) (fun e w' => e = .returned (.bool false) ∧ Below (W1.drewN 1).heap.size (W1.drewN 1) w')) := Lib.hid (hcall.mono fun e w' hx => by
    unfold FinC at hx; rw [hfin] at hx; exact hx)
  have HS1 : Hid (CellRow (W1.drewN 1) s (pst (.func (.func ff) #[] lb) d q)) := Lib.hid (hs1.same rfl (Nat.le_refl _))
  have HP1 : Hid (CellRow (W1.drewN 1) w.heap.size [.pointer (some ⟨s, 0, none⟩)]) := Lib.hid (hp1.same rfl (Nat.le_refl _))
  have HH1 : Hid (Hp h (W1.drewN 1)) := Lib.hid (FW.frame h W1 _ hh1 (Nat.le_refl _) (fun _ _ _ => rfl))
  have HG1 : Hid (Seg (W1.drewN 1) g o (ints L)) := Lib.hid (hg1.drewN 1)
  obtain ⟨p, hpe⟩ : ∃ p, p = w.heap.size := ⟨_, rfl⟩
  rw [← hpe] at HP1 hp1 hpq hps hpg
  have HFR := Lib.hid FW.frame
  have HSG : Hid (s ≠ g ∧ ¬ Qh s ∧ ¬ Qh g ∧ p ≠ s ∧ p ≠ g ∧ ¬ Qh p ∧ g ≠ s ∧ w.heap.size = p) := Lib.hid ⟨fun e => hgs e.symm, hsq, hgq, hps, hpg, hpq, hgs, hpe.symm⟩
  obtain ⟨md, hmd⟩ : ∃ md, md = medF L := ⟨_, rfl⟩
  have hmdl : md < n := by rw [hmd]; have := medF_lt (L := L) (by omega); omega
  obtain ⟨x, hxe⟩ : ∃ x, x = L.getD md 0 := ⟨_, rfl⟩
  have HMED := Lib.hid (fun W (hW : Seg W g o (ints L)) => imedR_any (c := c) W hW.rd hL (by omega) (by omega))
  rw [← hmd] at HMED he
  rw [← hxe] at he
  have HTH := Lib.hid (fun (W : World) (h : Seg W g o (ints L)) => ithree_any (c := c) x W h hL (by omega))
  rw [he] at HTH
  simp only at HTH
  have HX : Hid (∀ W, Seg W g o (ints L) → W.cell? ⟨g, o + md, none⟩ = some (.int .i64 x)) := Lib.hid (fun W hW => by rw [hxe]; exact (hW.at (by omega)).1)
  have HPA : Hid (∀ W, Seg W g o (ints M) → Seg W g o (ints (M.take lt)) ∧ Seg W g (o + gt) (ints (M.drop gt))) := Lib.hid (fun W hW => by
    obtain ⟨e1, _, e3⟩ := hW.parts (by omega : lt ≤ gt) (by omega); exact ⟨e1, e3⟩)
  have HJOIN : Hid (∀ w2 w3 w4, Seg w2 g o (ints M) → Seg w3 g o (ints A.1) → SegB g o lt (fun k => k = s ∨ Qh k) w2 w3 → Seg w4 g (o + gt) (ints B.1) → SegB g (o + gt) (n - gt) (fun k => k = s ∨ Qh k) w3 w4 → Seg w4 g o (ints (sgJoin M lt gt A B).1) ∧ SegB g o n (fun k => k = s ∨ Qh k) w2 w4) :=
    Lib.hid (fun w2 w3 w4 a b c d e => Seg.threeB a hML (by omega) hgn hA.1 hB.1 b c d e)
  have HSJ : Hid (q + (sgJoin M lt gt A B).2.1 = q + 1 + A.2.1 + B.2.1 ∧ h + (sgJoin M lt gt A B).2.2 = h + A.2.2 + B.2.2) := Lib.hid ⟨by unfold sgJoin; simp only; omega, by unfold sgJoin; simp only; omega⟩
  have HDL : Hid ((ints (M.drop gt)).length = n - gt) := Lib.hid (by rw [ints_length, List.length_drop]; omega)
  have HCA := Lib.hid CA
  have HCB := Lib.hid CB
  obtain ⟨hc0, hc1, _⟩ := pst_at hs1
  have hcp := (hp1.2 0 _ rfl).1
  have HW1 := Lib.hid hW1
  have hdb : d ≤ 500 := by omega
  have hqb : q ≤ 500 := by omega
  have HHO := Lib.hid ho2
  have HN3 := Lib.hid hn3
  have HPE := Lib.hid hpe
  have HST2 : Hid (∀ w2, Below (W1.drewN 1).heap.size (W1.drewN 1) w2 → PsX s p g o n (pst (.func (.func ff) #[] lb) d q) h L Hp Qh w w2) := Lib.hid (fun w2 hb =>
    ⟨HS1.out.below hb HS1.out.1, HP1.out.below hb HP1.out.1, HFR.out _ _ _ HH1.out hb.size (fun k hk _ => hb.block k hk), HG1.out.below hb HG1.out.1, (HB1.out.drewN 1).trans (SegB.ofBelow hb HG1.out.1 _)⟩)
  have hltc : (lt : Int) ≤ (c : Int) := by omega
  have hltn : (lt : Int) ≤ (n : Int) := by omega
  have hgtn : (gt : Int) ≤ (n : Int) := by omega
  have hgtc : (gt : Int) ≤ (c : Int) := by omega
  have hmdz : (md : Int) < (n : Int) := by omega
  have hncz : (n : Int) ≤ (c : Int) := by omega
  have hmdb := lb
  clear hok hmdb hs hh hg hL hfin hcall hh1 hg1 hp1 hb1 hs1 hW1 hgs hgq hsq CA CB hxe hmd hhn hpe HS1 HP1 HH1 HG1 HB1 he hML hA hB ho2 hn3 hqn hd
  go_enter_defers Try.func105, Try.ntmps105
  go_wp2_with fail
  rw [← HW1.out, ← HPE.out]
  go_still_tail 9, (by kernel_rfl)
  go_wp2_with (go_at_fn ff; refine (HCALL.out).mono ?_; rintro e w2 ⟨rfl, hb2⟩; have HW2 := Lib.hid (HST2.out w2 hb2); clear hb2 HST2 HCALL eg; obtain ⟨_, hd1, hd2, hf1, hf2⟩ := pst_at HW2.out.st; have hdp := (HW2.out.pt.2 0 _ rfl).1)
  have HW3 : Hid (PsX s p g o n (pst (.func (.func ff) #[] lb) (d + 1) q) h L Hp Qh w (w2.setCell ⟨s, 1, none⟩ (.int .i64 ((d : Int) + 1)))) := Lib.hid (HW2.out.store HFR.out HSG.out.1 HSG.out.2.1 HSG.out.2.2.2.1 1 _ (pst_depth HW2.out.st (d + 1)))
  generalize w2.setCell ⟨s, 1, none⟩ (.int .i64 ((d : Int) + 1)) = W3 at HW3 ⊢
  clear hd1 hd2 hf1 hf2 hdp HW2
  refine (HMED.out _ HW3.out.sg).mono ?_
  rintro e w4 ⟨rfl, t, rfl⟩
  have hx4 := HX.out _ (HW3.out.sg.drewN t)
  clear HMED HX
  go_wp2_with fail
  refine (HTH.out _ (HW3.out.sg.drewN t)).mono ?_
  rintro e w5 ⟨rfl, hg5, hb5⟩
  have HW5 : Hid (PsX s p g o n (pst (.func (.func ff) #[] lb) (d + 1) q) h M Hp Qh w w5) := Lib.hid (HW3.out.step t HFR.out HSG.out.1 HSG.out.2.2.1 HSG.out.2.2.2.2.1 hg5 hb5)
  obtain ⟨_, hd1, hd2, hf1, hf2⟩ := pst_at HW5.out.st
  have hdp := (HW5.out.pt.2 0 _ rfl).1
  clear hg5 hb5 HTH HW3 hx4
  go_wp2_with fail
  have HW6 : Hid (PsX s p g o n (pst (.func (.func ff) #[] lb) (d + 1) (q + 1)) h M Hp Qh w (w5.setCell ⟨s, 2, none⟩ (.int .i64 ((q : Int) + 1)))) := Lib.hid (HW5.out.store HFR.out HSG.out.1 HSG.out.2.1 HSG.out.2.2.2.1 2 _ (pst_steps HW5.out.st (q + 1)))
  generalize w5.setCell ⟨s, 2, none⟩ (.int .i64 ((q : Int) + 1)) = W6 at HW6 ⊢
  clear hd1 hd2 hf1 hf2 hdp HW5
  have hdp := (HW6.out.pt.2 0 _ rfl).1
  go_still_tail 4, (by kernel_rfl)
  go_wp2_with fail
  refine (HCA.out (W6.drewN 1) (HW6.out.st.same rfl (Nat.le_refl _)) (HFR.out _ _ _ HW6.out.hp (Nat.le_refl _) (fun _ _ _ => rfl)) ((HPA.out _ (HW6.out.sg.drewN 1)).1)).mono ?_
  rintro e w7 ⟨rfl, hs7, hh7, hg7, hb7⟩
  have hnp : ¬ (p = s ∨ Qh p) := fun e => e.elim HSG.out.2.2.2.1 HSG.out.2.2.2.2.2.1
  have HP7 : Hid (CellRow w7 p [.pointer (some ⟨s, 0, none⟩)]) := Lib.hid (hb7.row (HW6.out.pt.same (w' := W6.drewN 1) rfl (Nat.le_refl _)) HSG.out.2.2.2.2.1 hnp)
  have HG7 : Hid (Seg w7 g (o + gt) (ints (M.drop gt))) := Lib.hid (((HPA.out _ (HW6.out.sg.drewN 1)).2).keepB hb7 (.inr (by omega)))
  have HS7 := Lib.hid hs7
  have HH7 := Lib.hid hh7
  have HA7 := Lib.hid hg7
  have HB7 := Lib.hid hb7
  have HNP := Lib.hid hnp
  have hdp7 := (HP7.out.2 0 _ rfl).1
  clear hs7 hh7 hg7 hb7 hdp hnp HCA
  go_wp2_with fail
  rcases HHO.out with ⟨h1, e1, e2⟩ | ⟨h1, e1, e2⟩
  · have e3 := HN3.out
    subst e1
    subst e2
    subst e3
    have hgc : (gt : Int) < (c : Int) := by omega
    have hgc2 : ¬ gt = c := by omega
    have hgc3 : ¬ c = gt := by omega
    clear HHO
    go_still_tail 4, (by kernel_rfl)
    go_wp2_with fail
    refine (HCB.out (w7.drewN 1) (HS7.out.same rfl (Nat.le_refl _)) (HFR.out _ _ _ HH7.out (Nat.le_refl _) (fun _ _ _ => rfl)) (HG7.out.drewN 1)).mono ?_
    rintro e w8 ⟨rfl, hs8, hh8, hg8, hb8⟩
    have HP8 : Hid (CellRow w8 p [.pointer (some ⟨s, 0, none⟩)]) := Lib.hid (hb8.row (HP7.out.same (w' := w7.drewN 1) rfl (Nat.le_refl _)) HSG.out.2.2.2.2.1 HNP.out)
    have HRES : Hid (PsC s g o n (.func (.func ff) #[] lb) d q h (sgJoin M lt gt A B) Hp Qh w (.returned (.tuple #[])) (w8.setCell ⟨s, 1, none⟩ (.int .i64 (d : Int)))) := Lib.hid (by
      have hz : w8.heap.size ≤ (w8.setCell ⟨s, 1, none⟩ (.int .i64 (d : Int))).heap.size := by simp
      obtain ⟨j1, j2⟩ := HJOIN.out (W6.drewN 1) w7 w8 (HW6.out.sg.drewN 1) HA7.out HB7.out hg8 ((SegB.refl _ _ _ _ w7).drewN 1 |>.trans hb8)
      refine ⟨rfl, by rw [HSJ.out.1]; exact pst_depth hs8 d, by rw [HSJ.out.2]; exact HFR.out _ _ _ hh8 hz (fun k _ hk => Below.heap_setCell _ _ _ _ (fun e => HSG.out.2.1 ((show k = s from e) ▸ hk))), j1.same (Below.heap_setCell _ _ _ _ (fun e => HSG.out.1 e.symm)) hz, (((HW6.out.b.drewN 1).trans j2).put s 1 _ (.inl rfl) HSG.out.1)⟩)
    obtain ⟨_, k1, _, k2, _⟩ := pst_at hs8
    have k3 := (HP8.out.2 0 _ rfl).1
    clear hs8 hh8 hg8 hb8
    go_wp2_with fail
    refine leaves_cons (f := 140) (args := #[.pointer (some ⟨p, 0, none⟩)]) (by simp) (by simp [go_sem]) ?_
    refine (psback p s d .returning _ k3 k1 k2 (by omega)).mono ?_
    rintro e u' w9 ⟨rfl, rfl, rfl⟩
    exact ⟨_, results_none rfl _ _ _, HRES.out⟩
  · have e3 : n3 = 0 := by have := HN3.out; omega
    subst e1
    subst e2
    subst e3
    subst h1
    clear HHO
    go_still_tail 4, (by kernel_rfl)
    go_wp2_with fail
    refine (HCB.out (w7.drewN 1) (HS7.out.same rfl (Nat.le_refl _)) (HFR.out _ _ _ HH7.out (Nat.le_refl _) (fun _ _ _ => rfl)) (HG7.out.drewN 1)).mono ?_
    rintro e w8 ⟨rfl, hs8, hh8, hg8, hb8⟩
    have HP8 : Hid (CellRow w8 p [.pointer (some ⟨s, 0, none⟩)]) := Lib.hid (hb8.row (HP7.out.same (w' := w7.drewN 1) rfl (Nat.le_refl _)) HSG.out.2.2.2.2.1 HNP.out)
    have HRES : Hid (PsC s g o n (.func (.func ff) #[] lb) d q h (sgJoin M lt gt A B) Hp Qh w (.returned (.tuple #[])) (w8.setCell ⟨s, 1, none⟩ (.int .i64 (d : Int)))) := Lib.hid (by
      have hz : w8.heap.size ≤ (w8.setCell ⟨s, 1, none⟩ (.int .i64 (d : Int))).heap.size := by simp
      obtain ⟨j1, j2⟩ := HJOIN.out (W6.drewN 1) w7 w8 (HW6.out.sg.drewN 1) HA7.out HB7.out hg8 ((SegB.refl _ _ _ _ w7).drewN 1 |>.trans hb8)
      refine ⟨rfl, by rw [HSJ.out.1]; exact pst_depth hs8 d, by rw [HSJ.out.2]; exact HFR.out _ _ _ hh8 hz (fun k _ hk => Below.heap_setCell _ _ _ _ (fun e => HSG.out.2.1 ((show k = s from e) ▸ hk))), j1.same (Below.heap_setCell _ _ _ _ (fun e => HSG.out.1 e.symm)) hz, (((HW6.out.b.drewN 1).trans j2).put s 1 _ (.inl rfl) HSG.out.1)⟩)
    obtain ⟨_, k1, _, k2, _⟩ := pst_at hs8
    have k3 := (HP8.out.2 0 _ rfl).1
    clear hs8 hh8 hg8 hb8
    go_wp2_with fail
    refine leaves_cons (f := 140) (args := #[.pointer (some ⟨p, 0, none⟩)]) (by simp) (by simp [go_sem]) ?_
    refine (psback p s d .returning _ k3 k1 k2 (by omega)).mono ?_
    rintro e u' w9 ⟨rfl, rfl, rfl⟩
    exact ⟨_, results_none rfl _ _ _, HRES.out⟩

end Go.Proofs.Ytipdfmedbcafpaa
end

section
/- The program's sorter of parts, by induction; QuickSort, by its contract. -/
namespace Go.Proofs.Ytipdfmedbcafpaa
open Go.RowKit P El Qk
set_option linter.unusedVariables false

theorem psort_any {ff : Nat} {lb : Array Value} {fin : Fin3} {Hp : Nat → World → Prop} {Qh : Nat → Prop} (FW : FinW ff lb fin Hp Qh) (s : Nat) (hsq : ¬ Qh s) :
    ∀ (f g o c n d q h : Nat) (L : List Int) (w : World), OkL L → g ≠ s → ¬ Qh g → CellRow w s (pst (.func (.func ff) #[] lb) d q) → Hp h w → Seg w g o (ints L) → L.length = n → n ≤ f → n ≤ 64 → n ≤ c → d + n ≤ 500 → q + n ≤ 500 → h + n ≤ 500 →
    Calls Try.prog 105 #[.pointer (some ⟨s, 0, none⟩), .slice (some ⟨g, o, none⟩) n c] w (PsC s g o n (.func (.func ff) #[] lb) d q h (sg fin f d L) Hp Qh w) := by
  intro f
  induction f with
  | zero =>
    intro g o c n d q h L w hok hgs hgq hs hh hg hL hf h64 hc hd hq hhn
    obtain ⟨⟨M, k⟩, hr⟩ := FW.ok.small d L (by omega)
    rw [sg_done hr]
    exact psort_done FW s g o c n d q h L M k w hok hsq hgs hgq hs hh hg hL h64 hc (by omega) hhn hr
  | succ f ih =>
    intro g o c n d q h L w hok hgs hgq hs hh hg hL hf h64 hc hd hq hhn
    cases e : fin d L with
    | some r =>
      obtain ⟨M, k⟩ := r
      rw [sg_done e]
      exact psort_done FW s g o c n d q h L M k w hok hsq hgs hgq hs hh hg hL h64 hc (by omega) hhn e
    | none =>
      have h2 := FW.ok.two e
      have hm := getD_mem (medF_lt (L := L) (by omega))
      have ht := thF_spec L (L.getD (medF L) 0)
      have hx := thF_some hm
      obtain ⟨⟨M, lt, gt⟩, he⟩ : ∃ T, thF L (L.getD (medF L) 0) = T := ⟨_, rfl⟩
      rw [he] at ht hx
      simp only at ht hx
      rw [sg_go e he]
      obtain ⟨p1, p2⟩ := part_lens ht
      have a3 := ht.h3
      have hML := ht.perm.length_eq
      obtain ⟨b1, b2, b3⟩ := sg_spec FW.ok f (d + 1) (M.take lt) (by omega)
      obtain ⟨c1, c2, c3⟩ := sg_spec FW.ok f (d + 1) (M.drop gt) (by omega)
      have okA : OkL (M.take lt) := ⟨by omega, fun x hx => hok.2 x (ht.perm.mem_iff.1 (List.mem_of_mem_take hx))⟩
      have okB : OkL (M.drop gt) := ⟨by omega, fun x hx => hok.2 x (ht.perm.mem_iff.1 (List.mem_of_mem_drop hx))⟩
      have CA := fun W (x1 : CellRow W s (pst (.func (.func ff) #[] lb) (d + 1) (q + 1))) (x2 : Hp h W) (x3 : Seg W g o (ints (M.take lt))) => ih g o c lt (d + 1) (q + 1) h (M.take lt) W okA hgs hgq x1 x2 x3 p1 (by omega) (by omega) (by omega) (by omega) (by omega) (by omega)
      generalize hA : sg fin f (d + 1) (M.take lt) = A at *
      generalize hB : sg fin f (d + 1) (M.drop gt) = B at *
      by_cases hgc : gt < c
      · refine psort_go FW s g o c n d q h L M lt gt A B w hok hsq hgs hgq hs hh hg hL (by omega) h64 hc hd hq hhn e he hx (by omega) (by omega) ⟨by omega, by omega, by omega⟩ ⟨by omega, by omega, by omega⟩ CA (o + gt) (c - gt) (n - gt) rfl (.inl ⟨hgc, rfl, rfl⟩) (fun W x1 x2 x3 => ?_)
        have := ih g (o + gt) (c - gt) (n - gt) (d + 1) (q + 1 + A.2.1) (h + A.2.2) (M.drop gt) W okB hgs hgq x1 x2 x3 (by omega) (by omega) (by omega) (by omega) (by omega) (by omega) (by omega)
        rw [hB] at this
        exact this
      · have hgn : gt = n := by omega
        refine psort_go FW s g o c n d q h L M lt gt A B w hok hsq hgs hgq hs hh hg hL (by omega) h64 hc hd hq hhn e he hx (by omega) (by omega) ⟨by omega, by omega, by omega⟩ ⟨by omega, by omega, by omega⟩ CA o 0 (n - gt) rfl (.inr ⟨by omega, rfl, rfl⟩) (fun W x1 x2 x3 => ?_)
        have hz : n - gt = 0 := by omega
        have hnil : M.drop gt = [] := List.eq_nil_of_length_eq_zero (by omega)
        have hBn : B.1 = [] := List.eq_nil_of_length_eq_zero (by omega)
        have := ih g o 0 0 (d + 1) (q + 1 + A.2.1) (h + A.2.2) (M.drop gt) W okB hgs hgq x1 x2 (by rw [hnil]; exact Seg.nil x3.1) (by omega) (by omega) (by omega) (by omega) (by omega) (by omega) (by omega)
        rw [hB] at this
        rw [hz]
        refine this.mono ?_
        rintro e w' ⟨y1, y2, y3, y4, y5⟩
        exact ⟨y1, y2, y3, by rw [hBn]; exact Seg.nil y4.1, y5.zero⟩

/-- Quicksort's finish. -/
theorem finQ_w : FinW 104 #[] finQ (fun _ _ => True) (fun _ => False) where
  ok := finQ_ok
  eg := enters_of Try.func104 (by kernel_rfl) rfl
  frame := fun _ _ _ _ _ _ => trivial
  lt := fun _ _ _ _ h => h.elim
  call := by
    intro g o c n d h M W _ _ _ hg hM hc h64 _ hd
    by_cases hs : n < 2
    · have HRES : Hid (FinC finQ d M g o n h (fun _ _ => True) (fun _ => False) W (.returned (.bool true)) W) := Lib.hid (by
        unfold FinC finQ; rw [if_pos (by omega)]; exact ⟨rfl, hg, trivial, SegB.refl _ _ _ _ _⟩)
      have hz : (n : Int) < 2 := by omega
      have hzd : decide ((n : Int) < 2) = true := decide_eq_true hz
      clear hg hM
      go_enter Try.func104, Try.ntmps104
      go_wp2_with fail
      go_ret
      exact HRES.out
    · have HRES : Hid (FinC finQ d M g o n h (fun _ _ => True) (fun _ => False) W (.returned (.bool false)) W) := Lib.hid (by
        unfold FinC finQ; rw [if_neg (by omega)]; exact ⟨rfl, Below.refl _ _⟩)
      have hz : ¬ (n : Int) < 2 := by omega
      have hzd : decide ((n : Int) < 2) = false := decide_eq_false hz
      clear hg hM
      go_enter Try.func104, Try.ntmps104
      go_wp2_with fail
      go_ret
      exact HRES.out

set_option maxRecDepth 100000 in
set_option maxHeartbeats 4000000 in
theorem implQk_any (b o c : Nat) (l : List Int) (w : World) (hv : FlatAt w (.slice (some ⟨b, o, none⟩) l.length c) l.length (ints l)) (hn : l.length ≤ 1048576) :
    Calls Try.prog 48 #[.slice (some ⟨b, o, none⟩) l.length c] w (RetI1 (qsAll l) w) := by
  have HV := Lib.hid (implValidList_any _ l w hv hn)
  have HNONE : Hid (¬ OkL l → ∀ w1, Below w.heap.size w w1 → RetI1 (qsAll l) w (.returned (.tuple #[.slice (some ⟨w1.heap.size, 0, none⟩) 0 0, .int .i64 0, .bool false])) (w1.alloc (.cells #[] 3))) := Lib.hid (fun h w1 hb => by rw [qsAll_no h]; exact RetI1.none w w1 hb)
  by_cases hok : OkL l
  · rw [decide_eq_true hok] at HV
    have HF := Lib.hid (qsAll_yes hok)
    have h64 := hok.1
    have HOWN := Lib.hid (fun W (h : FlatAt W (.slice (some ⟨b, o, none⟩) l.length c) l.length (ints l)) => cloneInts_any b o c l W h hn)
    have HSQ : Hid (sg finQ l.length 0 l = ((qsF l).1, (qsF l).2, 0)) := Lib.hid (sg_qs _ 0 l (Nat.le_refl _))
    have HLN : Hid ((qsF l).1.length = l.length) := Lib.hid (by rw [(qsF_spec l).1, srt_length])
    have HPS := Lib.hid (fun (s g cap : Nat) W (hgs : g ≠ s) (hs : CellRow W s (pst (.func (.func 104) #[] #[]) 0 0)) (h : CellRow W g (ints l)) (hc : l.length ≤ cap) => by
      have := psort_any finQ_w s (fun h => h) l.length g 0 cap l.length 0 0 0 l W hok hgs (fun h => h) hs trivial (Seg.of_row h) rfl (Nat.le_refl _) h64 hc (by omega) (by omega) (by omega)
      rw [HSQ.out] at this; exact this)
    have HFV := Lib.hid hv
    generalize qsF l = R at *
    obtain ⟨M, q⟩ := R
    simp only at HF HPS HLN
    clear hok hv HNONE HSQ
    go_enter Try.func48, Try.ntmps48
    go_wp2_with fail
    refine HV.out.mono ?_
    rintro e w1 ⟨rfl, hb1⟩
    have HV1 := Lib.hid (HFV.out.below hb1)
    have HB1 := Lib.hid hb1
    clear hb1 HV HFV
    go_wp2_with fail
    refine (HOWN.out _ HV1.out).mono ?_
    rintro e w2 ⟨g, cap, rfl, hcap, hg, hrow, hb2⟩
    have HG : Hid (w.heap.size ≤ g) := Lib.hid (Nat.le_trans HB1.out.size hg)
    have HCAP := Lib.hid hcap
    have HB2 := Lib.hid (HB1.out.trans (hb2.mono HB1.out.size))
    have HR2 := Lib.hid hrow
    clear hb2 hrow HOWN HV1 hg hcap HB1
    go_wp2_with fail
    have hA : RowIs (w2.alloc (.cells #[.func (.func 104) #[] #[], .int .i64 0, .int .i64 0] 112)) w2.heap.size 112 (pst (.func (.func 104) #[] #[]) 0 0) := heap_alloc_new w2 _
    have hb3 : Below w2.heap.size w2 (w2.alloc (.cells #[.func (.func 104) #[] #[], .int .i64 0, .int .i64 0] 112)) := (Below.refl _ _).alloc (Nat.le_refl _) _
    have hgs : g ≠ w2.heap.size := by have := HR2.out.1; omega
    have HS := Lib.hid (HPS.out w2.heap.size g cap _ hgs (CellRow.of_row hA) (HR2.out.below hb3 HR2.out.1) HCAP.out)
    have HB3 : Hid (Below w.heap.size w (w2.alloc (.cells #[.func (.func 104) #[] #[], .int .i64 0, .int .i64 0] 112))) := Lib.hid (HB2.out.trans (hb3.mono HB2.out.size))
    have HW2 : Hid (w.heap.size ≤ w2.heap.size) := Lib.hid HB2.out.size
    clear hA hb3 hgs HPS HR2 HB2
    refine HS.out.mono ?_
    rintro e w4 ⟨rfl, hs4, _, hr4, hb4⟩
    have hr4' := hr4.row
    have HRES : Hid (∀ t, RetI1 (qsAll l) w (.returned (.tuple #[.slice (some ⟨g, 0, none⟩) l.length cap, .int .i64 (q : Int), .bool true])) (w4.drewN t)) := Lib.hid (fun t => by
      rw [HF.out]
      refine ⟨g, cap, by simp only; rw [HLN.out], by simp only; rw [HLN.out]; exact HCAP.out, HG.out, hr4'.same rfl (Nat.le_refl _), (HB3.out.trans (hb4.below HG.out (fun k hk => ?_) HB3.out.size)).trans ⟨rfl, rfl, rfl, Nat.le_refl _, fun _ _ => rfl⟩⟩
      rcases hk with hk | hk
      · have := HW2.out; omega
      · exact hk.elim)
    have hq4 : w4.cell? ⟨w2.heap.size, 2, none⟩ = some (.int .i64 (q : Int)) := by have := (pst_at hs4).2.2.1; simp only [Nat.zero_add] at this; exact this
    clear hs4 hr4 hb4 hr4' HS
    go_wp2_with fail
    go_quiet (fail)
    go_wp2_with fail
    go_ret3
    exact HRES.out _
  · rw [decide_eq_false hok] at HV
    have HN := Lib.hid (HNONE.out hok)
    clear hok HNONE hv
    go_enter Try.func48, Try.ntmps48
    go_wp2_with fail
    refine HV.out.mono ?_
    rintro e w1 ⟨rfl, hb1⟩
    have HRES := Lib.hid (HN.out w1 hb1)
    clear hb1 HV HN
    go_wp2_with fail
    go_ret3
    exact HRES.out

end Go.Proofs.Ytipdfmedbcafpaa
end

section
/- The program's sorts in place of a part: by insertion, by a heap. -/
namespace Go.Proofs.Ytipdfmedbcafpaa
open Go.RowKit P El Qk
set_option linter.unusedVariables false

/-- The built-in copy under a name that the walk does not open. -/
def heldCopyS (ats : Array TypeId) (ty : TypeId) (args : Array Value) : Sem Value := Builtin.copy_ ats ty args
theorem builtin_copy_heldS (ats : Array TypeId) (ty : TypeId) (cs : Array Bool) (args : Array Value) : builtin .copy ats ty cs args = (do pure (.value (← heldCopyS ats ty args))) := rfl

theorem seg_cells {g o : Nat} : ∀ (vs : List Value) (o2 : Nat) (w a : World) (n : Nat), ButS g o n a w → o ≤ o2 → o2 + vs.length ≤ o + n → ButS g o n a (w.setCells g o2 vs)
  | [], o2, w, a, n, h, _, _ => by simpa [World.setCells] using h
  | v :: vs, o2, w, a, n, h, h1, h2 => by
    show ButS g o n a ((w.setCell ⟨g, o2, none⟩ v).setCells g (o2 + 1) vs)
    simp only [List.length_cons] at h2
    have h3 := h.setCell (o2 - o) v (by omega)
    rw [show o + (o2 - o) = o2 by omega] at h3
    exact seg_cells vs (o2 + 1) _ a n h3 (by omega) (by omega)
/-- A part of a row takes a list of its length. -/
theorem copy_seg {g o n c g2 c2 : Nat} {L S : List Int} {W : World} (h : Seg W g o (ints L)) (hL : L.length = n) (h2 : CellRow W g2 (ints S)) (hS : S.length = n) (ty : TypeId) :
    (heldCopyS #[26, 26] ty #[.slice (some ⟨g, o, none⟩) n c, .slice (some ⟨g2, 0, none⟩) n c2]).run Try.prog W = .ok (goInt (n : Int)) (W.setCells g o (ints S)) ∧ Seg (W.setCells g o (ints S)) g o (ints S) ∧ ButS g o n W (W.setCells g o (ints S)) := by
  have hinfo : (Try.prog.info? 3).map (·.size) = some 1 := by kernel_rfl
  have hc : ∀ j, j < (ints S).length → (W.cell? ⟨g, o + j, none⟩).isSome = true := fun j hj => by rw [ints_length, hS] at hj; rw [(h.at (k := j) (by omega)).1]; rfl
  have hf : ∀ j, j < (ints S).length → W.frozen? ⟨g, o + j, none⟩ = false := fun j hj => by rw [ints_length, hS] at hj; exact (h.at (k := j) (by omega)).2
  refine ⟨?_, ⟨Nat.lt_of_lt_of_le h.1 (seg_cells (ints S) o W W n (ButS.refl _ _ _ _) (Nat.le_refl _) (by rw [ints_length]; omega)).but.size, fun j u hu => ⟨?_, ?_⟩⟩, seg_cells (ints S) o W W n (ButS.refl _ _ _ _) (Nat.le_refl _) (by rw [ints_length]; omega)⟩
  · unfold heldCopyS
    have := run_copy_cells (P := Try.prog) W 26 26 ty 3 g o n c ⟨g2, 0, none⟩ n c2 (ints S) Try.underlying26 hinfo (by rw [ints_length, hS]; exact (Nat.min_self _).symm)
      (fun j v hj => by
        have e : (⟨g2, 0, none⟩ : Addr).add j = ⟨g2, j, none⟩ := by
          unfold Addr.add; split
          · rename_i hh; subst hh; rfl
          · simp
        rw [e]
        exact (h2.2 j v hj).1)
      hc hf (fun v hv => by unfold ints at hv; obtain ⟨p, _, rfl⟩ := List.mem_map.1 hv; rfl)
    rw [this, ints_length, hS]
  · obtain ⟨hj, he⟩ := List.getElem?_eq_some_iff.1 hu
    have := World.cell?_setCells_in g (ints S) o W hc j hj
    rw [this, he]
  · have hj := (List.getElem?_eq_some_iff.1 hu).1
    rw [World.frozen?_setCells]; exact hf j hj

attribute [local go_sem ↓ high] builtin_copy_heldS

/-- A sorted copy of a part, its numbers of no account. -/
def CopC2 (n : Nat) (S : List Int) (w : World) (e : Ending) (w' : World) : Prop :=
  ∃ g c, ∃ q1 q2, e = .returned (.tuple #[.slice (some ⟨g, 0, none⟩) n c, .int .i64 q1, .int .i64 q2, .bool true]) ∧ CellRow w' g (ints S) ∧ Below w.heap.size w w'
def CopC1 (n : Nat) (S : List Int) (w : World) (e : Ending) (w' : World) : Prop :=
  ∃ g c, ∃ q1, e = .returned (.tuple #[.slice (some ⟨g, 0, none⟩) n c, .int .i64 q1, .bool true]) ∧ CellRow w' g (ints S) ∧ Below w.heap.size w w'

set_option maxRecDepth 100000 in
set_option maxHeartbeats 4000000 in
theorem iins_place (g o c n : Nat) (L : List Int) (w : World) (h : Seg w g o (ints L)) (hL : L.length = n) (hok : OkL L) (hc : n ≤ c) :
    Calls Try.prog 110 #[.slice (some ⟨g, o, none⟩) n c] w fun e w' => e = .returned (.tuple #[]) ∧ SegP g o n (srt L) w w' := by
  have hi := implIns_any g o c L w (h.flat (by rw [hL]; exact hc)) (by have := hok.1; omega)
  have hSL : (srt L).length = n := by rw [srt_length]; exact hL
  rw [insAll_yes hok, hL] at hi
  have HI : Hid (Calls Try.prog 141 #[.slice (some ⟨g, o, none⟩) n c] w (CopC2 n (srt L) w)) := Lib.hid (hi.mono fun e w' hx => by
    obtain ⟨g2, c2, he, _, _, hr, hb⟩ := hx
    simp only at he
    rw [hSL] at he
    exact ⟨g2, c2, _, _, he, hr, hb⟩)
  have HSL := Lib.hid hSL
  have HG := Lib.hid h
  have HL := Lib.hid hL
  generalize srt L = S at *
  clear h hL hi hok hSL
  go_enter Try.func110, Try.ntmps110
  go_wp2_with fail
  refine HI.out.mono ?_
  rintro e w1 ⟨g2, c2, q1, q2, rfl, hr2, hb2⟩
  · have hcs := fun ty => copy_seg (c := c) (c2 := c2) (HG.out.below hb2 HG.out.1) HL.out hr2 HSL.out ty
    have hrun := fun ty => (hcs ty).1
    have HRES : Hid (SegP g o n S w (w1.setCells g o (ints S))) := Lib.hid ⟨(hcs 0).2.1, (ButS.ofBelow hb2 HG.out.1).trans (hcs 0).2.2⟩
    clear hr2 hb2 HI hcs
    go_wp2_with fail
    go_end0
    exact ⟨rfl, HRES.out⟩

set_option maxRecDepth 100000 in
set_option maxHeartbeats 4000000 in
theorem iheap_place (g o c n : Nat) (L : List Int) (w : World) (h : Seg w g o (ints L)) (hL : L.length = n) (hok : OkL L) (hc : n ≤ c) (h0 : 0 < n) :
    Calls Try.prog 111 #[.slice (some ⟨g, o, none⟩) n c] w fun e w' => e = .returned (.tuple #[]) ∧ SegP g o n (srt L) w w' := by
  have hi := implHs_any (some ⟨g, o, none⟩) c L 2 w ⟨h.flat (by rw [hL]; exact hc), fun e => by simp at e⟩ (by have := hok.1; omega)
  have hSL : (srt L).length = n := by rw [srt_length]; exact hL
  have hd : Hp.OkD 2 := by unfold Hp.OkD; omega
  have hs := Hp.hs_sorted (d := (2 : Int).toNat) hd.pos L
  have he : (Hp.hsF (2 : Int).toNat L).1 = srt L := srt_uniq hs.2 hs.1
  rw [Hp.hsAll_yes ⟨hok, hd⟩, hL, he] at hi
  have HI : Hid (Calls Try.prog 142 #[.slice (some ⟨g, o, none⟩) n c, .int .i64 2] w (CopC1 n (srt L) w)) := Lib.hid (hi.mono fun e w' hx => by
    obtain ⟨g2, c2, he, _, _, hr, hb⟩ := hx.own (fun hn => by simp only at hn; rw [hn] at hSL; simp at hSL; omega)
    simp only at he
    rw [hSL] at he
    exact ⟨g2, c2, _, he, hr, hb⟩)
  have HSL := Lib.hid hSL
  have HG := Lib.hid h
  have HL := Lib.hid hL
  clear hs he
  generalize srt L = S at *
  clear h hL hi hok hSL hd
  go_enter Try.func111, Try.ntmps111
  go_wp2_with fail
  refine HI.out.mono ?_
  rintro e w1 ⟨g2, c2, q1, rfl, hr2, hb2⟩
  · have hcs := fun ty => copy_seg (c := c) (c2 := c2) (HG.out.below hb2 HG.out.1) HL.out hr2 HSL.out ty
    have hrun := fun ty => (hcs ty).1
    have HRES : Hid (SegP g o n S w (w1.setCells g o (ints S))) := Lib.hid ⟨(hcs 0).2.1, (ButS.ofBelow hb2 HG.out.1).trans (hcs 0).2.2⟩
    clear hr2 hb2 HI hcs
    go_wp2_with fail
    go_end0
    exact ⟨rfl, HRES.out⟩

end Go.Proofs.Ytipdfmedbcafpaa
end

section
/- The program's IntroSort, by its contract. -/
namespace Go.Proofs.Ytipdfmedbcafpaa
open Go.RowKit P El Qk
set_option linter.unusedVariables false

/-- The limit's cell and the count's. -/
def HpI (m lp hb : Nat) (h : Nat) (w : World) : Prop := CellRow w hb [.int .i64 (h : Int)] ∧ CellRow w lp [.int .i64 (m : Int)]
def QI (lp hb : Nat) (k : Nat) : Prop := k = hb ∨ k = lp

set_option maxRecDepth 100000 in
set_option maxHeartbeats 8000000 in
theorem finI_call (m lp hb : Nat) (hne : hb ≠ lp) (hm : m ≤ 20) (g o c n d h : Nat) (M : List Int) (W : World) (hok : OkL M) (hgq : ¬ QI lp hb g) (hh : HpI m lp hb h W) (hg : Seg W g o (ints M)) (hM : M.length = n) (hc : n ≤ c) (h64 : n ≤ 64) (hhn : h + n ≤ 500) (hd : d ≤ 500) :
    Calls Try.prog 109 (#[.slice (some ⟨g, o, none⟩) n c, .int .i64 (d : Int)] ++ #[.pointer (some ⟨lp, 0, none⟩), .pointer (some ⟨hb, 0, none⟩)]) W (FinC (finI m) d M g o n h (HpI m lp hb) (QI lp hb) W) := by
  have hgb : g ≠ hb := fun e => hgq (.inl e)
  have hgl : g ≠ lp := fun e => hgq (.inr e)
  have hml := (hh.2.2 0 _ rfl).1
  have hhc := hh.1.2 0 _ rfl
  show Calls Try.prog 109 #[.slice (some ⟨g, o, none⟩) n c, .int .i64 (d : Int), .pointer (some ⟨lp, 0, none⟩), .pointer (some ⟨hb, 0, none⟩)] W _
  by_cases h5 : n ≤ 5
  · have HI := Lib.hid (iins_place g o c n M W hg hM hok hc)
    have HRES : Hid (∀ w2, SegP g o n (srt M) W w2 → FinC (finI m) d M g o n h (HpI m lp hb) (QI lp hb) W (.returned (.bool true)) w2) := Lib.hid (fun w2 hp => by
      unfold FinC; rw [finI_small (by omega)]
      exact ⟨rfl, hp.1, ⟨hh.1.same (hp.2.but.block hb hh.1.1 (fun e => hgb e.symm)) hp.2.but.size, hh.2.same (hp.2.but.block lp hh.2.1 (fun e => hgl e.symm)) hp.2.but.size⟩, hp.2.segB _⟩)
    have hz : (n : Int) ≤ 5 := by omega
    have hzd : decide ((n : Int) ≤ 5) = true := decide_eq_true hz
    clear hg hM hok hh hhc hml
    go_enter Try.func109, Try.ntmps109
    go_wp2_with fail
    refine HI.out.mono ?_
    rintro e w2 ⟨rfl, hp⟩
    have HR := Lib.hid (HRES.out w2 hp)
    clear hp HRES HI
    go_wp2_with fail
    go_ret
    exact HR.out
  · have hz : ¬ (n : Int) ≤ 5 := by omega
    have hzd : decide ((n : Int) ≤ 5) = false := decide_eq_false hz
    by_cases hdm : d = m
    · have HI := Lib.hid (iheap_place g o c n M W hg hM hok hc (by omega))
      have HRES : Hid (∀ w2, SegP g o n (srt M) W w2 → (w2.cell? ⟨hb, 0, none⟩ = some (.int .i64 (h : Int)) ∧ w2.frozen? ⟨hb, 0, none⟩ = false) ∧ FinC (finI m) d M g o n h (HpI m lp hb) (QI lp hb) W (.returned (.bool true)) (w2.setCell ⟨hb, 0, none⟩ (.int .i64 ((h : Int) + 1)))) := Lib.hid (fun w2 hp => by
        have h1 := hh.1.same (hp.2.but.block hb hh.1.1 (fun e => hgb e.symm)) hp.2.but.size
        have h2 := hh.2.same (hp.2.but.block lp hh.2.1 (fun e => hgl e.symm)) hp.2.but.size
        refine ⟨h1.2 0 _ rfl, ?_⟩
        have hz : w2.heap.size ≤ (w2.setCell ⟨hb, 0, none⟩ (.int .i64 ((h : Int) + 1))).heap.size := by simp
        unfold FinC; rw [finI_heap (by omega) hdm]
        exact ⟨rfl, hp.1.same (Below.heap_setCell _ _ _ _ hgb) hz, ⟨h1.set 0 _ (by simp), h2.same (Below.heap_setCell _ _ _ _ (fun e => hne e.symm)) hz⟩, (hp.2.segB _).put hb 0 _ (.inl rfl) (fun e => hgb e.symm)⟩)
      have hde : ((d : Int) == (m : Int)) = true := by simp; omega
      have hde2 : (d : Int) = (m : Int) := by omega
      have hhb : h ≤ 500 := by omega
      clear hg hM hok hh hhc
      subst hdm
      clear hde2
      go_enter Try.func109, Try.ntmps109
      go_wp2_with fail
      refine HI.out.mono ?_
      rintro e w2 ⟨rfl, hp⟩
      obtain ⟨⟨hcb, hfb⟩, hr⟩ := HRES.out w2 hp
      have HR := Lib.hid hr
      clear hp HRES HI hr
      go_wp2_with fail
      go_ret
      exact HR.out
    · have HRES : Hid (FinC (finI m) d M g o n h (HpI m lp hb) (QI lp hb) W (.returned (.bool false)) W) := Lib.hid (by
        unfold FinC; rw [finI_none (by omega) hdm]; exact ⟨rfl, Below.refl _ _⟩)
      have hde : ((d : Int) == (m : Int)) = false := by simp; omega
      have hde2 : ¬ (d : Int) = (m : Int) := by omega
      clear hg hM hok hh hhc
      go_enter Try.func109, Try.ntmps109
      go_wp2_with fail
      go_ret
      exact HRES.out

theorem finI_w (m lp hb : Nat) (hne : hb ≠ lp) (hm : m ≤ 20) : FinW 109 #[.pointer (some ⟨lp, 0, none⟩), .pointer (some ⟨hb, 0, none⟩)] (finI m) (HpI m lp hb) (QI lp hb) where
  ok := finI_ok m
  eg := enters_of Try.func109 (by kernel_rfl) rfl
  frame := fun h w w' hh hz hb => ⟨hh.1.same (hb _ hh.1.1 (.inl rfl)) hz, hh.2.same (hb _ hh.2.1 (.inr rfl)) hz⟩
  lt := fun h w k hh hk => by
    rcases hk with rfl | rfl
    · exact hh.1.1
    · exact hh.2.1
  call := fun g o c n d h M W hok hgq hh hg hM hc h64 hhn hd => finI_call m lp hb hne hm g o c n d h M W hok hgq hh hg hM hc h64 hhn hd

set_option maxRecDepth 100000 in
set_option maxHeartbeats 4000000 in
theorem implIk_any (b o c : Nat) (l : List Int) (m : Int) (w : World) (hv : FlatAt w (.slice (some ⟨b, o, none⟩) l.length c) l.length (ints l)) (hn : l.length ≤ 1048576) :
    Calls Try.prog 51 #[.slice (some ⟨b, o, none⟩) l.length c, .int .i64 m] w (RetI2 (itAll l m) w) := by
  obtain ⟨W0, hW0⟩ : ∃ W0, W0 = w.alloc (.cells #[.int .i64 m] 3) := ⟨_, rfl⟩
  have hb0 : Below w.heap.size w W0 := by rw [hW0]; exact (Below.refl _ _).alloc (Nat.le_refl _) _
  have hm0 : CellRow W0 w.heap.size [.int .i64 m] := by
    have hA : RowIs (w.alloc (.cells #[.int .i64 m] 3)) w.heap.size 3 [.int .i64 m] := heap_alloc_new w _
    rw [hW0]; exact CellRow.of_row hA
  have HV := Lib.hid (implValidList_any _ l W0 (hv.below hb0) hn)
  have HNONE : Hid (¬ (OkL l ∧ OkI m) → ∀ w1, Below W0.heap.size W0 w1 → RetI2 (itAll l m) w (.returned (.tuple #[.slice (some ⟨w1.heap.size, 0, none⟩) 0 0, .int .i64 0, .int .i64 0, .bool false])) (w1.alloc (.cells #[] 3))) := Lib.hid (fun h w1 hb => by rw [itAll_no h]; exact RetI2.none w w1 (hb0.trans (hb.mono hb0.size)))
  have HW0 := Lib.hid hW0
  by_cases hok : OkL l
  · rw [decide_eq_true hok] at HV
    have HM1 : Hid (∀ w1, Below W0.heap.size W0 w1 → w1.cell? ⟨w.heap.size, 0, none⟩ = some (.int .i64 m)) := Lib.hid (fun w1 hb => ((hm0.below hb hm0.1).2 0 _ rfl).1)
    by_cases hm : OkI m
    · obtain ⟨k, rfl⟩ : ∃ k : Nat, m = k := ⟨m.toNat, by have := hm.1; omega⟩
      have hk : k ≤ 20 := by have := hm.2; omega
      have hk1 : ¬ (k : Int) < 0 := by omega
      have hk2 : ¬ (20 : Int) < (k : Int) := by omega
      have HF := Lib.hid (itAll_yes hok hk)
      have h64 := hok.1
      have HOWN := Lib.hid (fun W (h : FlatAt W (.slice (some ⟨b, o, none⟩) l.length c) l.length (ints l)) => cloneInts_any b o c l W h hn)
      have HSQ : Hid (sg (finI k) l.length 0 l = itn k l) := Lib.hid (sg_it k k l.length 0 l (Nat.le_refl _) (by omega))
      have HLN : Hid ((itn k l).1.length = l.length) := Lib.hid (by rw [(itn_spec k l).1, srt_length])
      have HPS := Lib.hid (fun (hb s g cap : Nat) W (hne : hb ≠ w.heap.size) (hsq : ¬ QI w.heap.size hb s) (hgs : g ≠ s) (hgq : ¬ QI w.heap.size hb g) (hs : CellRow W s (pst (.func (.func 109) #[] #[.pointer (some ⟨w.heap.size, 0, none⟩), .pointer (some ⟨hb, 0, none⟩)]) 0 0)) (hh : HpI k w.heap.size hb 0 W) (h : CellRow W g (ints l)) (hc : l.length ≤ cap) => by
        have := psort_any (finI_w k w.heap.size hb hne hk) s hsq l.length g 0 cap l.length 0 0 0 l W hok hgs hgq hs hh (Seg.of_row h) rfl (Nat.le_refl _) h64 hc (by omega) (by omega) (by omega)
        rw [HSQ.out] at this; exact this)
      have HFV := Lib.hid (hv.below hb0)
      have HZ0 : Hid (w.heap.size < W0.heap.size ∧ Below w.heap.size w W0) := Lib.hid ⟨hm0.1, hb0⟩
      have HMR : Hid (∀ w1, Below W0.heap.size W0 w1 → CellRow w1 w.heap.size [.int .i64 (k : Int)]) := Lib.hid (fun w1 hb => hm0.below hb hm0.1)
      generalize itn k l = R at *
      obtain ⟨M, q, q2⟩ := R
      simp only at HF HPS HLN
      clear hok hv HNONE HSQ hm hW0 hb0 hm0
      go_enter Try.func51, Try.ntmps51
      go_wp2_with fail
      rw [← HW0.out]
      refine HV.out.mono ?_
      rintro e w1 ⟨rfl, hb1⟩
      have hcm := HM1.out w1 hb1
      have HV1 := Lib.hid (HFV.out.below hb1)
      have HB1 := Lib.hid hb1
      clear hb1 HV HFV HM1
      go_wp2_with fail
      refine (HOWN.out _ HV1.out).mono ?_
      rintro e w2 ⟨g, cap, rfl, hcap, hg, hrow, hb2⟩
      have HG : Hid (W0.heap.size ≤ g) := Lib.hid (Nat.le_trans HB1.out.size hg)
      have HCAP := Lib.hid hcap
      have HB2 := Lib.hid (HB1.out.trans (hb2.mono HB1.out.size))
      have HR2 := Lib.hid hrow
      clear hb2 hrow HOWN HV1 hg hcap HB1 hcm
      go_wp2_with fail
      obtain ⟨hb, hhb⟩ : ∃ hb, hb = w2.heap.size := ⟨_, rfl⟩
      obtain ⟨W3, hW3⟩ : ∃ W3, W3 = w2.alloc (.cells #[.int .i64 0] 3) := ⟨_, rfl⟩
      have hz3 : W3.heap.size = hb + 1 := by rw [hW3, hhb]; simp
      have hA3 : RowIs (w2.alloc (.cells #[.int .i64 0] 3)) w2.heap.size 3 [.int .i64 0] := heap_alloc_new w2 _
      rw [← hW3, ← hhb] at hA3
      have hb3 : Below w2.heap.size w2 W3 := by rw [hW3]; exact (Below.refl _ _).alloc (Nat.le_refl _) _
      have hA4 : RowIs (W3.alloc (.cells #[(.func (.func 109) #[] #[.pointer (some ⟨w.heap.size, 0, none⟩), .pointer (some ⟨hb, 0, none⟩)]), .int .i64 0, .int .i64 0] 112)) W3.heap.size 112 (pst (.func (.func 109) #[] #[.pointer (some ⟨w.heap.size, 0, none⟩), .pointer (some ⟨hb, 0, none⟩)]) 0 0) := heap_alloc_new W3 _
      have hb4 : Below W3.heap.size W3 (W3.alloc (.cells #[(.func (.func 109) #[] #[.pointer (some ⟨w.heap.size, 0, none⟩), .pointer (some ⟨hb, 0, none⟩)]), .int .i64 0, .int .i64 0] 112)) := (Below.refl _ _).alloc (Nat.le_refl _) _
      rw [hz3] at hA4
      have e1 : g < hb := by rw [hhb]; exact HR2.out.1
      have e2 : w.heap.size < g := by have := HG.out; have := HZ0.out.1; omega
      have HS := Lib.hid (HPS.out hb (hb + 1) g cap _ (by omega) (by rintro (h | h) <;> omega) (by omega) (by rintro (h | h) <;> omega) (CellRow.of_row hA4) ⟨(CellRow.of_row hA3).below hb4 (by omega), ((HMR.out w2 HB2.out).below hb3 (by omega)).below hb4 (by omega)⟩ ((HR2.out.below hb3 HR2.out.1).below hb4 (by omega)) HCAP.out)
      have HB3 : Hid (Below w.heap.size w (W3.alloc (.cells #[(.func (.func 109) #[] #[.pointer (some ⟨w.heap.size, 0, none⟩), .pointer (some ⟨hb, 0, none⟩)]), .int .i64 0, .int .i64 0] 112))) := Lib.hid (by
        have h2 : w.heap.size ≤ w2.heap.size := by omega
        exact (HZ0.out.2.trans (HB2.out.mono (by have := HZ0.out.1; omega))).trans ((hb3.mono h2).trans (hb4.mono (by omega))))
      have HE : Hid (w.heap.size ≤ g ∧ w.heap.size ≤ hb) := Lib.hid ⟨by omega, by omega⟩
      have HHB := Lib.hid hhb
      have HW3 := Lib.hid hW3
      clear hA3 hA4 hb3 hb4 e1 e2 HPS HR2 HB2 HMR hz3 hhb hW3
      rw [← HW3.out, ← HHB.out]
      refine HS.out.mono ?_
      rintro e w4 ⟨rfl, hs4, hh4, hr4, hb4⟩
      have hr4' := hr4.row
      have HRES : Hid (∀ t, RetI2 (itAll l (k : Int)) w (.returned (.tuple #[.slice (some ⟨g, 0, none⟩) l.length cap, .int .i64 (q : Int), .int .i64 (q2 : Int), .bool true])) (w4.drewN t)) := Lib.hid (fun t => by
        rw [HF.out]
        refine ⟨g, cap, by simp only; rw [HLN.out], by simp only; rw [HLN.out]; exact HCAP.out, HE.out.1, hr4'.same rfl (Nat.le_refl _), (HB3.out.trans (hb4.below HE.out.1 (fun j hj => ?_) HB3.out.size)).trans ⟨rfl, rfl, rfl, Nat.le_refl _, fun _ _ => rfl⟩⟩
        have := HE.out.2
        rcases hj with hj | hj | hj <;> omega)
      have hq4 : w4.cell? ⟨hb + 1, 2, none⟩ = some (.int .i64 (q : Int)) := by have := (pst_at hs4).2.2.1; simp only [Nat.zero_add] at this; exact this
      have hq5 : w4.cell? ⟨hb, 0, none⟩ = some (.int .i64 (q2 : Int)) := by have := (hh4.1.2 0 _ rfl).1; simp only [Nat.zero_add] at this; exact this
      clear hs4 hh4 hr4 hb4 hr4' HS
      go_wp2_with fail
      go_quiet (fail)
      go_wp2_with fail
      refine bodyPost_ret (results_tmp4 rfl _ _ _) rfl ?_
      exact HRES.out _
    · have HN := Lib.hid (HNONE.out (fun h => hm h.2))
      rcases (show m < 0 ∨ (¬ m < 0 ∧ 20 < m) by unfold OkI at hm; omega) with h0 | ⟨h0, h1⟩
      all_goals
        clear hok HNONE hv hm hW0 hb0 hm0
        go_enter Try.func51, Try.ntmps51
        go_wp2_with fail
        rw [← HW0.out]
        refine HV.out.mono ?_
        rintro e w1 ⟨rfl, hb1⟩
        have hcm := HM1.out w1 hb1
        have HRES := Lib.hid (HN.out w1 hb1)
        clear hb1 HV HN HM1
        go_wp2_with fail
        refine bodyPost_ret (results_tmp4 rfl _ _ _) rfl ?_
        exact HRES.out
  · rw [decide_eq_false hok] at HV
    have HN := Lib.hid (HNONE.out (fun h => hok h.1))
    clear hok HNONE hv hW0 hb0 hm0
    go_enter Try.func51, Try.ntmps51
    go_wp2_with fail
    rw [← HW0.out]
    refine HV.out.mono ?_
    rintro e w1 ⟨rfl, hb1⟩
    have HRES := Lib.hid (HN.out w1 hb1)
    clear hb1 HV HN
    go_wp2_with fail
    refine bodyPost_ret (results_tmp4 rfl _ _ _) rfl ?_
    exact HRES.out

end Go.Proofs.Ytipdfmedbcafpaa
end

section
/- The model's l4Insert on a part of a row, by its contract. -/
namespace Go.Proofs.Ytipdfmedbcafpaa
open Go.RowKit P El
set_option linter.unusedVariables false

/-- The outer loop's word at i. -/
structure InsOS (L : List Int) (gap g o i : Nat) (M : List Int) (c m : Nat) (w W : World) : Prop where
  run : insN gap i (L.length - i) (M, c, m) = gapF (L, 0, 0) gap
  len : M.length = L.length
  le : i ≤ 64
  cb : c ≤ 64 * i
  mb : m ≤ 65 * i
  row : Seg W g o (ints M)
  but : ButS g o L.length w W
/-- The inner loop's word at k. -/
structure InsKS (x : Int) (gap g o n i : Nat) (M : List Int) (c m k : Nat) (M' : List Int) (c' m' : Nat) (w W : World) : Prop where
  run : sh x gap M' k c' m' = sh x gap M i c m
  len : M'.length = M.length
  le : k ≤ i
  cb : c' + k ≤ c + i
  mb : m' + k ≤ m + i
  row : Seg W g o (ints M')
  but : ButS g o n w W

theorem InsOS.next {L : List Int} {gap g o i : Nat} {M : List Int} {c m : Nat} {w W0 W : World} (h : InsOS L gap g o i M c m w W0) (hi : i < L.length) (h64 : L.length ≤ 64) {M1 : List Int} {j c1 m1 : Nat} (hr : sh (M.getD i 0) gap M i c m = (M1, j, c1, m1)) (row : Seg W g o (ints M1)) (but : ButS g o L.length w W) :
    (j = i → InsOS L gap g o (i + 1) M1 c1 m1 w W) ∧ (j ≠ i → InsOS L gap g o (i + 1) (M1.set j (M.getD i 0)) c1 (m1 + 1) w (W.setCell ⟨g, o + j, none⟩ (.int .i64 (M.getD i 0)))) := by
  have hl := sh_length (M.getD i 0) gap M i c m
  have hb := sh_bounds (M.getD i 0) gap M i c m
  have hat := insAt_of (g := gap) (i := i) (S := (M, c, m)) hr
  rw [hr] at hl hb
  simp only at hl hb hat
  have hrun := h.run
  have hc := h.cb
  have hm := h.mb
  have hlen := h.len
  rw [show L.length - i = L.length - (i + 1) + 1 by omega, insN_succ, hat] at hrun
  refine ⟨fun e => ?_, fun e => ?_⟩
  · rw [if_pos e] at hrun
    exact ⟨hrun, by omega, by omega, by omega, by omega, row, but⟩
  · rw [if_neg e] at hrun
    exact ⟨hrun, by rw [List.length_set]; omega, by omega, by omega, by omega, row.put j _ (by omega), but.setCell j _ (by omega)⟩

set_option maxRecDepth 100000 in
set_option maxHeartbeats 4000000 in
theorem l4InsertS_any (g o cap gap : Nat) (L : List Int) (w : World) (hrow : Seg w g o (ints L)) (h64 : L.length ≤ 64) (hg0 : 0 < gap) (hg1 : gap ≤ 64) :
    Calls Try.prog 143 #[.slice (some ⟨g, o, none⟩) L.length cap, .int .i64 (gap : Int)] w fun e w' =>
      e = .returned (.tuple #[.int .i64 ((gapF (L, 0, 0) gap).2.1 : Nat), .int .i64 ((gapF (L, 0, 0) gap).2.2 : Nat)]) ∧ Seg w' g o (ints (gapF (L, 0, 0) gap).1) ∧ ButS g o L.length w w' := by
  have HST : Hid (InsOS L gap g o gap L 0 0 w w) := Lib.hid ⟨rfl, rfl, hg1, Nat.zero_le _, Nat.zero_le _, hrow, ButS.refl _ _ _ _⟩
  generalize hR : gapF (L, 0, 0) gap = R at *
  have HR := Lib.hid hR
  clear hrow hR
  go_enter Try.func143, Try.ntmps143
  go_wp2_with fail
  go_loopw [6, 7, 8, 9, 10] (fun cv mv iv _ _ wr => ∃ (i : Nat) (M : List Int) (c m : Nat), cv = .int .i64 c ∧ mv = .int .i64 m ∧ iv = .int .i64 i ∧ InsOS L gap g o i M c m w wr) (fun _ _ iv _ _ _ => L.length - (intOf iv).toNat)
  case atStart => exact ⟨gap, L, 0, 0, rfl, rfl, rfl, HST.out⟩
  case round =>
    obtain ⟨i, M, c, m, rfl, rfl, rfl, ho⟩ := hrel
    have HO := Lib.hid ho
    have hc : c ≤ 8000 := by have := ho.cb; have := ho.le; omega
    have hm : m ≤ 8000 := by have := ho.mb; have := ho.le; omega
    have hi64 := ho.le
    clear ho HST
    by_cases hlt : i < L.length
    · obtain ⟨x, hx⟩ : ∃ x, x = M.getD i 0 := ⟨_, rfl⟩
      have hlM := HO.out.len
      have hci := HO.out.row.2 i _ (ints_at (at_getD (by omega)))
      rw [← hx] at hci
      obtain ⟨hcx, _⟩ := hci
      have HX := Lib.hid hx
      have HK0 : Hid (InsKS x gap g o L.length i M c m i M c m w wr) := Lib.hid ⟨rfl, rfl, Nat.le_refl _, Nat.le_refl _, Nat.le_refl _, HO.out.row, HO.out.but⟩
      have HLM := Lib.hid hlM
      clear hx hlM
      go_wp2_with fail
      go_loopw [6, 7, 10] (fun cv mv kv ws => ∃ (k : Nat) (M' : List Int) (c' m' : Nat), cv = .int .i64 c' ∧ mv = .int .i64 m' ∧ kv = .int .i64 k ∧ InsKS x gap g o L.length i M c m k M' c' m' w ws) (fun _ _ kv _ => (intOf kv).toNat)
      case atStart => exact ⟨i, M, c, m, rfl, rfl, rfl, HK0.out⟩
      case round =>
        obtain ⟨k, M', c', m', rfl, rfl, rfl, hk⟩ := hrel
        have HK := Lib.hid hk
        have hkl : k < L.length := by have := hk.le; omega
        have HKL : Hid (k < L.length) := Lib.hid hkl
        have hc' : c' ≤ 9000 := by have := hk.cb; omega
        have hm' : m' ≤ 9000 := by have := hk.mb; omega
        clear hk HK0
        -- what follows when the place is found
        have HEND : Hid (∀ c1, sh x gap M i c m = (M', k, c1, m') → (k = i → InsOS L gap g o (i + 1) M' c1 m' w wr) ∧ (k ≠ i → InsOS L gap g o (i + 1) (M'.set k x) c1 (m' + 1) w (wr.setCell ⟨g, o + k, none⟩ (.int .i64 x)))) := Lib.hid (fun c1 hr => by
          have := HO.out.next hlt h64 (by rw [← HX.out]; exact hr) HK.out.row HK.out.but
          rw [← HX.out] at this; exact this)
        have hck := HK.out.row.2 k _ (ints_at (at_getD (by have := HK.out.len; have := HLM.out; omega)))
        obtain ⟨hcK, hfK⟩ := hck
        by_cases hgk : gap ≤ k
        · obtain ⟨j, hj⟩ : ∃ j, j = k - gap := ⟨_, rfl⟩
          have hws : IntKind.i64.wrap ((k : Int) - (gap : Int)) = (j : Int) := by rw [IntKind.wrap_i64]; omega
          have hjl : j < L.length := by omega
          obtain ⟨y, hy⟩ : ∃ y, y = M'.getD j 0 := ⟨_, rfl⟩
          have hcj := HK.out.row.2 j _ (ints_at (at_getD (by have := HK.out.len; have := HLM.out; omega)))
          rw [← hy] at hcj
          obtain ⟨hcJ, _⟩ := hcj
          have HJ := Lib.hid hj
          have HY := Lib.hid hy
          have hjz : (j : Int) < L.length := by omega
          have hkz : (k : Int) < L.length := by omega
          clear hj hy
          by_cases hxy : x < y
          · have hle : decide (y ≤ x) = false := decide_eq_false (by omega)
            have HN : Hid (InsKS x gap g o L.length i M c m j (M'.set k y) (c' + 1) (m' + 1) w (wr.setCell ⟨g, o + k, none⟩ (.int .i64 y))) := Lib.hid (by
              have h := HK.out
              have hlM := HLM.out
              have h1 := h.le
              have h2 := h.cb
              have h3 := h.mb
              have h4 := h.len
              have hjj := HJ.out
              have hyy := HY.out
              refine ⟨?_, by rw [List.length_set]; exact h4, by omega, by omega, by omega, h.row.put k _ (by omega), h.but.setCell k _ HKL.out⟩
              rw [← h.run, sh_go c' m' hg0 hgk (by rw [← hjj, ← hyy]; exact hxy), ← hjj, ← hyy])
            clear HEND
            go_wp2_with fail
            go_roundw
            case rel => exact ⟨j, _, c' + 1, m' + 1, by go_num, by go_num, rfl, HN.out⟩
            case measure => have := HJ.out; simp [intOf]; omega
          · have hle : decide (y ≤ x) = true := decide_eq_true (by omega)
            have HE := Lib.hid (HEND.out (c' + 1) (by rw [← HK.out.run, sh_stop c' m' hg0 hgk (by rw [← HJ.out, ← HY.out]; exact hxy)]))
            clear HEND
            by_cases hki : k = i
            · have HN := Lib.hid (HE.out.1 hki)
              have hne : ((k : Int) == i) = true := by simp; omega
              clear HE
              subst hki
              go_wp2_with fail
              go_roundw
              case rel => exact ⟨k + 1, _, c' + 1, m', by go_num, rfl, by go_num, HN.out⟩
              case measure => simp [intOf]; omega
            · have HN := Lib.hid (HE.out.2 hki)
              have hne : ((k : Int) == i) = false := by simp; omega
              clear HE
              go_wp2_with fail
              go_roundw
              case rel => exact ⟨i + 1, _, c' + 1, m' + 1, by go_num, by go_num, by go_num, HN.out⟩
              case measure => simp [intOf]; omega
        · have HE := Lib.hid (HEND.out c' (by rw [← HK.out.run, sh_end c' m' (by omega)]))
          have hkz : (k : Int) < L.length := by omega
          clear HEND
          by_cases hki : k = i
          · have HN := Lib.hid (HE.out.1 hki)
            have hne : ((k : Int) == i) = true := by simp; omega
            clear HE
            subst hki
            go_wp2_with fail
            go_roundw
            case rel => exact ⟨k + 1, _, c', m', rfl, rfl, by go_num, HN.out⟩
            case measure => simp [intOf]; omega
          · have HN := Lib.hid (HE.out.2 hki)
            have hne : ((k : Int) == i) = false := by simp; omega
            clear HE
            go_wp2_with fail
            go_roundw
            case rel => exact ⟨i + 1, _, c', m' + 1, rfl, by go_num, by go_num, HN.out⟩
            case measure => simp [intOf]; omega
    · have HRES : Hid ((Ending.returned (.tuple #[.int .i64 (c : Int), .int .i64 (m : Int)]) = .returned (.tuple #[.int .i64 (R.2.1 : Nat), .int .i64 (R.2.2 : Nat)])) ∧ Seg wr g o (ints R.1) ∧ ButS g o L.length w wr) := Lib.hid (by
        have h := HO.out
        have hr := h.run
        rw [show L.length - i = 0 by omega, HR.out] at hr
        rw [← hr]
        exact ⟨rfl, h.row, h.but⟩)
      go_wp2_with fail
      go_ret2
      exact HRES.out

end Go.Proofs.Ytipdfmedbcafpaa
end

section
/- The model's introsort, in place, its ends, by contracts. -/
namespace Go.Proofs.Ytipdfmedbcafpaa
open Go.RowKit P El Qk
set_option linter.unusedVariables false

theorem half_set {S L : List Int} {i : Nat} (h : S.length = L.length) (hi : i < L.length) : (S.take i ++ L.drop i).set i (S.getD i 0) = S.take (i + 1) ++ L.drop (i + 1) := by
  have e1 : (S.take i).length = i := by rw [List.length_take]; omega
  rw [List.set_append_right _ _ (by omega), e1, Nat.sub_self, List.drop_eq_getElem_cons hi, List.set_cons_zero, List.take_add_one, List.append_assoc, at_getD (by omega)]
  rfl
/-- What the sort of a part leaves. -/
def ItP (g o n : Nat) (R : List Int × Nat × Nat) (w : World) (e : Ending) (w' : World) : Prop := e = .returned (.tuple #[.int .i64 ((R.2.1 : Nat) : Int), .int .i64 ((R.2.2 : Nat) : Int)]) ∧ SegP g o n R.1 w w'

set_option maxRecDepth 100000 in
set_option maxHeartbeats 8000000 in
theorem sit_small (g o c n m : Nat) (L : List Int) (w : World) (h : Seg w g o (ints L)) (hL : L.length = n) (h5 : n ≤ 5) (hm : m ≤ 20) :
    Calls Try.prog 112 #[.slice (some ⟨g, o, none⟩) n c, .int .i64 (m : Int)] w (ItP g o n (srt L, 0, 0) w) := by
  have hi := l4InsertS_any g o c 1 L w h (by omega) (by omega) (by omega)
  rw [hL] at hi
  have HI := Lib.hid hi
  have hz : (n : Int) ≤ 5 := by omega
  have hzd : decide ((n : Int) ≤ 5) = true := decide_eq_true hz
  clear h hL hi
  go_enter Try.func112, Try.ntmps112
  go_wp2_with fail
  refine HI.out.mono ?_
  rintro e w1 ⟨rfl, hs, hb⟩
  have HRES : Hid (ItP g o n (srt L, 0, 0) w (.returned (.tuple #[.int .i64 0, .int .i64 0])) w1) := Lib.hid ⟨rfl, hs, hb⟩
  clear hs hb HI
  go_wp2_with fail
  go_ret2
  exact HRES.out

set_option maxRecDepth 100000 in
set_option maxHeartbeats 8000000 in
theorem sit_heap (g o c n : Nat) (L : List Int) (w : World) (h : Seg w g o (ints L)) (hL : L.length = n) (h5 : ¬ n ≤ 5) (h64 : n ≤ 64) (hc : n ≤ c) :
    Calls Try.prog 112 #[.slice (some ⟨g, o, none⟩) n c, .int .i64 0] w (ItP g o n (srt L, 0, 1) w) := by
  have hi := l2Sorted_any g o c L w (h.flat (by rw [hL]; exact hc)) (by omega)
  rw [hL] at hi
  have HI := Lib.hid hi
  have hz : ¬ (n : Int) ≤ 5 := by omega
  have hzd : decide ((n : Int) ≤ 5) = false := decide_eq_false hz
  obtain ⟨S, hS⟩ : ∃ S, S = srt L := ⟨_, rfl⟩
  have HSL : Hid (S.length = n) := Lib.hid (by rw [hS, srt_length]; exact hL)
  rw [← hS] at HI ⊢
  have HG := Lib.hid h
  have HL := Lib.hid hL
  clear h hL hi hS
  go_enter Try.func112, Try.ntmps112
  go_wp2_with fail
  refine HI.out.mono ?_
  rintro e w1 ⟨g2, c2, rfl, hc2, hg2, hr2, hb2⟩
  have hgg : g2 ≠ g := by have := HG.out.1; omega
  have HGG := Lib.hid hgg
  have HG1 := Lib.hid (HG.out.below hb2 HG.out.1)
  have HR1 := Lib.hid hr2
  have HB1 : Hid (ButS g o n w w1) := Lib.hid (ButS.ofBelow hb2 HG.out.1)
  have HC2 : Hid (n ≤ c2) := Lib.hid (by rw [HSL.out] at hc2; exact hc2)
  clear hr2 hb2 HI HG hgg hg2 hc2
  go_wp2_with fail
  go_loopw [7] (fun iv wr => ∃ i : Nat, iv = .int .i64 (i : Int) ∧ i ≤ n ∧ Seg wr g o (ints (S.take i ++ L.drop i)) ∧ CellRow wr g2 (ints S) ∧ ButS g o n w wr) (fun iv _ => n - (intOf iv).toNat)
  case atStart => exact ⟨0, rfl, Nat.zero_le _, by simpa using HG1.out, HR1.out, HB1.out⟩
  case round =>
    obtain ⟨i, rfl, hi, hg, hr, hb⟩ := hrel
    have HGW := Lib.hid hg
    have HRW := Lib.hid hr
    have HBW := Lib.hid hb
    clear hg hr hb HG1 HR1 HB1
    by_cases hlt : i < n
    · have hiz : (i : Int) < (n : Int) := by omega
      have hld : decide ((i : Int) < (n : Int)) = true := decide_eq_true hiz
      have hci := HRW.out.2 i _ (ints_at (at_getD (by rw [HSL.out]; exact hlt)))
      obtain ⟨hci, _⟩ := hci
      have hlen : (S.take i ++ L.drop i).length = n := by have := HSL.out; have := HL.out; rw [List.length_append, List.length_take, List.length_drop]; omega
      obtain ⟨hcg, hfg⟩ := HGW.out.at (k := i) (by rw [hlen]; exact hlt)
      obtain ⟨x, hx⟩ : ∃ x, x = S.getD i 0 := ⟨_, rfl⟩
      rw [← hx] at hci
      have HN : Hid (Seg (wr.setCell ⟨g, o + i, none⟩ (.int .i64 x)) g o (ints (S.take (i + 1) ++ L.drop (i + 1))) ∧ CellRow (wr.setCell ⟨g, o + i, none⟩ (.int .i64 x)) g2 (ints S) ∧ ButS g o n w (wr.setCell ⟨g, o + i, none⟩ (.int .i64 x))) := Lib.hid (by
        refine ⟨?_, HRW.out.same (Below.heap_setCell _ _ _ _ HGG.out) (by simp), HBW.out.setCell i _ hlt⟩
        rw [← half_set (by rw [HSL.out, HL.out]) (by rw [HL.out]; exact hlt), ← hx]
        exact HGW.out.put i x (by rw [hlen]; exact hlt))
      have hiS : (i : Int) < (S.length : Int) := by have := HSL.out; omega
      have hiS2 : i < S.length := by have := HSL.out; omega
      clear hlen hx
      go_wp2_with fail
      go_roundw
      case rel => exact ⟨i + 1, by go_num, by omega, HN.out.1, HN.out.2.1, HN.out.2.2⟩
      case measure => simp [intOf]; omega
    · obtain rfl : i = n := by omega
      have HRES : Hid (ItP g o i (S, 0, 1) w (.returned (.tuple #[.int .i64 0, .int .i64 1])) wr) := Lib.hid (by
        refine ⟨rfl, ?_, HBW.out⟩
        have h1 := HGW.out
        rw [List.take_of_length_le (by rw [HSL.out]; exact Nat.le_refl _), List.drop_eq_nil_of_le (by rw [HL.out]; exact Nat.le_refl _), List.append_nil] at h1
        exact h1)
      go_wp2_with fail
      go_ret2
      exact HRES.out

end Go.Proofs.Ytipdfmedbcafpaa
end

section
/- The model's introsort, in place, by its contract. -/
namespace Go.Proofs.Ytipdfmedbcafpaa
open Go.RowKit P El Qk
set_option linter.unusedVariables false

set_option maxRecDepth 100000 in
set_option maxHeartbeats 16000000 in
theorem sit_any : ∀ (m g o c n : Nat) (L : List Int) (w : World), Seg w g o (ints L) → L.length = n → m ≤ 20 → n ≤ 64 → n ≤ c →
    Calls Try.prog 112 #[.slice (some ⟨g, o, none⟩) n c, .int .i64 (m : Int)] w (ItP g o n (itn m L) w) := by
  intro m
  induction m with
  | zero =>
    intro g o c n L w h hL hm h64 hc
    by_cases h5 : n ≤ 5
    · rw [itn_small (by omega)]; exact sit_small g o c n 0 L w h hL h5 hm
    · rw [itn_heap (by omega)]; exact sit_heap g o c n L w h hL h5 h64 hc
  | succ m ih =>
    intro g o c n L w h hL hm h64 hc
    by_cases h5 : n ≤ 5
    · rw [itn_small (by omega)]; exact sit_small g o c n (m + 1) L w h hL h5 hm
    · have hz : ¬ (n : Int) ≤ 5 := by omega
      have hzd : decide ((n : Int) ≤ 5) = false := decide_eq_false hz
      have hm0 : ((((m + 1 : Nat) : Int)) == 0) = false := beq_eq_false_iff_ne.2 (by omega)
      have hm1 := medF_lt (L := L) (by omega)
      have hmm := getD_mem hm1
      have ht := thF_spec L (L.getD (medF L) 0)
      have hx := thF_some hmm
      obtain ⟨⟨M, lt, gt⟩, he⟩ : ∃ T, thF L (L.getD (medF L) 0) = T := ⟨_, rfl⟩
      have HMED := Lib.hid (smedR_any (c := c) w h.rd hL (by omega) (by omega))
      obtain ⟨x, hxe⟩ : ∃ x, x = L.getD (medF L) 0 := ⟨_, rfl⟩
      obtain ⟨hcx, _⟩ := h.at hm1
      rw [← hxe] at he hcx ht hx
      have HTH := Lib.hid (fun (W : World) (h : Seg W g o (ints L)) => sthree_any (c := c) x W h hL (by omega))
      rw [he] at ht hx HTH
      simp only at ht hx HTH
      have hq := itn_big (m := m) (M := M) (lt := lt) (gt := gt) (by omega : ¬ L.length ≤ 5) (by rw [← hxe]; exact he)
      obtain ⟨p1, p2⟩ := part_lens ht
      have hgn : gt ≤ n := by have := ht.h3; omega
      have hlg : lt ≤ gt := ht.h1
      have hML : M.length = n := by have := ht.perm.length_eq; omega
      obtain ⟨s1, s2, s2'⟩ := itn_spec m (M.take lt)
      obtain ⟨s3, s4, s4'⟩ := itn_spec m (M.drop gt)
      have l1 : (itn m (M.take lt)).1.length = lt := by rw [s1, srt_length]; exact p1
      have l3 : (itn m (M.drop gt)).1.length = n - gt := by rw [s3, srt_length]; omega
      have HI1 := Lib.hid (fun (W : World) (h : Seg W g o (ints (M.take lt))) => ih g o c lt (M.take lt) W h p1 (by omega) (by omega) (by omega))
      have HI2 : Hid (gt < c → ∀ (W : World), Seg W g (o + gt) (ints (M.drop gt)) → Calls Try.prog 112 #[.slice (some ⟨g, o + gt, none⟩) (n - gt) (c - gt), .int .i64 (m : Int)] W (ItP g (o + gt) (n - gt) (itn m (M.drop gt)) W)) := Lib.hid (fun _ W h => ih g (o + gt) (c - gt) (n - gt) (M.drop gt) W h (by omega) (by omega) (by omega) (by omega))
      have HI3 : Hid (gt = c → ∀ (W : World), Seg W g (o + gt) (ints (M.drop gt)) → Calls Try.prog 112 #[.slice (some ⟨g, o, none⟩) 0 0, .int .i64 (m : Int)] W (ItP g (o + gt) (n - gt) (itn m (M.drop gt)) W)) := Lib.hid (fun e W h => by
        have hz : n - gt = 0 := by omega
        have hnil : M.drop gt = [] := List.eq_nil_of_length_eq_zero (by omega)
        rw [hz]
        refine (ih g o 0 0 (M.drop gt) W (by rw [hnil]; exact Seg.nil h.1) (by omega) (by omega) (by omega) (by omega)).mono ?_
        rintro e w' ⟨y1, y2, y3⟩
        have hB0 : (itn m (M.drop gt)).1 = [] := List.eq_nil_of_length_eq_zero (by omega)
        exact ⟨y1, by rw [hB0]; exact Seg.nil y2.1, y3.but, y3.fz, fun j _ => y3.cell j (by omega)⟩)
      have HHS : Hid (Seg w g o (ints L) ∧ g < w.heap.size) := Lib.hid ⟨h, h.1⟩
      have HTR : Hid (∀ w2 w3 w4, Seg w2 g o (ints M) → SegP g o lt (itn m (M.take lt)).1 w2 w3 → SegP g (o + gt) (n - gt) (itn m (M.drop gt)).1 w3 w4 → SegP g o n (itn (m + 1) L).1 w2 w4) := Lib.hid (fun w2 w3 w4 a b c => by
        rw [hq]; exact a.three hML hlg hgn l1 l3 b c)
      have HPA : Hid (∀ W, Seg W g o (ints M) → Seg W g o (ints (M.take lt)) ∧ Seg W g (o + gt) (ints (M.drop gt))) := Lib.hid (fun W hh => by
        obtain ⟨e1, _, e3⟩ := hh.parts hlg (by omega); exact ⟨e1, e3⟩)
      have HQ2 : Hid ((itn (m + 1) L).2.1 = 1 + (itn m (M.take lt)).2.1 + (itn m (M.drop gt)).2.1 ∧ (itn (m + 1) L).2.2 = (itn m (M.take lt)).2.2 + (itn m (M.drop gt)).2.2) := Lib.hid (by rw [hq]; exact ⟨rfl, rfl⟩)
      have hb1 : (itn m (M.take lt)).2.1 ≤ 64 := by omega
      have hb1' : (itn m (M.take lt)).2.2 ≤ 64 := by omega
      have hb3 : (itn m (M.drop gt)).2.1 ≤ 64 := by omega
      have hb3' : (itn m (M.drop gt)).2.2 ≤ 64 := by omega
      clear hq s1 s2 s3 s4 s2' s4' l1 l3 p1 p2 ht hx hmm h ih
      generalize itn (m + 1) L = R at *
      generalize itn m (M.take lt) = RA at *
      generalize itn m (M.drop gt) = RB at *
      obtain ⟨R1, R2, R3⟩ := R
      obtain ⟨A, a, a'⟩ := RA
      obtain ⟨B, b, b'⟩ := RB
      simp only at *
      generalize hmd : medF L = md at *
      have hmz : (md : Int) < n := by omega
      have hltz : (lt : Int) ≤ n := by omega
      have hgtz : (gt : Int) ≤ n := by omega
      have hltc : (lt : Int) ≤ c := by omega
      have hgtc : (gt : Int) ≤ c := by omega
      have hcz : (n : Int) ≤ c := by omega
      have hwm : IntKind.i64.wrap (((m + 1 : Nat) : Int) - 1) = (m : Int) := by rw [IntKind.wrap_i64]; omega
      have hwa : IntKind.i64.wrap (1 + (a : Int)) = 1 + (a : Int) := by rw [IntKind.wrap_i64]; omega
      have HWS : Hid (ItP g o n (R1, R2, R3) w = ItP g o n (R1, 1 + a + b, a' + b') w) := Lib.hid (by rw [HQ2.out.1, HQ2.out.2])
      rw [HWS.out]
      have HLL := Lib.hid hL
      have HE := Lib.hid he
      have HXE := Lib.hid hxe
      have HML := Lib.hid hML
      have HMD := Lib.hid hmd
      clear hmd he hxe hL hML HWS
      go_enter Try.func112, Try.ntmps112
      go_wp2_with fail
      refine HMED.out.mono ?_
      rintro e w1 ⟨rfl, hb1'⟩
      have hcx1 : w1.cell? ⟨g, o + md, none⟩ = some (.int .i64 x) := (hb1'.cell (p := ⟨g, o + md, none⟩) HHS.out.2).trans hcx
      have HS1 := Lib.hid (HHS.out.1.below hb1' HHS.out.2)
      have HB1 : Hid (ButS g o n w w1) := Lib.hid (ButS.ofBelow hb1' HHS.out.2)
      clear hb1' HMED hcx
      go_wp2_with fail
      refine (HTH.out _ HS1.out).mono ?_
      rintro e w2 ⟨rfl, hs2, hb2⟩
      have HS2 := Lib.hid hs2
      have HB2 := Lib.hid (HB1.out.trans hb2)
      have HP := Lib.hid (HPA.out _ hs2)
      clear hs2 hb2 HTH HS1 HB1 hcx1 HPA
      go_wp2_with fail
      refine (HI1.out _ HP.out.1).mono ?_
      rintro e w3 ⟨rfl, hs3, hb3'⟩
      have HS3 := Lib.hid hs3
      have HB3 := Lib.hid hb3'
      have HP3 := Lib.hid (HP.out.2.keep hb3' (.inr (by omega)))
      clear hs3 hb3' HI1 HP
      rcases (show gt < c ∨ gt = c by omega) with hgc | hgc
      · have HI4 := Lib.hid (HI2.out hgc)
        have hgc2 : (gt : Int) < c := by omega
        have hgc3 : ¬ gt = c := by omega
        have hgc4 : ¬ c = gt := by omega
        clear HI2 HI3
        go_wp2_with fail
        refine (HI4.out _ HP3.out).mono ?_
        rintro e w4 ⟨rfl, hs4, hb4⟩
        have HRES : Hid (ItP g o n (R1, 1 + a + b, a' + b') w (.returned (.tuple #[.int .i64 (1 + (a : Int) + (b : Int)), .int .i64 ((a' : Int) + (b' : Int))])) w4) := Lib.hid (by
          have hh := HTR.out w2 w3 w4 HS2.out ⟨HS3.out, HB3.out⟩ ⟨hs4, hb4⟩
          refine ⟨?_, hh.1, HB2.out.trans hh.2⟩
          go_num)
        clear hs4 hb4 HI4
        go_wp2_with fail
        go_ret2
        exact HRES.out
      · have HI4 := Lib.hid (HI3.out hgc)
        have hng : n = gt := by omega
        subst hgc
        clear HI2 HI3
        go_wp2_with fail
        refine (HI4.out _ HP3.out).mono ?_
        rintro e w4 ⟨rfl, hs4, hb4⟩
        have HRES : Hid (ItP g o n (R1, 1 + a + b, a' + b') w (.returned (.tuple #[.int .i64 (1 + (a : Int) + (b : Int)), .int .i64 ((a' : Int) + (b' : Int))])) w4) := Lib.hid (by
          have hh := HTR.out w2 w3 w4 HS2.out ⟨HS3.out, HB3.out⟩ ⟨hs4, hb4⟩
          refine ⟨?_, hh.1, HB2.out.trans hh.2⟩
          go_num)
        clear hs4 hb4 HI4
        go_wp2_with fail
        go_ret2
        exact HRES.out

end Go.Proofs.Ytipdfmedbcafpaa
end

section
/- The model's IntroSort, by its contract. -/
namespace Go.Proofs.Ytipdfmedbcafpaa
open Go.RowKit P El Qk
set_option linter.unusedVariables false

set_option maxRecDepth 100000 in
set_option maxHeartbeats 4000000 in
theorem specIk_any (b o c : Nat) (l : List Int) (m : Int) (w : World) (hv : FlatAt w (.slice (some ⟨b, o, none⟩) l.length c) l.length (ints l)) (hn : l.length ≤ 1048576) :
    Calls Try.prog 52 #[.slice (some ⟨b, o, none⟩) l.length c, .int .i64 m] w (RetI2 (itAll l m) w) := by
  have HV := Lib.hid (l2List_any _ l w hv hn)
  have HNONE : Hid (¬ (OkL l ∧ OkI m) → ∀ w1, Below w.heap.size w w1 → RetI2 (itAll l m) w (.returned (.tuple #[.slice (some ⟨w1.heap.size, 0, none⟩) 0 0, .int .i64 0, .int .i64 0, .bool false])) (w1.alloc (.cells #[] 3))) := Lib.hid (fun h w1 hb => by rw [itAll_no h]; exact RetI2.none w w1 hb)
  by_cases hok : OkL l
  · rw [decide_eq_true hok] at HV
    by_cases hm : OkI m
    · obtain ⟨k, rfl⟩ : ∃ k : Nat, m = k := ⟨m.toNat, by have := hm.1; omega⟩
      have hk : k ≤ 20 := by have := hm.2; omega
      have HF := Lib.hid (itAll_yes hok hk)
      have h64 := hok.1
      have HX := Lib.hid (fun W => l1In_yes (k : Int) 0 20 W (by omega) (by omega))
      have HOWN := Lib.hid (fun W (h : FlatAt W (.slice (some ⟨b, o, none⟩) l.length c) l.length (ints l)) => l1Own_any b o c l W h hn)
      have HTH := Lib.hid (fun (g cap : Nat) W (h : CellRow W g (ints l)) (hc : l.length ≤ cap) => sit_any k g 0 cap l.length l W (Seg.of_row h) rfl hk h64 hc)
      have HLN : Hid ((itn k l).1.length = l.length) := Lib.hid (by rw [(itn_spec k l).1, srt_length])
      have HFV := Lib.hid hv
      clear hok hv HNONE hm
      generalize itn k l = R at *
      obtain ⟨M, q, q2⟩ := R
      simp only at HF HTH HLN
      go_enter Try.func52, Try.ntmps52
      go_wp2_with fail
      refine HV.out.mono ?_
      rintro e w1 ⟨rfl, hb1⟩
      have HV1 := Lib.hid (HFV.out.below hb1)
      have HB1 := Lib.hid hb1
      clear hb1 HV HFV
      go_wp2_with fail
      refine (HX.out _).mono ?_
      rintro e w1' ⟨rfl, rfl⟩
      clear HX
      go_wp2_with fail
      refine (HOWN.out _ HV1.out).mono ?_
      rintro e w2 ⟨g, cap, rfl, hcap, hg, hrow, hb2⟩
      have HG : Hid (w.heap.size ≤ g) := Lib.hid (Nat.le_trans HB1.out.size hg)
      have HCAP := Lib.hid hcap
      have HB2 := Lib.hid (HB1.out.trans (hb2.mono HB1.out.size))
      have HS := Lib.hid (HTH.out g cap w2 hrow hcap)
      clear hb2 hrow HOWN HV1 hg hcap HTH HB1
      go_wp2_with fail
      refine HS.out.mono ?_
      rintro e w3 ⟨rfl, hr3, hb3⟩
      have HRES : Hid (RetI2 (itAll l (k : Int)) w (.returned (.tuple #[.slice (some ⟨g, 0, none⟩) l.length cap, .int .i64 (q : Int), .int .i64 (q2 : Int), .bool true])) w3) := Lib.hid (by
        rw [HF.out]
        exact ⟨g, cap, by simp only; rw [HLN.out], by simp only; rw [HLN.out]; exact HCAP.out, HG.out, hr3.row, HB2.out.trans (hb3.below HG.out HB2.out.size)⟩)
      clear hr3 hb3 HS
      go_wp2_with fail
      refine bodyPost_ret (results_tmp4 rfl _ _ _) rfl ?_
      exact HRES.out
    · have HX := Lib.hid (fun W => l1In_no m 0 20 W (by unfold OkI at hm; omega))
      have HN := Lib.hid (HNONE.out (fun h => hm h.2))
      clear hok HNONE hv hm
      go_enter Try.func52, Try.ntmps52
      go_wp2_with fail
      refine HV.out.mono ?_
      rintro e w1 ⟨rfl, hb1⟩
      have HRES := Lib.hid (HN.out w1 hb1)
      clear hb1 HV HN
      go_wp2_with fail
      refine (HX.out _).mono ?_
      rintro e w1' ⟨rfl, rfl⟩
      go_wp2_with fail
      refine bodyPost_ret (results_tmp4 rfl _ _ _) rfl ?_
      exact HRES.out
  · rw [decide_eq_false hok] at HV
    have HN := Lib.hid (HNONE.out (fun h => hok h.1))
    clear hok HNONE hv
    go_enter Try.func52, Try.ntmps52
    go_wp2_with fail
    refine HV.out.mono ?_
    rintro e w1 ⟨rfl, hb1⟩
    have HRES := Lib.hid (HN.out w1 hb1)
    clear hb1 HV HN
    go_wp2_with fail
    refine bodyPost_ret (results_tmp4 rfl _ _ _) rfl ?_
    exact HRES.out

end Go.Proofs.Ytipdfmedbcafpaa
end
