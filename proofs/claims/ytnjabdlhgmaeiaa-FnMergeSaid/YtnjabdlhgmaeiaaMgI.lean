/- The program's merge of record lists, by its contract. -/
import Derived.Test.YtnjabdlhgmaeiaaHeldC
import Derived.Test.YtnjabdlhgmaeiaaMgP
import Derived.BigRegion
import Derived.BigQuiet
import Derived.Deep.QuietTactic
import Derived.Laws.BitsLemmas
namespace Go.Proofs.Ytnjabdlhgmaeiaa
open Go.RowKit Mg
set_option linter.unusedVariables false

/-- The counter of comparisons. -/
def Merg (s k : Nat) (w : World) : Prop := CellRow w s [.int .i64 (k : Int)]
theorem Merg.c0 {s k : Nat} {w : World} (h : Merg s k w) : w.cell? ⟨s, 0, none⟩ = some (.int .i64 (k : Int)) ∧ w.frozen? ⟨s, 0, none⟩ = false := h.2 0 _ rfl
theorem Merg.keep {s k : Nat} {w w' : World} (h : Merg s k w) (hb : Below w.heap.size w w') : Merg s k w' := h.below hb h.1
theorem Merg.drewN {s k : Nat} {w : World} (h : Merg s k w) (n : Nat) : Merg s k (w.drewN n) := h.same rfl (Nat.le_refl _)

/-- A source of records, not in block s. -/
def Src (s : Nat) (w : World) (b o c : Nat) (L : List (Int × Int)) : Prop := L.length ≤ c ∧ ∀ (j : Nat) u, (recs L)[j]? = some u → b < w.heap.size ∧ b ≠ s ∧ w.cell? ⟨b, o + j, none⟩ = some u
theorem Src.head {s b o c : Nat} {w : World} {p : Int × Int} {L : List (Int × Int)} (h : Src s w b o c (p :: L)) : b < w.heap.size ∧ b ≠ s ∧ w.cell? ⟨b, o, none⟩ = some (.int .i64 p.1) ∧ w.cell? ⟨b, o + 1, none⟩ = some (.int .i64 p.2) := by
  obtain ⟨h1, h2, h3⟩ := h.2 0 _ rfl
  exact ⟨h1, h2, h3, (h.2 1 _ rfl).2.2⟩
theorem Src.tail {s b o c : Nat} {w : World} {p : Int × Int} {L : List (Int × Int)} (h : Src s w b o c (p :: L)) : Src s w b (o + 2) (c - 1) L :=
  ⟨by have := h.1; simp at this; omega, fun j u hu => by have := h.2 (j + 2) u (by rw [recs_cons]; exact hu); rw [show o + 2 + j = o + (j + 2) by omega]; exact this⟩
theorem Src.nil (s : Nat) (w : World) (b o c : Nat) : Src s w b o c [] := ⟨Nat.zero_le _, fun j u hu => by simp [recs] at hu⟩
theorem Src.but {s b o c : Nat} {w w' : World} {L : List (Int × Int)} (h : Src s w b o c L) (hb : But s w w') : Src s w' b o c L :=
  ⟨h.1, fun j u hu => by
    obtain ⟨h1, h2, h3⟩ := h.2 j u hu
    exact ⟨Nat.lt_of_lt_of_le h1 hb.size, h2, by rw [World.cell?_of_block (w := w) (hb.block b h1 h2)]; exact h3⟩⟩
theorem Src.of_row {s g c : Nat} {w : World} {L : List (Int × Int)} (h : CellRow w g (recs L)) (hc : L.length ≤ c) (hg : g ≠ s) : Src s w g 0 c L :=
  ⟨hc, fun j u hu => ⟨h.1, hg, by rw [Nat.zero_add]; exact (h.2 j u hu).1⟩⟩
theorem Src.of_flat {s b o c : Nat} {w : World} {L : List (Int × Int)} (h : FlatAt w (.slice (some ⟨b, o, none⟩) L.length c) L.length (recs L)) (hs : w.heap.size ≤ s) : Src s w b o c L := by
  obtain ⟨a0, c0, e, hc, h⟩ := h
  simp at e
  obtain ⟨rfl, rfl⟩ := e
  refine ⟨hc, fun j u hu => ?_⟩
  obtain ⟨b', o', e', h1, h2⟩ := h j u hu
  simp at e'
  obtain ⟨rfl, rfl⟩ := e'
  exact ⟨h1, by omega, h2⟩
theorem But.cell {g b o : Nat} {w w' : World} (hb : But g w w') (h1 : b < w.heap.size) (h2 : b ≠ g) : w'.cell? ⟨b, o, none⟩ = w.cell? ⟨b, o, none⟩ := World.cell?_of_block (w := w) (hb.block b h1 h2)

set_option maxRecDepth 100000 in
theorem isLessM_any (s k : Nat) (x y : Int × Int) (w : World) (h : Merg s k w) (hk : k ≤ 1048576) :
    Calls Try.prog 116 #[.pointer (some ⟨s, 0, none⟩), .agg #[.int .i64 x.1, .int .i64 x.2], .agg #[.int .i64 y.1, .int .i64 y.2]] w fun e w' =>
      e = .returned (.bool (decide (x.1 < y.1))) ∧ Merg s (k + 1) w' ∧ But s w w' := by
  have hM2 : Merg s (k + 1) (w.setCell ⟨s, 0, none⟩ (.int .i64 ((k : Int) + 1))) := CellRow.set h 0 (.int .i64 ((k : Int) + 1)) (by simp)
  have hb2 : But s w (w.setCell ⟨s, 0, none⟩ (.int .i64 ((k : Int) + 1))) := (But.refl s w).setCell 0 _
  have HRES : Hid (∀ A B, Merg s (k + 1) (((w.setCell ⟨s, 0, none⟩ (.int .i64 ((k : Int) + 1))).alloc A).alloc B) ∧ But s w (((w.setCell ⟨s, 0, none⟩ (.int .i64 ((k : Int) + 1))).alloc A).alloc B)) := Lib.hid (fun A B =>
    ⟨hM2.keep (((Below.refl _ _).alloc (Nat.le_refl _) _).alloc (by simp) _), hb2.trans ((But.alloc s _ _).trans (But.alloc s _ _))⟩)
  obtain ⟨hc0, hf0⟩ := h.c0
  have hs := h.1
  clear hM2 hb2 h
  go_enter Try.func116, Try.ntmps116
  go_wp2_with fail
  go_ret
  exact ⟨rfl, HRES.out _ _⟩

theorem But.thenBelow {g : Nat} {w a b : World} (h : But g w a) (k : Below w.heap.size a b) : But g w b :=
  ⟨k.os.trans h.os, k.tape.trans h.tape, k.output.trans h.output, Nat.le_trans h.size k.size, fun i hi hg => (k.block i hi).trans (h.block i hi hg)⟩
/-- The length of a slice. -/
def lenS : Value → Nat
  | .slice _ n _ => n
  | _ => 0
theorem lenS_slice (a : Option Addr) (n c : Nat) : lenS (.slice a n c) = n := rfl

/-- What a merge hands back. -/
def MergeC (s k : Nat) (R : List (Int × Int) × Nat) (w : World) (e : Ending) (w' : World) : Prop :=
  ∃ g c, e = .returned (.slice (some ⟨g, 0, none⟩) R.1.length c) ∧ R.1.length ≤ c ∧ w.heap.size ≤ g ∧ CellRow w' g (recs R.1) ∧ Merg s (k + R.2) w' ∧ But s w w'
/-- The loop's word. -/
structure MgL (s k n ba oa ca bb ob cb : Nat) (La Lb : List (Int × Int)) (R : List (Int × Int) × Nat) (mv : Value) (O : List (Int × Int)) (c : Nat) (w wr : World) : Prop where
  a : Src s w ba oa ca La
  b : Src s w bb ob cb Lb
  out : O ++ (mg La Lb).1 = R.1
  cnt : c + (mg La Lb).2 = k + R.2
  len : O.length + La.length + Lb.length = n
  held : HeldC w.heap.size wr mv O
  m : Merg s c wr
  but : But s w wr

attribute [local go_sem ↓ high] builtin_append_held

set_option maxRecDepth 100000 in
set_option maxHeartbeats 16000000 in
theorem merge_any (s k ba oa ca bb ob cb : Nat) (La Lb : List (Int × Int)) (w : World) (hm : Merg s k w) (ha : Src s w ba oa ca La) (hb : Src s w bb ob cb Lb) (hn : La.length + Lb.length ≤ 1000) (hk : k ≤ 100000) :
    Calls Try.prog 71 #[.pointer (some ⟨s, 0, none⟩), .slice (some ⟨ba, oa, none⟩) La.length ca, .slice (some ⟨bb, ob, none⟩) Lb.length cb] w (MergeC s k (mg La Lb) w) := by
  obtain ⟨n, hn0⟩ : ∃ n, n = La.length + Lb.length := ⟨_, rfl⟩
  obtain ⟨R, hR⟩ : ∃ R, R = mg La Lb := ⟨_, rfl⟩
  have hR1 : R.1.length = n := by rw [hR, mg_length]; exact hn0.symm
  have hR2 : R.2 ≤ n := by rw [hR, hn0]; exact (mg_count La Lb).1
  have hs := hm.1
  obtain ⟨w1, hmake, hheld, hbel⟩ := makeC n (by omega) w w.heap.size (Nat.le_refl _)
  have H0 : Hid (MgL s k n ba oa ca bb ob cb La Lb R (.slice (some ⟨w.heap.size, 0, none⟩) 0 n) [] k w w1) := Lib.hid ⟨ha, hb, by rw [hR]; rfl, by rw [hR], by simp; omega, hheld, hm.keep hbel, But.ofBelow hbel (Nat.le_refl _)⟩
  rw [← hR]
  have hla : La.length ≤ 1000 := by omega
  have hlb : Lb.length ≤ 1000 := by omega
  have hsum : (La.length : Int) + (Lb.length : Int) = (n : Int) := by omega
  have hn1000 : n ≤ 1000 := by omega
  clear hm ha hb hheld hbel hn0 hR hn
  generalize hna : La.length = na at *
  generalize hnb : Lb.length = nb at *
  go_enter Try.func71, Try.ntmps71
  go_wp2_with fail
  go_loopw [1, 2, 7] (fun av bv mv wr => ∃ (oa ca ob cb na nb : Nat) (La Lb O : List (Int × Int)) (c : Nat), na = La.length ∧ nb = Lb.length ∧ av = .slice (some ⟨ba, oa, none⟩) na ca ∧ bv = .slice (some ⟨bb, ob, none⟩) nb cb ∧ MgL s k n ba oa ca bb ob cb La Lb R mv O c w wr) (fun av bv _ _ => lenS av + lenS bv)
  case atStart => exact ⟨oa, ca, ob, cb, na, nb, La, Lb, [], k, hna.symm, hnb.symm, rfl, rfl, H0.out⟩
  case round =>
    clear hna hnb H0 hmake hsum
    obtain ⟨oa, ca, ob, cb, na, nb, La, Lb, O, c, hna, hnb, rfl, rfl, h⟩ := hrel
    have H := Lib.hid h
    have hc : c ≤ 101000 := by have := h.cnt; omega
    have hO : O.length ≤ 1000 := by have := h.len; omega
    have hca := h.a.1
    have hcb := h.b.1
    rw [← hna] at hca
    rw [← hnb] at hcb
    have hna1 : na ≤ 1000 := by have := h.len; omega
    have hnb1 : nb ≤ 1000 := by have := h.len; omega
    clear h
    cases La with
    | nil =>
      have HF : Hid (O ++ [] ++ Lb = R.1 ∧ c = k + R.2) := Lib.hid ⟨by have := H.out.out; rw [mg_nil] at this; simpa using this, by have := H.out.cnt; rw [mg_nil] at this; exact this⟩
      obtain ⟨v2, w2, hrun1, hh2, hbel2⟩ := appendManyC w.heap.size u7 O ba oa ca ([]) wr H.out.held H.out.but.size (by have := H.out.len; simp at this ⊢; omega) (fun j u hu => by obtain ⟨h1, h2, h3⟩ := H.out.a.2 j u hu; exact (H.out.but.cell h1 h2).trans h3)
      have hb2 := H.out.but.thenBelow hbel2
      obtain ⟨v3, w3, hrun2, hh3, hbel3⟩ := appendManyC w.heap.size v2 (O ++ []) bb ob cb (Lb) w2 hh2 hb2.size (by have := H.out.len; simp at this ⊢; omega) (fun j u hu => by obtain ⟨h1, h2, h3⟩ := H.out.b.2 j u hu; exact (hb2.cell h1 h2).trans h3)
      rw [← hna] at hrun1
      rw [← hnb] at hrun2
      have HRES : Hid (MergeC s k R w (.returned v3) w3) := Lib.hid (by
        obtain ⟨g, cg, rfl, h1, h2, h3⟩ := hh3.row
        rw [HF.out.1] at h2 h3 ⊢
        refine ⟨g, cg, rfl, h2, h1, h3, ?_, hb2.thenBelow hbel3⟩
        rw [← HF.out.2]
        exact (H.out.m.below hbel2 hs).below hbel3 hs)
      clear hh2 hbel2 hb2 hh3 hbel3 H HF
      simp only [List.length_nil] at hna
      subst hna
      clear hnb
      go_wp2_with fail
      go_ret
      exact HRES.out
    | cons p La =>
      cases Lb with
      | nil =>
        have HF : Hid (O ++ (p :: La) ++ [] = R.1 ∧ c = k + R.2) := Lib.hid ⟨by have := H.out.out; rw [mg_nil2] at this; simpa using this, by have := H.out.cnt; rw [mg_nil2] at this; exact this⟩
        obtain ⟨v2, w2, hrun1, hh2, hbel2⟩ := appendManyC w.heap.size u7 O ba oa ca ((p :: La)) wr H.out.held H.out.but.size (by have := H.out.len; simp at this ⊢; omega) (fun j u hu => by obtain ⟨h1, h2, h3⟩ := H.out.a.2 j u hu; exact (H.out.but.cell h1 h2).trans h3)
        have hb2 := H.out.but.thenBelow hbel2
        obtain ⟨v3, w3, hrun2, hh3, hbel3⟩ := appendManyC w.heap.size v2 (O ++ (p :: La)) bb ob cb ([]) w2 hh2 hb2.size (by have := H.out.len; simp at this ⊢; omega) (fun j u hu => by obtain ⟨h1, h2, h3⟩ := H.out.b.2 j u hu; exact (hb2.cell h1 h2).trans h3)
        rw [← hna] at hrun1
        rw [← hnb] at hrun2
        have HRES : Hid (MergeC s k R w (.returned v3) w3) := Lib.hid (by
          obtain ⟨g, cg, rfl, h1, h2, h3⟩ := hh3.row
          rw [HF.out.1] at h2 h3 ⊢
          refine ⟨g, cg, rfl, h2, h1, h3, ?_, hb2.thenBelow hbel3⟩
          rw [← HF.out.2]
          exact (H.out.m.below hbel2 hs).below hbel3 hs)
        clear hh2 hbel2 hb2 hh3 hbel3 H HF
        simp only [List.length_nil] at hnb
        subst hnb
        have hdna : decide ((0 : Int) < (na : Int)) = true := decide_eq_true (by simp at hna; omega)
        have hnaz : (0 : Int) < (na : Int) := by simp at hna; omega
        clear hna
        go_wp2_with fail
        go_ret
        exact HRES.out
      | cons q Lb =>
        have h := H.out
        obtain ⟨ha1, ha2, ha3, ha4⟩ := h.a.head
        obtain ⟨hb1, hb2, hb3, hb4⟩ := h.b.head
        have cp1 := (h.but.cell (o := oa) ha1 ha2).trans ha3
        have cp2 := (h.but.cell (o := oa + 1) ha1 ha2).trans ha4
        have cq1 := (h.but.cell (o := ob) hb1 hb2).trans hb3
        have cq2 := (h.but.cell (o := ob + 1) hb1 hb2).trans hb4
        have HL := Lib.hid (fun n => isLessM_any s c q p (wr.drewN n) (h.m.drewN n) (by omega))
        have HD : Hid (But s wr wr.drew) := Lib.hid ((But.refl s wr).drewN 1)
        have hnaz : (0 : Int) < (na : Int) := by simp at hna; omega
        have hnbz : (0 : Int) < (nb : Int) := by simp at hnb; omega
        have hna0 : 0 < na := by simp at hna; omega
        have hnb0 : 0 < nb := by simp at hnb; omega
        have hdna : decide ((0 : Int) < (na : Int)) = true := decide_eq_true hnaz
        have hdnb : decide ((0 : Int) < (nb : Int)) = true := decide_eq_true hnbz
        clear ha3 ha4 hb3 hb4 h
        have HNA := Lib.hid hna
        have HNB := Lib.hid hnb
        clear hna hnb
        by_cases hqp : q.1 < p.1
        · rw [decide_eq_true hqp] at HL
          have HQP := Lib.hid hqp
          clear hqp
          go_wp2_with fail
          go_region_with (go_at_call 116; refine (HL.out 1).mono ?_; rintro e w1 ⟨rfl, hm1, hb1'⟩)
          all_goals (
            have HM1 := Lib.hid hm1
            have HB1 := Lib.hid (HD.out.trans hb1')
            have dq1 := (HB1.out.cell (o := ob) (Nat.lt_of_lt_of_le hb1 H.out.but.size) hb2).trans cq1
            have dq2 := (HB1.out.cell (o := ob + 1) (Nat.lt_of_lt_of_le hb1 H.out.but.size) hb2).trans cq2
            clear hm1 hb1'
            obtain ⟨v2, w2, hrun, hh2, hbel2⟩ := append1drewC w.heap.size u7 O q.1 q.2 w1 (H.out.held.but HB1.out hs) (Nat.le_trans H.out.but.size HB1.out.size) (by omega)
            have HN : Hid (∀ o' c', Src s w bb o' c' Lb → MgL s k n ba oa ca bb o' c' (p :: La) Lb R v2 (O ++ [q]) (c + 1) w w2) := Lib.hid (fun o' c' hs' => by
              have h := H.out
              refine ⟨h.a, hs', ?_, ?_, ?_, hh2, HM1.out.below hbel2 hs, (h.but.trans HB1.out).thenBelow hbel2⟩
              · rw [← h.out, mg_b (by have := HQP.out; omega)]; simp
              · rw [← h.cnt, mg_b (by have := HQP.out; omega)]; simp only; omega
              · have := h.len; simp only [List.length_append, List.length_cons, List.length_nil] at this ⊢; omega)
            clear cp1 cp2 cq1 cq2 hh2 hbel2 HM1 HB1 HD
            have hnn1 : nb - 1 = Lb.length := by have := HNB.out; simp at this; omega
            by_cases hc1 : cb = 1
            · have HT0 : Hid (Src s w bb ob 0 Lb) := Lib.hid (by
                have h1 := H.out.b.1
                simp only [List.length_cons] at h1
                have : Lb = [] := List.eq_nil_of_length_eq_zero (by omega)
                rw [this]; exact Src.nil _ _ _ _ _)
              subst hc1
              go_wp2_with fail
              go_region
              all_goals (
                go_wp2_with fail
                go_roundw
                case rel => exact ⟨oa, ca, ob, 0, na, Lb.length, p :: La, Lb, O ++ [q], c + 1, HNA.out, rfl, rfl, rfl, HN.out ob 0 HT0.out⟩
                case measure => simp only [lenS_slice]; omega)
            · go_wp2_with fail
              go_region
              all_goals (
                go_wp2_with fail
                go_roundw
                case rel => exact ⟨oa, ca, ob + 2, cb - 1, na, Lb.length, p :: La, Lb, O ++ [q], c + 1, HNA.out, rfl, rfl, rfl, HN.out _ _ (H.out.b.tail)⟩
                case measure => simp only [lenS_slice]; omega))
        · rw [decide_eq_false hqp] at HL
          have HQP := Lib.hid hqp
          clear hqp
          go_wp2_with fail
          go_region_with (go_at_call 116; refine (HL.out 1).mono ?_; rintro e w1 ⟨rfl, hm1, hb1'⟩)
          all_goals (
            have HM1 := Lib.hid hm1
            have HB1 := Lib.hid (HD.out.trans hb1')
            have dq1 := (HB1.out.cell (o := oa) (Nat.lt_of_lt_of_le ha1 H.out.but.size) ha2).trans cp1
            have dq2 := (HB1.out.cell (o := oa + 1) (Nat.lt_of_lt_of_le ha1 H.out.but.size) ha2).trans cp2
            clear hm1 hb1'
            obtain ⟨v2, w2, hrun, hh2, hbel2⟩ := append1drewC w.heap.size u7 O p.1 p.2 w1 (H.out.held.but HB1.out hs) (Nat.le_trans H.out.but.size HB1.out.size) (by omega)
            have HN : Hid (∀ o' c', Src s w ba o' c' La → MgL s k n ba o' c' bb ob cb La (q :: Lb) R v2 (O ++ [p]) (c + 1) w w2) := Lib.hid (fun o' c' hs' => by
              have h := H.out
              refine ⟨hs', h.b, ?_, ?_, ?_, hh2, HM1.out.below hbel2 hs, (h.but.trans HB1.out).thenBelow hbel2⟩
              · rw [← h.out, mg_a (by have := HQP.out; omega)]; simp
              · rw [← h.cnt, mg_a (by have := HQP.out; omega)]; simp only; omega
              · have := h.len; simp only [List.length_append, List.length_cons, List.length_nil] at this ⊢; omega)
            clear cp1 cp2 cq1 cq2 hh2 hbel2 HM1 HB1 HD
            have hnn1 : na - 1 = La.length := by have := HNA.out; simp at this; omega
            by_cases hc1 : ca = 1
            · have HT0 : Hid (Src s w ba oa 0 La) := Lib.hid (by
                have h1 := H.out.a.1
                simp only [List.length_cons] at h1
                have : La = [] := List.eq_nil_of_length_eq_zero (by omega)
                rw [this]; exact Src.nil _ _ _ _ _)
              subst hc1
              go_wp2_with fail
              go_region
              all_goals (
                go_wp2_with fail
                go_roundw
                case rel => exact ⟨oa, 0, ob, cb, La.length, nb, La, q :: Lb, O ++ [p], c + 1, rfl, HNB.out, rfl, rfl, HN.out oa 0 HT0.out⟩
                case measure => simp only [lenS_slice]; omega)
            · go_wp2_with fail
              go_region
              all_goals (
                go_wp2_with fail
                go_roundw
                case rel => exact ⟨oa + 2, ca - 1, ob, cb, La.length, nb, La, q :: Lb, O ++ [p], c + 1, rfl, HNB.out, rfl, rfl, HN.out _ _ (H.out.a.tail)⟩
                case measure => simp only [lenS_slice]; omega))

end Go.Proofs.Ytnjabdlhgmaeiaa
