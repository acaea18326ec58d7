/- The model's merge of record lists, by its contract. -/
import Derived.Test.YtnjabdlhgmaeiaaMgI
namespace Go.Proofs.Ytnjabdlhgmaeiaa
open Go.RowKit Mg
set_option linter.unusedVariables false

/-- What the model's merge hands back. -/
def MergeSC (R : List (Int × Int) × Nat) (w : World) (e : Ending) (w' : World) : Prop :=
  ∃ g c, e = .returned (.tuple #[.slice (some ⟨g, 0, none⟩) R.1.length c, .int .i64 (R.2 : Nat)]) ∧ R.1.length ≤ c ∧ w.heap.size ≤ g ∧ CellRow w' g (recs R.1) ∧ Below w.heap.size w w'
/-- The loop's word. -/
structure MgSL (k n ba oa ca bb ob cb : Nat) (La Lb : List (Int × Int)) (R : List (Int × Int) × Nat) (mv : Value) (O : List (Int × Int)) (c : Nat) (w wr : World) : Prop where
  a : Src w.heap.size w ba oa ca La
  b : Src w.heap.size w bb ob cb Lb
  out : O ++ (mg La Lb).1 = R.1
  cnt : c + (mg La Lb).2 = k + R.2
  len : O.length + La.length + Lb.length = n
  held : HeldC w.heap.size wr mv O
  bel : Below w.heap.size w wr

attribute [local go_sem ↓ high] builtin_append_held

set_option maxRecDepth 100000 in
set_option maxHeartbeats 16000000 in
theorem specMerge_any (ba oa ca bb ob cb : Nat) (La Lb : List (Int × Int)) (w : World) (ha : Src w.heap.size w ba oa ca La) (hb : Src w.heap.size w bb ob cb Lb) (hn : La.length + Lb.length ≤ 1000) :
    Calls Try.prog 74 #[.slice (some ⟨ba, oa, none⟩) La.length ca, .slice (some ⟨bb, ob, none⟩) Lb.length cb] w (MergeSC (mg La Lb) w) := by
  obtain ⟨n, hn0⟩ : ∃ n, n = La.length + Lb.length := ⟨_, rfl⟩
  obtain ⟨R, hR⟩ : ∃ R, R = mg La Lb := ⟨_, rfl⟩
  have hR2 : R.2 ≤ n := by rw [hR, hn0]; exact (mg_count La Lb).1
  have H0 : Hid (MgSL 0 n ba oa ca bb ob cb La Lb R (.slice (some ⟨w.heap.size, 0, none⟩) 0 0) [] 0 w (w.alloc (.cells #[] 50))) := Lib.hid ⟨ha, hb, by rw [hR]; rfl, by rw [hR], by simp; omega, HeldC.start w _ (Nat.le_refl _), (Below.refl _ _).alloc (Nat.le_refl _) _⟩
  rw [← hR]
  have hla : La.length ≤ 1000 := by omega
  have hlb : Lb.length ≤ 1000 := by omega
  have hn1000 : n ≤ 1000 := by omega
  clear ha hb hn0 hR hn
  generalize hna : La.length = na at *
  generalize hnb : Lb.length = nb at *
  go_enter Try.func74, Try.ntmps74
  go_wp2_with fail
  go_loopw [0, 1, 6, 7] (fun av bv mv cv wr => ∃ (oa ca ob cb na nb : Nat) (La Lb O : List (Int × Int)) (c : Nat), na = La.length ∧ nb = Lb.length ∧ av = .slice (some ⟨ba, oa, none⟩) na ca ∧ bv = .slice (some ⟨bb, ob, none⟩) nb cb ∧ cv = .int .i64 (c : Int) ∧ MgSL 0 n ba oa ca bb ob cb La Lb R mv O c w wr) (fun av bv _ _ _ => lenS av + lenS bv)
  case atStart => exact ⟨oa, ca, ob, cb, na, nb, La, Lb, [], 0, hna.symm, hnb.symm, rfl, rfl, rfl, H0.out⟩
  case round =>
    clear hna hnb H0
    obtain ⟨oa, ca, ob, cb, na, nb, La, Lb, O, c, hna, hnb, rfl, rfl, rfl, h⟩ := hrel
    have H := Lib.hid h
    have hc : c ≤ 101000 := by have := h.cnt; omega
    have hO : O.length ≤ 1000 := by have := h.len; omega
    have hca := h.a.1
    have hcb := h.b.1
    rw [← hna] at hca
    rw [← hnb] at hcb
    have hna1 : na ≤ 1000 := by have := h.len; omega
    have hnb1 : nb ≤ 1000 := by have := h.len; omega
    clear h
    cases La with
    | nil =>
      have HF : Hid (O ++ [] ++ Lb = R.1 ∧ c = 0 + R.2) := Lib.hid ⟨by have := H.out.out; rw [mg_nil] at this; simpa using this, by have := H.out.cnt; rw [mg_nil] at this; exact this⟩
      obtain ⟨v2, w2, hrun1, hh2, hbel2⟩ := appendManyC w.heap.size u6 O ba oa ca ([]) wr H.out.held H.out.bel.size (by have := H.out.len; simp at this ⊢; omega) (fun j u hu => by obtain ⟨h1, h2, h3⟩ := H.out.a.2 j u hu; exact (H.out.bel.cell (p := ⟨ba, oa + j, none⟩) h1).trans h3)
      have hb2 := H.out.bel.trans hbel2
      obtain ⟨v3, w3, hrun2, hh3, hbel3⟩ := appendManyC w.heap.size v2 (O ++ []) bb ob cb (Lb) w2 hh2 hb2.size (by have := H.out.len; simp at this ⊢; omega) (fun j u hu => by obtain ⟨h1, h2, h3⟩ := H.out.b.2 j u hu; exact (hb2.cell (p := ⟨bb, ob + j, none⟩) h1).trans h3)
      rw [← hna] at hrun1
      rw [← hnb] at hrun2
      have HRES : Hid (MergeSC R w (.returned (.tuple #[v3, .int .i64 (c : Int)])) w3) := Lib.hid (by
        obtain ⟨g, cg, rfl, h1, h2, h3⟩ := hh3.row
        rw [HF.out.1] at h2 h3 ⊢
        rw [HF.out.2, Nat.zero_add]
        exact ⟨g, cg, rfl, h2, h1, h3, hb2.trans hbel3⟩)
      clear hh2 hbel2 hb2 hh3 hbel3 H HF
      simp only [List.length_nil] at hna
      subst hna
      clear hnb
      go_wp2_with fail
      go_ret2
      exact HRES.out
    | cons p La =>
      cases Lb with
      | nil =>
        have HF : Hid (O ++ (p :: La) ++ [] = R.1 ∧ c = 0 + R.2) := Lib.hid ⟨by have := H.out.out; rw [mg_nil2] at this; simpa using this, by have := H.out.cnt; rw [mg_nil2] at this; exact this⟩
        obtain ⟨v2, w2, hrun1, hh2, hbel2⟩ := appendManyC w.heap.size u6 O ba oa ca ((p :: La)) wr H.out.held H.out.bel.size (by have := H.out.len; simp at this ⊢; omega) (fun j u hu => by obtain ⟨h1, h2, h3⟩ := H.out.a.2 j u hu; exact (H.out.bel.cell (p := ⟨ba, oa + j, none⟩) h1).trans h3)
        have hb2 := H.out.bel.trans hbel2
        obtain ⟨v3, w3, hrun2, hh3, hbel3⟩ := appendManyC w.heap.size v2 (O ++ (p :: La)) bb ob cb ([]) w2 hh2 hb2.size (by have := H.out.len; simp at this ⊢; omega) (fun j u hu => by obtain ⟨h1, h2, h3⟩ := H.out.b.2 j u hu; exact (hb2.cell (p := ⟨bb, ob + j, none⟩) h1).trans h3)
        rw [← hna] at hrun1
        rw [← hnb] at hrun2
        have HRES : Hid (MergeSC R w (.returned (.tuple #[v3, .int .i64 (c : Int)])) w3) := Lib.hid (by
          obtain ⟨g, cg, rfl, h1, h2, h3⟩ := hh3.row
          rw [HF.out.1] at h2 h3 ⊢
          rw [HF.out.2, Nat.zero_add]
          exact ⟨g, cg, rfl, h2, h1, h3, hb2.trans hbel3⟩)
        clear hh2 hbel2 hb2 hh3 hbel3 H HF
        simp only [List.length_nil] at hnb
        subst hnb
        have hdna : decide ((0 : Int) < (na : Int)) = true := decide_eq_true (by simp at hna; omega)
        have hnaz : (0 : Int) < (na : Int) := by simp at hna; omega
        clear hna
        go_wp2_with fail
        go_ret2
        exact HRES.out
      | cons q Lb =>
        have h := H.out
        obtain ⟨ha1, _, ha3, ha4⟩ := h.a.head
        obtain ⟨hb1, _, hb3, hb4⟩ := h.b.head
        have cp1 := (h.bel.cell (p := ⟨ba, oa, none⟩) ha1).trans ha3
        have cp2 := (h.bel.cell (p := ⟨ba, oa + 1, none⟩) ha1).trans ha4
        have cq1 := (h.bel.cell (p := ⟨bb, ob, none⟩) hb1).trans hb3
        have cq2 := (h.bel.cell (p := ⟨bb, ob + 1, none⟩) hb1).trans hb4
        have hnaz : (0 : Int) < (na : Int) := by simp at hna; omega
        have hnbz : (0 : Int) < (nb : Int) := by simp at hnb; omega
        have hna0 : 0 < na := by simp at hna; omega
        have hnb0 : 0 < nb := by simp at hnb; omega
        have hdna : decide ((0 : Int) < (na : Int)) = true := decide_eq_true hnaz
        have hdnb : decide ((0 : Int) < (nb : Int)) = true := decide_eq_true hnbz
        clear ha1 hb1 ha3 ha4 hb3 hb4 h
        have HNA := Lib.hid hna
        have HNB := Lib.hid hnb
        clear hna hnb
        by_cases hqp : q.1 < p.1
        · have hdq : decide (q.1 < p.1) = true := decide_eq_true hqp
          have HQP := Lib.hid hqp
          go_wp2_with fail
          go_quiet (fail)
          obtain ⟨wq, hwq⟩ : ∃ wq, wq = wr.drewN nq := ⟨_, rfl⟩
          have hbq : Below w.heap.size wr wq := by rw [hwq]; exact ⟨rfl, rfl, rfl, Nat.le_refl _, fun _ _ => rfl⟩
          have hhq : HeldC w.heap.size wq u6 O := by rw [hwq]; exact H.out.held.drewN _
          have dq1 : wq.cell? ⟨bb, ob, none⟩ = some (.int .i64 q.1) := by rw [hwq]; exact cq1
          have dq2 : wq.cell? ⟨bb, ob + 1, none⟩ = some (.int .i64 q.2) := by rw [hwq]; exact cq2
          rw [← hwq]
          clear hwq cp1 cp2 cq1 cq2
          obtain ⟨v2, w2, hrun, hh2, hbel2⟩ := append1litC w.heap.size u6 O q.1 q.2 wq hhq (Nat.le_trans H.out.bel.size hbq.size) (by omega)
          have HN : Hid (∀ o' c', Src w.heap.size w bb o' c' Lb → MgSL 0 n ba oa ca bb o' c' (p :: La) Lb R v2 (O ++ [q]) (c + 1) w w2) := Lib.hid (fun o' c' hs' => by
            have h := H.out
            refine ⟨h.a, hs', ?_, ?_, ?_, hh2, h.bel.trans (hbq.trans hbel2)⟩
            · rw [← h.out, mg_b (by have := HQP.out; omega)]; simp
            · rw [← h.cnt, mg_b (by have := HQP.out; omega)]; simp only; omega
            · have := h.len; simp only [List.length_append, List.length_cons, List.length_nil] at this ⊢; omega)
          clear hh2 hbel2 hbq hhq
          have hnn1 : nb - 1 = Lb.length := by have := HNB.out; simp at this; omega
          by_cases hc1 : cb = 1
          · have HT0 : Hid (Src w.heap.size w bb ob 0 Lb) := Lib.hid (by
              have h1 := H.out.b.1
              simp only [List.length_cons] at h1
              have : Lb = [] := List.eq_nil_of_length_eq_zero (by omega)
              rw [this]; exact Src.nil _ _ _ _ _)
            subst hc1
            go_wp2_with fail
            go_roundw
            case rel => exact ⟨oa, ca, ob, 0, na, Lb.length, p :: La, Lb, O ++ [q], c + 1, HNA.out, rfl, rfl, rfl, by go_num, HN.out ob 0 HT0.out⟩
            case measure => simp only [lenS_slice]; omega
          · go_wp2_with fail
            go_roundw
            case rel => exact ⟨oa, ca, ob + 2, cb - 1, na, Lb.length, p :: La, Lb, O ++ [q], c + 1, HNA.out, rfl, rfl, rfl, by go_num, HN.out _ _ (H.out.b.tail)⟩
            case measure => simp only [lenS_slice]; omega
        · have hdq : decide (q.1 < p.1) = false := decide_eq_false hqp
          have HQP := Lib.hid hqp
          go_wp2_with fail
          go_quiet (fail)
          obtain ⟨wq, hwq⟩ : ∃ wq, wq = wr.drewN nq := ⟨_, rfl⟩
          have hbq : Below w.heap.size wr wq := by rw [hwq]; exact ⟨rfl, rfl, rfl, Nat.le_refl _, fun _ _ => rfl⟩
          have hhq : HeldC w.heap.size wq u6 O := by rw [hwq]; exact H.out.held.drewN _
          have dq1 : wq.cell? ⟨ba, oa, none⟩ = some (.int .i64 p.1) := by rw [hwq]; exact cp1
          have dq2 : wq.cell? ⟨ba, oa + 1, none⟩ = some (.int .i64 p.2) := by rw [hwq]; exact cp2
          rw [← hwq]
          clear hwq cp1 cp2 cq1 cq2
          obtain ⟨v2, w2, hrun, hh2, hbel2⟩ := append1litC w.heap.size u6 O p.1 p.2 wq hhq (Nat.le_trans H.out.bel.size hbq.size) (by omega)
          have HN : Hid (∀ o' c', Src w.heap.size w ba o' c' La → MgSL 0 n ba o' c' bb ob cb La (q :: Lb) R v2 (O ++ [p]) (c + 1) w w2) := Lib.hid (fun o' c' hs' => by
            have h := H.out
            refine ⟨hs', h.b, ?_, ?_, ?_, hh2, h.bel.trans (hbq.trans hbel2)⟩
            · rw [← h.out, mg_a (by have := HQP.out; omega)]; simp
            · rw [← h.cnt, mg_a (by have := HQP.out; omega)]; simp only; omega
            · have := h.len; simp only [List.length_append, List.length_cons, List.length_nil] at this ⊢; omega)
          clear hh2 hbel2 hbq hhq
          have hnn1 : na - 1 = La.length := by have := HNA.out; simp at this; omega
          by_cases hc1 : ca = 1
          · have HT0 : Hid (Src w.heap.size w ba oa 0 La) := Lib.hid (by
              have h1 := H.out.a.1
              simp only [List.length_cons] at h1
              have : La = [] := List.eq_nil_of_length_eq_zero (by omega)
              rw [this]; exact Src.nil _ _ _ _ _)
            subst hc1
            go_wp2_with fail
            go_roundw
            case rel => exact ⟨oa, 0, ob, cb, La.length, nb, La, q :: Lb, O ++ [p], c + 1, rfl, HNB.out, rfl, rfl, by go_num, HN.out oa 0 HT0.out⟩
            case measure => simp only [lenS_slice]; omega
          · go_wp2_with fail
            go_roundw
            case rel => exact ⟨oa + 2, ca - 1, ob, cb, La.length, nb, La, q :: Lb, O ++ [p], c + 1, rfl, HNB.out, rfl, rfl, by go_num, HN.out _ _ (H.out.a.tail)⟩
            case measure => simp only [lenS_slice]; omega

end Go.Proofs.Ytnjabdlhgmaeiaa
