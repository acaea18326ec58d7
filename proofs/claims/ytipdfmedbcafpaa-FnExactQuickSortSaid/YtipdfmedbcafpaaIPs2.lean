/- The program's sorter of parts, by its contract: whatever finish it has. -/
import Derived.Test.YtipdfmedbcafpaaIPs
import Derived.Test.YtipdfmedbcafpaaList
namespace Go.Proofs.Ytipdfmedbcafpaa
open Go.RowKit P El Qk
set_option linter.unusedVariables false

/-- What a finish's call leaves. -/
def FinC (fin : Fin3) (d : Nat) (M : List Int) (g o n h : Nat) (Hp : Nat → World → Prop) (Qh : Nat → Prop) (W : World) (e : Ending) (w' : World) : Prop :=
  match fin d M with
  | some r => e = .returned (.bool true) ∧ Seg w' g o (ints r.1) ∧ Hp (h + r.2) w' ∧ SegB g o n Qh W w'
  | none => e = .returned (.bool false) ∧ Below W.heap.size W w'
/-- A finish: its function, what it counts and where. -/
structure FinW (ff : Nat) (lb : Array Value) (fin : Fin3) (Hp : Nat → World → Prop) (Qh : Nat → Prop) : Prop where
  ok : FinOk fin
  eg : ∀ args w, (callFunc ff args).run Try.prog w = .ok (.enter ff args) w
  frame : ∀ h w w', Hp h w → w.heap.size ≤ w'.heap.size → (∀ k, k < w.heap.size → Qh k → w'.heap[k]? = w.heap[k]?) → Hp h w'
  lt : ∀ h w k, Hp h w → Qh k → k < w.heap.size
  call : ∀ g o c n d h M W, OkL M → ¬ Qh g → Hp h W → Seg W g o (ints M) → M.length = n → n ≤ c → n ≤ 64 → h + n ≤ 500 → d ≤ 500 →
    Calls Try.prog ff (#[.slice (some ⟨g, o, none⟩) n c, .int .i64 (d : Int)] ++ lb) W (FinC fin d M g o n h Hp Qh W)
/-- What the sort of a part leaves. -/
def PsC (s g o n : Nat) (fv : Value) (d q h : Nat) (R : List Int × Nat × Nat) (Hp : Nat → World → Prop) (Qh : Nat → Prop) (w : World) (e : Ending) (w' : World) : Prop :=
  e = .returned (.tuple #[]) ∧ CellRow w' s (pst fv d (q + R.2.1)) ∧ Hp (h + R.2.2) w' ∧ Seg w' g o (ints R.1) ∧ SegB g o n (fun k => k = s ∨ Qh k) w w'

set_option maxRecDepth 100000 in
set_option maxHeartbeats 8000000 in
theorem psort_done {ff : Nat} {lb : Array Value} {fin : Fin3} {Hp : Nat → World → Prop} {Qh : Nat → Prop} (FW : FinW ff lb fin Hp Qh) (s g o c n d q h : Nat) (L M : List Int) (k : Nat) (w : World) (hok : OkL L)
    (hsq : ¬ Qh s) (hgs : g ≠ s) (hgq : ¬ Qh g) (hs : CellRow w s (pst (.func (.func ff) #[] lb) d q)) (hh : Hp h w) (hg : Seg w g o (ints L)) (hL : L.length = n) (h64 : n ≤ 64) (hc : n ≤ c) (hd : d ≤ 500) (hhn : h + n ≤ 500) (hfin : fin d L = some (M, k)) :
    Calls Try.prog 105 #[.pointer (some ⟨s, 0, none⟩), .slice (some ⟨g, o, none⟩) n c] w (PsC s g o n (.func (.func ff) #[] lb) d q h (M, 0, k) Hp Qh w) := by
  have eg := FW.eg
  obtain ⟨W1, hW1⟩ : ∃ W1, W1 = w.alloc (.cells #[.pointer (some ⟨s, 0, none⟩)] 136) := ⟨_, rfl⟩
  have hb1 : Below w.heap.size w W1 := by rw [hW1]; exact (Below.refl _ _).alloc (Nat.le_refl _) _
  have hp1 : CellRow W1 w.heap.size [.pointer (some ⟨s, 0, none⟩)] := by
    have hA : RowIs (w.alloc (.cells #[.pointer (some ⟨s, 0, none⟩)] 136)) w.heap.size 136 [.pointer (some ⟨s, 0, none⟩)] := heap_alloc_new w _
    rw [hW1]; exact CellRow.of_row hA
  have hs1 := hs.below hb1 hs.1
  have hg1 := hg.below hb1 hg.1
  have hh1 : Hp h W1 := FW.frame h w W1 hh hb1.size (fun k hk _ => hb1.block k hk)
  have HB1 : Hid (SegB g o n (fun k => k = s ∨ Qh k) w W1) := Lib.hid (SegB.ofBelow hb1 hg.1 _)
  have hcall := FW.call g o c n d h L (W1.drewN 1) hok hgq (FW.frame h W1 _ hh1 (Nat.le_refl _) (fun _ _ _ => rfl)) (hg1.drewN 1) hL hc h64 hhn hd
  have HCALL : Hid (Calls Try.prog ff (#[.slice (some ⟨g, o, none⟩) n c, .int .i64 (d : Int)] ++ lb) (W1.drewN 1) (fun e w' => e = .returned (.bool true) ∧ Seg w' g o (ints M) ∧ Hp (h + k) w' ∧ SegB g o n Qh (W1.drewN 1) w')) := Lib.hid (hcall.mono fun e w' hx => by
    unfold FinC at hx; rw [hfin] at hx; exact hx)
  have HS1 : Hid (CellRow (W1.drewN 1) s (pst (.func (.func ff) #[] lb) d q)) := Lib.hid (hs1.same rfl (Nat.le_refl _))
  have HSG : Hid (s ≠ g ∧ ¬ Qh s) := Lib.hid ⟨fun e => hgs e.symm, hsq⟩
  obtain ⟨hc0, hc1, _⟩ := pst_at hs1
  have hcp := (hp1.2 0 _ rfl).1
  have HW1 := Lib.hid hW1
  clear hs hh hg hL hfin hcall hh1 hg1 hp1 hb1 hs1 hW1 hgs hgq hsq hok
  go_enter_defers Try.func105, Try.ntmps105
  go_wp2_with fail
  rw [← HW1.out]
  go_still_tail 9, (by kernel_rfl)
  go_wp2_with (go_at_fn ff; refine (HCALL.out).mono ?_; rintro e w2 ⟨rfl, hg2, hh2, hb2⟩)
  have HRES : PsC s g o n (.func (.func ff) #[] lb) d q h (M, 0, k) Hp Qh w (.returned (.tuple #[])) w2 :=
    ⟨rfl, hb2.row HS1.out HSG.out.1 HSG.out.2, hh2, hg2, (HB1.out.drewN 1).trans (hb2.more (fun _ hk => .inr hk))⟩
  exact ⟨_, results_none rfl _ _ _, HRES⟩

/-- What holds on the way: the sorter's cells, its boxed address, the finish's count, the part, and what moved. -/
structure PsX (s p g o n : Nat) (cs : List Value) (h : Nat) (L : List Int) (Hp : Nat → World → Prop) (Qh : Nat → Prop) (w w' : World) : Prop where
  st : CellRow w' s cs
  pt : CellRow w' p [.pointer (some ⟨s, 0, none⟩)]
  hp : Hp h w'
  sg : Seg w' g o (ints L)
  b : SegB g o n (fun k => k = s ∨ Qh k) w w'
theorem PsX.store {s p g o n : Nat} {cs ds : List Value} {h : Nat} {L : List Int} {Hp : Nat → World → Prop} {Qh : Nat → Prop} {w w' : World} (H : PsX s p g o n cs h L Hp Qh w w')
    (fr : ∀ h w w', Hp h w → w.heap.size ≤ w'.heap.size → (∀ k, k < w.heap.size → Qh k → w'.heap[k]? = w.heap[k]?) → Hp h w') (hsg : s ≠ g) (hsq : ¬ Qh s) (hps : p ≠ s) (i : Nat) (u : Value) (hd : CellRow (w'.setCell ⟨s, i, none⟩ u) s ds) : PsX s p g o n ds h L Hp Qh w (w'.setCell ⟨s, i, none⟩ u) := by
  have hz : w'.heap.size ≤ (w'.setCell ⟨s, i, none⟩ u).heap.size := by simp
  exact ⟨hd, H.pt.same (Below.heap_setCell _ _ _ _ hps) hz, fr _ _ _ H.hp hz (fun k _ hk => Below.heap_setCell _ _ _ _ (fun e => hsq ((show k = s from e) ▸ hk))), H.sg.same (Below.heap_setCell _ _ _ _ (fun e => hsg e.symm)) hz, H.b.put s i u (.inl rfl) hsg⟩
theorem PsX.step {s p g o n : Nat} {cs : List Value} {h : Nat} {L M : List Int} {Hp : Nat → World → Prop} {Qh : Nat → Prop} {w w' w2 : World} (H : PsX s p g o n cs h L Hp Qh w w') (t : Nat)
    (fr : ∀ h w w', Hp h w → w.heap.size ≤ w'.heap.size → (∀ k, k < w.heap.size → Qh k → w'.heap[k]? = w.heap[k]?) → Hp h w') (hsg : s ≠ g) (hgq : ¬ Qh g) (hpg : p ≠ g) (hm : Seg w2 g o (ints M)) (hb : ButS g o n (w'.drewN t) w2) : PsX s p g o n cs h M Hp Qh w w2 :=
  ⟨H.st.same (hb.but.block s H.st.1 hsg) hb.but.size, H.pt.same (hb.but.block p H.pt.1 hpg) hb.but.size, fr _ _ _ H.hp hb.but.size (fun k hk hq => hb.but.block k hk (fun e => hgq (e ▸ hq))), hm, (H.b.drewN t).trans (hb.segB _)⟩

set_option maxRecDepth 100000 in
set_option maxHeartbeats 32000000 in
theorem psort_go {ff : Nat} {lb : Array Value} {fin : Fin3} {Hp : Nat → World → Prop} {Qh : Nat → Prop} (FW : FinW ff lb fin Hp Qh) (s g o c n d q h : Nat) (L M : List Int) (lt gt : Nat) (A B : List Int × Nat × Nat) (w : World) (hok : OkL L)
    (hsq : ¬ Qh s) (hgs : g ≠ s) (hgq : ¬ Qh g) (hs : CellRow w s (pst (.func (.func ff) #[] lb) d q)) (hh : Hp h w) (hg : Seg w g o (ints L)) (hL : L.length = n) (h2 : 2 ≤ n) (h64 : n ≤ 64) (hc : n ≤ c) (hd : d + n ≤ 500) (hqn : q + n ≤ 500) (hhn : h + n ≤ 500) (hfin : fin d L = none)
    (he : thF L (L.getD (medF L) 0) = (M, lt, gt)) (hlg : lt < gt) (hgn : gt ≤ n) (hML : M.length = n)
    (hA : A.1.length = lt ∧ A.2.1 ≤ lt ∧ A.2.2 ≤ lt) (hB : B.1.length = n - gt ∧ B.2.1 ≤ n - gt ∧ B.2.2 ≤ n - gt)
    (CA : ∀ W, CellRow W s (pst (.func (.func ff) #[] lb) (d + 1) (q + 1)) → Hp h W → Seg W g o (ints (M.take lt)) → Calls Try.prog 105 #[.pointer (some ⟨s, 0, none⟩), .slice (some ⟨g, o, none⟩) lt c] W (PsC s g o lt (.func (.func ff) #[] lb) (d + 1) (q + 1) h A Hp Qh W))
    (o2 c2 n3 : Nat) (hn3 : n3 = n - gt) (ho2 : (gt < c ∧ o2 = o + gt ∧ c2 = c - gt) ∨ (gt = c ∧ o = o2 ∧ 0 = c2))
    (CB : ∀ W, CellRow W s (pst (.func (.func ff) #[] lb) (d + 1) (q + 1 + A.2.1)) → Hp (h + A.2.2) W → Seg W g (o + gt) (ints (M.drop gt)) → Calls Try.prog 105 #[.pointer (some ⟨s, 0, none⟩), .slice (some ⟨g, o2, none⟩) n3 c2] W (fun e w' => e = .returned (.tuple #[]) ∧ CellRow w' s (pst (.func (.func ff) #[] lb) (d + 1) (q + 1 + A.2.1 + B.2.1)) ∧ Hp (h + A.2.2 + B.2.2) w' ∧ Seg w' g (o + gt) (ints B.1) ∧ SegB g (o + gt) (n - gt) (fun k => k = s ∨ Qh k) W w')) :
    Calls Try.prog 105 #[.pointer (some ⟨s, 0, none⟩), .slice (some ⟨g, o, none⟩) n c] w (PsC s g o n (.func (.func ff) #[] lb) d q h (sgJoin M lt gt A B) Hp Qh w) := by
  have eg := FW.eg
  have hpq : ¬ Qh w.heap.size := fun hq => by have := FW.lt h w _ hh hq; omega
  have hps : w.heap.size ≠ s := by have := hs.1; omega
  have hpg : w.heap.size ≠ g := by have := hg.1; omega
  obtain ⟨W1, hW1⟩ : ∃ W1, W1 = w.alloc (.cells #[.pointer (some ⟨s, 0, none⟩)] 136) := ⟨_, rfl⟩
  have hb1 : Below w.heap.size w W1 := by rw [hW1]; exact (Below.refl _ _).alloc (Nat.le_refl _) _
  have hp1 : CellRow W1 w.heap.size [.pointer (some ⟨s, 0, none⟩)] := by
    have hA : RowIs (w.alloc (.cells #[.pointer (some ⟨s, 0, none⟩)] 136)) w.heap.size 136 [.pointer (some ⟨s, 0, none⟩)] := heap_alloc_new w _
    rw [hW1]; exact CellRow.of_row hA
  have hs1 := hs.below hb1 hs.1
  have hg1 := hg.below hb1 hg.1
  have hh1 : Hp h W1 := FW.frame h w W1 hh hb1.size (fun k hk _ => hb1.block k hk)
  have HB1 : Hid (SegB g o n (fun k => k = s ∨ Qh k) w W1) := Lib.hid (SegB.ofBelow hb1 hg.1 _)
  have hcall := FW.call g o c n d h L (W1.drewN 1) hok hgq (FW.frame h W1 _ hh1 (Nat.le_refl _) (fun _ _ _ => rfl)) (hg1.drewN 1) hL hc h64 hhn (by omega)
  have HCALL : Hid (Calls Try.prog ff (#[.slice (some ⟨g, o, none⟩) n c, .int .i64 (d : Int)] ++ lb) (W1.drewN 1) (fun e w' => e = .returned (.bool false) ∧ Below (W1.drewN 1).heap.size (W1.drewN 1) w')) := Lib.hid (hcall.mono fun e w' hx => by
    unfold FinC at hx; rw [hfin] at hx; exact hx)
  have HS1 : Hid (CellRow (W1.drewN 1) s (pst (.func (.func ff) #[] lb) d q)) := Lib.hid (hs1.same rfl (Nat.le_refl _))
  have HP1 : Hid (CellRow (W1.drewN 1) w.heap.size [.pointer (some ⟨s, 0, none⟩)]) := Lib.hid (hp1.same rfl (Nat.le_refl _))
  have HH1 : Hid (Hp h (W1.drewN 1)) := Lib.hid (FW.frame h W1 _ hh1 (Nat.le_refl _) (fun _ _ _ => rfl))
  have HG1 : Hid (Seg (W1.drewN 1) g o (ints L)) := Lib.hid (hg1.drewN 1)
  obtain ⟨p, hpe⟩ : ∃ p, p = w.heap.size := ⟨_, rfl⟩
  rw [← hpe] at HP1 hp1 hpq hps hpg
  have HFR := Lib.hid FW.frame
  have HSG : Hid (s ≠ g ∧ ¬ Qh s ∧ ¬ Qh g ∧ p ≠ s ∧ p ≠ g ∧ ¬ Qh p ∧ g ≠ s ∧ w.heap.size = p) := Lib.hid ⟨fun e => hgs e.symm, hsq, hgq, hps, hpg, hpq, hgs, hpe.symm⟩
  obtain ⟨md, hmd⟩ : ∃ md, md = medF L := ⟨_, rfl⟩
  have hmdl : md < n := by rw [hmd]; have := medF_lt (L := L) (by omega); omega
  obtain ⟨x, hxe⟩ : ∃ x, x = L.getD md 0 := ⟨_, rfl⟩
  have HMED := Lib.hid (fun W (hW : Seg W g o (ints L)) => imedR_any (c := c) W hW.rd hL (by omega) (by omega))
  rw [← hmd] at HMED he
  rw [← hxe] at he
  have HTH := Lib.hid (fun (W : World) (h : Seg W g o (ints L)) => ithree_any (c := c) x W h hL (by omega))
  rw [he] at HTH
  simp only at HTH
  have HX : Hid (∀ W, Seg W g o (ints L) → W.cell? ⟨g, o + md, none⟩ = some (.int .i64 x)) := Lib.hid (fun W hW => by rw [hxe]; exact (hW.at (by omega)).1)
  have HPA : Hid (∀ W, Seg W g o (ints M) → Seg W g o (ints (M.take lt)) ∧ Seg W g (o + gt) (ints (M.drop gt))) := Lib.hid (fun W hW => by
    obtain ⟨e1, _, e3⟩ := hW.parts (by omega : lt ≤ gt) (by omega); exact ⟨e1, e3⟩)
  have HJOIN : Hid (∀ w2 w3 w4, Seg w2 g o (ints M) → Seg w3 g o (ints A.1) → SegB g o lt (fun k => k = s ∨ Qh k) w2 w3 → Seg w4 g (o + gt) (ints B.1) → SegB g (o + gt) (n - gt) (fun k => k = s ∨ Qh k) w3 w4 → Seg w4 g o (ints (sgJoin M lt gt A B).1) ∧ SegB g o n (fun k => k = s ∨ Qh k) w2 w4) :=
    Lib.hid (fun w2 w3 w4 a b c d e => Seg.threeB a hML (by omega) hgn hA.1 hB.1 b c d e)
  have HSJ : Hid (q + (sgJoin M lt gt A B).2.1 = q + 1 + A.2.1 + B.2.1 ∧ h + (sgJoin M lt gt A B).2.2 = h + A.2.2 + B.2.2) := Lib.hid ⟨by unfold sgJoin; simp only; omega, by unfold sgJoin; simp only; omega⟩
  have HDL : Hid ((ints (M.drop gt)).length = n - gt) := Lib.hid (by rw [ints_length, List.length_drop]; omega)
  have HCA := Lib.hid CA
  have HCB := Lib.hid CB
  obtain ⟨hc0, hc1, _⟩ := pst_at hs1
  have hcp := (hp1.2 0 _ rfl).1
  have HW1 := Lib.hid hW1
  have hdb : d ≤ 500 := by omega
  have hqb : q ≤ 500 := by omega
  have HHO := Lib.hid ho2
  have HN3 := Lib.hid hn3
  have HPE := Lib.hid hpe
  have HST2 : Hid (∀ w2, Below (W1.drewN 1).heap.size (W1.drewN 1) w2 → PsX s p g o n (pst (.func (.func ff) #[] lb) d q) h L Hp Qh w w2) := Lib.hid (fun w2 hb =>
    ⟨HS1.out.below hb HS1.out.1, HP1.out.below hb HP1.out.1, HFR.out _ _ _ HH1.out hb.size (fun k hk _ => hb.block k hk), HG1.out.below hb HG1.out.1, (HB1.out.drewN 1).trans (SegB.ofBelow hb HG1.out.1 _)⟩)
  have hltc : (lt : Int) ≤ (c : Int) := by omega
  have hltn : (lt : Int) ≤ (n : Int) := by omega
  have hgtn : (gt : Int) ≤ (n : Int) := by omega
  have hgtc : (gt : Int) ≤ (c : Int) := by omega
  have hmdz : (md : Int) < (n : Int) := by omega
  have hncz : (n : Int) ≤ (c : Int) := by omega
  have hmdb := lb
  clear hok hmdb hs hh hg hL hfin hcall hh1 hg1 hp1 hb1 hs1 hW1 hgs hgq hsq CA CB hxe hmd hhn hpe HS1 HP1 HH1 HG1 HB1 he hML hA hB ho2 hn3 hqn hd
  go_enter_defers Try.func105, Try.ntmps105
  go_wp2_with fail
  rw [← HW1.out, ← HPE.out]
  go_still_tail 9, (by kernel_rfl)
  go_wp2_with (go_at_fn ff; refine (HCALL.out).mono ?_; rintro e w2 ⟨rfl, hb2⟩; have HW2 := Lib.hid (HST2.out w2 hb2); clear hb2 HST2 HCALL eg; obtain ⟨_, hd1, hd2, hf1, hf2⟩ := pst_at HW2.out.st; have hdp := (HW2.out.pt.2 0 _ rfl).1)
  have HW3 : Hid (PsX s p g o n (pst (.func (.func ff) #[] lb) (d + 1) q) h L Hp Qh w (w2.setCell ⟨s, 1, none⟩ (.int .i64 ((d : Int) + 1)))) := Lib.hid (HW2.out.store HFR.out HSG.out.1 HSG.out.2.1 HSG.out.2.2.2.1 1 _ (pst_depth HW2.out.st (d + 1)))
  generalize w2.setCell ⟨s, 1, none⟩ (.int .i64 ((d : Int) + 1)) = W3 at HW3 ⊢
  clear hd1 hd2 hf1 hf2 hdp HW2
  refine (HMED.out _ HW3.out.sg).mono ?_
  rintro e w4 ⟨rfl, t, rfl⟩
  have hx4 := HX.out _ (HW3.out.sg.drewN t)
  clear HMED HX
  go_wp2_with fail
  refine (HTH.out _ (HW3.out.sg.drewN t)).mono ?_
  rintro e w5 ⟨rfl, hg5, hb5⟩
  have HW5 : Hid (PsX s p g o n (pst (.func (.func ff) #[] lb) (d + 1) q) h M Hp Qh w w5) := Lib.hid (HW3.out.step t HFR.out HSG.out.1 HSG.out.2.2.1 HSG.out.2.2.2.2.1 hg5 hb5)
  obtain ⟨_, hd1, hd2, hf1, hf2⟩ := pst_at HW5.out.st
  have hdp := (HW5.out.pt.2 0 _ rfl).1
  clear hg5 hb5 HTH HW3 hx4
  go_wp2_with fail
  have HW6 : Hid (PsX s p g o n (pst (.func (.func ff) #[] lb) (d + 1) (q + 1)) h M Hp Qh w (w5.setCell ⟨s, 2, none⟩ (.int .i64 ((q : Int) + 1)))) := Lib.hid (HW5.out.store HFR.out HSG.out.1 HSG.out.2.1 HSG.out.2.2.2.1 2 _ (pst_steps HW5.out.st (q + 1)))
  generalize w5.setCell ⟨s, 2, none⟩ (.int .i64 ((q : Int) + 1)) = W6 at HW6 ⊢
  clear hd1 hd2 hf1 hf2 hdp HW5
  have hdp := (HW6.out.pt.2 0 _ rfl).1
  go_still_tail 4, (by kernel_rfl)
  go_wp2_with fail
  refine (HCA.out (W6.drewN 1) (HW6.out.st.same rfl (Nat.le_refl _)) (HFR.out _ _ _ HW6.out.hp (Nat.le_refl _) (fun _ _ _ => rfl)) ((HPA.out _ (HW6.out.sg.drewN 1)).1)).mono ?_
  rintro e w7 ⟨rfl, hs7, hh7, hg7, hb7⟩
  have hnp : ¬ (p = s ∨ Qh p) := fun e => e.elim HSG.out.2.2.2.1 HSG.out.2.2.2.2.2.1
  have HP7 : Hid (CellRow w7 p [.pointer (some ⟨s, 0, none⟩)]) := Lib.hid (hb7.row (HW6.out.pt.same (w' := W6.drewN 1) rfl (Nat.le_refl _)) HSG.out.2.2.2.2.1 hnp)
  have HG7 : Hid (Seg w7 g (o + gt) (ints (M.drop gt))) := Lib.hid (((HPA.out _ (HW6.out.sg.drewN 1)).2).keepB hb7 (.inr (by omega)))
  have HS7 := Lib.hid hs7
  have HH7 := Lib.hid hh7
  have HA7 := Lib.hid hg7
  have HB7 := Lib.hid hb7
  have HNP := Lib.hid hnp
  have hdp7 := (HP7.out.2 0 _ rfl).1
  clear hs7 hh7 hg7 hb7 hdp hnp HCA
  go_wp2_with fail
  rcases HHO.out with ⟨h1, e1, e2⟩ | ⟨h1, e1, e2⟩
  · have e3 := HN3.out
    subst e1
    subst e2
    subst e3
    have hgc : (gt : Int) < (c : Int) := by omega
    have hgc2 : ¬ gt = c := by omega
    have hgc3 : ¬ c = gt := by omega
    clear HHO
    go_still_tail 4, (by kernel_rfl)
    go_wp2_with fail
    refine (HCB.out (w7.drewN 1) (HS7.out.same rfl (Nat.le_refl _)) (HFR.out _ _ _ HH7.out (Nat.le_refl _) (fun _ _ _ => rfl)) (HG7.out.drewN 1)).mono ?_
    rintro e w8 ⟨rfl, hs8, hh8, hg8, hb8⟩
    have HP8 : Hid (CellRow w8 p [.pointer (some ⟨s, 0, none⟩)]) := Lib.hid (hb8.row (HP7.out.same (w' := w7.drewN 1) rfl (Nat.le_refl _)) HSG.out.2.2.2.2.1 HNP.out)
    have HRES : Hid (PsC s g o n (.func (.func ff) #[] lb) d q h (sgJoin M lt gt A B) Hp Qh w (.returned (.tuple #[])) (w8.setCell ⟨s, 1, none⟩ (.int .i64 (d : Int)))) := Lib.hid (by
      have hz : w8.heap.size ≤ (w8.setCell ⟨s, 1, none⟩ (.int .i64 (d : Int))).heap.size := by simp
      obtain ⟨j1, j2⟩ := HJOIN.out (W6.drewN 1) w7 w8 (HW6.out.sg.drewN 1) HA7.out HB7.out hg8 ((SegB.refl _ _ _ _ w7).drewN 1 |>.trans hb8)
      refine ⟨rfl, by rw [HSJ.out.1]; exact pst_depth hs8 d, by rw [HSJ.out.2]; exact HFR.out _ _ _ hh8 hz (fun k _ hk => Below.heap_setCell _ _ _ _ (fun e => HSG.out.2.1 ((show k = s from e) ▸ hk))), j1.same (Below.heap_setCell _ _ _ _ (fun e => HSG.out.1 e.symm)) hz, (((HW6.out.b.drewN 1).trans j2).put s 1 _ (.inl rfl) HSG.out.1)⟩)
    obtain ⟨_, k1, _, k2, _⟩ := pst_at hs8
    have k3 := (HP8.out.2 0 _ rfl).1
    clear hs8 hh8 hg8 hb8
    go_wp2_with fail
    refine leaves_cons (f := 140) (args := #[.pointer (some ⟨p, 0, none⟩)]) (by simp) (by simp [go_sem]) ?_
    refine (psback p s d .returning _ k3 k1 k2 (by omega)).mono ?_
    rintro e u' w9 ⟨rfl, rfl, rfl⟩
    exact ⟨_, results_none rfl _ _ _, HRES.out⟩
  · have e3 : n3 = 0 := by have := HN3.out; omega
    subst e1
    subst e2
    subst e3
    subst h1
    clear HHO
    go_still_tail 4, (by kernel_rfl)
    go_wp2_with fail
    refine (HCB.out (w7.drewN 1) (HS7.out.same rfl (Nat.le_refl _)) (HFR.out _ _ _ HH7.out (Nat.le_refl _) (fun _ _ _ => rfl)) (HG7.out.drewN 1)).mono ?_
    rintro e w8 ⟨rfl, hs8, hh8, hg8, hb8⟩
    have HP8 : Hid (CellRow w8 p [.pointer (some ⟨s, 0, none⟩)]) := Lib.hid (hb8.row (HP7.out.same (w' := w7.drewN 1) rfl (Nat.le_refl _)) HSG.out.2.2.2.2.1 HNP.out)
    have HRES : Hid (PsC s g o n (.func (.func ff) #[] lb) d q h (sgJoin M lt gt A B) Hp Qh w (.returned (.tuple #[])) (w8.setCell ⟨s, 1, none⟩ (.int .i64 (d : Int)))) := Lib.hid (by
      have hz : w8.heap.size ≤ (w8.setCell ⟨s, 1, none⟩ (.int .i64 (d : Int))).heap.size := by simp
      obtain ⟨j1, j2⟩ := HJOIN.out (W6.drewN 1) w7 w8 (HW6.out.sg.drewN 1) HA7.out HB7.out hg8 ((SegB.refl _ _ _ _ w7).drewN 1 |>.trans hb8)
      refine ⟨rfl, by rw [HSJ.out.1]; exact pst_depth hs8 d, by rw [HSJ.out.2]; exact HFR.out _ _ _ hh8 hz (fun k _ hk => Below.heap_setCell _ _ _ _ (fun e => HSG.out.2.1 ((show k = s from e) ▸ hk))), j1.same (Below.heap_setCell _ _ _ _ (fun e => HSG.out.1 e.symm)) hz, (((HW6.out.b.drewN 1).trans j2).put s 1 _ (.inl rfl) HSG.out.1)⟩)
    obtain ⟨_, k1, _, k2, _⟩ := pst_at hs8
    have k3 := (HP8.out.2 0 _ rfl).1
    clear hs8 hh8 hg8 hb8
    go_wp2_with fail
    refine leaves_cons (f := 140) (args := #[.pointer (some ⟨p, 0, none⟩)]) (by simp) (by simp [go_sem]) ?_
    refine (psback p s d .returning _ k3 k1 k2 (by omega)).mono ?_
    rintro e u' w9 ⟨rfl, rfl, rfl⟩
    exact ⟨_, results_none rfl _ _ _, HRES.out⟩

end Go.Proofs.Ytipdfmedbcafpaa
