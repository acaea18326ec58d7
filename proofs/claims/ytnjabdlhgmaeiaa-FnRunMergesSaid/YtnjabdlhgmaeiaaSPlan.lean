/- The model's plan of merges, by its contract. -/
import Derived.Test.YtnjabdlhgmaeiaaSNx
import Derived.Test.YtnjabdlhgmaeiaaMrgR
import Derived.Test.YtnjabdlhgmaeiaaHeldI2
namespace Go.Proofs.Ytnjabdlhgmaeiaa
open Go.RowKit P Sk
set_option linter.unusedVariables false
attribute [local go_sem ↓ high] builtin_append_held

/-- The length of a slice. -/
def lenQ : Value → Nat
  | .slice _ n _ => n
  | _ => 0
theorem lenQ_slice (a : Option Addr) (n c : Nat) : lenQ (.slice a n c) = n := rfl

/-- The stack and the merges. -/
structure PlW (base : Nat) (S O : List Int) (gs cs go co : Nat) (TB : Int) (w wr : World) : Prop where
  sH : Held base wr (.slice (some ⟨gs, 0, none⟩) S.length cs) S
  oH : Held base wr (.slice (some ⟨go, 0, none⟩) O.length co) O
  ne : gs ≠ go
  pos : Pos 4000000 S
  tb : tot S ≤ TB
  b : Below base w wr
theorem PlW.below {S O : List Int} {gs cs go co : Nat} {TB : Int} {w wr w' : World} (h : PlW w.heap.size S O gs cs go co TB w wr) (hb : Below wr.heap.size wr w') : PlW w.heap.size S O gs cs go co TB w w' :=
  ⟨h.sH.below hb, h.oH.below hb, h.ne, h.pos, h.tb, h.b.trans (hb.mono h.b.size)⟩

theorem l1Most_any (x y : Nat) (w : World) (hx : x ≤ 1048576) (hy : y ≤ 1048576) : Calls Try.prog 126 #[.int .i64 (x : Int), .int .i64 (y : Int)] w fun e w' => e = .returned (.int .i64 ((max x y : Nat) : Int)) ∧ w' = w := by
  by_cases h : y < x
  · have hz : (y : Int) < (x : Int) := by omega
    rw [show max x y = x by omega]
    go_enter Try.func126, Try.ntmps126
    go_wp2
    go_ret
    exact ⟨rfl, rfl⟩
  · have hz : ¬ (y : Int) < (x : Int) := by omega
    rw [show max x y = y by omega]
    go_enter Try.func126, Try.ntmps126
    go_wp2
    go_ret
    exact ⟨rfl, rfl⟩

/-- What the plan hands back. -/
def PlanC (R : List Int × Nat) (w : World) (e : Ending) (w' : World) : Prop :=
  ∃ g c, e = .returned (.tuple #[.slice (some ⟨g, 0, none⟩) R.1.length c, .int .i64 (R.2 : Nat)]) ∧ R.1.length ≤ c ∧ w.heap.size ≤ g ∧ CellRow w' g (ints R.1) ∧ Below w.heap.size w w'

set_option maxRecDepth 100000 in
set_option maxHeartbeats 32000000 in
theorem l5Plan_any (b o c : Nat) (l : List Int) (w : World) (hv : FlatAt w (.slice (some ⟨b, o, none⟩) l.length c) l.length (ints l)) (hok : OkC l) :
    Calls Try.prog 92 #[.slice (some ⟨b, o, none⟩) l.length c] w (PlanC (planF l) w) := by
  have HCELL : Hid (∀ j, j < l.length → b < w.heap.size ∧ w.cell? ⟨b, o + j, none⟩ = some (.int .i64 (l.getD j 0))) := Lib.hid (fun j hj => by
    obtain ⟨a0, c0, e0, _, h⟩ := hv
    simp at e0
    obtain ⟨rfl, rfl⟩ := e0
    obtain ⟨b', o', e', h1, h2⟩ := h _ _ (ints_at (at_getD hj))
    simp at e'
    obtain ⟨rfl, rfl⟩ := e'
    exact ⟨h1, h2⟩)
  have hl40 := hok.1
  have HOK := Lib.hid hok
  have htot : tot l ≤ 4000000 := by
    have : ∀ m : List Int, (∀ x ∈ m, 1 ≤ x ∧ x ≤ 100000) → tot m ≤ 100000 * m.length := by
      intro m
      induction m with
      | nil => intro _; simp [tot]
      | cons y m ih => intro h; have h1 := h y (by simp); have h2 := ih (fun z hz => h z (by simp [hz])); rw [tot, List.length_cons]; omega
    have := this l hok.2; omega
  obtain ⟨PS, hPS⟩ : ∃ PS, PS = push l ([], [], 0) := ⟨_, rfl⟩
  obtain ⟨R, hR⟩ : ∃ R, R = planF l := ⟨_, rfl⟩
  have HRP : Hid (R = ((coll true PS.1 PS.2.1).2, PS.2.2)) := Lib.hid (by rw [hR, hPS]; rfl)
  rw [← hR]
  have H0 : Hid (PlW w.heap.size [] [] (w.heap.size + 1) 0 w.heap.size 0 0 w ((w.alloc (.cells #[] 3)).alloc (.cells #[] 3))) := Lib.hid (by
    have e : (w.alloc (.cells #[] 3)).heap.size = w.heap.size + 1 := by simp
    refine ⟨by have := Held.start (w.alloc (.cells #[] 3)) w.heap.size (by simp); rw [e] at this; exact this, (Held.start w _ (Nat.le_refl _)).alloc _, by omega, ⟨by simp, by simp [tot]⟩, by simp [tot], ((Below.refl _ _).alloc (Nat.le_refl _) _).alloc (by simp) _⟩)
  have HPS0 : Hid (push (l.drop 0) ([], [], 0) = PS) := Lib.hid hPS.symm
  have HTOT := Lib.hid htot
  clear hv hok hPS hR htot
  go_enter Try.func92, Try.ntmps92
  go_wp2_with fail
  go_loopw [4, 5, 6, 7, 8] (fun ov mv sv iv _ wr => ∃ (i M : Nat) (S O : List Int) (gs cs go co : Nat) (TB : Int), sv = .slice (some ⟨gs, 0, none⟩) S.length cs ∧ ov = .slice (some ⟨go, 0, none⟩) O.length co ∧ mv = .int .i64 (M : Int) ∧ iv = .int .i64 (i : Int) ∧
      ((i ≤ l.length ∧ push (l.drop i) (S, O, M) = PS ∧ TB + tot (l.drop i) ≤ 4000000) ∨ (i = l.length + 1 ∧ (O, M) = R)) ∧ S.length + O.length ≤ i ∧ M ≤ 41 ∧ i ≤ l.length + 1 ∧ PlW w.heap.size S O gs cs go co TB w wr) (fun _ _ _ iv _ _ => l.length + 1 - (intOf iv).toNat)
  case atStart => exact ⟨0, 0, [], [], w.heap.size + 1, 0, w.heap.size, 0, 0, rfl, rfl, rfl, rfl, .inl ⟨Nat.zero_le _, HPS0.out, by simpa using HTOT.out⟩, Nat.le_refl _, by omega, by omega, H0.out⟩
  case round =>
    clear H0 HPS0
    obtain ⟨i, M, S, O, gs, cs, go, co, TB, rfl, rfl, rfl, rfl, hor, hSO, hM, hi1, hpl⟩ := hrel
    by_cases hlt : i < l.length
    · obtain ⟨_, hps, htb⟩ : i ≤ l.length ∧ push (l.drop i) (S, O, M) = PS ∧ TB + tot (l.drop i) ≤ 4000000 := by
        rcases hor with h | h
        · exact h
        · omega
      clear hor
      obtain ⟨x, hx⟩ : ∃ x, x = l.getD i 0 := ⟨_, rfl⟩
      have hdr : l.drop i = x :: l.drop (i + 1) := by rw [List.drop_eq_getElem_cons hlt, hx, List.getD_eq_getElem?_getD, List.getElem?_eq_getElem hlt]; rfl
      rw [hdr, push_cons] at hps
      rw [hdr, tot] at htb
      obtain ⟨hx1, hx2⟩ := HOK.out.2 x (by rw [hx, List.getD_eq_getElem?_getD, List.getElem?_eq_getElem hlt]; exact List.getElem_mem hlt)
      obtain ⟨hbb, hc0⟩ := HCELL.out i hlt
      have hcx : wr.cell? ⟨b, o + i, none⟩ = some (.int .i64 x) := by rw [hx]; exact (hpl.b.cell (p := ⟨b, o + i, none⟩) hbb).trans hc0
      obtain ⟨CR, hCR⟩ : ∃ CR, CR = coll false (S ++ [x]) O := ⟨_, rfl⟩
      rw [← hCR] at hps
      obtain ⟨gs2, cs2, w2, hrun, hhs, hbs, hfr, hgs2⟩ := appendI w.heap.size gs cs S x wr hpl.sH hpl.b.size (by omega)
      have hol := hpl.oH.at
      have HPL : Hid (PlW w.heap.size (S ++ [x]) O gs2 cs2 go co (TB + x) w w2) := Lib.hid ⟨hhs, hpl.oH.block (hfr go hol.2.2.1 (fun e => hpl.ne e.symm)), by have := hol.2.2.1; have := hpl.ne; omega, ⟨fun y hy => by
          rcases List.mem_append.1 hy with h | h
          · exact hpl.pos.1 y h
          · rw [List.mem_singleton.1 h]; exact hx1, by rw [tot_append]; have := hpl.tb; have h0 := tot_nonneg (l := l.drop (i + 1)) (fun z hz => (HOK.out.2 z (List.mem_of_mem_drop hz)).1); simp only [tot]; omega⟩, by rw [tot_append]; have := hpl.tb; simp only [tot]; omega, hpl.b.trans hbs⟩
      have HPS := Lib.hid hps
      have HTB : Hid ((TB + x) + tot (l.drop (i + 1)) ≤ 4000000) := Lib.hid (by omega)
      have hiz : (i : Int) < (l.length : Int) := by omega
      have hile : decide ((i : Int) ≤ (l.length : Int)) = true := decide_eq_true (by omega)
      have hilz : (i : Int) ≤ (l.length : Int) := by omega
      have hbe : ((i : Int) == (l.length : Int)) = false := by simp; omega
      have hne : ¬ i = l.length := by omega
      obtain ⟨S1, hS1⟩ : ∃ S1, S1 = S ++ [x] := ⟨_, rfl⟩
      have hS1l : S1.length = S.length + 1 := by rw [hS1]; simp
      rw [← hS1] at HPL hCR
      have HCR := Lib.hid hCR.symm
      obtain ⟨n1, hn1⟩ : ∃ n1, n1 = S.length + 1 := ⟨_, rfl⟩
      have HMX := Lib.hid (fun W => l1Most_any M n1 W (by omega) (by omega))
      obtain ⟨M2, hM2⟩ : ∃ M2, M2 = max M n1 := ⟨_, rfl⟩
      rw [← hM2] at HMX
      have hM41 : M2 ≤ 41 := by omega
      have HM2 : Hid (M2 = max M (S.length + 1)) := Lib.hid (by rw [hM2, hn1])
      have HN1 := Lib.hid hn1
      rw [← hn1] at hrun
      have hS1n : S1.length = n1 := by omega
      have hlen42 : S1.length + O.length ≤ 42 := by omega
      have hSOi : S1.length + O.length ≤ i + 1 := by omega
      clear hpl hx hdr hx1 hx2 hc0 hCR hhs hbs hfr hgs2 hol hps htb hS1 hM2 hn1 hS1l
      rw [← hS1n] at hrun HMX
      clear hS1n
      go_wp2_with fail
      refine (HMX.out _).mono ?_
      rintro e w3 ⟨rfl, rfl⟩
      go_wp2_with fail
      refine (l5Next_any gs2 cs2 S1 false w3 HPL.out.sH.at.2.2 HPL.out.pos (by omega)).mono ?_
      rintro e w4 ⟨rfl, hb4⟩
      have HPL0 := Lib.hid (HPL.out.below hb4)
      clear hb4 HPL
      go_wp2_with fail
      go_loopw [4, 6, 8] (fun ov sv av ws => ∃ (S O : List Int) (gs cs go co : Nat), sv = .slice (some ⟨gs, 0, none⟩) S.length cs ∧ ov = .slice (some ⟨go, 0, none⟩) O.length co ∧ av = .int .i64 (nxI S false) ∧ coll false S O = CR ∧ (S.length + O.length ≤ i + 1 ∧ i + 1 ≤ 42) ∧ PlW w.heap.size S O gs cs go co (TB + x) w ws) (fun _ sv _ _ => lenQ sv)
      case atStart => exact ⟨S1, O, gs2, cs2, go, co, rfl, rfl, rfl, HCR.out, ⟨by omega, by omega⟩, HPL0.out⟩
      case round =>
        clear HPL0 HCR
        obtain ⟨S, O, gs, cs, go, co, rfl, rfl, rfl, hcr, ⟨hlen, hi42⟩, hpl⟩ := hrel
        have HPL := Lib.hid hpl
        have HCR := Lib.hid hcr
        clear hcr
        by_cases hnd : need S false
        · obtain ⟨k, hk⟩ : ∃ k, k = low S := ⟨_, rfl⟩
          have hnx : nxI S false = (k : Int) := by rw [nxI_yes hnd, hk]
          rw [hnx]
          have h2 := need_two hnd
          have hkl := low_lt h2
          rw [← hk] at hkl
          obtain ⟨hgs, hcs, hrow⟩ := hpl.sH.at
          obtain ⟨hgo, hco, _⟩ := hpl.oH.at
          have hglt := hrow.1
          obtain ⟨go2, co2, w2, hrunO, hho, hbo, hfr, hgo2⟩ := appendI w.heap.size go co O (k : Int) wr hpl.oH hpl.b.size (by omega)
          have hne := hpl.ne
          have hrow2 : CellRow w2 gs (ints S) := hrow.same (hfr gs hglt hne) hbo.size
          obtain ⟨a, ha⟩ : ∃ a, a = S.getD k 0 := ⟨_, rfl⟩
          obtain ⟨b2, hb2⟩ : ∃ b, b = S.getD (k + 1) 0 := ⟨_, rfl⟩
          obtain ⟨ab0, ab1⟩ := hpl.pos.at (k := k) (by omega)
          obtain ⟨bb0, bb1⟩ := hpl.pos.at (k := k + 1) hkl
          have hca := (hrow2.2 k _ (ints_at (at_getD (by omega)))).1
          have hcb := (hrow2.2 (k + 1) _ (ints_at (at_getD hkl))).1
          rw [← ha] at hca ab0 ab1
          rw [← hb2] at hcb bb0 bb1
          have hglt2 : gs < w2.heap.size := hrow2.1
          obtain ⟨k1, hk1⟩ : ∃ k1, k1 = k + 1 := ⟨_, rfl⟩
          obtain ⟨kb, hkb⟩ : ∃ kb, kb = k + 2 := ⟨_, rfl⟩
          have hk1z : (k : Int) + 1 = (k1 : Int) := by omega
          have hkbz : (k : Int) + 2 = (kb : Int) := by omega
          rw [← hk1] at hcb
          have HML : Hid ((mrg S k).length = S.length - 1) := Lib.hid (mrg_length hkl)
          have HCO : Hid (coll false (mrg S k) (O ++ [(k : Int)]) = CR) := Lib.hid (by rw [← HCR.out, coll_go O hnd, ← hk])
          have hkS : k ≤ S.length := by omega
          have hkc : k ≤ cs := by omega
          have hk1S : k1 < S.length := by omega
          have hkbS : kb ≤ S.length := by omega
          have hkbc : kb ≤ cs := by omega
          have hkz : (k : Int) < (S.length : Int) := by omega
          have hkzc : (k : Int) ≤ (cs : Int) := by omega
          have hk1Sz : (k1 : Int) < (S.length : Int) := by omega
          have hkbSz : (kb : Int) ≤ (S.length : Int) := by omega
          have hk0 : decide ((0 : Int) ≤ (k : Int)) = true := decide_eq_true (by omega)
          have hkS42 : k ≤ 42 := by omega
          have hS42 : S.length ≤ 42 := by omega
          have hbw2 : Below w.heap.size w w2 := hpl.b.trans hbo
          have hOl : (O ++ [(k : Int)]).length = O.length + 1 := by simp
          -- what each order of the parts leaves
          have HEND : Hid (∀ v3 w3, Held w2.heap.size w3 v3 (S.take k ++ [a + b2] ++ S.drop kb) → Below w2.heap.size w2 w3 → ∃ g3 c3, v3 = .slice (some ⟨g3, 0, none⟩) (mrg S k).length c3 ∧ PlW w.heap.size (mrg S k) (O ++ [(k : Int)]) g3 c3 go2 co2 (TB + x) w w3) := Lib.hid (fun v3 w3 h1 h2 => by
            have e : S.take k ++ [a + b2] ++ S.drop kb = mrg S k := by unfold mrg; rw [ha, hb2, hkb]; simp
            rw [e] at h1
            obtain ⟨g3, c3, rfl, h4, h5, h6⟩ := h1.row
            have hol := hho.at
            refine ⟨g3, c3, rfl, h1.lower (by have := hbw2.size; exact this), (hho.below h2), by have := hol.2.2.1; omega, hpl.pos.mrg hkl, by rw [tot_mrg hkl]; exact hpl.tb, hbw2.trans (h2.mono hbw2.size)⟩)
          have HNEXT : Hid (∀ g3 c3 w3, PlW w.heap.size (mrg S k) (O ++ [(k : Int)]) g3 c3 go2 co2 (TB + x) w w3 → Calls Try.prog 96 #[.slice (some ⟨g3, 0, none⟩) (mrg S k).length c3, .bool false] w3 fun e w' => e = .returned (.int .i64 (nxI (mrg S k) false)) ∧ Below w3.heap.size w3 w') := Lib.hid (fun g3 c3 w3 h => l5Next_any g3 c3 (mrg S k) false w3 h.sH.at.2.2 h.pos (by have := HML.out; omega))
          by_cases hcap : cs = kb
          · have hcap' := hcap.symm
            clear hcap
            subst hcap'
            have HT := mergings gs kb k kb 0 0 0 (a + b2) S w2 hrow2 hkS (by omega) (by omega) (fun h => by omega)
            obtain ⟨v3, v3', v3'', w3, w3', w3'', v1, v1', v1'', v2, v2', v2'', w1, w1', w1'', wz, wz', wz'', I, blate⟩ := HT
            obtain ⟨r1, r2, r3, s1, s2, s3, t1, t2, t3, hha, hhb, hhc⟩ := I
            have hca3 : w1.cell? ⟨gs, k, none⟩ = some (.int .i64 a) := (blate.cell (p := ⟨gs, k, none⟩) hglt2).trans hca
            have hcb3 : w1.cell? ⟨gs, k1, none⟩ = some (.int .i64 b2) := (blate.cell (p := ⟨gs, k1, none⟩) hglt2).trans hcb
            obtain ⟨ga, ca, rfl, hpa⟩ := HEND.out v3 w3 hha.1 hha.2
            obtain ⟨gb, cb, rfl, hpb⟩ := HEND.out v3' w3' hhb.1 hhb.2
            obtain ⟨gc, cc, rfl, hpc⟩ := HEND.out v3'' w3'' hhc.1 hhc.2
            have HPa := Lib.hid hpa
            have HPb := Lib.hid hpb
            have HPc := Lib.hid hpc
            have HNXa := Lib.hid (HNEXT.out ga ca w3 hpa)
            have HNXb := Lib.hid (HNEXT.out gb cb w3' hpb)
            have HNXc := Lib.hid (HNEXT.out gc cc w3'' hpc)
            clear hpa hpb hpc hha hhb hhc blate HNEXT HEND hpl hrow hrow2 hho hbo hfr hgo2 hbw2 ha hb2 hk hk1 hkb hnx hOl HPL HCR
            go_wp2_with fail
            go_region
            all_goals go_wp2_with fail
            all_goals first
              | (with_reducible refine (HNXa.out).mono ?_
                 rintro e w5 ⟨rfl, hb5⟩
                 have HN5 := Lib.hid (HPa.out.below hb5)
                 clear hb5
                 go_wp2_with fail
                 go_roundw
                 case rel => exact ⟨mrg S k, O ++ [(k : Int)], ga, ca, go2, co2, rfl, by simp, rfl, HCO.out, ⟨by rw [HML.out]; simp; omega, hi42⟩, HN5.out⟩
                 case measure => simp only [lenQ_slice, HML.out]; omega)
              | (with_reducible refine (HNXb.out).mono ?_
                 rintro e w5 ⟨rfl, hb5⟩
                 have HN5 := Lib.hid (HPb.out.below hb5)
                 clear hb5
                 go_wp2_with fail
                 go_roundw
                 case rel => exact ⟨mrg S k, O ++ [(k : Int)], gb, cb, go2, co2, rfl, by simp, rfl, HCO.out, ⟨by rw [HML.out]; simp; omega, hi42⟩, HN5.out⟩
                 case measure => simp only [lenQ_slice, HML.out]; omega)
              | (with_reducible refine (HNXc.out).mono ?_
                 rintro e w5 ⟨rfl, hb5⟩
                 have HN5 := Lib.hid (HPc.out.below hb5)
                 clear hb5
                 go_wp2_with fail
                 go_roundw
                 case rel => exact ⟨mrg S k, O ++ [(k : Int)], gc, cc, go2, co2, rfl, by simp, rfl, HCO.out, ⟨by rw [HML.out]; simp; omega, hi42⟩, HN5.out⟩
                 case measure => simp only [lenQ_slice, HML.out]; omega)
          · have HT := mergings gs cs k kb kb (cs - kb) (S.length - kb) (a + b2) S w2 hrow2 hkS (by omega) rfl (fun _ => rfl)
            have hcapn : ¬ cs - kb = 0 := by omega
            obtain ⟨v3, v3', v3'', w3, w3', w3'', v1, v1', v1'', v2, v2', v2'', w1, w1', w1'', wz, wz', wz'', I, blate⟩ := HT
            obtain ⟨r1, r2, r3, s1, s2, s3, t1, t2, t3, hha, hhb, hhc⟩ := I
            have hca3 : w1.cell? ⟨gs, k, none⟩ = some (.int .i64 a) := (blate.cell (p := ⟨gs, k, none⟩) hglt2).trans hca
            have hcb3 : w1.cell? ⟨gs, k1, none⟩ = some (.int .i64 b2) := (blate.cell (p := ⟨gs, k1, none⟩) hglt2).trans hcb
            obtain ⟨ga, ca, rfl, hpa⟩ := HEND.out v3 w3 hha.1 hha.2
            obtain ⟨gb, cb, rfl, hpb⟩ := HEND.out v3' w3' hhb.1 hhb.2
            obtain ⟨gc, cc, rfl, hpc⟩ := HEND.out v3'' w3'' hhc.1 hhc.2
            have HPa := Lib.hid hpa
            have HPb := Lib.hid hpb
            have HPc := Lib.hid hpc
            have HNXa := Lib.hid (HNEXT.out ga ca w3 hpa)
            have HNXb := Lib.hid (HNEXT.out gb cb w3' hpb)
            have HNXc := Lib.hid (HNEXT.out gc cc w3'' hpc)
            clear hpa hpb hpc hha hhb hhc blate HNEXT HEND hpl hrow hrow2 hho hbo hfr hgo2 hbw2 ha hb2 hk hk1 hkb hnx hOl HPL HCR
            go_wp2_with fail
            go_region
            all_goals go_wp2_with fail
            all_goals first
              | (with_reducible refine (HNXa.out).mono ?_
                 rintro e w5 ⟨rfl, hb5⟩
                 have HN5 := Lib.hid (HPa.out.below hb5)
                 clear hb5
                 go_wp2_with fail
                 go_roundw
                 case rel => exact ⟨mrg S k, O ++ [(k : Int)], ga, ca, go2, co2, rfl, by simp, rfl, HCO.out, ⟨by rw [HML.out]; simp; omega, hi42⟩, HN5.out⟩
                 case measure => simp only [lenQ_slice, HML.out]; omega)
              | (with_reducible refine (HNXb.out).mono ?_
                 rintro e w5 ⟨rfl, hb5⟩
                 have HN5 := Lib.hid (HPb.out.below hb5)
                 clear hb5
                 go_wp2_with fail
                 go_roundw
                 case rel => exact ⟨mrg S k, O ++ [(k : Int)], gb, cb, go2, co2, rfl, by simp, rfl, HCO.out, ⟨by rw [HML.out]; simp; omega, hi42⟩, HN5.out⟩
                 case measure => simp only [lenQ_slice, HML.out]; omega)
              | (with_reducible refine (HNXc.out).mono ?_
                 rintro e w5 ⟨rfl, hb5⟩
                 have HN5 := Lib.hid (HPc.out.below hb5)
                 clear hb5
                 go_wp2_with fail
                 go_roundw
                 case rel => exact ⟨mrg S k, O ++ [(k : Int)], gc, cc, go2, co2, rfl, by simp, rfl, HCO.out, ⟨by rw [HML.out]; simp; omega, hi42⟩, HN5.out⟩
                 case measure => simp only [lenQ_slice, HML.out]; omega)
        · have hnx : nxI S false = -1 := nxI_no hnd
          rw [hnx]
          have HCE : Hid (CR = (S, O)) := Lib.hid (by rw [← HCR.out, coll_stop O hnd])
          clear hpl hnx
          go_wp2_with fail
          go_roundw
          case rel => exact ⟨i + 1, M2, S, O, gs, cs, go, co, TB + x, rfl, rfl, rfl, by go_num, .inl ⟨by omega, by rw [← HPS.out, HCE.out, HM2.out], HTB.out⟩, hlen, hM41, by omega, HPL.out⟩
          case measure => simp [intOf]; omega
    · by_cases he : i = l.length
      · obtain ⟨hps, htb⟩ : push (l.drop i) (S, O, M) = PS ∧ TB + tot (l.drop i) ≤ 4000000 := by
          rcases hor with h | h
          · exact h.2
          · omega
        clear hor
        rw [he, List.drop_length] at hps
        have hps2 : (S, O, M) = PS := hps
        obtain ⟨CR, hCR⟩ : ∃ CR, CR = coll true S O := ⟨_, rfl⟩
        have HRR : Hid (R = (CR.2, M)) := Lib.hid (by rw [HRP.out, ← hps2, hCR])
        have HPL := Lib.hid hpl
        have HCR := Lib.hid hCR.symm
        have hiz : ¬ (i : Int) < (l.length : Int) := by omega
        have hile : decide ((i : Int) ≤ (l.length : Int)) = true := decide_eq_true (by omega)
        have hilz : (i : Int) ≤ (l.length : Int) := by omega
        have hbe : ((i : Int) == (l.length : Int)) = true := by simp; omega
        have HIL := Lib.hid he
        have hi40 : i ≤ 40 := by omega
        have hSOi : S.length + O.length ≤ 40 := by omega
        clear hps hps2 htb hCR hpl he
        go_wp2_with fail
        refine (l5Next_any gs cs S true wr HPL.out.sH.at.2.2 HPL.out.pos (by omega)).mono ?_
        rintro e w4 ⟨rfl, hb4⟩
        have HPL0 := Lib.hid (HPL.out.below hb4)
        clear hb4 HPL
        go_wp2_with fail
        go_loopw [4, 6, 8] (fun ov sv av ws => ∃ (S O : List Int) (gs cs go co : Nat), sv = .slice (some ⟨gs, 0, none⟩) S.length cs ∧ ov = .slice (some ⟨go, 0, none⟩) O.length co ∧ av = .int .i64 (nxI S true) ∧ coll true S O = CR ∧ (S.length + O.length ≤ i ∧ i ≤ 40) ∧ PlW w.heap.size S O gs cs go co TB w ws) (fun _ sv _ _ => lenQ sv)
        case atStart => exact ⟨S, O, gs, cs, go, co, rfl, rfl, rfl, HCR.out, ⟨by omega, by omega⟩, HPL0.out⟩
        case round =>
          clear HPL0 HCR
          obtain ⟨S, O, gs, cs, go, co, rfl, rfl, rfl, hcr, ⟨hlen, hi40'⟩, hpl⟩ := hrel
          have HPL := Lib.hid hpl
          have HCR := Lib.hid hcr
          clear hcr
          by_cases hnd : need S true
          · obtain ⟨k, hk⟩ : ∃ k, k = low S := ⟨_, rfl⟩
            have hnx : nxI S true = (k : Int) := by rw [nxI_yes hnd, hk]
            rw [hnx]
            have h2 := need_two hnd
            have hkl := low_lt h2
            rw [← hk] at hkl
            obtain ⟨hgs, hcs, hrow⟩ := hpl.sH.at
            obtain ⟨hgo, hco, _⟩ := hpl.oH.at
            have hglt := hrow.1
            obtain ⟨go2, co2, w2, hrunO, hho, hbo, hfr, hgo2⟩ := appendI w.heap.size go co O (k : Int) wr hpl.oH hpl.b.size (by omega)
            have hne := hpl.ne
            have hrow2 : CellRow w2 gs (ints S) := hrow.same (hfr gs hglt hne) hbo.size
            obtain ⟨a, ha⟩ : ∃ a, a = S.getD k 0 := ⟨_, rfl⟩
            obtain ⟨b2, hb2⟩ : ∃ b, b = S.getD (k + 1) 0 := ⟨_, rfl⟩
            obtain ⟨ab0, ab1⟩ := hpl.pos.at (k := k) (by omega)
            obtain ⟨bb0, bb1⟩ := hpl.pos.at (k := k + 1) hkl
            have hca := (hrow2.2 k _ (ints_at (at_getD (by omega)))).1
            have hcb := (hrow2.2 (k + 1) _ (ints_at (at_getD hkl))).1
            rw [← ha] at hca ab0 ab1
            rw [← hb2] at hcb bb0 bb1
            have hglt2 : gs < w2.heap.size := hrow2.1
            obtain ⟨k1, hk1⟩ : ∃ k1, k1 = k + 1 := ⟨_, rfl⟩
            obtain ⟨kb, hkb⟩ : ∃ kb, kb = k + 2 := ⟨_, rfl⟩
            have hk1z : (k : Int) + 1 = (k1 : Int) := by omega
            have hkbz : (k : Int) + 2 = (kb : Int) := by omega
            rw [← hk1] at hcb
            have HML : Hid ((mrg S k).length = S.length - 1) := Lib.hid (mrg_length hkl)
            have HCO : Hid (coll true (mrg S k) (O ++ [(k : Int)]) = CR) := Lib.hid (by rw [← HCR.out, coll_go O hnd, ← hk])
            have hkS : k ≤ S.length := by omega
            have hkc : k ≤ cs := by omega
            have hk1S : k1 < S.length := by omega
            have hkbS : kb ≤ S.length := by omega
            have hkbc : kb ≤ cs := by omega
            have hkz : (k : Int) < (S.length : Int) := by omega
            have hkzc : (k : Int) ≤ (cs : Int) := by omega
            have hk1Sz : (k1 : Int) < (S.length : Int) := by omega
            have hkbSz : (kb : Int) ≤ (S.length : Int) := by omega
            have hk0 : decide ((0 : Int) ≤ (k : Int)) = true := decide_eq_true (by omega)
            have hkS42 : k ≤ 42 := by omega
            have hS42 : S.length ≤ 42 := by omega
            have hbw2 : Below w.heap.size w w2 := hpl.b.trans hbo
            have hOl : (O ++ [(k : Int)]).length = O.length + 1 := by simp
            -- what each order of the parts leaves
            have HEND : Hid (∀ v3 w3, Held w2.heap.size w3 v3 (S.take k ++ [a + b2] ++ S.drop kb) → Below w2.heap.size w2 w3 → ∃ g3 c3, v3 = .slice (some ⟨g3, 0, none⟩) (mrg S k).length c3 ∧ PlW w.heap.size (mrg S k) (O ++ [(k : Int)]) g3 c3 go2 co2 TB w w3) := Lib.hid (fun v3 w3 h1 h2 => by
              have e : S.take k ++ [a + b2] ++ S.drop kb = mrg S k := by unfold mrg; rw [ha, hb2, hkb]; simp
              rw [e] at h1
              obtain ⟨g3, c3, rfl, h4, h5, h6⟩ := h1.row
              have hol := hho.at
              refine ⟨g3, c3, rfl, h1.lower (by have := hbw2.size; exact this), (hho.below h2), by have := hol.2.2.1; omega, hpl.pos.mrg hkl, by rw [tot_mrg hkl]; exact hpl.tb, hbw2.trans (h2.mono hbw2.size)⟩)
            have HNEXT : Hid (∀ g3 c3 w3, PlW w.heap.size (mrg S k) (O ++ [(k : Int)]) g3 c3 go2 co2 TB w w3 → Calls Try.prog 96 #[.slice (some ⟨g3, 0, none⟩) (mrg S k).length c3, .bool true] w3 fun e w' => e = .returned (.int .i64 (nxI (mrg S k) true)) ∧ Below w3.heap.size w3 w') := Lib.hid (fun g3 c3 w3 h => l5Next_any g3 c3 (mrg S k) true w3 h.sH.at.2.2 h.pos (by have := HML.out; omega))
            by_cases hcap : cs = kb
            · have hcap' := hcap.symm
              clear hcap
              subst hcap'
              have HT := mergings gs kb k kb 0 0 0 (a + b2) S w2 hrow2 hkS (by omega) (by omega) (fun h => by omega)
              obtain ⟨v3, v3', v3'', w3, w3', w3'', v1, v1', v1'', v2, v2', v2'', w1, w1', w1'', wz, wz', wz'', I, blate⟩ := HT
              obtain ⟨r1, r2, r3, s1, s2, s3, t1, t2, t3, hha, hhb, hhc⟩ := I
              have hca3 : w1.cell? ⟨gs, k, none⟩ = some (.int .i64 a) := (blate.cell (p := ⟨gs, k, none⟩) hglt2).trans hca
              have hcb3 : w1.cell? ⟨gs, k1, none⟩ = some (.int .i64 b2) := (blate.cell (p := ⟨gs, k1, none⟩) hglt2).trans hcb
              obtain ⟨ga, ca, rfl, hpa⟩ := HEND.out v3 w3 hha.1 hha.2
              obtain ⟨gb, cb, rfl, hpb⟩ := HEND.out v3' w3' hhb.1 hhb.2
              obtain ⟨gc, cc, rfl, hpc⟩ := HEND.out v3'' w3'' hhc.1 hhc.2
              have HPa := Lib.hid hpa
              have HPb := Lib.hid hpb
              have HPc := Lib.hid hpc
              have HNXa := Lib.hid (HNEXT.out ga ca w3 hpa)
              have HNXb := Lib.hid (HNEXT.out gb cb w3' hpb)
              have HNXc := Lib.hid (HNEXT.out gc cc w3'' hpc)
              clear hpa hpb hpc hha hhb hhc blate HNEXT HEND hpl hrow hrow2 hho hbo hfr hgo2 hbw2 ha hb2 hk hk1 hkb hnx hOl HPL HCR
              go_wp2_with fail
              go_region
              all_goals go_wp2_with fail
              all_goals first
                | (with_reducible refine (HNXa.out).mono ?_
                   rintro e w5 ⟨rfl, hb5⟩
                   have HN5 := Lib.hid (HPa.out.below hb5)
                   clear hb5
                   go_wp2_with fail
                   go_roundw
                   case rel => exact ⟨mrg S k, O ++ [(k : Int)], ga, ca, go2, co2, rfl, by simp, rfl, HCO.out, ⟨by rw [HML.out]; simp; omega, hi40'⟩, HN5.out⟩
                   case measure => simp only [lenQ_slice, HML.out]; omega)
                | (with_reducible refine (HNXb.out).mono ?_
                   rintro e w5 ⟨rfl, hb5⟩
                   have HN5 := Lib.hid (HPb.out.below hb5)
                   clear hb5
                   go_wp2_with fail
                   go_roundw
                   case rel => exact ⟨mrg S k, O ++ [(k : Int)], gb, cb, go2, co2, rfl, by simp, rfl, HCO.out, ⟨by rw [HML.out]; simp; omega, hi40'⟩, HN5.out⟩
                   case measure => simp only [lenQ_slice, HML.out]; omega)
                | (with_reducible refine (HNXc.out).mono ?_
                   rintro e w5 ⟨rfl, hb5⟩
                   have HN5 := Lib.hid (HPc.out.below hb5)
                   clear hb5
                   go_wp2_with fail
                   go_roundw
                   case rel => exact ⟨mrg S k, O ++ [(k : Int)], gc, cc, go2, co2, rfl, by simp, rfl, HCO.out, ⟨by rw [HML.out]; simp; omega, hi40'⟩, HN5.out⟩
                   case measure => simp only [lenQ_slice, HML.out]; omega)
            · have HT := mergings gs cs k kb kb (cs - kb) (S.length - kb) (a + b2) S w2 hrow2 hkS (by omega) rfl (fun _ => rfl)
              have hcapn : ¬ cs - kb = 0 := by omega
              obtain ⟨v3, v3', v3'', w3, w3', w3'', v1, v1', v1'', v2, v2', v2'', w1, w1', w1'', wz, wz', wz'', I, blate⟩ := HT
              obtain ⟨r1, r2, r3, s1, s2, s3, t1, t2, t3, hha, hhb, hhc⟩ := I
              have hca3 : w1.cell? ⟨gs, k, none⟩ = some (.int .i64 a) := (blate.cell (p := ⟨gs, k, none⟩) hglt2).trans hca
              have hcb3 : w1.cell? ⟨gs, k1, none⟩ = some (.int .i64 b2) := (blate.cell (p := ⟨gs, k1, none⟩) hglt2).trans hcb
              obtain ⟨ga, ca, rfl, hpa⟩ := HEND.out v3 w3 hha.1 hha.2
              obtain ⟨gb, cb, rfl, hpb⟩ := HEND.out v3' w3' hhb.1 hhb.2
              obtain ⟨gc, cc, rfl, hpc⟩ := HEND.out v3'' w3'' hhc.1 hhc.2
              have HPa := Lib.hid hpa
              have HPb := Lib.hid hpb
              have HPc := Lib.hid hpc
              have HNXa := Lib.hid (HNEXT.out ga ca w3 hpa)
              have HNXb := Lib.hid (HNEXT.out gb cb w3' hpb)
              have HNXc := Lib.hid (HNEXT.out gc cc w3'' hpc)
              clear hpa hpb hpc hha hhb hhc blate HNEXT HEND hpl hrow hrow2 hho hbo hfr hgo2 hbw2 ha hb2 hk hk1 hkb hnx hOl HPL HCR
              go_wp2_with fail
              go_region
              all_goals go_wp2_with fail
              all_goals first
                | (with_reducible refine (HNXa.out).mono ?_
                   rintro e w5 ⟨rfl, hb5⟩
                   have HN5 := Lib.hid (HPa.out.below hb5)
                   clear hb5
                   go_wp2_with fail
                   go_roundw
                   case rel => exact ⟨mrg S k, O ++ [(k : Int)], ga, ca, go2, co2, rfl, by simp, rfl, HCO.out, ⟨by rw [HML.out]; simp; omega, hi40'⟩, HN5.out⟩
                   case measure => simp only [lenQ_slice, HML.out]; omega)
                | (with_reducible refine (HNXb.out).mono ?_
                   rintro e w5 ⟨rfl, hb5⟩
                   have HN5 := Lib.hid (HPb.out.below hb5)
                   clear hb5
                   go_wp2_with fail
                   go_roundw
                   case rel => exact ⟨mrg S k, O ++ [(k : Int)], gb, cb, go2, co2, rfl, by simp, rfl, HCO.out, ⟨by rw [HML.out]; simp; omega, hi40'⟩, HN5.out⟩
                   case measure => simp only [lenQ_slice, HML.out]; omega)
                | (with_reducible refine (HNXc.out).mono ?_
                   rintro e w5 ⟨rfl, hb5⟩
                   have HN5 := Lib.hid (HPc.out.below hb5)
                   clear hb5
                   go_wp2_with fail
                   go_roundw
                   case rel => exact ⟨mrg S k, O ++ [(k : Int)], gc, cc, go2, co2, rfl, by simp, rfl, HCO.out, ⟨by rw [HML.out]; simp; omega, hi40'⟩, HN5.out⟩
                   case measure => simp only [lenQ_slice, HML.out]; omega)
          · have hnx : nxI S true = -1 := nxI_no hnd
            rw [hnx]
            have HCE : Hid (CR = (S, O)) := Lib.hid (by rw [← HCR.out, coll_stop O hnd])
            clear hpl hnx
            go_wp2_with fail
            go_roundw
            case rel => have hil := HIL.out; exact ⟨i + 1, M, S, O, gs, cs, go, co, TB, rfl, rfl, rfl, by go_num, .inr ⟨by omega, by rw [HRR.out, HCE.out]⟩, by omega, hM, by omega, HPL.out⟩
            case measure => have hil := HIL.out; simp [intOf]; omega
      · obtain ⟨hil, hor⟩ : i = l.length + 1 ∧ (O, M) = R := by
          rcases hor with h | h
          · omega
          · exact h
        have hile : decide ((i : Int) ≤ (l.length : Int)) = false := decide_eq_false (by omega)
        have hilz : ¬ (i : Int) ≤ (l.length : Int) := by omega
        have HRES : Hid (PlanC R w (.returned (.tuple #[.slice (some ⟨go, 0, none⟩) O.length co, .int .i64 (M : Int)])) wr) := Lib.hid (by
          rw [← hor]
          obtain ⟨h1, h2, h3⟩ := hpl.oH.at
          exact ⟨go, co, rfl, h2, h1, h3, hpl.b⟩)
        clear hpl hor hil
        go_wp2_with fail
        go_ret2
        exact HRES.out

end Go.Proofs.Ytnjabdlhgmaeiaa
