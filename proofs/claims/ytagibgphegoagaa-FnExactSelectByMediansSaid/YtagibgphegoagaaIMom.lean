/- The program's medianOfMedians (recursive, over slices.Chunk), by its contract. -/
import Derived.Test.YtagibgphegoagaaILow
import Derived.Test.YtagibgphegoagaaChk
import Derived.Test.YtagibgphegoagaaISbp
namespace Go.Proofs.Ytagibgphegoagaa
open Go.RowKit Go.Shelf P El Qk Sl
set_option linter.unusedVariables false

attribute [local go_sem] Oper.semAt_some
attribute [local go_sem ↓ high] builtin_append_held

theorem chunk_any (a : Option Addr) (len c : Nat) (d : Int) (w : World) (hd : ¬ d < 1) :
    Calls Try.prog 153 #[.slice a len c, .int .i64 d] w fun e w' => e = .returned (.func (.func 181) #[] #[.pointer (some ⟨w.heap.size, 0, none⟩), .pointer (some ⟨w.heap.size + 1, 0, none⟩)]) ∧ w' = (w.alloc (.cells #[.slice a len c] 34)).alloc (.cells #[.int .i64 d] 3) := by
  have hdd : decide (d < 1) = false := decide_eq_false hd
  go_enter Try.func153, Try.ntmps153
  go_wp2_with fail
  go_ret
  exact ⟨rfl, rfl⟩

theorem grp_flat {w : World} {b o c : Nat} {L : List Int} (h : FlatAt w (.slice (some ⟨b, o, none⟩) L.length c) L.length (ints L)) (i : Nat) : FlatAt w (chunkV b o L.length 5 i) (grp L i).length (ints (grp L i)) := by
  obtain ⟨a0, c0, e0, _, h1⟩ := h
  simp at e0
  obtain ⟨rfl, rfl⟩ := e0
  refine ⟨some ⟨b, o + 5 * i, none⟩, _, by unfold chunkV; rw [grp_length], by rw [grp_length]; exact Nat.le_refl _, fun j u hu => ?_⟩
  have hj : j < (grp L i).length := by have := (List.getElem?_eq_some_iff.1 hu).1; rw [ints_length] at this; exact this
  have hj2 := grp_length L i
  have hu2 : (ints L)[5 * i + j]? = some u := by
    rw [← hu]
    unfold ints grp
    rw [List.map_take, List.map_drop, List.getElem?_take_of_lt (by omega), List.getElem?_drop]
  obtain ⟨b2, o2, e2, hb2, hc⟩ := h1 _ _ hu2
  simp at e2
  obtain ⟨rfl, rfl⟩ := e2
  exact ⟨b, o + 5 * i, rfl, hb2, by rw [Nat.add_assoc]; exact hc⟩

theorem okL_grp {L : List Int} (h : OkL L) (i : Nat) : OkL (grp L i) := ⟨by rw [grp_length]; omega, fun x hx => h.2 x (grp_mem hx)⟩
theorem okL_meds {L : List Int} (h : OkL L) : OkL (medsTo L (groups L.length)) := ⟨by rw [medsTo_length]; unfold groups; have := h.1; omega, fun x hx => h.2 x (meds_mem hx)⟩

/-- The word at each round of the range: the medians so far in their box. -/
def MedW (bs : Nat) (L : List Int) (w : World) (pre : List Nat) (W : World) : Prop :=
  (∃ v, Boxed W bs 34 v ∧ W.ownsRow (bs + 3) 3 1 v pre.length (ints (medsTo L pre.length)) ∧ ∃ a c, v = .slice a pre.length c) ∧ Below bs w W

theorem MedW.own {bs B : Nat} {L : List Int} {w : World} (hw : bs ≤ w.heap.size) (hB : bs ≤ B) : OwnFrom B (MedW bs L w) := by
  rintro pre W W' row ⟨⟨v, hb, ho, hs⟩, hbe⟩ hg hr
  refine ⟨⟨v, hb.kept hg (fun e => ?_), own_same ho (fun k hk => hg.block k (ho.lt k hk).2 (fun e => ?_)), hs⟩, hbe.grown hg (Nat.le_trans hw hbe.size) (fun k e => Nat.le_trans hB (hr k e).1)⟩
  · obtain ⟨_, o, hoo, hc⟩ := hr bs e.symm
    rw [show W.heap[bs]? = _ from hb] at hoo; cases hoo; cases hc
  · obtain ⟨_, o, hoo, hc⟩ := hr k e.symm
    rw [(own_cells ho hk).2 o hoo] at hc; cases hc

theorem mom_leave {F : Fence} {n : Nat} {base : Nat} {w w1 : World} {tmps : Array Value} {D : Nat} {x : Int} (hK : w1.heap[D]? = some (.deferred (some []))) (hD : base ≤ D) (hb : Below base w w1) (h2 : tmps.getD 2 undef = .int .i64 x) :
    LeavesInM F n Try.prog Try.f111 tmps (fun e w' => e = .returned (.int .i64 x) ∧ Below base w w') [{ target := .collected D, args := #[] }] .returning w1 := by
  refine ⟨by simp, .inl ⟨D, _, rfl, run_takeDeferred hK, ?_⟩⟩
  exact ⟨_, results_tmp rfl _ _ _, by rw [h2], hb.trans ⟨rfl, rfl, rfl, by simp [World.putObj], fun k hk => World.putObj_heap_other (by omega)⟩⟩

set_option maxRecDepth 100000 in
set_option maxHeartbeats 4000000 in
theorem momI_any : ∀ (N : Nat) (b o c : Nat) (L : List Int) (w : World), L.length ≤ N → FlatAt w (.slice (some ⟨b, o, none⟩) L.length c) L.length (ints L) → OkL L → L ≠ [] →
    Calls Try.prog 111 #[.slice (some ⟨b, o, none⟩) L.length c] w fun e w' => e = .returned (.int .i64 (momF L)) ∧ Below w.heap.size w w' := by
  intro N
  induction N with
  | zero => intro b o c L w hN hv hok h0; exact absurd (List.eq_nil_of_length_eq_zero (by omega)) h0
  | succ N ih =>
    intro b o c L w hN hv hok h0
    have h64 := hok.1
    have hL0 : 0 < L.length := List.length_pos_iff.2 h0
    by_cases h5 : 5 < L.length
    · have HREC := Lib.hid ih
      have HF := Lib.hid (momF_big h5)
      have h5z : ¬ (L.length : Int) ≤ 5 := by omega
      have h5d : decide ((L.length : Int) ≤ 5) = false := decide_eq_false h5z
      refine (callsIn_wide (n := 5)).1 ?_
      refine callsIn_of_wp_marks Try.func111 rfl trivial ?_ rfl
      simp only [Try.ntmps111, List.size_toArray, List.length_cons, List.length_nil, Nat.reduceAdd, Nat.reduceSub, Array.replicate_succ, Array.replicate_zero, List.push_toArray, List.append_toArray, List.nil_append, List.cons_append]
      gi_wp2
      refine ⟨trivial, ?_⟩
      refine ((callsIn_wide).2 (chunk_any _ _ _ 5 _ (by omega))).mono ?_
      rintro e w1 ⟨rfl, rfl⟩
      gi_wp2
      obtain ⟨wA, hwA⟩ : ∃ wA, wA = w.alloc (.cells #[.slice none 0 0] 34) := ⟨_, rfl⟩
      obtain ⟨wB, hwB⟩ : ∃ wB, wB = wA.alloc (.cells #[.slice (some ⟨b, o, none⟩) L.length c] 34) := ⟨_, rfl⟩
      obtain ⟨wL, hwL⟩ : ∃ wL, wL = wB.alloc (.cells #[.int .i64 5] 3) := ⟨_, rfl⟩
      have zA : wA.heap.size = w.heap.size + 1 := by rw [hwA]; simp
      have zB : wB.heap.size = w.heap.size + 1 + 1 := by rw [hwB]; simp [zA]
      have zL : wL.heap.size = w.heap.size + 3 := by rw [hwL]; simp [zB]
      have hbA : Below w.heap.size w wA := by rw [hwA]; exact (Below.refl _ _).alloc (Nat.le_refl _) _
      have hbB : Below wA.heap.size wA wB := by rw [hwB]; exact (Below.refl _ _).alloc (Nat.le_refl _) _
      have hbL : Below wB.heap.size wB wL := by rw [hwL]; exact (Below.refl _ _).alloc (Nat.le_refl _) _
      have bA : Boxed wA w.heap.size 34 (.slice none 0 0) := by rw [hwA]; exact Boxed.new w _ _
      have bB : Boxed wB (w.heap.size + 1) 34 (.slice (some ⟨b, o, none⟩) L.length c) := by have := Boxed.new wA 34 (.slice (some ⟨b, o, none⟩) L.length c); rw [zA, ← hwB] at this; exact this
      have bC : Boxed wL (w.heap.size + 1 + 1) 3 (.int .i64 5) := by have := Boxed.new wB 3 (.int .i64 5); rw [zB, ← hwL] at this; exact this
      have bB2 : Boxed wL (w.heap.size + 1) 34 (.slice (some ⟨b, o, none⟩) L.length c) := (hbL.block _ (by omega)).trans bB
      have bA2 : Boxed wL w.heap.size 34 (.slice none 0 0) := (hbL.block _ (by omega)).trans ((hbB.block _ (by omega)).trans bA)
      have hbw : Below w.heap.size w wL := (hbA.trans (hbB.mono (by omega))).trans (hbL.mono (by omega))
      have HVL := Lib.hid (hv.below hbw)
      have hLc : L.length ≤ c := by obtain ⟨a0, c0, e0, hc, _⟩ := hv; simp at e0; obtain ⟨_, rfl⟩ := e0; exact hc
      rw [← hwA, ← hwB, ← hwL]
      clear hwA hwB hwL zA zB hbA hbB hbL bA bB
      refine range_steps rfl (by decide) (gf := 181) (lb := #[.pointer (some ⟨w.heap.size + 1, 0, none⟩), .pointer (some ⟨w.heap.size + 1 + 1, 0, none⟩)]) rfl trivial (enters_of Try.func181 (by kernel_rfl) rfl)
        (chunk_steps Fence.wide 4 trivial rfl (by decide) wL (w.heap.size + 1) (w.heap.size + 1 + 1) b o c L.length 5 (by omega) (by omega) (by omega) (by omega) (by omega) hLc bB2.cell bC.cell) KeepTwo.trans (fun W i o hi => KeepTwo.put (by omega) (by omega) W o) (fun _ => rfl)
        (MedW w.heap.size L wL) (MedW.own (by omega) (by omega))
        ⟨⟨_, bA2, ⟨by simp [ints, medsTo], .inl ⟨rfl, rfl⟩⟩, _, _, rfl⟩, Below.refl _ _⟩
        (fun x : Nat => { tmps := #[.slice (some ⟨b, o, none⟩) L.length c, undef, .int .i64 0, .pointer (some ⟨w.heap.size, 0, none⟩), chunkV b o L.length 5 x, .slice (some ⟨b, o, none⟩) L.length c, .int .i64 L.length, .bool false, undef, undef, .slice (some ⟨b, o, none⟩) L.length c, .func (.func 181) #[] #[.pointer (some ⟨w.heap.size + 1, 0, none⟩), .pointer (some ⟨w.heap.size + 1 + 1, 0, none⟩)], chunkV b o L.length 5 x, undef, undef, undef, undef, undef, undef, undef], defers := [] }) ?assign ?body ?done
      case assign =>
        intro i x W K hK
        gi_wp2
        exact hK
      case body =>
        rintro ln pre i W ⟨rfl, hi⟩ ⟨⟨v, hb, ho, av, cv, rfl⟩, hbe⟩
        rw [List.length_range] at hb ho
        have HLM := Lib.hid (fun W2 (h : Below w.heap.size w W2) => lowerMedian_any (some ⟨b, o + 5 * i, none⟩) (min 5 (L.length - 5 * i)) (grp L i) W2 (by
          have h2 := (grp_flat hv i).below h
          unfold chunkV at h2
          rw [← grp_length] at h2 ⊢
          exact h2) (okL_grp hok i) (by rw [grp_length]; omega))
        rw [grp_length] at HLM
        obtain ⟨n, hn⟩ : ∃ n, n = min 5 (L.length - 5 * i) := ⟨_, rfl⟩
        unfold chunkV
        rw [← hn] at HLM ⊢
        obtain ⟨x, hx⟩ : ∃ x, x = lmed (grp L i) := ⟨_, rfl⟩
        rw [← hx] at HLM
        have hlt := hb.lt
        have hWs : w.heap.size + 3 ≤ W.heap.size := by have := hbe.size; omega
        have HAF : Hid (∀ W2, Below W.drew.heap.size W.drew W2 → ∃ a2 c2 w2, (heldAppend #[34, 34] 34 #[.slice av i cv, .slice (some ⟨W2.heap.size, 0, none⟩) 1 1]).run Try.prog (W2.alloc (.cells #[.int .i64 x] 3)) = .ok (.slice a2 (i + 1) c2) w2 ∧ w2.ownsRow (w.heap.size + 3) 3 1 (.slice a2 (i + 1) c2) (i + 1) (ints (medsTo L (i + 1))) ∧ Below (w.heap.size + 3) W w2 ∧ (∀ k, k < W.heap.size → Value.ownBlock (.slice av i cv) ≠ some k → w2.heap[k]? = W.heap[k]?)) := Lib.hid (fun W2 h2 => by
          have ho2 : W2.ownsRow (w.heap.size + 3) 3 1 (.slice av i cv) (medsTo L i).length (ints (medsTo L i)) := by
            rw [medsTo_length]; exact own_same ho (fun k hk => h2.block k (ho.lt k hk).2)
          obtain ⟨v', w2, hrun, hown, hbel, hkeep, a', c', rfl⟩ := appendNil (w.heap.size + 3) _ (medsTo L i) x W2 ho2 (by have := h2.size; have : W.drew.heap.size = W.heap.size := rfl; omega) (by rw [medsTo_length]; omega)
          have e1 : (medsTo L i ++ [x]).length = i + 1 := by rw [List.length_append, medsTo_length]; rfl
          have e2 : medsTo L i ++ [x] = medsTo L (i + 1) := by rw [medsTo_succ, hx]
          rw [e1, e2] at hown
          rw [e1] at hrun
          refine ⟨a', c', w2, hrun, hown, ?_, fun k hk hne => (hkeep k (Nat.lt_of_lt_of_le hk h2.size) hne).trans (h2.block k hk)⟩
          exact (((Below.refl _ W).drew).trans (h2.mono (by show w.heap.size + 3 ≤ W.heap.size; omega))).trans hbel)
        have HLMd := Lib.hid (HLM.out W.drew (hbw.trans (hbe.trans ((Below.refl _ W).drew))))
        have hcS := hb.cell
        have HB := Lib.hid hb
        have HO := Lib.hid ho
        have HBE := Lib.hid hbe
        clear hb ho hbe HLM hn hx hcS
        have hcS := HB.out.cell
        gi_wp2
        have HC : Hid (CallsIn (Fence.wide.inRound ln) 2 Try.prog 152 #[.slice (some ⟨b, o + 5 * i, none⟩) n n] W.drew fun e w' => e = .returned (.int .i64 x) ∧ Below W.drew.heap.size W.drew w') := Lib.hid (CallsIn.inRound ln (callsIn_wide.2 HLMd.out))
        have HCM : Hid (∀ (R : Ending → World → Prop), (∀ W2 a2 c2 w2, (heldAppend #[34, 34] 34 #[.slice av i cv, .slice (some ⟨W2.heap.size, 0, none⟩) 1 1]).run Try.prog (W2.alloc (.cells #[.int .i64 x] 3)) = .ok (.slice a2 (i + 1) c2) w2 → W2.cell? ⟨w.heap.size, 0, none⟩ = some (.slice av i cv) → (W2.alloc (.cells #[.int .i64 x] 3)).cell? ⟨w.heap.size, 0, none⟩ = some (.slice av i cv) → w2.cell? ⟨w.heap.size, 0, none⟩ = some (.slice av i cv) → w2.frozen? ⟨w.heap.size, 0, none⟩ = false → Hid (w2.ownsRow (w.heap.size + 3) 3 1 (.slice a2 (i + 1) c2) (i + 1) (ints (medsTo L (i + 1))) ∧ Below (w.heap.size + 3) W w2 ∧ (∀ k, k < W.heap.size → Value.ownBlock (.slice av i cv) ≠ some k → w2.heap[k]? = W.heap[k]?)) → R (.returned (.int .i64 x)) W2) → CallsIn (Fence.wide.inRound ln) 2 Try.prog 152 #[.slice (some ⟨b, o + 5 * i, none⟩) n n] W.drew R) := Lib.hid (fun R hR => by
          refine HC.out.mono ?_
          rintro e W2 ⟨rfl, hb2⟩
          obtain ⟨a2, c2, w2, hrun, hown, hbel, hkeep⟩ := HAF.out W2 hb2
          have hbx : Boxed W2 w.heap.size 34 (.slice av i cv) := (hb2.block _ (show w.heap.size < W.drew.heap.size from hlt)).trans HB.out
          have hbx2 : Boxed w2 w.heap.size 34 (.slice av i cv) := (hbel.block _ (by omega)).trans HB.out
          exact hR W2 a2 c2 w2 hrun hbx.cell (hbx.alloc _).cell hbx2.cell hbx2.frozen (Lib.hid ⟨hown, hbel, hkeep⟩))
        have HPOST : ∀ (a2 : Option Addr) (c2 : Nat) (w2 : World) (a' : Act), Hid (w2.ownsRow (w.heap.size + 3) 3 1 (.slice a2 (i + 1) c2) (i + 1) (ints (medsTo L (i + 1))) ∧ Below (w.heap.size + 3) W w2 ∧ (∀ k, k < W.heap.size → Value.ownBlock (.slice av i cv) ≠ some k → w2.heap[k]? = W.heap[k]?)) → stepPost wL.heap.size (KeepTwo (w.heap.size + 1) (w.heap.size + 1 + 1)) (MedW w.heap.size L wL) (List.range i ++ [i]) W .normal a' (w2.setCell ⟨w.heap.size, 0, none⟩ (.slice a2 (i + 1) c2)) := fun a2 c2 w2 a' HN => by
          obtain ⟨hown, hbel, hkeep⟩ := HN.out
          have hset : ∀ k, k ≠ w.heap.size → (w2.setCell ⟨w.heap.size, 0, none⟩ (.slice a2 (i + 1) c2)).heap[k]? = w2.heap[k]? := fun k hk => Below.heap_setCell _ _ _ _ hk
          have hbx2 : Boxed w2 w.heap.size 34 (.slice av i cv) := (hbel.block _ (by omega)).trans HB.out
          have el : (List.range i ++ [i]).length = i + 1 := by simp
          refine ⟨⟨Nat.le_trans hbel.size (by simp), fun k o' _ hk ho' => ?_⟩, ⟨(hset _ (by omega)).trans (hbel.block _ (by omega)), (hset _ (by omega)).trans (hbel.block _ (by omega))⟩, ⟨_, hbx2.set _, ?_, _, _, by rw [el]⟩, (HBE.out.trans (hbel.mono (by omega))).setCell (p := ⟨w.heap.size, 0, none⟩) (Nat.le_refl _) _⟩
          · have h1 : k ≠ w.heap.size := fun e => by subst e; rw [show W.heap[w.heap.size]? = _ from HB.out] at hk; cases hk; cases ho'
            exact (hset k h1).trans ((hkeep k (Array.getElem?_eq_some_iff.1 hk).1 (fun e => by have := (own_cells HO.out e).2 o' hk; rw [ho'] at this; cases this)).trans hk)
          · rw [el]; exact own_same hown (fun k hk => hset k (fun e => by have := (own_cells hown hk).1; omega))
        gi_region_with (refine ⟨trivial, ?_⟩; refine HCM.out _ ?_; rintro W2 a2 c2 w2 hrun hcS2 hcA2 hcS3 hfS3 HN)
        all_goals exact (HPOST _ _ _ { tmps := #[], defers := [] } HN)
      case done =>
        rintro D ys W hD rfl ⟨⟨v, hb, ho, av, cv, rfl⟩, hbe⟩ hK
        have hg : (List.range ((L.length + 5 - 1) / 5)).length = groups L.length := by rw [List.length_range]; unfold groups; rfl
        rw [hg] at hb ho
        have hcS := hb.cell
        have hgl := groups_lt h5
        have hg0 : 0 < groups L.length := by unfold groups; omega
        have hml := medsTo_length L (groups L.length)
        obtain ⟨g, cg, hfl, hsl⟩ : ∃ g cg, FlatAt W (.slice (some ⟨g, 0, none⟩) (groups L.length) cg) (groups L.length) (ints (medsTo L (groups L.length))) ∧ (Value.slice av (groups L.length) cv) = .slice (some ⟨g, 0, none⟩) (groups L.length) cg := by
          rcases ho.2 with ⟨e, hz⟩ | ⟨g, cg, cur, e, _⟩
          · omega
          · rw [e] at ho
            obtain ⟨_, h2, h3⟩ := CellRow.of_own ho
            exact ⟨g, cg, h3.flat h2, e⟩
        simp at hsl
        obtain ⟨rfl, rfl⟩ := hsl
        have HCR := Lib.hid (callsIn_wide (n := 4).2 (HREC.out g 0 cv (medsTo L (groups L.length)) W (by rw [hml]; omega) (by rw [hml]; exact hfl) (okL_meds hok) (fun e => by rw [e, List.length_nil] at hml; omega)))
        rw [hml] at HCR
        have HD : Hid (∀ W3, Below W.heap.size W W3 → W3.heap[D]? = some (.deferred (some []))) := Lib.hid (fun W3 h => (h.block D (Array.getElem?_eq_some_iff.1 hK).1).trans hK)
        have HBE : Hid (∀ W3, Below W.heap.size W W3 → Below w.heap.size w W3) := Lib.hid (fun W3 h => (hbw.trans hbe).trans (h.mono ((hbw.trans hbe).size)))
        rw [← HF.out] at HCR
        clear hb ho hbe hK hfl hml hgl hg0 hg
        generalize groups L.length = G at *
        gi_wp2
        refine ⟨trivial, ?_⟩
        refine HCR.out.mono ?_
        rintro e W3 ⟨rfl, hb3⟩
        have HD3 := Lib.hid (HD.out W3 hb3)
        have HB3 := Lib.hid (HBE.out W3 hb3)
        clear hb3 HD HBE HCR
        gi_wp2
        exact mom_leave HD3.out (by omega) HB3.out rfl
    · have HF := Lib.hid (momF_small h5)
      have HLM := Lib.hid (lowerMedian_any (some ⟨b, o, none⟩) c L w hv hok hL0)
      have h5z : (L.length : Int) ≤ 5 := by omega
      have h5d : decide ((L.length : Int) ≤ 5) = true := decide_eq_true h5z
      clear ih hv hok h0 hL0 h64
      go_enter Try.func111, Try.ntmps111
      go_wp2_with fail
      refine HLM.out.mono ?_
      rintro e w1 ⟨rfl, hb1⟩
      have HB1 := Lib.hid hb1
      clear hb1 HLM
      go_wp2_with fail
      go_ret
      exact ⟨by rw [HF.out]; rfl, HB1.out⟩

end Go.Proofs.Ytagibgphegoagaa
