/- The program's run stack: the merge near the top, by its contract. -/
import Derived.Test.YtnjabdlhgmaeiaaIStk
namespace Go.Proofs.Ytnjabdlhgmaeiaa
open Go.RowKit P Sk
set_option linter.unusedVariables false
attribute [local go_sem ↓ high] builtin_append_held

theorem OwnN.set {base g c k : Nat} {w : World} {L : List Int} (h : OwnN base w (.slice (some ⟨g, 0, none⟩) L.length c) L) (hk : k < L.length) (x : Int) : OwnN base (w.setCell ⟨g, k, none⟩ (.int .i64 x)) (.slice (some ⟨g, 0, none⟩) (L.set k x).length c) (L.set k x) := by
  obtain ⟨cur, _, h1, h2, h3, h4, h5, h6⟩ := OwnN.parts h
  have e : (w.setCell ⟨g, k, none⟩ (.int .i64 x)).heap[g]? = some (.cells (cur.setIfInBounds k (.int .i64 x)) 3 (0, 0)) := by simp [World.setCell, Array.getElem?_modify, h2]
  refine ⟨by rw [ints_length, Nat.mul_one], .inr ⟨g, c, _, rfl, h1, e, by rw [List.length_set]; exact h3, h4, by simpa using h5, ?_⟩⟩
  rw [Array.toList_setIfInBounds, List.length_set, Nat.mul_one, List.take_set]
  rw [Nat.mul_one] at h6
  rw [h6, ints_set]

theorem mrg_del {S : List Int} {k : Nat} (hk : k + 1 < S.length) : (S.set k (S.getD k 0 + S.getD (k + 1) 0)).take (k + 1) ++ (S.set k (S.getD k 0 + S.getD (k + 1) 0)).drop (k + 2) = mrg S k := by
  unfold mrg
  have h1 : (S.set k (S.getD k 0 + S.getD (k + 1) 0)).take (k + 1) = S.take k ++ [S.getD k 0 + S.getD (k + 1) 0] := by
    rw [List.take_set, List.take_add_one, at_getD (by omega)]
    have hl : (S.take k).length = k := by rw [List.length_take]; omega
    rw [List.set_append_right _ _ (by omega), hl, Nat.sub_self]; rfl
  have h2 : (S.set k (S.getD k 0 + S.getD (k + 1) 0)).drop (k + 2) = S.drop (k + 2) := by rw [List.drop_set_of_lt (by omega)]
  rw [h1, h2]; simp

/-- The world behind the sum, the deletion and the two stores. -/
theorem mnt_world (base s g c : Nat) (vm : Value) (S O : List Int) (k M : Nat) (TB : Int) (w0 W : World) (h : StkW base s (.slice (some ⟨g, 0, none⟩) S.length c) vm S O M TB w0 W) (hk : k + 1 < S.length) (hO : O.length ≤ 100) (hb : base ≤ w0.heap.size) :
    Calls Try.prog 140 #[.slice (some ⟨g, 0, none⟩) S.length c, .int .i64 ((k + 1 : Nat) : Int), .int .i64 ((k + 2 : Nat) : Int)] (W.drew.setCell ⟨g, k, none⟩ (.int .i64 (S.getD k 0 + S.getD (k + 1) 0))) fun e w5 => e = .returned (.slice (some ⟨g, 0, none⟩) (S.length - 1) c) ∧
      (∃ u, w5.cell? ⟨s, 0, none⟩ = some u) ∧ w5.frozen? ⟨s, 0, none⟩ = false ∧ (w5.setCell ⟨s, 0, none⟩ (.slice (some ⟨g, 0, none⟩) (S.length - 1) c)).cell? ⟨s, 1, none⟩ = some vm ∧
      ∃ g' c' w7, (heldAppend #[26, 26] 26 #[vm, .slice (some ⟨w5.heap.size, 0, none⟩) 1 1]).run Try.prog ((w5.setCell ⟨s, 0, none⟩ (.slice (some ⟨g, 0, none⟩) (S.length - 1) c)).alloc (.cells #[.int .i64 (k : Int)] 3)) = .ok (.slice (some ⟨g', 0, none⟩) (O.length + 1) c') w7 ∧
        (∃ u, w7.cell? ⟨s, 1, none⟩ = some u) ∧ w7.frozen? ⟨s, 1, none⟩ = false ∧ StkW base s (.slice (some ⟨g, 0, none⟩) (S.length - 1) c) (.slice (some ⟨g', 0, none⟩) (O.length + 1) c') (mrg S k) (O ++ [(k : Int)]) M TB w0 (w7.setCell ⟨s, 1, none⟩ (.slice (some ⟨g', 0, none⟩) (O.length + 1) c')) := by
  obtain ⟨hgs, hgm⟩ := h.cc g rfl
  have h1 : StkW base s (.slice (some ⟨g, 0, none⟩) S.length c) vm S O M TB w0 W.drew := h.drewN 1
  obtain ⟨W1, hW1⟩ : ∃ W1, W1 = W.drew := ⟨_, rfl⟩
  rw [← hW1] at h1 ⊢
  have hown4 : OwnN base (W1.setCell ⟨g, k, none⟩ (.int .i64 (S.getD k 0 + S.getD (k + 1) 0))) _ _ := OwnN.set h1.sH (k := k) (by omega) (S.getD k 0 + S.getD (k + 1) 0)
  have hD := del_any base g c (S.set k (S.getD k 0 + S.getD (k + 1) 0)) k _ hown4 (by rw [List.length_set]; exact hk)
  rw [mrg_del hk, List.length_set] at hD
  have hml : (mrg S k).length = S.length - 1 := mrg_length hk
  rw [hml] at hD
  have hb4 : Below base w0 (W1.setCell ⟨g, k, none⟩ (.int .i64 (S.getD k 0 + S.getD (k + 1) 0))) := h1.b.setCell (p := ⟨g, k, none⟩) h1.sH.row.1 _
  have hst4 : CellRow (W1.setCell ⟨g, k, none⟩ (.int .i64 (S.getD k 0 + S.getD (k + 1) 0))) s _ := h1.st.same (Below.heap_setCell _ ⟨g, k, none⟩ _ _ (fun e => hgs e.symm)) (by simp)
  have hO4 : OwnN base (W1.setCell ⟨g, k, none⟩ (.int .i64 (S.getD k 0 + S.getD (k + 1) 0))) vm O := h1.oH.keep (fun q hq => Below.heap_setCell _ ⟨g, k, none⟩ _ _ (fun e => hgm (by rw [hq, e])))
  refine hD.mono ?_
  rintro e w5 ⟨rfl, hs5, hbut⟩
  have hst5 := hst4.but hbut (by omega)
  have hlt4 : ∀ q, vm.ownBlock = some q → q < (W1.setCell ⟨g, k, none⟩ (.int .i64 (S.getD k 0 + S.getD (k + 1) 0))).heap.size := fun q hq => (hO4.lt q hq).2
  have hO5 : OwnN base w5 vm O := hO4.keep (fun q hq => hbut.block q (hlt4 q hq) (fun e => hgm (by rw [hq, e])))
  have hb5 : Below base w0 w5 := hb4.trans (hbut.below h1.sH.row.1 (Nat.le_trans hb hb4.size))
  have hst6 := hst5.set 0 (.slice (some ⟨g, 0, none⟩) (S.length - 1) c) (by simp)
  have hO6 : OwnN base (w5.setCell ⟨s, 0, none⟩ (.slice (some ⟨g, 0, none⟩) (S.length - 1) c)) vm O := hO5.keep (fun q hq => Below.heap_setCell _ ⟨s, 0, none⟩ _ _ (h1.co q hq))
  have hs6 : OwnN base (w5.setCell ⟨s, 0, none⟩ (.slice (some ⟨g, 0, none⟩) (S.length - 1) c)) (.slice (some ⟨g, 0, none⟩) (S.length - 1) c) (mrg S k) := hs5.keep (fun q hq => Below.heap_setCell _ ⟨s, 0, none⟩ _ _ (by simp [Value.ownBlock] at hq; subst hq; exact hgs))
  have hb6 : Below base w0 (w5.setCell ⟨s, 0, none⟩ (.slice (some ⟨g, 0, none⟩) (S.length - 1) c)) := hb5.setCell (p := ⟨s, 0, none⟩) h1.bs _
  obtain ⟨g', c', w7, hrun, ho7, hb7, hfr, hg7⟩ := appendN base vm O (k : Int) _ hO6 (Nat.le_trans hb hb6.size) (by omega)
  have hsz6 : (w5.setCell ⟨s, 0, none⟩ (.slice (some ⟨g, 0, none⟩) (S.length - 1) c)).heap.size = w5.heap.size := by simp
  rw [hsz6] at hrun hfr hg7
  have hss := hst5.1
  have hg'g : g' ≠ g := by
    rcases hg7 with e | e
    · intro e2; exact hgm (by rw [e, e2])
    · have := (hs5.lt g rfl).2; omega
  have hg's : g' ≠ s := by
    rcases hg7 with e | e
    · exact h1.co g' e
    · omega
  have hst7 : CellRow w7 s _ := hst6.same (hfr s hss (fun e => h1.co s e rfl)) hb7.size
  have hs7 : OwnN base w7 _ (mrg S k) := hs6.keep (fun q hq => hfr q (by simp [Value.ownBlock] at hq; have := (hs5.lt g rfl).2; omega) (fun e => by simp [Value.ownBlock] at hq; exact hgm (by rw [e, hq])))
  refine ⟨rfl, ⟨_, (hst5.2 0 _ rfl).1⟩, (hst5.2 0 _ rfl).2, (hst6.2 1 _ rfl).1, g', c', w7, hrun, ⟨_, (hst7.2 1 _ rfl).1⟩, (hst7.2 1 _ rfl).2, ⟨hst7.set 1 _ (by simp), ?_, ?_, ?_, ?_, h1.bs, h1.pos.mrg hk, by rw [tot_mrg hk]; exact h1.tb, (hb6.trans hb7).setCell (p := ⟨s, 1, none⟩) h1.bs _⟩⟩
  · exact hs7.keep (fun q hq => Below.heap_setCell _ ⟨s, 1, none⟩ _ _ (by simp [Value.ownBlock] at hq; subst hq; first | exact hgs | exact hg's))
  · have e : (O ++ [(k : Int)]).length = O.length + 1 := by simp
    rw [e] at ho7
    exact ho7.keep (fun q hq => Below.heap_setCell _ ⟨s, 1, none⟩ _ _ (by simp [Value.ownBlock] at hq; subst hq; first | exact hgs | exact hg's))
  · intro q hq
    simp [Value.ownBlock] at hq
    subst hq
    exact ⟨hgs, by simpa [Value.ownBlock] using hg'g⟩
  · intro q hq
    simp [Value.ownBlock] at hq
    omega

set_option maxRecDepth 100000 in
set_option maxHeartbeats 8000000 in
theorem mergeNearTop_any (base s : Nat) (vc vm : Value) (S O : List Int) (M : Nat) (TB : Int) (w0 w : World) (h : StkW base s vc vm S O M TB w0 w) (hS : S.length ≤ 100) (hO : O.length ≤ 100) (hS2 : 2 ≤ S.length) (hb : base ≤ w0.heap.size) :
    Calls Try.prog 125 #[.pointer (some ⟨s, 0, none⟩)] w (StkC base s (mrg S (low S)) (O ++ [(low S : Int)]) M TB w0) := by
  have H := Lib.hid h
  obtain ⟨g, c, rfl⟩ : ∃ g c, vc = .slice (some ⟨g, 0, none⟩) S.length c := by
    rcases h.sH.2 with ⟨e, h0⟩ | ⟨g, c, _, e, _⟩
    · omega
    · exact ⟨_, c, e⟩
  obtain ⟨c0, c1, c2, f0, f1, f2⟩ := h.c0
  obtain ⟨hgb, hcap, hrow⟩ := h.sH.row
  obtain ⟨k, hk⟩ : ∃ k, k = low S := ⟨_, rfl⟩
  have hkl := low_lt hS2
  rw [← hk] at hkl ⊢
  obtain ⟨n2, hn2⟩ : ∃ n2, n2 = S.length - 2 := ⟨_, rfl⟩
  have hz2 : (S.length : Int) - 2 = (n2 : Int) := by omega
  obtain ⟨hgs, hgm⟩ := h.cc g rfl
  have HC : Hid (∀ j, j < S.length → ∀ W, StkW base s (.slice (some ⟨g, 0, none⟩) S.length c) vm S O M TB w0 W → W.cell? ⟨g, j, none⟩ = some (.int .i64 (S.getD j 0))) := Lib.hid (fun j hj W h => (h.sH.row.2.2.2 _ _ (ints_at (at_getD hj))).1)
  have HFZ : Hid (∀ j, j < S.length → ∀ W, StkW base s (.slice (some ⟨g, 0, none⟩) S.length c) vm S O M TB w0 W → W.frozen? ⟨g, j, none⟩ = false) := Lib.hid (fun j hj W h => (h.sH.row.2.2.2 _ _ (ints_at (at_getD hj))).2)
  have HPO := Lib.hid h.pos
  clear h
  obtain ⟨k1, hk1⟩ : ∃ k1, k1 = k + 1 := ⟨_, rfl⟩
  obtain ⟨k2, hk2⟩ : ∃ k2, k2 = k + 2 := ⟨_, rfl⟩
  have hk1z : (k : Int) + 1 = (k1 : Int) := by omega
  have hk2z : (k : Int) + 2 = (k2 : Int) := by omega
  obtain ⟨a, hka⟩ : ∃ a, a = S.getD k 0 := ⟨_, rfl⟩
  obtain ⟨b2, hkb⟩ : ∃ b, b = S.getD k1 0 := ⟨_, rfl⟩
  obtain ⟨ab0, ab1⟩ := HPO.out.at (k := k) (by omega)
  obtain ⟨bb0, bb1⟩ := HPO.out.at (k := k1) (by omega)
  rw [← hka] at ab0 ab1
  rw [← hkb] at bb0 bb1
  have hkS : k < S.length := by omega
  have hkz : (k : Int) < (S.length : Int) := by omega
  have hk1S : k1 < S.length := by omega
  have hk1Sz : (k1 : Int) < (S.length : Int) := by omega
  have hk100 : k ≤ 100 := by omega
  have HK1 := Lib.hid hk1
  have HK2 := Lib.hid hk2
  have HKA := Lib.hid hka
  have HKB := Lib.hid hkb
  clear hk1 hk2 hka hkb
  by_cases h3 : 3 ≤ S.length
  · obtain ⟨n3, hn3⟩ : ∃ n3, n3 = S.length - 3 := ⟨_, rfl⟩
    obtain ⟨n1, hn1⟩ : ∃ n1, n1 = S.length - 1 := ⟨_, rfl⟩
    have hz3 : (n2 : Int) - 1 = (n3 : Int) := by omega
    have hz1 : (n2 : Int) + 1 = (n1 : Int) := by omega
    have hp0 : decide (0 < n2) = true := decide_eq_true (by omega)
    have hp0z : 0 < n2 := by omega
    obtain ⟨z, hz⟩ : ∃ z, z = S.getD n3 0 := ⟨_, rfl⟩
    obtain ⟨x, hx⟩ : ∃ x, x = S.getD n1 0 := ⟨_, rfl⟩
    have hcz := HC.out n3 (by omega) w H.out
    have hcx := HC.out n1 (by omega) w H.out
    rw [← hz] at hcz
    rw [← hx] at hcx
    have hl3 : n3 < S.length := by omega
    have hl3z : (n3 : Int) < (S.length : Int) := by omega
    have hl1 : n1 < S.length := by omega
    have hl1z : (n1 : Int) < (S.length : Int) := by omega
    have hn2100 : n2 ≤ 100 := by omega
    by_cases hzx : z < x
    · have hd : decide (z < x) = true := decide_eq_true hzx
      have hkn : k = n3 := by rw [hk]; unfold low tp; rw [← hn3, ← hn1, if_pos ⟨h3, by rw [← hz, ← hx]; exact hzx⟩]
      subst hkn
      clear hz hx hn1 hn3 hn2 hk
      go_enter Try.func125, Try.ntmps125
      go_wp2_with fail
      go_quiet (fail)
      have H := Lib.hid (H.out.drewN nq)
      generalize w.drewN nq = w at *
      clear c0 c1 c2 f0 f1 f2
      clear hcz hcx
      have hca := HC.out k (by omega) w H.out
      have hcb := HC.out k1 (by omega) w H.out
      have hfa := HFZ.out k (by omega) w H.out
      obtain ⟨d0, d1, d2, e0, e1, e2⟩ := H.out.c0
      have HMW := Lib.hid (mnt_world base s g c vm S O k M TB w0 w H.out hkl hO hb)
      rw [← HK1.out, ← HK2.out, ← HKA.out, ← HKB.out] at HMW
      rw [← HKA.out] at hca
      rw [← HKB.out] at hcb
      clear HC HFZ
      go_wp2_with fail
      go_region
      all_goals (
        go_wp2_with fail
        refine (HMW.out).mono ?_
        rintro e w5 ⟨rfl, ⟨u, hu⟩, hf5, hv5, g', c', w7, hrun, ⟨u7, hc7⟩, hf7, hres⟩
        have HRES := Lib.hid hres
        clear hres HMW hca hcb hfa d0 d1 d2 e0 e1 e2
        go_wp2_with fail
        go_end0
        exact ⟨_, _, rfl, HRES.out⟩)
    · have hd : decide (z < x) = false := decide_eq_false hzx
      have hkn : k = n2 := by rw [hk]; unfold low tp; rw [← hn3, ← hn1, ← hn2, if_neg (fun h => by rw [← hz, ← hx] at h; exact hzx h.2)]
      have hn1k : k1 = n1 := by have := HK1.out; omega
      subst hn1k
      subst hkn
      clear hz1
      clear hz hx hn1 hn3 hn2 hk
      go_enter Try.func125, Try.ntmps125
      go_wp2_with fail
      go_quiet (fail)
      have H := Lib.hid (H.out.drewN nq)
      generalize w.drewN nq = w at *
      clear c0 c1 c2 f0 f1 f2
      clear hcz hcx
      have hca := HC.out k (by omega) w H.out
      have hcb := HC.out k1 (by omega) w H.out
      have hfa := HFZ.out k (by omega) w H.out
      obtain ⟨d0, d1, d2, e0, e1, e2⟩ := H.out.c0
      have HMW := Lib.hid (mnt_world base s g c vm S O k M TB w0 w H.out hkl hO hb)
      rw [← HK1.out, ← HK2.out, ← HKA.out, ← HKB.out] at HMW
      rw [← HKA.out] at hca
      rw [← HKB.out] at hcb
      clear HC HFZ
      go_wp2_with fail
      go_region
      all_goals (
        go_wp2_with fail
        refine (HMW.out).mono ?_
        rintro e w5 ⟨rfl, ⟨u, hu⟩, hf5, hv5, g', c', w7, hrun, ⟨u7, hc7⟩, hf7, hres⟩
        have HRES := Lib.hid hres
        clear hres HMW hca hcb hfa d0 d1 d2 e0 e1 e2
        go_wp2_with fail
        go_end0
        exact ⟨_, _, rfl, HRES.out⟩)
  · have hkn : k = 0 := by rw [hk]; unfold low; rw [if_neg (fun h => h3 h.1)]; omega
    have hn20 : n2 = 0 := by omega
    subst hn20
    have hp0 : decide ((0 : Int) < 0) = false := by decide
    clear hn2 hk
    have HKN := Lib.hid hkn
    clear hkn
    have hk0z : (0 : Int) = (k : Int) := by have := HKN.out; omega
    go_enter Try.func125, Try.ntmps125
    go_wp2_with fail
    go_quiet (fail)
    have H := Lib.hid (H.out.drewN nq)
    generalize w.drewN nq = w at *
    clear c0 c1 c2 f0 f1 f2
    have hca := HC.out k (by omega) w H.out
    have hcb := HC.out k1 (by omega) w H.out
    have hfa := HFZ.out k (by omega) w H.out
    obtain ⟨d0, d1, d2, e0, e1, e2⟩ := H.out.c0
    have HMW := Lib.hid (mnt_world base s g c vm S O k M TB w0 w H.out hkl hO hb)
    rw [← HK1.out, ← HK2.out, ← HKA.out, ← HKB.out] at HMW
    rw [← HKA.out] at hca
    rw [← HKB.out] at hcb
    clear HC HFZ
    go_wp2_with fail
    go_region
    all_goals (
      go_wp2_with fail
      refine (HMW.out).mono ?_
      rintro e w5 ⟨rfl, ⟨u, hu⟩, hf5, hv5, g', c', w7, hrun, ⟨u7, hc7⟩, hf7, hres⟩
      have HRES := Lib.hid hres
      clear hres HMW hca hcb hfa d0 d1 d2 e0 e1 e2
      go_wp2_with fail
      go_end0
      exact ⟨_, _, rfl, HRES.out⟩)

end Go.Proofs.Ytnjabdlhgmaeiaa
