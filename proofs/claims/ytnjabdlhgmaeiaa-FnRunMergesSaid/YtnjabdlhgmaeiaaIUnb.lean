/- The program's run stack: whether a merge is needed, by its contract. -/
import Derived.Test.YtnjabdlhgmaeiaaIStk
namespace Go.Proofs.Ytnjabdlhgmaeiaa
open Go.RowKit P Sk
set_option linter.unusedVariables false

set_option maxRecDepth 100000 in
set_option maxHeartbeats 16000000 in
theorem isUnbalanced_any (base s : Nat) (vc vm : Value) (S O : List Int) (M : Nat) (TB : Int) (w0 w : World) (h : StkW base s vc vm S O M TB w0 w) (hS : S.length ≤ 100) (hS1 : 1 ≤ S.length) :
    Calls Try.prog 89 #[.pointer (some ⟨s, 0, none⟩)] w fun e w' => e = .returned (.bool (decide (need S false))) ∧ StkW base s vc vm S O M TB w0 w' := by
  have H := Lib.hid h
  obtain ⟨g, c, rfl⟩ : ∃ g c, vc = .slice (some ⟨g, 0, none⟩) S.length c := by
    rcases h.sH.2 with ⟨e, h0⟩ | ⟨g, c, _, e, _⟩
    · omega
    · exact ⟨_, c, e⟩
  obtain ⟨c0, _⟩ := h.c0
  obtain ⟨_, hcap, _⟩ := h.sH.row
  have HKK : Hid (∀ k, 1 ≤ k → k ≤ S.length → ∀ W, StkW base s (.slice (some ⟨g, 0, none⟩) S.length c) vm S O M TB w0 W → W.cell? ⟨g, S.length - k, none⟩ = some (.int .i64 (tp S k))) := Lib.hid (fun k h1 h2 W h => (h.sH.row.2.2.2 _ _ (ints_at (at_getD (l := S) (k := S.length - k) (by omega)))).1)
  have HBK : Hid (∀ k, 1 ≤ k → k ≤ S.length → 1 ≤ tp S k ∧ tp S k ≤ 4000000) := Lib.hid (fun k h1 h2 => h.pos.at (by omega))
  have HC0 : Hid (∀ W, StkW base s (.slice (some ⟨g, 0, none⟩) S.length c) vm S O M TB w0 W → W.cell? ⟨s, 0, none⟩ = some (.slice (some ⟨g, 0, none⟩) S.length c)) := Lib.hid (fun W h => h.c0.1)
  clear h
  obtain ⟨x, hx⟩ : ∃ x, x = tp S 1 := ⟨_, rfl⟩
  obtain ⟨n1, hn1⟩ : ∃ k, k = S.length - 1 := ⟨_, rfl⟩
  have HK1 := Lib.hid (HKK.out 1 (by omega) (by omega))
  obtain ⟨bx0, bx1⟩ := HBK.out 1 (by omega) (by omega)
  rw [← hx, ← hn1] at HK1
  rw [← hx] at bx0 bx1
  have hz1 : (S.length : Int) - 1 = (n1 : Int) := by omega
  have hl1 : n1 < S.length := by omega
  have hl1z : (n1 : Int) < (S.length : Int) := by omega
  have HX : Hid True := Lib.hid trivial
  by_cases h2 : 2 ≤ S.length
  · obtain ⟨y, hy⟩ : ∃ y, y = tp S 2 := ⟨_, rfl⟩
    obtain ⟨n2, hn2⟩ : ∃ k, k = S.length - 2 := ⟨_, rfl⟩
    have HK2 := Lib.hid (HKK.out 2 (by omega) (by omega))
    obtain ⟨by0, by1⟩ := HBK.out 2 (by omega) (by omega)
    rw [← hy, ← hn2] at HK2
    rw [← hy] at by0 by1
    have hz2 : (n1 : Int) - 1 = (n2 : Int) := by omega
    have hl2 : n2 < S.length := by omega
    have hl2z : (n2 : Int) < (S.length : Int) := by omega
    have ht1 : decide ((1 : Int) ≤ (n1 : Int)) = true := decide_eq_true (by omega)
    have ht1z : (1 : Int) ≤ (n1 : Int) := by omega
    by_cases h3 : 3 ≤ S.length
    · obtain ⟨z, hz⟩ : ∃ z, z = tp S 3 := ⟨_, rfl⟩
      obtain ⟨n3, hn3⟩ : ∃ k, k = S.length - 3 := ⟨_, rfl⟩
      have HK3 := Lib.hid (HKK.out 3 (by omega) (by omega))
      obtain ⟨bz0, bz1⟩ := HBK.out 3 (by omega) (by omega)
      rw [← hz, ← hn3] at HK3
      rw [← hz] at bz0 bz1
      have hz3 : (n1 : Int) - 2 = (n3 : Int) := by omega
      have hl3 : n3 < S.length := by omega
      have hl3z : (n3 : Int) < (S.length : Int) := by omega
      have ht2 : decide ((2 : Int) ≤ (n1 : Int)) = true := decide_eq_true (by omega)
      have ht2z : (2 : Int) ≤ (n1 : Int) := by omega
      by_cases hc1 : z ≤ y + x
      · have hd1 : decide (z ≤ y + x) = true := decide_eq_true hc1
        have HF : Hid (decide (need S false) = true) := Lib.hid (decide_eq_true (by unfold need; rw [if_neg (by simp)]; left; rw [← hx, ← hy, ← hz]; exact ⟨h3, hc1⟩))
        clear hx hy hz hn3 hn1 hn2 HX
        go_enter Try.func89, Try.ntmps89
        go_wp2_with fail
        go_quiet (fail)
        have H := Lib.hid (H.out.drewN nq)
        generalize w.drewN nq = w at *
        have q1 := HK1.out w H.out
        have q2 := HK2.out w H.out
        have q3 := HK3.out w H.out
        go_wp2_with fail
        go_quiet (fail)
        have H := Lib.hid (H.out.drewN nq)
        generalize w.drewN nq = w at *
        go_wp2_with fail
        go_ret
        exact ⟨by rw [HF.out]; rfl, H.out⟩
      · have hd1 : decide (z ≤ y + x) = false := decide_eq_false hc1
        by_cases h4 : 4 ≤ S.length
        · obtain ⟨v, hv⟩ : ∃ v, v = tp S 4 := ⟨_, rfl⟩
          obtain ⟨n4, hn4⟩ : ∃ k, k = S.length - 4 := ⟨_, rfl⟩
          have HK4 := Lib.hid (HKK.out 4 (by omega) (by omega))
          obtain ⟨bv0, bv1⟩ := HBK.out 4 (by omega) (by omega)
          rw [← hv, ← hn4] at HK4
          rw [← hv] at bv0 bv1
          have hz4 : (n1 : Int) - 3 = (n4 : Int) := by omega
          have hl4 : n4 < S.length := by omega
          have hl4z : (n4 : Int) < (S.length : Int) := by omega
          have ht3 : decide ((3 : Int) ≤ (n1 : Int)) = true := decide_eq_true (by omega)
          have ht3z : (3 : Int) ≤ (n1 : Int) := by omega
          by_cases hc2 : v ≤ z + y
          · have hd2 : decide (v ≤ z + y) = true := decide_eq_true hc2
            have HF : Hid (decide (need S false) = true) := Lib.hid (decide_eq_true (by unfold need; rw [if_neg (by simp)]; right; left; rw [← hy, ← hz, ← hv]; exact ⟨h4, hc2⟩))
            clear hx hy hz hn3 hv hn4 hn1 hn2 HX
            go_enter Try.func89, Try.ntmps89
            go_wp2_with fail
            go_quiet (fail)
            have H := Lib.hid (H.out.drewN nq)
            generalize w.drewN nq = w at *
            have q1 := HK1.out w H.out
            have q2 := HK2.out w H.out
            have q3 := HK3.out w H.out
            have q4 := HK4.out w H.out
            go_wp2_with fail
            go_quiet (fail)
            have H := Lib.hid (H.out.drewN nq)
            generalize w.drewN nq = w at *
            go_wp2_with fail
            go_ret
            exact ⟨by rw [HF.out]; rfl, H.out⟩
          · have hd2 : decide (v ≤ z + y) = false := decide_eq_false hc2
            have HF : Hid (decide (need S false) = decide (y ≤ x)) := Lib.hid (by
              have e : need S false ↔ y ≤ x := by
                unfold need; rw [if_neg (by simp)]; unfold unb; rw [← hx, ← hy, ← hz, ← hv]
                constructor
                · rintro (h | h | h) <;> omega
                · intro h; right; right; exact ⟨h2, h⟩
              simp only [e])
            clear hx hy hz hn3 hv hn4 hn1 hn2 HX
            go_enter Try.func89, Try.ntmps89
            go_wp2_with fail
            go_quiet (fail)
            have H := Lib.hid (H.out.drewN nq)
            generalize w.drewN nq = w at *
            have q1 := HK1.out w H.out
            have q2 := HK2.out w H.out
            have q3 := HK3.out w H.out
            have q4 := HK4.out w H.out
            go_wp2_with fail
            go_quiet (fail)
            have H := Lib.hid (H.out.drewN nq)
            generalize w.drewN nq = w at *
            go_wp2_with fail
            go_ret
            exact ⟨by rw [HF.out]; rfl, H.out⟩
        · have ht3 : decide ((3 : Int) ≤ (n1 : Int)) = false := decide_eq_false (by omega)
          have ht3z : ¬ (3 : Int) ≤ (n1 : Int) := by omega
          have HF : Hid (decide (need S false) = decide (y ≤ x)) := Lib.hid (by
            have e : need S false ↔ y ≤ x := by
              unfold need; rw [if_neg (by simp)]; unfold unb; rw [← hx, ← hy, ← hz]
              constructor
              · rintro (h | h | h) <;> omega
              · intro h; right; right; exact ⟨h2, h⟩
            simp only [e])
          clear hx hy hz hn3 hn1 hn2 HX
          go_enter Try.func89, Try.ntmps89
          go_wp2_with fail
          go_quiet (fail)
          have H := Lib.hid (H.out.drewN nq)
          generalize w.drewN nq = w at *
          have q1 := HK1.out w H.out
          have q2 := HK2.out w H.out
          have q3 := HK3.out w H.out
          go_wp2_with fail
          go_quiet (fail)
          have H := Lib.hid (H.out.drewN nq)
          generalize w.drewN nq = w at *
          go_wp2_with fail
          go_ret
          exact ⟨by rw [HF.out]; rfl, H.out⟩
    · have ht2 : decide ((2 : Int) ≤ (n1 : Int)) = false := decide_eq_false (by omega)
      have ht2z : ¬ (2 : Int) ≤ (n1 : Int) := by omega
      have ht3 : decide ((3 : Int) ≤ (n1 : Int)) = false := decide_eq_false (by omega)
      have ht3z : ¬ (3 : Int) ≤ (n1 : Int) := by omega
      have HF : Hid (decide (need S false) = decide (y ≤ x)) := Lib.hid (by
        have e : need S false ↔ y ≤ x := by
          unfold need; rw [if_neg (by simp)]; unfold unb; rw [← hx, ← hy]
          constructor
          · rintro (h | h | h) <;> omega
          · intro h; right; right; exact ⟨h2, h⟩
        simp only [e])
      clear hx hy hn1 hn2 HX
      go_enter Try.func89, Try.ntmps89
      go_wp2_with fail
      go_quiet (fail)
      have H := Lib.hid (H.out.drewN nq)
      generalize w.drewN nq = w at *
      have q1 := HK1.out w H.out
      have q2 := HK2.out w H.out
      go_wp2_with fail
      go_quiet (fail)
      have H := Lib.hid (H.out.drewN nq)
      generalize w.drewN nq = w at *
      go_wp2_with fail
      go_ret
      exact ⟨by rw [HF.out]; rfl, H.out⟩
  · have ht1 : decide ((1 : Int) ≤ (n1 : Int)) = false := decide_eq_false (by omega)
    have ht1z : ¬ (1 : Int) ≤ (n1 : Int) := by omega
    have ht2 : decide ((2 : Int) ≤ (n1 : Int)) = false := decide_eq_false (by omega)
    have ht2z : ¬ (2 : Int) ≤ (n1 : Int) := by omega
    have ht3 : decide ((3 : Int) ≤ (n1 : Int)) = false := decide_eq_false (by omega)
    have ht3z : ¬ (3 : Int) ≤ (n1 : Int) := by omega
    have HF : Hid (decide (need S false) = false) := Lib.hid (decide_eq_false (fun h => h2 (need_two h)))
    clear hx hn1 HX
    go_enter Try.func89, Try.ntmps89
    go_wp2_with fail
    go_quiet (fail)
    have H := Lib.hid (H.out.drewN nq)
    generalize w.drewN nq = w at *
    have q1 := HK1.out w H.out
    go_wp2_with fail
    go_quiet (fail)
    have H := Lib.hid (H.out.drewN nq)
    generalize w.drewN nq = w at *
    go_wp2_with fail
    go_ret
    exact ⟨by rw [HF.out]; rfl, H.out⟩

end Go.Proofs.Ytnjabdlhgmaeiaa
