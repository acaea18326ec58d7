/- The model's next merge, by its contract. -/
import Derived.Test.YtnjabdlhgmaeiaaStkP
import Derived.Test.YtnjabdlhgmaeiaaRetI
import Derived.Test.YtnjabdlhgmaeiaaPerm
import Derived.BigRegion
import Derived.BigQuiet
import Derived.Deep.QuietTactic
import Derived.Laws.BitsLemmas
namespace Go.Proofs.Ytnjabdlhgmaeiaa
open Go.RowKit P Sk
set_option linter.unusedVariables false

/-- The index of the next merge, or -1. -/
def nxI (s : List Int) (fin : Bool) : Int := if need s fin then (low s : Int) else -1
theorem nxI_yes {s : List Int} {fin : Bool} (h : need s fin) : nxI s fin = (low s : Int) := if_pos h
theorem nxI_no {s : List Int} {fin : Bool} (h : ¬ need s fin) : nxI s fin = -1 := if_neg h
theorem low3 {s : List Int} (h : 3 ≤ s.length) (h2 : tp s 3 < tp s 1) : low s = s.length - 3 := if_pos ⟨h, h2⟩
theorem low2 {s : List Int} (h : ¬ (3 ≤ s.length ∧ tp s 3 < tp s 1)) : low s = s.length - 2 := if_neg h

set_option maxRecDepth 100000 in
set_option maxHeartbeats 16000000 in
theorem l5Next_any (g c : Nat) (s : List Int) (fin : Bool) (w0 : World) (hr : CellRow w0 g (ints s)) (hp : Pos 4000000 s) (hn : s.length ≤ 50) :
    Calls Try.prog 96 #[.slice (some ⟨g, 0, none⟩) s.length c, .bool fin] w0 fun e w' => e = .returned (.int .i64 (nxI s fin)) ∧ Below w0.heap.size w0 w' := by
  have HP := Lib.hid hp
  have HKK : Hid (∀ k, 1 ≤ k → k ≤ s.length → ∀ W, CellRow W g (ints s) → W.cell? ⟨g, s.length - k, none⟩ = some (.int .i64 (tp s k))) := Lib.hid (fun k h1 h2 W h => (h.2 _ _ (ints_at (at_getD (l := s) (k := s.length - k) (by omega)))).1)
  have HBK : Hid (∀ k, 1 ≤ k → k ≤ s.length → 1 ≤ tp s k ∧ tp s k ≤ 4000000) := Lib.hid (fun k h1 h2 => hp.at (by omega))
  have HR := Lib.hid hr
  have HB : Hid (Below w0.heap.size w0 w0) := Lib.hid (Below.refl _ _)
  clear hr hp
  obtain ⟨w, hw⟩ : ∃ w, w = w0 := ⟨_, rfl⟩
  rw [← hw] at HR
  have HB : Hid (Below w0.heap.size w0 w) := Lib.hid (by rw [hw]; exact HB.out)
  rw [show Calls Try.prog 96 #[.slice (some ⟨g, 0, none⟩) s.length c, .bool fin] w0 = Calls Try.prog 96 #[.slice (some ⟨g, 0, none⟩) s.length c, .bool fin] w by rw [hw]]
  clear hw
  obtain ⟨n, hsn⟩ : ∃ n, n = s.length := ⟨_, rfl⟩
  by_cases h2 : 2 ≤ s.length
  · obtain ⟨x, hx⟩ : ∃ x, x = tp s 1 := ⟨_, rfl⟩
    obtain ⟨y, hy⟩ : ∃ y, y = tp s 2 := ⟨_, rfl⟩
    obtain ⟨n1, hn1⟩ : ∃ k, k = s.length - 1 := ⟨_, rfl⟩
    obtain ⟨n2, hn2⟩ : ∃ k, k = s.length - 2 := ⟨_, rfl⟩
    have HK1 := Lib.hid (HKK.out 1 (by omega) (by omega))
    have HK2 := Lib.hid (HKK.out 2 (by omega) (by omega))
    obtain ⟨bx0, bx1⟩ := HBK.out 1 (by omega) (by omega)
    obtain ⟨by0, by1⟩ := HBK.out 2 (by omega) (by omega)
    rw [← hx, ← hn1] at HK1
    rw [← hy, ← hn2] at HK2
    rw [← hx] at bx0 bx1
    rw [← hy] at by0 by1
    have hz1 : (s.length : Int) - 1 = (n1 : Int) := by omega
    have hz2 : (s.length : Int) - 2 = (n2 : Int) := by omega
    have hl1 : n1 < s.length := by omega
    have hl2 : n2 < s.length := by omega
    have hl1z : (n1 : Int) < (s.length : Int) := by omega
    have hl2z : (n2 : Int) < (s.length : Int) := by omega
    have h2z : ¬ (s.length : Int) < 2 := by omega
    have q1 := HK1.out w HR.out
    have q2 := HK2.out w HR.out
    by_cases h3 : 3 ≤ s.length
    · obtain ⟨z, hz⟩ : ∃ z, z = tp s 3 := ⟨_, rfl⟩
      obtain ⟨n3, hn3⟩ : ∃ k, k = s.length - 3 := ⟨_, rfl⟩
      have HK3 := Lib.hid (HKK.out 3 (by omega) (by omega))
      obtain ⟨bz0, bz1⟩ := HBK.out 3 (by omega) (by omega)
      rw [← hz, ← hn3] at HK3
      rw [← hz] at bz0 bz1
      have hz3 : (s.length : Int) - 3 = (n3 : Int) := by omega
      have hl3 : n3 < s.length := by omega
      have hl3z : (n3 : Int) < (s.length : Int) := by omega
      have h3z : decide ((3 : Int) ≤ (s.length : Int)) = true := decide_eq_true (by omega)
      have h3y : (3 : Int) ≤ (s.length : Int) := by omega
      cases fin with
      | true =>
        have hnd : need s true := by unfold need; rw [if_pos rfl]; exact h2
        by_cases hzx : z < x
        · have HF : Hid (nxI s true = (n3 : Int)) := Lib.hid (by rw [nxI_yes hnd, low3 h3 (by rw [← hz, ← hx]; exact hzx), hn3])
          have hd1 : decide (z < x) = true := decide_eq_true hzx
          clear hnd hx hy hz hn1 hn2 hn3 hsn
          go_enter Try.func96, Try.ntmps96
          go_wp2_with fail
          go_quiet (fail)
          have HR := Lib.hid (show CellRow (w.drewN nq) g (ints s) from HR.out.same rfl (Nat.le_refl _))
          have HB := Lib.hid (HB.out.trans (show Below w0.heap.size w (w.drewN nq) from ⟨rfl, rfl, rfl, Nat.le_refl _, fun _ _ => rfl⟩))
          generalize w.drewN nq = w at *
          have q3 := HK3.out w HR.out
          go_wp2_with fail
          go_ret
          exact ⟨by rw [HF.out]; first | rfl | simp, HB.out⟩
        · have HF : Hid (nxI s true = (n2 : Int)) := Lib.hid (by rw [nxI_yes hnd, low2 (by rw [← hz, ← hx]; exact fun h => hzx h.2), hn2])
          have hd1 : decide (z < x) = false := decide_eq_false hzx
          clear hnd hx hy hz hn1 hn2 hn3 hsn
          go_enter Try.func96, Try.ntmps96
          go_wp2_with fail
          go_quiet (fail)
          have HR := Lib.hid (show CellRow (w.drewN nq) g (ints s) from HR.out.same rfl (Nat.le_refl _))
          have HB := Lib.hid (HB.out.trans (show Below w0.heap.size w (w.drewN nq) from ⟨rfl, rfl, rfl, Nat.le_refl _, fun _ _ => rfl⟩))
          generalize w.drewN nq = w at *
          have q3 := HK3.out w HR.out
          go_wp2_with fail
          go_ret
          exact ⟨by rw [HF.out]; first | rfl | simp, HB.out⟩
      | false =>
        by_cases hc1 : z ≤ x + y
        · have hnd : need s false := by unfold need; rw [if_neg (by simp)]; left; rw [← hz, ← hx, ← hy]; exact ⟨h3, by omega⟩
          have hd0 : decide (z ≤ x + y) = true := decide_eq_true hc1
          by_cases hzx : z < x
          · have HF : Hid (nxI s false = (n3 : Int)) := Lib.hid (by rw [nxI_yes hnd, low3 h3 (by rw [← hz, ← hx]; exact hzx), hn3])
            have hd1 : decide (z < x) = true := decide_eq_true hzx
            clear hnd hx hy hz hn1 hn2 hn3 hsn
            go_enter Try.func96, Try.ntmps96
            go_wp2_with fail
            go_quiet (fail)
            have HR := Lib.hid (show CellRow (w.drewN nq) g (ints s) from HR.out.same rfl (Nat.le_refl _))
            have HB := Lib.hid (HB.out.trans (show Below w0.heap.size w (w.drewN nq) from ⟨rfl, rfl, rfl, Nat.le_refl _, fun _ _ => rfl⟩))
            generalize w.drewN nq = w at *
            have q3 := HK3.out w HR.out
            go_wp2_with fail
            go_quiet (fail)
            have HR := Lib.hid (show CellRow (w.drewN nq) g (ints s) from HR.out.same rfl (Nat.le_refl _))
            have HB := Lib.hid (HB.out.trans (show Below w0.heap.size w (w.drewN nq) from ⟨rfl, rfl, rfl, Nat.le_refl _, fun _ _ => rfl⟩))
            generalize w.drewN nq = w at *
            have q3 := HK3.out w HR.out
            go_wp2_with fail
            go_ret
            exact ⟨by rw [HF.out]; first | rfl | simp, HB.out⟩
          · have HF : Hid (nxI s false = (n2 : Int)) := Lib.hid (by rw [nxI_yes hnd, low2 (by rw [← hz, ← hx]; exact fun h => hzx h.2), hn2])
            have hd1 : decide (z < x) = false := decide_eq_false hzx
            clear hnd hx hy hz hn1 hn2 hn3 hsn
            go_enter Try.func96, Try.ntmps96
            go_wp2_with fail
            go_quiet (fail)
            have HR := Lib.hid (show CellRow (w.drewN nq) g (ints s) from HR.out.same rfl (Nat.le_refl _))
            have HB := Lib.hid (HB.out.trans (show Below w0.heap.size w (w.drewN nq) from ⟨rfl, rfl, rfl, Nat.le_refl _, fun _ _ => rfl⟩))
            generalize w.drewN nq = w at *
            have q3 := HK3.out w HR.out
            go_wp2_with fail
            go_quiet (fail)
            have HR := Lib.hid (show CellRow (w.drewN nq) g (ints s) from HR.out.same rfl (Nat.le_refl _))
            have HB := Lib.hid (HB.out.trans (show Below w0.heap.size w (w.drewN nq) from ⟨rfl, rfl, rfl, Nat.le_refl _, fun _ _ => rfl⟩))
            generalize w.drewN nq = w at *
            have q3 := HK3.out w HR.out
            go_wp2_with fail
            go_ret
            exact ⟨by rw [HF.out]; first | rfl | simp, HB.out⟩
        · have hd0 : decide (z ≤ x + y) = false := decide_eq_false hc1
          have hzx : ¬ z < x := by omega
          by_cases h4 : 4 ≤ s.length
          · obtain ⟨v, hv⟩ : ∃ v, v = tp s 4 := ⟨_, rfl⟩
            obtain ⟨n4, hn4⟩ : ∃ k, k = s.length - 4 := ⟨_, rfl⟩
            have HK4 := Lib.hid (HKK.out 4 (by omega) (by omega))
            obtain ⟨bv0, bv1⟩ := HBK.out 4 (by omega) (by omega)
            rw [← hv, ← hn4] at HK4
            rw [← hv] at bv0 bv1
            have hz4 : (s.length : Int) - 4 = (n4 : Int) := by omega
            have hl4 : n4 < s.length := by omega
            have hl4z : (n4 : Int) < (s.length : Int) := by omega
            have h4z : decide ((4 : Int) ≤ (s.length : Int)) = true := decide_eq_true (by omega)
            have h4y : (4 : Int) ≤ (s.length : Int) := by omega
            by_cases hc2 : v ≤ z + y
            · have hnd : need s false := by unfold need; rw [if_neg (by simp)]; right; left; rw [← hz, ← hv, ← hy]; exact ⟨h4, hc2⟩
              have hd2 : decide (v ≤ z + y) = true := decide_eq_true hc2
              have HF : Hid (nxI s false = (n2 : Int)) := Lib.hid (by rw [nxI_yes hnd, low2 (by rw [← hz, ← hx]; exact fun h => hzx h.2), hn2])
              have hd1 : decide (z < x) = false := decide_eq_false hzx
              clear hnd hx hy hz hv hn1 hn2 hn3 hn4 hsn
              go_enter Try.func96, Try.ntmps96
              go_wp2_with fail
              go_quiet (fail)
              have HR := Lib.hid (show CellRow (w.drewN nq) g (ints s) from HR.out.same rfl (Nat.le_refl _))
              have HB := Lib.hid (HB.out.trans (show Below w0.heap.size w (w.drewN nq) from ⟨rfl, rfl, rfl, Nat.le_refl _, fun _ _ => rfl⟩))
              generalize w.drewN nq = w at *
              have q3 := HK3.out w HR.out
              have q4 := HK4.out w HR.out
              go_wp2_with fail
              go_quiet (fail)
              have HR := Lib.hid (show CellRow (w.drewN nq) g (ints s) from HR.out.same rfl (Nat.le_refl _))
              have HB := Lib.hid (HB.out.trans (show Below w0.heap.size w (w.drewN nq) from ⟨rfl, rfl, rfl, Nat.le_refl _, fun _ _ => rfl⟩))
              generalize w.drewN nq = w at *
              have q3 := HK3.out w HR.out
              go_wp2_with fail
              go_ret
              exact ⟨by rw [HF.out]; first | rfl | simp, HB.out⟩
            · have hd2 : decide (v ≤ z + y) = false := decide_eq_false hc2
              by_cases hc3 : y ≤ x
              · have hnd : need s false := by unfold need; rw [if_neg (by simp)]; right; right; rw [← hx, ← hy]; exact ⟨h2, hc3⟩
                have HF : Hid (nxI s false = (n2 : Int)) := Lib.hid (by rw [nxI_yes hnd, low2 (by rw [← hz, ← hx]; exact fun h => hzx h.2), hn2])
                have hd3 : decide (y ≤ x) = true := decide_eq_true hc3
                clear hnd hx hy hz hv hn1 hn2 hn3 hn4 hsn
                go_enter Try.func96, Try.ntmps96
                go_wp2_with fail
                go_quiet (fail)
                have HR := Lib.hid (show CellRow (w.drewN nq) g (ints s) from HR.out.same rfl (Nat.le_refl _))
                have HB := Lib.hid (HB.out.trans (show Below w0.heap.size w (w.drewN nq) from ⟨rfl, rfl, rfl, Nat.le_refl _, fun _ _ => rfl⟩))
                generalize w.drewN nq = w at *
                have q3 := HK3.out w HR.out
                have q4 := HK4.out w HR.out
                go_wp2_with fail
                go_quiet (fail)
                have HR := Lib.hid (show CellRow (w.drewN nq) g (ints s) from HR.out.same rfl (Nat.le_refl _))
                have HB := Lib.hid (HB.out.trans (show Below w0.heap.size w (w.drewN nq) from ⟨rfl, rfl, rfl, Nat.le_refl _, fun _ _ => rfl⟩))
                generalize w.drewN nq = w at *
                go_wp2_with fail
                go_ret
                exact ⟨by rw [HF.out]; first | rfl | simp, HB.out⟩
              · have hnd : ¬ need s false := by
                  unfold need; rw [if_neg (by simp)]; unfold unb; rw [← hx, ← hy, ← hz, ← hv]
                  rintro (h | h | h) <;> omega
                have HF : Hid (nxI s false = -1) := Lib.hid (nxI_no hnd)
                have hd3 : decide (y ≤ x) = false := decide_eq_false hc3
                clear hnd hx hy hz hv hn1 hn2 hn3 hn4 hsn
                go_enter Try.func96, Try.ntmps96
                go_wp2_with fail
                go_quiet (fail)
                have HR := Lib.hid (show CellRow (w.drewN nq) g (ints s) from HR.out.same rfl (Nat.le_refl _))
                have HB := Lib.hid (HB.out.trans (show Below w0.heap.size w (w.drewN nq) from ⟨rfl, rfl, rfl, Nat.le_refl _, fun _ _ => rfl⟩))
                generalize w.drewN nq = w at *
                have q3 := HK3.out w HR.out
                have q4 := HK4.out w HR.out
                go_wp2_with fail
                go_quiet (fail)
                have HR := Lib.hid (show CellRow (w.drewN nq) g (ints s) from HR.out.same rfl (Nat.le_refl _))
                have HB := Lib.hid (HB.out.trans (show Below w0.heap.size w (w.drewN nq) from ⟨rfl, rfl, rfl, Nat.le_refl _, fun _ _ => rfl⟩))
                generalize w.drewN nq = w at *
                go_wp2_with fail
                go_ret
                exact ⟨by rw [HF.out]; first | rfl | simp, HB.out⟩
          · have h4z : decide ((4 : Int) ≤ (s.length : Int)) = false := decide_eq_false (by omega)
            have h4y : ¬ (4 : Int) ≤ (s.length : Int) := by omega
            by_cases hc3 : y ≤ x
            · have hnd : need s false := by unfold need; rw [if_neg (by simp)]; right; right; rw [← hx, ← hy]; exact ⟨h2, hc3⟩
              have HF : Hid (nxI s false = (n2 : Int)) := Lib.hid (by rw [nxI_yes hnd, low2 (by rw [← hz, ← hx]; exact fun h => hzx h.2), hn2])
              have hd3 : decide (y ≤ x) = true := decide_eq_true hc3
              clear hnd hx hy hz hn1 hn2 hn3 hsn
              go_enter Try.func96, Try.ntmps96
              go_wp2_with fail
              go_quiet (fail)
              have HR := Lib.hid (show CellRow (w.drewN nq) g (ints s) from HR.out.same rfl (Nat.le_refl _))
              have HB := Lib.hid (HB.out.trans (show Below w0.heap.size w (w.drewN nq) from ⟨rfl, rfl, rfl, Nat.le_refl _, fun _ _ => rfl⟩))
              generalize w.drewN nq = w at *
              have q3 := HK3.out w HR.out
              go_wp2_with fail
              go_quiet (fail)
              have HR := Lib.hid (show CellRow (w.drewN nq) g (ints s) from HR.out.same rfl (Nat.le_refl _))
              have HB := Lib.hid (HB.out.trans (show Below w0.heap.size w (w.drewN nq) from ⟨rfl, rfl, rfl, Nat.le_refl _, fun _ _ => rfl⟩))
              generalize w.drewN nq = w at *
              go_wp2_with fail
              go_ret
              exact ⟨by rw [HF.out]; first | rfl | simp, HB.out⟩
            · have hnd : ¬ need s false := by
                unfold need; rw [if_neg (by simp)]; unfold unb; rw [← hx, ← hy, ← hz]
                rintro (h | h | h) <;> omega
              have HF : Hid (nxI s false = -1) := Lib.hid (nxI_no hnd)
              have hd3 : decide (y ≤ x) = false := decide_eq_false hc3
              clear hnd hx hy hz hn1 hn2 hn3 hsn
              go_enter Try.func96, Try.ntmps96
              go_wp2_with fail
              go_quiet (fail)
              have HR := Lib.hid (show CellRow (w.drewN nq) g (ints s) from HR.out.same rfl (Nat.le_refl _))
              have HB := Lib.hid (HB.out.trans (show Below w0.heap.size w (w.drewN nq) from ⟨rfl, rfl, rfl, Nat.le_refl _, fun _ _ => rfl⟩))
              generalize w.drewN nq = w at *
              have q3 := HK3.out w HR.out
              go_wp2_with fail
              go_quiet (fail)
              have HR := Lib.hid (show CellRow (w.drewN nq) g (ints s) from HR.out.same rfl (Nat.le_refl _))
              have HB := Lib.hid (HB.out.trans (show Below w0.heap.size w (w.drewN nq) from ⟨rfl, rfl, rfl, Nat.le_refl _, fun _ _ => rfl⟩))
              generalize w.drewN nq = w at *
              go_wp2_with fail
              go_ret
              exact ⟨by rw [HF.out]; first | rfl | simp, HB.out⟩
    · have h3z : decide ((3 : Int) ≤ (s.length : Int)) = false := decide_eq_false (by omega)
      have h3y : ¬ (3 : Int) ≤ (s.length : Int) := by omega
      have h4z : decide ((4 : Int) ≤ (s.length : Int)) = false := decide_eq_false (by omega)
      have h4y : ¬ (4 : Int) ≤ (s.length : Int) := by omega
      cases fin with
      | true =>
        have hnd : need s true := by unfold need; rw [if_pos rfl]; exact h2
        have HF : Hid (nxI s true = (n2 : Int)) := Lib.hid (by rw [nxI_yes hnd, low2 (fun h => h3 h.1), hn2])
        clear hnd hx hy hn1 hn2 hsn
        go_enter Try.func96, Try.ntmps96
        go_wp2_with fail
        go_quiet (fail)
        have HR := Lib.hid (show CellRow (w.drewN nq) g (ints s) from HR.out.same rfl (Nat.le_refl _))
        have HB := Lib.hid (HB.out.trans (show Below w0.heap.size w (w.drewN nq) from ⟨rfl, rfl, rfl, Nat.le_refl _, fun _ _ => rfl⟩))
        generalize w.drewN nq = w at *
        go_wp2_with fail
        go_ret
        exact ⟨by rw [HF.out]; first | rfl | simp, HB.out⟩
      | false =>
        by_cases hc3 : y ≤ x
        · have hnd : need s false := by unfold need; rw [if_neg (by simp)]; right; right; rw [← hx, ← hy]; exact ⟨h2, hc3⟩
          have HF : Hid (nxI s false = (n2 : Int)) := Lib.hid (by rw [nxI_yes hnd, low2 (fun h => h3 h.1), hn2])
          have hd3 : decide (y ≤ x) = true := decide_eq_true hc3
          clear hnd hx hy hn1 hn2 hsn
          go_enter Try.func96, Try.ntmps96
          go_wp2_with fail
          go_quiet (fail)
          have HR := Lib.hid (show CellRow (w.drewN nq) g (ints s) from HR.out.same rfl (Nat.le_refl _))
          have HB := Lib.hid (HB.out.trans (show Below w0.heap.size w (w.drewN nq) from ⟨rfl, rfl, rfl, Nat.le_refl _, fun _ _ => rfl⟩))
          generalize w.drewN nq = w at *
          go_wp2_with fail
          go_quiet (fail)
          have HR := Lib.hid (show CellRow (w.drewN nq) g (ints s) from HR.out.same rfl (Nat.le_refl _))
          have HB := Lib.hid (HB.out.trans (show Below w0.heap.size w (w.drewN nq) from ⟨rfl, rfl, rfl, Nat.le_refl _, fun _ _ => rfl⟩))
          generalize w.drewN nq = w at *
          go_wp2_with fail
          go_ret
          exact ⟨by rw [HF.out]; first | rfl | simp, HB.out⟩
        · have hnd : ¬ need s false := by
            unfold need; rw [if_neg (by simp)]; unfold unb; rw [← hx, ← hy]
            rintro (h | h | h) <;> omega
          have HF : Hid (nxI s false = -1) := Lib.hid (nxI_no hnd)
          have hd3 : decide (y ≤ x) = false := decide_eq_false hc3
          clear hnd hx hy hn1 hn2 hsn
          go_enter Try.func96, Try.ntmps96
          go_wp2_with fail
          go_quiet (fail)
          have HR := Lib.hid (show CellRow (w.drewN nq) g (ints s) from HR.out.same rfl (Nat.le_refl _))
          have HB := Lib.hid (HB.out.trans (show Below w0.heap.size w (w.drewN nq) from ⟨rfl, rfl, rfl, Nat.le_refl _, fun _ _ => rfl⟩))
          generalize w.drewN nq = w at *
          go_wp2_with fail
          go_quiet (fail)
          have HR := Lib.hid (show CellRow (w.drewN nq) g (ints s) from HR.out.same rfl (Nat.le_refl _))
          have HB := Lib.hid (HB.out.trans (show Below w0.heap.size w (w.drewN nq) from ⟨rfl, rfl, rfl, Nat.le_refl _, fun _ _ => rfl⟩))
          generalize w.drewN nq = w at *
          go_wp2_with fail
          go_ret
          exact ⟨by rw [HF.out]; first | rfl | simp, HB.out⟩
  · have HF : Hid (nxI s fin = -1) := Lib.hid (nxI_no (fun h => h2 (need_two h)))
    have h2z : (s.length : Int) < 2 := by omega
    clear hsn
    go_enter Try.func96, Try.ntmps96
    go_wp2_with fail
    go_ret
    exact ⟨by rw [HF.out]; rfl, HB.out⟩

end Go.Proofs.Ytnjabdlhgmaeiaa
