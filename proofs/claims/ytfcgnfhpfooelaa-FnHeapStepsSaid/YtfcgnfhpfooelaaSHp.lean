/- The model's heap: the exchange, the sifting down, the building, by contracts. -/
import Derived.Test.YtfcgnfhpfooelaaHeapA
import Derived.BigRegion
import Derived.BigQuiet
import Derived.Deep.QuietTactic
import Derived.Laws.BitsLemmas
namespace Go.Proofs.Ytfcgnfhpfooelaa
open Go.RowKit P El Hp
set_option linter.unusedVariables false

/-- The list lies in block g, and nothing else moved. -/
def RowP (g : Nat) (L : List Int) (w w' : World) : Prop := CellRow w' g (ints L) ∧ But g w w'

set_option maxRecDepth 100000 in
set_option maxHeartbeats 4000000 in
theorem sswap_any {g c : Nat} {L : List Int} (i k : Nat) (w : World) (h : CellRow w g (ints L)) (hl : L.length ≤ 1048576) (hi : i < L.length) (hk : k < L.length) (hne : i ≠ k) :
    Calls Try.prog 111 #[.slice (some ⟨g, 0, none⟩) L.length c, .int .i64 (i : Int), .int .i64 (k : Int)] w fun e w' => e = .returned (.tuple #[]) ∧ RowP g (swapped L i k) w w' := by
  obtain ⟨x, hx⟩ : ∃ x, x = L.getD i 0 := ⟨_, rfl⟩
  obtain ⟨y, hy⟩ : ∃ y, y = L.getD k 0 := ⟨_, rfl⟩
  obtain ⟨hcx, hfx⟩ := h.2 i _ (ints_at (at_getD hi))
  obtain ⟨hcy, hfy⟩ := h.2 k _ (ints_at (at_getD hk))
  rw [← hx] at hcx
  rw [← hy] at hcy
  have HRES : Hid (RowP g (swapped L i k) w ((w.setCell ⟨g, i, none⟩ (.int .i64 y)).setCell ⟨g, k, none⟩ (.int .i64 x))) := Lib.hid (by
    have h1 := (h.set i (.int .i64 y) (by rw [ints_length]; exact hi)).set k (.int .i64 x) (by rw [List.length_set, ints_length]; exact hk)
    rw [ints_set, ints_set] at h1
    have e : (L.set i y).set k x = swapped L i k := by unfold swapped; rw [← hx, ← hy]
    rw [e] at h1
    exact ⟨h1, ((But.refl g w).setCell i _).setCell k _⟩)
  have hiz : (i : Int) < L.length := by omega
  have hkz : (k : Int) < L.length := by omega
  have hne1 : ¬ i = k := hne
  have hne2 : ¬ k = i := fun e => hne e.symm
  clear h hx hy hne
  go_enter Try.func111, Try.ntmps111
  go_wp2_with fail
  go_end0
  exact ⟨rfl, HRES.out⟩

set_option maxRecDepth 100000 in
set_option maxHeartbeats 8000000 in
theorem sdown_any {g c d : Nat} {L : List Int} (i n : Nat) (w : World) (h : CellRow w g (ints L)) (hd : 2 ≤ d) (hd8 : d ≤ 8) (hi : i ≤ L.length) (hn : n ≤ L.length) (hl : L.length ≤ 64) :
    Calls Try.prog 113 #[.slice (some ⟨g, 0, none⟩) L.length c, .int .i64 (n : Int), .int .i64 (i : Int), .int .i64 (d : Int)] w fun e w' => e = .returned (.int .i64 (((down d n i (L, 0)).2 : Nat) : Int)) ∧ RowP g (down d n i (L, 0)).1 w w' := by
  obtain ⟨R, hR⟩ : ∃ R, R = down d n i (L, 0) := ⟨_, rfl⟩
  have hRq : R.2 ≤ 101000 := by have := (down_count (d := d) (n := n) (i := i) (by omega) (L, 0)).2; rw [← hR] at this; simp only at this; omega
  have H := Lib.hid h
  have HR := Lib.hid hR.symm
  have HLL : Hid (∃ T, T = L.length) := Lib.hid ⟨_, rfl⟩
  rw [← hR]
  clear h hR
  go_enter Try.func113, Try.ntmps113
  go_wp2_with fail
  go_loopw [2, 9, 10, 11] (fun iv qv _ _ wr => ∃ (j : Nat) (M : List Int) (p : Nat), iv = .int .i64 (j : Int) ∧ qv = .int .i64 (p : Int) ∧ down d n j (M, p) = R ∧ M.length = L.length ∧ j ≤ L.length ∧ RowP g M w wr) (fun iv _ _ _ _ => L.length - (intOf iv).toNat)
  case atStart => exact ⟨i, L, 0, rfl, rfl, HR.out, rfl, hi, H.out, But.refl _ _⟩
  case round =>
    obtain ⟨j, M, p, rfl, rfl, hr, hML, hj, hg, hb⟩ := hrel
    have HG := Lib.hid hg
    have HB := Lib.hid hb
    have HRR := Lib.hid hr
    have hp : p ≤ 101000 := by have := (down_count (d := d) (n := n) (i := j) (by omega) (M, p)).1; rw [hr] at this; simp only at this; omega
    have HML := Lib.hid hML
    have hj64 : j ≤ 64 := by omega
    have hn64 : n ≤ 64 := by omega
    have hmb : d * j ≤ 512 := Nat.le_trans (Nat.mul_le_mul hd8 hj64) (by omega)
    clear hr hg hb H HR hML hi
    have hbest : gc M (min (d * j + 1 + d) n - (d * j + 2)) (d * j + 2) (d * j + 1) = best M d n j := rfl
    have HSP := Lib.hid (fun (hc : d * j + 1 < n) => best_spec M (d := d) (n := n) (i := j) (by omega) hc)
    have HSP2 := Lib.hid (fun (hc : d * j + 1 < n) => best_par M (d := d) (n := n) (i := j) (by omega) hc)
    have HGO := Lib.hid (fun (hc : d * j + 1 < n) (hx : M.getD j 0 < M.getD (best M d n j) 0) => (down_go (S := (M, p)) (by omega) ⟨hc, hx⟩).symm.trans HRR.out)
    have HST := Lib.hid (fun (hx : ¬ (d * j + 1 < n ∧ M.getD j 0 < M.getD (best M d n j) 0)) => (down_stop (S := (M, p)) hx).symm.trans HRR.out)
    obtain ⟨m, hm⟩ : ∃ m, m = d * j := ⟨_, rfl⟩
    have hw1 : IntKind.i64.wrap ((d : Int) * (j : Int)) = (m : Int) := by rw [← Int.natCast_mul, ← hm, IntKind.wrap_i64]; omega
    rw [← hm] at HSP HSP2 HGO HST hbest hmb
    clear hm
    generalize best M d n j = R1 at *
    have HBEST := Lib.hid hbest
    clear hbest
    by_cases hc : m + 1 < n
    · have hcz : decide ((m : Int) + 1 < (n : Int)) = true := decide_eq_true (by omega)
      obtain ⟨f1, f2, f3, _⟩ := HSP.out hc
      obtain ⟨_, f5⟩ := HSP2.out hc
      have HGO2 := Lib.hid (HGO.out hc)
      have HST2 := Lib.hid (fun (hx : ¬ M.getD j 0 < M.getD R1 0) => HST.out (fun hh => hx hh.2))
      have HF := Lib.hid (show m + 1 ≤ R1 ∧ R1 < n ∧ j < R1 from ⟨f1, f2, f5⟩)
      clear f1 f2 f3 f5 HGO HST HSP HSP2
      go_wp2_with fail
      go_loopw [10, 11] (fun bv kv ws => ∃ b k t : Nat, b < k ∧ k ≤ min (m + 1 + d) n ∧ bv = .int .i64 (b : Int) ∧ kv = .int .i64 (k : Int) ∧ gc M (min (m + 1 + d) n - k) k b = R1 ∧ ws = wr.drewN t) (fun _ kv _ => 1000 - (intOf kv).toNat)
      case atStart => exact ⟨m + 1, m + 2, 0, by omega, by omega, by go_num, by go_num, HBEST.out, rfl⟩
      case round =>
        obtain ⟨b, k, t, hbk, hk, rfl, rfl, hr, rfl⟩ := hrel
        have HR := Lib.hid hr
        clear hr HBEST
        by_cases hlt : k < min (m + 1 + d) n
        · have h1 : k ≤ m + d := by omega
          have h2 : k < n := by omega
          have h1z : decide ((k : Int) ≤ (m : Int) + (d : Int)) = true := decide_eq_true (by omega)
          have h2z : decide ((k : Int) < (n : Int)) = true := decide_eq_true (by omega)
          have HN : Hid (min (m + 1 + d) n - k = (min (m + 1 + d) n - (k + 1)) + 1) := Lib.hid (by omega)
          have HK : Hid (k + 1 ≤ min (m + 1 + d) n) := Lib.hid (by omega)
          obtain ⟨x, hx⟩ : ∃ x, x = M.getD k 0 := ⟨_, rfl⟩
          obtain ⟨y, hy⟩ : ∃ y, y = M.getD b 0 := ⟨_, rfl⟩
          obtain ⟨hcx, _⟩ := HG.out.2 k _ (ints_at (at_getD (by rw [HML.out]; omega)))
          obtain ⟨hcy, _⟩ := HG.out.2 b _ (ints_at (at_getD (by rw [HML.out]; omega)))
          rw [← hx] at hcx
          rw [← hy] at hcy
          have hkz : (k : Int) < L.length := by omega
          have hbz : (b : Int) < L.length := by omega
          have HX := Lib.hid hx
          have HY := Lib.hid hy
          clear hx hy hlt hk
          by_cases hgt : y < x
          · have hgd : decide (y < x) = true := decide_eq_true hgt
            have HE : Hid (gc M (min (m + 1 + d) n - (k + 1)) (k + 1) k = R1) := Lib.hid (by rw [← HR.out, HN.out, gc_gt (by rw [← HX.out, ← HY.out]; exact hgt)])
            go_wp2_with fail
            go_quiet (fail)
            go_wp2_with fail
            go_roundw
            case rel => exact ⟨k, k + 1, t + nq, by omega, HK.out, rfl, by go_num, HE.out, by first | rfl | trivial⟩
            case measure => simp [intOf]; omega
          · have hgd : decide (y < x) = false := decide_eq_false hgt
            have HE : Hid (gc M (min (m + 1 + d) n - (k + 1)) (k + 1) b = R1) := Lib.hid (by rw [← HR.out, HN.out, gc_le (by rw [← HX.out, ← HY.out]; exact hgt)])
            go_wp2_with fail
            go_quiet (fail)
            go_wp2_with fail
            go_roundw
            case rel => exact ⟨b, k + 1, t + nq, by omega, HK.out, rfl, by go_num, HE.out, by first | rfl | trivial⟩
            case measure => simp [intOf]; omega
        · have hbR : b = R1 := by
            have h := HR.out
            rw [show min (m + 1 + d) n - k = 0 by omega] at h
            exact h
          subst hbR
          have h1 : m + d < k ∨ k ≤ m + d ∧ n ≤ k := by omega
          obtain ⟨f1, f2, f3⟩ := HF.out
          obtain ⟨x, hx⟩ : ∃ x, x = M.getD b 0 := ⟨_, rfl⟩
          obtain ⟨y, hy⟩ : ∃ y, y = M.getD j 0 := ⟨_, rfl⟩
          obtain ⟨hcx, _⟩ := HG.out.2 b _ (ints_at (at_getD (by rw [HML.out]; omega)))
          obtain ⟨hcy, _⟩ := HG.out.2 j _ (ints_at (at_getD (by rw [HML.out]; omega)))
          rw [← hx, ← hy] at HGO2 HST2
          rw [← hx] at hcx
          rw [← hy] at hcy
          have hbz : (b : Int) < L.length := by omega
          have hjz : (j : Int) < L.length := by omega
          have HBL : Hid (b < L.length) := Lib.hid (by omega)
          have HJB : Hid (j < b) := Lib.hid f3
          have HB3 : Hid (But g w (wr.drewN t)) := Lib.hid (HB.out.trans ⟨rfl, rfl, rfl, Nat.le_refl _, fun _ _ _ => rfl⟩)
          clear hx hy hlt hk f1 f2 f3 HF HR
          by_cases hlt : y < x
          · have hle : decide (x ≤ y) = false := decide_eq_false (by omega)
            have hlz : ¬ x ≤ y := by omega
            have HS := Lib.hid (fun (W : World) (hW : CellRow W g (ints M)) => sswap_any (c := c) j b W hW (by rw [HML.out]; omega) (by rw [HML.out]; omega) (by rw [HML.out]; exact HBL.out) (by have := HJB.out; omega))
            rw [HML.out] at HS
            have HE := Lib.hid (HGO2.out hlt)
            have HSL : Hid ((swapped M j b).length = L.length) := Lib.hid (by rw [swapped_length]; exact HML.out)
            have HG3 : Hid (∀ t, CellRow (wr.drewN t) g (ints M)) := Lib.hid (fun t => HG.out.same rfl (Nat.le_refl _))
            have HB4 : Hid (∀ t, But g w (wr.drewN t)) := Lib.hid (fun t => HB.out.trans ⟨rfl, rfl, rfl, Nat.le_refl _, fun _ _ _ => rfl⟩)
            clear HGO2 HST2
            rcases h1 with h1 | ⟨h1, h2⟩
            · have h1z : decide ((k : Int) ≤ (m : Int) + (d : Int)) = false := decide_eq_false (by omega)
              go_wp2_with fail
              go_quiet (fail)
              go_wp2_with fail
              refine (HS.out _ (HG3.out _)).mono ?_
              rintro e w2 ⟨rfl, hg2, hb2⟩
              have HG2 := Lib.hid hg2
              have HB2 : Hid (But g w w2) := Lib.hid ((HB4.out _).trans hb2)
              clear hg2 hb2
              go_wp2_with fail
              go_roundw
              case rel => exact ⟨b, swapped M j b, p + 1, rfl, by go_num, HE.out, HSL.out, Nat.le_of_lt HBL.out, HG2.out, HB2.out⟩
              case measure => have := HJB.out; have := HBL.out; simp [intOf]; omega
            · have h1z : decide ((k : Int) ≤ (m : Int) + (d : Int)) = true := decide_eq_true (by omega)
              have h2z : decide ((k : Int) < (n : Int)) = false := decide_eq_false (by omega)
              go_wp2_with fail
              go_quiet (fail)
              go_wp2_with fail
              refine (HS.out _ (HG3.out _)).mono ?_
              rintro e w2 ⟨rfl, hg2, hb2⟩
              have HG2 := Lib.hid hg2
              have HB2 : Hid (But g w w2) := Lib.hid ((HB4.out _).trans hb2)
              clear hg2 hb2
              go_wp2_with fail
              go_roundw
              case rel => exact ⟨b, swapped M j b, p + 1, rfl, by go_num, HE.out, HSL.out, Nat.le_of_lt HBL.out, HG2.out, HB2.out⟩
              case measure => have := HJB.out; have := HBL.out; simp [intOf]; omega
          · have hle : decide (x ≤ y) = true := decide_eq_true (by omega)
            have hlz : x ≤ y := by omega
            have HE := Lib.hid (HST2.out (by omega))
            have HRES : Hid (∀ t u, Ending.returned (.int .i64 (p : Int)) = .returned (.int .i64 (R.2 : Int)) ∧ RowP g R.1 w ((wr.drewN t).drewN u)) := Lib.hid (fun t u => by
              rw [← HE.out]; exact ⟨rfl, HG.out.same rfl (Nat.le_refl _), HB.out.trans ⟨rfl, rfl, rfl, Nat.le_refl _, fun _ _ _ => rfl⟩⟩)
            clear HGO2 HST2
            rcases h1 with h1 | ⟨h1, h2⟩
            · have h1z : decide ((k : Int) ≤ (m : Int) + (d : Int)) = false := decide_eq_false (by omega)
              go_wp2_with fail
              go_quiet (fail)
              go_wp2_with fail
              go_ret
              exact ⟨(HRES.out 0 0).1, (HRES.out _ _).2⟩
            · have h1z : decide ((k : Int) ≤ (m : Int) + (d : Int)) = true := decide_eq_true (by omega)
              have h2z : decide ((k : Int) < (n : Int)) = false := decide_eq_false (by omega)
              go_wp2_with fail
              go_quiet (fail)
              go_wp2_with fail
              go_ret
              exact ⟨(HRES.out 0 0).1, (HRES.out _ _).2⟩
    · have hcz : decide ((m : Int) + 1 < (n : Int)) = false := decide_eq_false (by omega)
      have HE := Lib.hid (HST.out (fun hh => hc hh.1))
      have HRES : Hid (Ending.returned (.int .i64 (p : Int)) = .returned (.int .i64 (R.2 : Int)) ∧ RowP g R.1 w wr) := Lib.hid (by
        rw [← HE.out]; exact ⟨rfl, HG.out, HB.out⟩)
      clear HGO HST HSP HSP2 HBEST
      go_wp2_with fail
      go_ret
      exact HRES.out

end Go.Proofs.Ytfcgnfhpfooelaa
