/- The program's heap: a greatest child and the sifting down, by contracts. -/
import Derived.Test.YtipdfmedbcafpaaHpS
namespace Go.Proofs.Ytipdfmedbcafpaa
open Go.RowKit P El Hp
set_option linter.unusedVariables false

set_option maxRecDepth 100000 in
set_option maxHeartbeats 4000000 in
theorem gcNo_any {s d : Nat} (i n : Nat) (w : World) (h : w.cell? ⟨s, 1, none⟩ = some (.int .i64 (d : Int))) (hd : d ≤ 8) (hi : i ≤ 64) (hn : n ≤ 64) (hc : ¬ d * i + 1 < n) :
    Calls Try.prog 166 #[.pointer (some ⟨s, 0, none⟩), .int .i64 (i : Int), .int .i64 (n : Int)] w fun e w' => e = .returned (.tuple #[.int .i64 0, .bool false]) ∧ Below w.heap.size w w' := by
  have hb : d * i ≤ 512 := Nat.le_trans (Nat.mul_le_mul hd hi) (by omega)
  obtain ⟨m, hm⟩ : ∃ m, m = d * i := ⟨_, rfl⟩
  have hw1 : IntKind.i64.wrap ((d : Int) * (i : Int)) = (m : Int) := by rw [← Int.natCast_mul, ← hm, IntKind.wrap_i64]; omega
  rw [← hm] at hc hb
  have hge : decide ((n : Int) ≤ (m : Int) + 1) = true := decide_eq_true (by omega)
  have hge2 : (n : Int) ≤ (m : Int) + 1 := by omega
  clear hm
  go_enter Try.func166, Try.ntmps166
  go_wp2_with fail
  go_ret2
  exact ⟨rfl, Below.refl _ _⟩

set_option maxRecDepth 100000 in
set_option maxHeartbeats 4000000 in
theorem gcYes_any {base s g cap d q : Nat} {L : List Int} (i n : Nat) (w : World) (h : HpG base s g cap L d q w) (hd : 2 ≤ d) (hd8 : d ≤ 8) (hi : i ≤ 64) (hn : n ≤ L.length) (hl : L.length ≤ 64) (hc : d * i + 1 < n) :
    Calls Try.prog 166 #[.pointer (some ⟨s, 0, none⟩), .int .i64 (i : Int), .int .i64 (n : Int)] w fun e w' => e = .returned (.tuple #[.int .i64 ((best L d n i : Nat) : Int), .bool true]) ∧ Below w.heap.size w w' := by
  have hb : d * i ≤ 512 := Nat.le_trans (Nat.mul_le_mul hd8 hi) (by omega)
  have hbest : gc L (min (d * i + 1 + d) n - (d * i + 2)) (d * i + 2) (d * i + 1) = best L d n i := rfl
  obtain ⟨m, hm⟩ : ∃ m, m = d * i := ⟨_, rfl⟩
  have hw1 : IntKind.i64.wrap ((d : Int) * (i : Int)) = (m : Int) := by rw [← Int.natCast_mul, ← hm, IntKind.wrap_i64]; omega
  rw [← hm] at hc hb hbest
  clear hm
  generalize best L d n i = R at hbest
  obtain ⟨f, hf⟩ : ∃ f, f = m + 1 := ⟨_, rfl⟩
  have hwf : IntKind.i64.wrap ((m : Int) + 1) = (f : Int) := by rw [IntKind.wrap_i64]; omega
  rw [← hf, show m + 2 = f + 1 by omega] at hbest
  have hfn : f < n := by omega
  have hge : decide ((n : Int) ≤ (f : Int)) = false := decide_eq_false (by omega)
  have hge2 : ¬ (n : Int) ≤ (f : Int) := by omega
  have hwf1 : IntKind.i64.wrap ((f : Int) + 1) = ((f + 1 : Nat) : Int) := by rw [IntKind.wrap_i64]; omega
  have hwfd : IntKind.i64.wrap ((f : Int) + (d : Int)) = ((f + d : Nat) : Int) := by rw [IntKind.wrap_i64]; omega
  have HBEST := Lib.hid hbest
  have H := Lib.hid h
  obtain ⟨hs0, hs1, _⟩ := h.c0
  have hfb : f ≤ 513 := by omega
  clear hf hb hc hbest h
  go_enter Try.func166, Try.ntmps166
  go_wp2_with fail
  go_loopw [9, 10] (fun bv kv wr => ∃ b k t : Nat, b < k ∧ k ≤ min (f + d) n ∧ bv = .int .i64 (b : Int) ∧ kv = .int .i64 (k : Int) ∧ gc L (min (f + d) n - k) k b = R ∧ wr = w.drewN t) (fun _ kv _ => 1000 - (intOf kv).toNat)
  case atStart => exact ⟨f, f + 1, 0, by omega, by omega, rfl, by first | rfl | go_num, HBEST.out, rfl⟩
  case round =>
    obtain ⟨b, k, t, hbk, hk, rfl, rfl, hr, rfl⟩ := hrel
    have HR := Lib.hid hr
    clear hr
    by_cases hlt : k < min (f + d) n
    · have h1 : k < f + d := by omega
      have h2 : k < n := by omega
      have HN : Hid (min (f + d) n - k = (min (f + d) n - (k + 1)) + 1) := Lib.hid (by omega)
      have HK : Hid (k + 1 ≤ min (f + d) n) := Lib.hid (by omega)
      obtain ⟨x, hx⟩ : ∃ x, x = L.getD k 0 := ⟨_, rfl⟩
      obtain ⟨y, hy⟩ : ∃ y, y = L.getD b 0 := ⟨_, rfl⟩
      obtain ⟨hcx, _⟩ := H.out.at (k := k) (by omega)
      obtain ⟨hcy, _⟩ := H.out.at (k := b) (by omega)
      rw [← hx] at hcx
      rw [← hy] at hcy
      have hkz : (k : Int) < L.length := by omega
      have hbz : (b : Int) < L.length := by omega
      have HX := Lib.hid hx
      have HY := Lib.hid hy
      clear hx hy hlt hk
      have hfe : f + d ≤ n ∨ n < f + d := by omega
      by_cases hgt : y < x
      · have hgd : decide (y < x) = true := decide_eq_true hgt
        have HE : Hid (gc L (min (f + d) n - (k + 1)) (k + 1) k = R) := Lib.hid (by rw [← HR.out, HN.out, gc_gt (by rw [← HX.out, ← HY.out]; exact hgt)])
        rcases hfe with hfe | hfe
        all_goals
          go_wp2_with fail
          go_quiet (fail)
          go_wp2_with fail
          go_roundw
          case rel => exact ⟨k, k + 1, t + nq, by omega, HK.out, rfl, by go_num, HE.out, by first | rfl | trivial⟩
          case measure => simp [intOf]; omega
      · have hgd : decide (y < x) = false := decide_eq_false hgt
        have HE : Hid (gc L (min (f + d) n - (k + 1)) (k + 1) b = R) := Lib.hid (by rw [← HR.out, HN.out, gc_le (by rw [← HX.out, ← HY.out]; exact hgt)])
        rcases hfe with hfe | hfe
        all_goals
          go_wp2_with fail
          go_quiet (fail)
          go_wp2_with fail
          go_roundw
          case rel => exact ⟨b, k + 1, t + nq, by omega, HK.out, rfl, by go_num, HE.out, by first | rfl | trivial⟩
          case measure => simp [intOf]; omega
    · have HE : Hid ((b : Int) = (R : Int)) := Lib.hid (by
        have h := HR.out
        rw [show min (f + d) n - k = 0 by omega] at h
        have h2 : b = R := h
        rw [h2])
      have HB : Hid (Below w.heap.size w (w.drewN t)) := Lib.hid ⟨rfl, rfl, rfl, Nat.le_refl _, fun _ _ => rfl⟩
      have h1 : k = f + d ∧ f + d ≤ n ∨ k = n ∧ n < f + d := by omega
      clear hlt hk
      rcases h1 with ⟨hke, hfe⟩ | ⟨hke, hfe⟩
      · have h1 : ¬ (k : Int) < (f : Int) + (d : Int) := by omega
        have hd1 : decide ((k : Int) < (f : Int) + (d : Int)) = false := decide_eq_false h1
        clear hke
        go_wp2_with fail
        go_ret2
        exact ⟨by rw [← HE.out]; rfl, HB.out⟩
      · have h1 : ¬ (k : Int) < (n : Int) := by omega
        have hd1 : decide ((k : Int) < (n : Int)) = false := decide_eq_false h1
        clear hke
        go_wp2_with fail
        go_ret2
        exact ⟨by rw [← HE.out]; rfl, HB.out⟩

/-- Nothing to sift. -/
theorem sdNo_any {s d : Nat} (i n : Nat) (w : World) (h : w.cell? ⟨s, 1, none⟩ = some (.int .i64 (d : Int))) (hd : d ≤ 8) (hi : i ≤ 64) (hn : n ≤ 64) (hc : ¬ d * i + 1 < n) :
    Calls Try.prog 158 #[.pointer (some ⟨s, 0, none⟩), .int .i64 (i : Int), .int .i64 (n : Int)] w fun e w' => e = .returned (.tuple #[]) ∧ Below w.heap.size w w' := by
  have HG := Lib.hid (gcNo_any i n w h hd hi hn hc)
  clear hc
  go_enter Try.func158, Try.ntmps158
  go_wp2_with fail
  go_loopw [1, 6, 7, 8] (fun iv _ _ _ wr => iv = .int .i64 (i : Int) ∧ wr = w) (fun _ _ _ _ _ => 0)
  case atStart => exact ⟨rfl, rfl⟩
  case round =>
    obtain ⟨rfl, rfl⟩ := hrel
    go_wp2_with fail
    refine HG.out.mono ?_
    rintro e w1 ⟨rfl, hb⟩
    have HB := Lib.hid hb
    clear hb
    go_wp2_with fail
    go_quiet (fail)
    go_wp2_with fail
    refine bodyPost_ret (results_none rfl _ _ _) rfl ?_
    exact ⟨rfl, HB.out.trans ⟨rfl, rfl, rfl, Nat.le_refl _, fun _ _ => rfl⟩⟩

set_option maxRecDepth 100000 in
set_option maxHeartbeats 4000000 in
theorem sd_any {base s g cap d q : Nat} {L : List Int} (i n : Nat) (w : World) (h : HpG base s g cap L d q w) (hd : 2 ≤ d) (hd8 : d ≤ 8) (hi : i ≤ L.length) (hn : n ≤ L.length) (hl : L.length ≤ 64) (hq : q ≤ 100000) :
    Calls Try.prog 158 #[.pointer (some ⟨s, 0, none⟩), .int .i64 (i : Int), .int .i64 (n : Int)] w fun e w' => e = .returned (.tuple #[]) ∧ HpP base s g cap d (down d n i (L, q)) w w' := by
  obtain ⟨R, hR⟩ : ∃ R, R = down d n i (L, q) := ⟨_, rfl⟩
  have hRq : R.2 ≤ 101000 := by have := (down_count (d := d) (n := n) (i := i) (by omega) (L, q)).2; rw [← hR] at this; simp only at this; omega
  have H := Lib.hid h
  have HR := Lib.hid hR.symm
  have HNO := Lib.hid (fun j W (hc : W.cell? ⟨s, 1, none⟩ = some (.int .i64 (d : Int))) (hj : j ≤ 64) (hc2 : ¬ d * j + 1 < n) => gcNo_any j n W hc hd8 hj (by omega) hc2)
  rw [← hR]
  clear h hR
  go_enter Try.func158, Try.ntmps158
  go_wp2_with fail
  go_loopw [1, 6, 7, 8] (fun iv _ _ _ wr => ∃ (j : Nat) (M : List Int) (p : Nat), iv = .int .i64 (j : Int) ∧ down d n j (M, p) = R ∧ M.length = L.length ∧ j ≤ L.length ∧ HpG base s g cap M d p wr ∧ But2 s g w wr) (fun iv _ _ _ _ => L.length - (intOf iv).toNat)
  case atStart => exact ⟨i, L, q, rfl, HR.out, rfl, hi, H.out, But2.refl _ _ _⟩
  case round =>
    obtain ⟨j, M, p, rfl, hr, hML, hj, hg, hb⟩ := hrel
    have HG := Lib.hid hg
    have HB := Lib.hid hb
    have HRR := Lib.hid hr
    have hp : p ≤ 101000 := by have := (down_count (d := d) (n := n) (i := j) (by omega) (M, p)).1; rw [hr] at this; simp only at this; omega
    have HML := Lib.hid hML
    have hj64 : j ≤ 64 := by omega
    have hn64 : n ≤ 64 := by omega
    have HMN : Hid (n ≤ M.length) := Lib.hid (by omega)
    have HM64 : Hid (M.length ≤ 64) := Lib.hid (by omega)
    clear hr hg hb H HR hML hi
    by_cases hc : d * j + 1 < n
    · have HGC := Lib.hid (gcYes_any j n wr HG.out hd hd8 hj64 HMN.out HM64.out hc)
      obtain ⟨b1, b2, b3, b4⟩ := best_spec M (by omega) hc
      obtain ⟨b5, b6⟩ := best_par M (by omega) hc
      have HGO := Lib.hid (fun (hx : M.getD j 0 < M.getD (best M d n j) 0) => (down_go (S := (M, p)) (by omega) ⟨hc, hx⟩).symm.trans HRR.out)
      have HST := Lib.hid (fun (hx : ¬ M.getD j 0 < M.getD (best M d n j) 0) => (down_stop (S := (M, p)) (fun hh => hx hh.2)).symm.trans HRR.out)
      generalize best M d n j = b at *
      obtain ⟨x, hx⟩ : ∃ x, x = M.getD b 0 := ⟨_, rfl⟩
      obtain ⟨y, hy⟩ : ∃ y, y = M.getD j 0 := ⟨_, rfl⟩
      rw [← hx, ← hy] at HGO HST
      have HX := Lib.hid hx
      have HY := Lib.hid hy
      have hbL : b < L.length := by omega
      have hjb : j < b := b6
      clear hx hy b1 b2 b3 b4 b5 b6 hc HNO
      go_wp2_with fail
      refine HGC.out.mono ?_
      rintro e w1 ⟨rfl, hb1⟩
      have HG1 := Lib.hid (HG.out.below hb1)
      have HB1 : Hid (But2 s g w w1) := Lib.hid (HB.out.trans (But2.ofBelow hb1 (Nat.le_refl _)))
      clear hb1 HG HB HGC
      obtain ⟨hs0, _⟩ := HG1.out.c0
      obtain ⟨hcx, _⟩ := HG1.out.at (k := b) (by rw [HML.out]; omega)
      obtain ⟨hcy, _⟩ := HG1.out.at (k := j) (by rw [HML.out]; omega)
      rw [← HX.out] at hcx
      rw [← HY.out] at hcy
      rw [HML.out] at hs0
      have hbz : (b : Int) < L.length := by omega
      have hjz : (j : Int) < L.length := by omega
      by_cases hlt : y < x
      · have hle : decide (x ≤ y) = false := decide_eq_false (by omega)
        have hlz : ¬ x ≤ y := by omega
        have HS := Lib.hid (fun (W : World) (hW : HpG base s g cap M d p W) => hswap_any j b W hW (by omega) (by rw [HML.out]; omega) (by rw [HML.out]; exact hbL) (by omega))
        have HE := Lib.hid (HGO.out (by omega))
        have HSL : Hid ((swapped M j b).length = L.length) := Lib.hid (by rw [swapped_length]; exact HML.out)
        clear HGO HST
        go_wp2_with fail
        go_quiet (fail)
        go_wp2_with fail
        refine (HS.out _ (HG1.out.drewN _)).mono ?_
        rintro e w2 ⟨rfl, hg2, hb2⟩
        have HG2 := Lib.hid hg2
        have HB2 : Hid (But2 s g w w2) := Lib.hid ((HB1.out.drewN _).trans hb2)
        clear hg2 hb2
        go_wp2_with fail
        go_roundw
        case rel => exact ⟨b, swapped M j b, p + 1, rfl, HE.out, HSL.out, by omega, HG2.out, HB2.out⟩
        case measure => simp [intOf]; omega
      · have hle : decide (x ≤ y) = true := decide_eq_true (by omega)
        have hlz : x ≤ y := by omega
        have HE := Lib.hid (HST.out (by omega))
        clear HGO HST
        have HRES : Hid (∀ t, HpP base s g cap d R w (w1.drewN t)) := Lib.hid (fun t => by
          rw [← HE.out]; exact ⟨HG1.out.drewN t, HB1.out.drewN t⟩)
        go_wp2_with fail
        go_quiet (fail)
        go_wp2_with fail
        refine bodyPost_ret (results_none rfl _ _ _) rfl ?_
        exact ⟨rfl, HRES.out _⟩
    · have HE : Hid ((M, p) = R) := Lib.hid ((down_stop (S := (M, p)) (fun hh => hc hh.1)).symm.trans HRR.out)
      have HG0 := Lib.hid (HNO.out j wr HG.out.c0.2.1 hj64 hc)
      clear hc HNO
      go_wp2_with fail
      refine HG0.out.mono ?_
      rintro e w1 ⟨rfl, hb1⟩
      have HRES : Hid (∀ t, HpP base s g cap d R w (w1.drewN t)) := Lib.hid (fun t => by
        rw [← HE.out]; exact ⟨(HG.out.below hb1).drewN t, (HB.out.trans (But2.ofBelow hb1 (Nat.le_refl _))).drewN t⟩)
      clear hb1 HG0
      go_wp2_with fail
      go_quiet (fail)
      go_wp2_with fail
      refine bodyPost_ret (results_none rfl _ _ _) rfl ?_
      exact ⟨rfl, HRES.out _⟩

end Go.Proofs.Ytipdfmedbcafpaa
