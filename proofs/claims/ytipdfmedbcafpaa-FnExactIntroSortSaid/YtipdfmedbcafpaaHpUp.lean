/- The program's heap: the parent, the sifting up, the building, by contracts. -/
import Derived.Test.YtipdfmedbcafpaaHpDn
namespace Go.Proofs.Ytipdfmedbcafpaa
open Go.RowKit P El Hp
set_option linter.unusedVariables false

theorem parX_any (x r : Int) (d : Nat) (w : World) (hx : -1 ≤ x) (hx2 : x ≤ 64) (hd : 2 ≤ d) (hd8 : d ≤ 8) (hr : r = (x - 1).tdiv (d : Int)) (hr1 : -1 ≤ r) (hr2 : r ≤ 64) :
    Calls Try.prog 165 #[.int .i64 x, .int .i64 (d : Int)] w fun e w' => e = .returned (.int .i64 r) ∧ w' = w := by
  have hw : IntKind.i64.wrap ((x - 1).tdiv (d : Int)) = r := by rw [← hr, IntKind.wrap_i64]; omega
  by_cases h1 : 1 ≤ x
  · have hw2 : IntKind.i64.wrap ((x - 1) / (d : Int)) = r := by rw [← hw, Int.tdiv_eq_ediv_of_nonneg (by omega)]
    clear hr
    go_enter Try.func165, Try.ntmps165
    go_wp2
    go_ret
    exact ⟨rfl, rfl⟩
  · clear hr
    go_enter Try.func165, Try.ntmps165
    go_wp2
    go_ret
    exact ⟨rfl, rfl⟩
theorem parent_any (i d : Nat) (w : World) (hi : i ≤ 64) (hd : 2 ≤ d) (hd8 : d ≤ 8) :
    Calls Try.prog 165 #[.int .i64 (i : Int), .int .i64 (d : Int)] w fun e w' => e = .returned (.int .i64 ((par d i : Nat) : Int)) ∧ w' = w := by
  have h1 : ((par d i : Nat) : Int) = ((i : Int) - 1).tdiv (d : Int) := by
    by_cases h : i = 0
    · subst h
      have : d = 2 ∨ d = 3 ∨ d = 4 ∨ d = 5 ∨ d = 6 ∨ d = 7 ∨ d = 8 := by omega
      rcases this with rfl | rfl | rfl | rfl | rfl | rfl | rfl <;> decide
    · rw [show (i : Int) - 1 = ((i - 1 : Nat) : Int) by omega]; rfl
  have h2 : par d i ≤ 64 := by unfold par; have := Nat.div_le_self (i - 1) d; omega
  exact parX_any _ _ d w (by omega) (by omega) hd hd8 h1 (by omega) (by omega)

/-- Building, of nothing. -/
theorem bdNo_any {s d : Nat} {a : Option Addr} {c : Nat} (w : World) (h0 : w.cell? ⟨s, 0, none⟩ = some (.slice a 0 c)) (hs : s < w.heap.size) (h : w.cell? ⟨s, 1, none⟩ = some (.int .i64 (d : Int))) (hd : 2 ≤ d) (hd8 : d ≤ 8) :
    Calls Try.prog 156 #[.pointer (some ⟨s, 0, none⟩)] w fun e w' => e = .returned (.tuple #[]) ∧ Below w.heap.size w w' := by
  obtain ⟨r, hr⟩ : ∃ r, r = ((-1 : Int) - 1).tdiv (d : Int) := ⟨_, rfl⟩
  have hr2 : r = -1 ∨ r = 0 := by
    rw [hr]
    have : d = 2 ∨ d = 3 ∨ d = 4 ∨ d = 5 ∨ d = 6 ∨ d = 7 ∨ d = 8 := by omega
    rcases this with rfl | rfl | rfl | rfl | rfl | rfl | rfl <;> decide
  have HPB := Lib.hid (fun W => parX_any (-1) r d W (by omega) (by omega) hd hd8 hr (by omega) (by omega))
  have HSD := Lib.hid (fun W (hW : W.cell? ⟨s, 1, none⟩ = some (.int .i64 (d : Int))) => sdNo_any 0 0 W hW hd8 (by omega) (by omega) (by omega))
  have HSS := Lib.hid hs
  have H1 := Lib.hid h
  have hq1 : decide (r = -1) = decide (r = -1) := rfl
  clear hr hq1 hs
  go_enter Try.func156, Try.ntmps156
  go_wp2_with fail
  go_quiet ((go_at_call 165; exact Calls.quiet_of_same (HPB.out _)))
  go_wp2_with fail
  go_loopw [2] (fun iv wr => (iv = .int .i64 r ∨ iv = .int .i64 (-1)) ∧ Below w.heap.size w wr) (fun iv _ => (intOf iv + 1).toNat)
  case atStart => exact ⟨.inl rfl, ⟨rfl, rfl, rfl, Nat.le_refl _, fun _ _ => rfl⟩⟩
  case round =>
    obtain ⟨hiv, hb⟩ := hrel
    have HB := Lib.hid hb
    have hiv2 : u2 = .int .i64 (-1) ∨ u2 = .int .i64 0 := by
      rcases hiv with e | e
      · rcases hr2 with e2 | e2 <;> rw [e2] at e <;> simp [e]
      · exact .inl e
    clear hb hiv hr2
    rcases hiv2 with rfl | rfl
    · go_wp2_with fail
      go_end0
      exact ⟨rfl, HB.out⟩
    · have hc0 := (HB.out.cell (p := ⟨s, 0, none⟩) HSS.out).trans h0
      have HC1 := Lib.hid ((HB.out.cell (p := ⟨s, 1, none⟩) HSS.out).trans H1.out)
      clear h h0
      go_wp2_with fail
      refine (HSD.out _ HC1.out).mono ?_
      rintro e w2 ⟨rfl, hb2⟩
      have HB2 : Hid (Below w.heap.size w w2) := Lib.hid (HB.out.trans (hb2.mono HB.out.size))
      clear hb2
      go_wp2_with fail
      go_roundw
      case rel => exact ⟨.inr rfl, HB2.out⟩
      case measure => simp [intOf]

set_option maxRecDepth 100000 in
set_option maxHeartbeats 4000000 in
theorem bd_any {base s g cap d q : Nat} {L : List Int} (w : World) (h : HpG base s g cap L d q w) (hd : 2 ≤ d) (hd8 : d ≤ 8) (h0 : 0 < L.length) (hl : L.length ≤ 64) (hq : q ≤ 1000) :
    Calls Try.prog 156 #[.pointer (some ⟨s, 0, none⟩)] w fun e w' => e = .returned (.tuple #[]) ∧ HpP base s g cap d (bl d L.length L.length (L, q)) w w' := by
  obtain ⟨n, hn⟩ : ∃ n, n = L.length := ⟨_, rfl⟩
  obtain ⟨pm, hpm⟩ : ∃ pm, pm = par d (n - 1) := ⟨_, rfl⟩
  have hpmn : pm < n := by
    rw [hpm]; unfold par; have := Nat.div_le_self (n - 1 - 1) d; omega
  have hst : bl d n n (L, q) = bl d n (pm + 1) (L, q) := by
    obtain ⟨k, hk⟩ : ∃ k, n = pm + 1 + k := ⟨n - (pm + 1), by omega⟩
    have := bl_skip (d := d) (n := n) (m := pm + 1) (L, q) k (fun i h1 h2 h3 => by
      have h4 := (par_iff (d := d) (i := n - 1) (j := pm) (by omega) (by have := le_mul (d := d) (j := i) (by omega); omega)).1 hpm.symm
      have h5 : d * (pm + 1) ≤ d * i := Nat.mul_le_mul_left d h1
      rw [Nat.mul_add] at h5; omega)
    rw [← this, ← hk]
  rw [← hn, hst]
  obtain ⟨R, hR⟩ : ∃ R, R = bl d n (pm + 1) (L, q) := ⟨_, rfl⟩
  have hRq : R.2 ≤ 6000 := by
    have h1 := (bl_count (d := d) (n := n) (by omega) (pm + 1) (L, q)).2
    have h2 : (pm + 1) * n ≤ 64 * 64 := Nat.mul_le_mul (by omega) (by omega)
    rw [← hR] at h1; simp only at h1; omega
  have H := Lib.hid h
  have HR := Lib.hid hR.symm
  have HPA := Lib.hid (fun W => parent_any (n - 1) d W (by omega) hd hd8)
  have HSD := Lib.hid (fun (j : Nat) (M : List Int) (p : Nat) (W : World) (hW : HpG base s g cap M d p W) (hj : j ≤ n) (hM : M.length = n) (hp : p ≤ 6000) => sd_any j n W hW hd hd8 (by omega) (by omega) (by omega) (by omega))
  obtain ⟨hs0, hs1, _⟩ := h.c0
  have HN := Lib.hid hn
  rw [← hn] at hs0 hl h0
  rw [← hR]
  have hwn : IntKind.i64.wrap ((n : Int) - 1) = ((n - 1 : Nat) : Int) := by rw [IntKind.wrap_i64]; omega
  have hne1 : (n : Int) - 1 = ((n - 1 : Nat) : Int) := by omega
  rw [← hpm] at HPA
  have HPB : Hid (∀ W, Calls Try.prog 165 #[.int .i64 ((n : Int) - 1), .int .i64 (d : Int)] W fun e w' => e = .returned (.int .i64 (pm : Int)) ∧ w' = W) := Lib.hid (fun W => by rw [hne1]; exact HPA.out W)
  clear h hR hst hpm hn hne1 hwn HPA
  go_enter Try.func156, Try.ntmps156
  go_wp2_with fail
  go_quiet ((go_at_call 165; exact Calls.quiet_of_same (HPB.out _)))
  go_wp2_with fail
  go_loopw [2] (fun iv wr => ∃ (m : Nat) (M : List Int) (p : Nat), iv = .int .i64 ((m : Int) - 1) ∧ bl d n m (M, p) = R ∧ M.length = n ∧ m ≤ n ∧ HpG base s g cap M d p wr ∧ But2 s g w wr) (fun iv _ => (intOf iv + 1).toNat)
  case atStart => exact ⟨pm + 1, L, q, by go_num, HR.out, HN.out.symm, by omega, H.out.drewN _, (But2.refl _ _ _).drewN _⟩
  case round =>
    obtain ⟨m, M, p, rfl, hr, hML, hm, hg, hb⟩ := hrel
    have HG := Lib.hid hg
    have HB := Lib.hid hb
    have HML := Lib.hid hML
    have hp : p ≤ 6000 := by have := (bl_count (d := d) (n := n) (by omega) m (M, p)).1; rw [hr] at this; simp only at this; omega
    obtain ⟨hs0, _⟩ := HG.out.c0
    rw [hML] at hs0
    have HRR := Lib.hid hr
    clear hr hg hb H HR hML
    cases m with
    | zero =>
      have HRES : Hid (HpP base s g cap d R w wr) := Lib.hid (by rw [← HRR.out]; exact ⟨HG.out, HB.out⟩)
      go_wp2_with fail
      go_end0
      exact ⟨rfl, HRES.out⟩
    | succ j =>
      have hj : ((j + 1 : Nat) : Int) - 1 = (j : Int) := by omega
      rw [hj]
      have HD := Lib.hid (HSD.out j M p wr HG.out (by omega) HML.out hp)
      have HLN : Hid ((down d n j (M, p)).1.length = n) := Lib.hid (by rw [down_length (by omega)]; exact HML.out)
      have HRR2 : Hid (bl d n j ((down d n j (M, p)).1, (down d n j (M, p)).2) = R) := Lib.hid HRR.out
      clear HSD hj
      go_wp2_with fail
      refine HD.out.mono ?_
      rintro e w2 ⟨rfl, hg2, hb2⟩
      have HG2 := Lib.hid hg2
      have HB2 : Hid (But2 s g w w2) := Lib.hid (HB.out.trans hb2)
      clear hg2 hb2
      go_wp2_with fail
      go_roundw
      case rel => exact ⟨j, _, _, by go_num, HRR2.out, HLN.out, by omega, HG2.out, HB2.out⟩
      case measure => simp [intOf]

end Go.Proofs.Ytipdfmedbcafpaa
