/- The program's insertion of one element, and of all elements for each gap, by contracts. -/
import Derived.Test.YtipdfmedbcafpaaCnt
namespace Go.Proofs.Ytipdfmedbcafpaa
open Go.RowKit P El
set_option linter.unusedVariables false

/-- The loop's word at k. -/
structure CIns (x : Int) (gap base s g cap i : Nat) (M : List Int) (c m q k : Nat) (M' : List Int) (c' m' : Nat) (w W : World) : Prop where
  run : sh x gap M' k c' m' = sh x gap M i c m
  len : M'.length = M.length
  le : k ≤ i
  cb : c' + k ≤ c + i
  mb : m' + k ≤ m + i
  cnt : Cnt base s g cap M' c' m' q W
  b : But2 s g w W

set_option maxRecDepth 100000 in
set_option maxHeartbeats 4000000 in
theorem insert_any {base s g cap : Nat} {M : List Int} {c m q : Nat} (i gap : Nat) (w : World) (h : Cnt base s g cap M c m q w) (hi : i < M.length) (h64 : M.length ≤ 64) (hg0 : 0 < gap) (hc0 : c ≤ 100000) (hm0 : m ≤ 100000) :
    Calls Try.prog 164 #[.pointer (some ⟨s, 0, none⟩), .int .i64 (i : Int), .int .i64 (gap : Int)] w fun e w' =>
      e = .returned (.tuple #[]) ∧ CntP base s g cap (insAt gap i (M, c, m)).1 (insAt gap i (M, c, m)).2.1 (insAt gap i (M, c, m)).2.2 q w w' := by
  obtain ⟨x, hx⟩ : ∃ x, x = M.getD i 0 := ⟨_, rfl⟩
  obtain ⟨hcx, _⟩ := h.at hi
  rw [← hx] at hcx
  obtain ⟨hc00, _⟩ := h.c0
  have HK0 : Hid (CIns x gap base s g cap i M c m q i M c m w w) := Lib.hid ⟨rfl, rfl, Nat.le_refl _, Nat.le_refl _, Nat.le_refl _, h, But2.refl _ _ _⟩
  have HAT : Hid (∀ M1 j c1 m1, sh x gap M i c m = (M1, j, c1, m1) → insAt gap i (M, c, m) = if j = i then (M1, c1, m1) else (M1.set j x, c1, m1 + 1)) := Lib.hid (fun M1 j c1 m1 hr => by
    rw [hx] at hr ⊢
    exact insAt_of (S := (M, c, m)) hr)
  have hiz : (i : Int) < M.length := by omega
  clear hx h
  go_enter Try.func164, Try.ntmps164
  go_wp2_with fail
  go_loopw [7] (fun kv ws => ∃ (k : Nat) (M' : List Int) (c' m' : Nat), kv = .int .i64 k ∧ CIns x gap base s g cap i M c m q k M' c' m' w ws) (fun kv _ => (intOf kv).toNat)
  case atStart => exact ⟨i, M, c, m, rfl, HK0.out⟩
  case round =>
    obtain ⟨k, M', c', m', rfl, hk⟩ := hrel
    have HK := Lib.hid hk
    have hkl : k < M'.length := by have := hk.le; have := hk.len; omega
    have hk64 : k ≤ 64 := by have := hk.le; omega
    have hc' : c' ≤ 110000 := by have := hk.cb; omega
    have hm' : m' ≤ 110000 := by have := hk.mb; omega
    obtain ⟨hs0, _⟩ := hk.cnt.c0
    clear hk HK0 hcx hc00
    -- what follows when the place is found
    have HEND : Hid (∀ c1 W, sh x gap M i c m = (M', k, c1, m') → Cnt base s g cap M' c1 m' q W → But2 s g w W →
        (k = i → CntP base s g cap (insAt gap i (M, c, m)).1 (insAt gap i (M, c, m)).2.1 (insAt gap i (M, c, m)).2.2 q w W) ∧
        (k ≠ i → ∀ W', CntP base s g cap (M'.set k x) c1 (m' + 1) q W W' → CntP base s g cap (insAt gap i (M, c, m)).1 (insAt gap i (M, c, m)).2.1 (insAt gap i (M, c, m)).2.2 q w W')) := Lib.hid (fun c1 W hr hcn hb => by
      rw [HAT.out _ _ _ _ hr]
      refine ⟨fun e => ?_, fun e W' h' => ?_⟩
      · rw [if_pos e]; exact ⟨hcn, hb⟩
      · rw [if_neg e]; exact ⟨h'.1, hb.trans h'.2⟩)
    by_cases hgk : gap ≤ k
    · obtain ⟨j, hj⟩ : ∃ j, j = k - gap := ⟨_, rfl⟩
      have hws : IntKind.i64.wrap ((k : Int) - (gap : Int)) = (j : Int) := by rw [IntKind.wrap_i64]; omega
      have hjl : j < M'.length := by omega
      obtain ⟨y, hy⟩ : ∃ y, y = M'.getD j 0 := ⟨_, rfl⟩
      obtain ⟨hcJ, _⟩ := HK.out.cnt.at hjl
      rw [← hy] at hcJ
      have HJ := Lib.hid hj
      have HY := Lib.hid hy
      have hjz : (j : Int) < M'.length := by omega
      clear hj hy
      have HL := Lib.hid (isLess_any x y wr HK.out.cnt (by omega))
      by_cases hxy : x < y
      · rw [decide_eq_true hxy] at HL
        go_wp2_with fail
        refine (HL.out).mono ?_
        rintro e w1 ⟨rfl, hcn, hb⟩
        obtain ⟨hs1, _⟩ := hcn.c0
        obtain ⟨hcJ1, _⟩ := hcn.at hjl
        rw [← HY.out] at hcJ1
        have HM := Lib.hid (move_any y k w1 hcn (by omega) hkl)
        have HB := Lib.hid hb
        clear hcn hb hs0 hcJ HL HEND
        go_wp2_with fail
        refine (HM.out).mono ?_
        rintro e w2 ⟨rfl, hcn2, hb2⟩
        have HN : Hid (CIns x gap base s g cap i M c m q j (M'.set k y) (c' + 1) (m' + 1) w w2) := Lib.hid (by
          have h := HK.out
          have h1 := h.le
          have h2 := h.cb
          have h3 := h.mb
          have h4 := h.len
          have hjj := HJ.out
          have hyy := HY.out
          refine ⟨?_, by rw [List.length_set]; exact h4, by omega, by omega, by omega, hcn2, h.b.trans (HB.out.trans hb2)⟩
          rw [← h.run, sh_go c' m' hg0 hgk (by rw [← hjj, ← hyy]; exact hxy), ← hjj, ← hyy])
        clear hcn2 hb2 hs1 hcJ1 HM HB HK
        go_wp2_with fail
        go_roundw
        case rel => exact ⟨j, _, c' + 1, m' + 1, rfl, HN.out⟩
        case measure => have := HJ.out; simp [intOf]; omega
      · rw [decide_eq_false hxy] at HL
        have HST := Lib.hid (show sh x gap M i c m = (M', k, c' + 1, m') by rw [← HK.out.run, sh_stop c' m' hg0 hgk (by rw [← HJ.out, ← HY.out]; exact hxy)])
        go_wp2_with fail
        refine (HL.out).mono ?_
        rintro e w1 ⟨rfl, hcn, hb⟩
        have HE := Lib.hid (HEND.out (c' + 1) w1 HST.out hcn (HK.out.b.trans hb))
        have HM := Lib.hid (move_any x k w1 hcn (by omega) hkl)
        have hki2 := HK.out.le
        clear hcn hb hs0 hcJ HL HEND HST HK
        by_cases hki : k = i
        · have HN := Lib.hid (HE.out.1 hki)
          have hlt : ¬ k < i := by omega
          clear HE HM
          go_wp2_with fail
          go_end0
          exact ⟨rfl, HN.out⟩
        · have HN := Lib.hid (HE.out.2 hki)
          have hlt : k < i := by omega
          clear HE
          go_wp2_with fail
          refine (HM.out).mono ?_
          rintro e w2 ⟨rfl, h2⟩
          have HN2 := Lib.hid (HN.out w2 h2)
          clear h2 HM HN
          go_wp2_with fail
          go_end0
          exact ⟨rfl, HN2.out⟩
    · have HST := Lib.hid (show sh x gap M i c m = (M', k, c', m') by rw [← HK.out.run, sh_end c' m' (by omega)])
      have HE := Lib.hid (HEND.out c' wr HST.out HK.out.cnt HK.out.b)
      have HM := Lib.hid (move_any x k wr HK.out.cnt (by omega) hkl)
      have hki2 := HK.out.le
      clear hs0 HEND HST HK
      by_cases hki : k = i
      · have HN := Lib.hid (HE.out.1 hki)
        have hlt : ¬ k < i := by omega
        clear HE HM
        go_wp2_with fail
        go_end0
        exact ⟨rfl, HN.out⟩
      · have HN := Lib.hid (HE.out.2 hki)
        have hlt : k < i := by omega
        clear HE
        go_wp2_with fail
        refine (HM.out).mono ?_
        rintro e w2 ⟨rfl, h2⟩
        have HN2 := Lib.hid (HN.out w2 h2)
        clear h2 HM HN
        go_wp2_with fail
        go_end0
        exact ⟨rfl, HN2.out⟩

end Go.Proofs.Ytipdfmedbcafpaa
