/- The model's l4Insert, by its contract. -/
import Derived.Test.YtjmmhakmidddoaaRetI
import Derived.Test.YtjmmhakmidddoaaElem2
import Derived.BigRegion
import Derived.BigQuiet
import Derived.Deep.QuietTactic
import Derived.Laws.BitsLemmas
namespace Go.Proofs.Ytjmmhakmidddoaa
open Go.RowKit P El
set_option linter.unusedVariables false

/-- The outer loop's word at i. -/
structure InsO (L : List Int) (gap g i : Nat) (M : List Int) (c m : Nat) (w W : World) : Prop where
  run : insN gap i (L.length - i) (M, c, m) = gapF (L, 0, 0) gap
  len : M.length = L.length
  le : i ≤ 64
  cb : c ≤ 64 * i
  mb : m ≤ 65 * i
  row : CellRow W g (ints M)
  but : But g w W
/-- The inner loop's word at k. -/
structure InsK (x : Int) (gap g i : Nat) (M : List Int) (c m k : Nat) (M' : List Int) (c' m' : Nat) (w W : World) : Prop where
  run : sh x gap M' k c' m' = sh x gap M i c m
  len : M'.length = M.length
  le : k ≤ i
  cb : c' + k ≤ c + i
  mb : m' + k ≤ m + i
  row : CellRow W g (ints M')
  but : But g w W

theorem InsO.next {L : List Int} {gap g i : Nat} {M : List Int} {c m : Nat} {w W0 W : World} (h : InsO L gap g i M c m w W0) (hi : i < L.length) (h64 : L.length ≤ 64) {M1 : List Int} {j c1 m1 : Nat} (hr : sh (M.getD i 0) gap M i c m = (M1, j, c1, m1)) (row : CellRow W g (ints M1)) (but : But g w W) :
    (j = i → InsO L gap g (i + 1) M1 c1 m1 w W) ∧ (j ≠ i → InsO L gap g (i + 1) (M1.set j (M.getD i 0)) c1 (m1 + 1) w (W.setCell ⟨g, j, none⟩ (.int .i64 (M.getD i 0)))) := by
  have hl := sh_length (M.getD i 0) gap M i c m
  have hb := sh_bounds (M.getD i 0) gap M i c m
  have hat := insAt_of (g := gap) (i := i) (S := (M, c, m)) hr
  rw [hr] at hl hb
  simp only at hl hb hat
  have hrun := h.run
  have hc := h.cb
  have hm := h.mb
  have hlen := h.len
  rw [show L.length - i = L.length - (i + 1) + 1 by omega, insN_succ, hat] at hrun
  refine ⟨fun e => ?_, fun e => ?_⟩
  · rw [if_pos e] at hrun
    exact ⟨hrun, by omega, by omega, by omega, by omega, row, but⟩
  · rw [if_neg e] at hrun
    exact ⟨hrun, by rw [List.length_set]; omega, by omega, by omega, by omega, by rw [← ints_set]; exact row.set j _ (by rw [ints_length]; omega), but.setCell j _⟩

set_option maxRecDepth 100000 in
set_option maxHeartbeats 4000000 in
theorem l4Insert_any (g cap gap : Nat) (L : List Int) (w : World) (hrow : CellRow w g (ints L)) (h64 : L.length ≤ 64) (hg0 : 0 < gap) (hg1 : gap ≤ 64) :
    Calls Try.prog 84 #[.slice (some ⟨g, 0, none⟩) L.length cap, .int .i64 (gap : Int)] w fun e w' =>
      e = .returned (.tuple #[.int .i64 ((gapF (L, 0, 0) gap).2.1 : Nat), .int .i64 ((gapF (L, 0, 0) gap).2.2 : Nat)]) ∧ CellRow w' g (ints (gapF (L, 0, 0) gap).1) ∧ But g w w' := by
  have HST : Hid (InsO L gap g gap L 0 0 w w) := Lib.hid ⟨rfl, rfl, hg1, Nat.zero_le _, Nat.zero_le _, hrow, But.refl _ _⟩
  generalize hR : gapF (L, 0, 0) gap = R at *
  have HR := Lib.hid hR
  clear hrow hR
  go_enter Try.func84, Try.ntmps84
  go_wp2_with fail
  go_loopw [6, 7, 8, 9, 10] (fun cv mv iv _ _ wr => ∃ (i : Nat) (M : List Int) (c m : Nat), cv = .int .i64 c ∧ mv = .int .i64 m ∧ iv = .int .i64 i ∧ InsO L gap g i M c m w wr) (fun _ _ iv _ _ _ => L.length - (intOf iv).toNat)
  case atStart => exact ⟨gap, L, 0, 0, rfl, rfl, rfl, HST.out⟩
  case round =>
    obtain ⟨i, M, c, m, rfl, rfl, rfl, ho⟩ := hrel
    have HO := Lib.hid ho
    have hc : c ≤ 8000 := by have := ho.cb; have := ho.le; omega
    have hm : m ≤ 8000 := by have := ho.mb; have := ho.le; omega
    have hi64 := ho.le
    clear ho HST
    by_cases hlt : i < L.length
    · obtain ⟨x, hx⟩ : ∃ x, x = M.getD i 0 := ⟨_, rfl⟩
      have hlM := HO.out.len
      have hci := HO.out.row.2 i _ (ints_at (at_getD (by omega)))
      rw [← hx] at hci
      obtain ⟨hcx, _⟩ := hci
      have HX := Lib.hid hx
      have HK0 : Hid (InsK x gap g i M c m i M c m w wr) := Lib.hid ⟨rfl, rfl, Nat.le_refl _, Nat.le_refl _, Nat.le_refl _, HO.out.row, HO.out.but⟩
      have HLM := Lib.hid hlM
      clear hx hlM
      go_wp2_with fail
      go_loopw [6, 7, 10] (fun cv mv kv ws => ∃ (k : Nat) (M' : List Int) (c' m' : Nat), cv = .int .i64 c' ∧ mv = .int .i64 m' ∧ kv = .int .i64 k ∧ InsK x gap g i M c m k M' c' m' w ws) (fun _ _ kv _ => (intOf kv).toNat)
      case atStart => exact ⟨i, M, c, m, rfl, rfl, rfl, HK0.out⟩
      case round =>
        obtain ⟨k, M', c', m', rfl, rfl, rfl, hk⟩ := hrel
        have HK := Lib.hid hk
        have hkl : k < L.length := by have := hk.le; omega
        have hc' : c' ≤ 9000 := by have := hk.cb; omega
        have hm' : m' ≤ 9000 := by have := hk.mb; omega
        clear hk HK0
        -- what follows when the place is found
        have HEND : Hid (∀ c1, sh x gap M i c m = (M', k, c1, m') → (k = i → InsO L gap g (i + 1) M' c1 m' w wr) ∧ (k ≠ i → InsO L gap g (i + 1) (M'.set k x) c1 (m' + 1) w (wr.setCell ⟨g, k, none⟩ (.int .i64 x)))) := Lib.hid (fun c1 hr => by
          have := HO.out.next hlt h64 (by rw [← HX.out]; exact hr) HK.out.row HK.out.but
          rw [← HX.out] at this; exact this)
        have hck := HK.out.row.2 k _ (ints_at (at_getD (by have := HK.out.len; have := HLM.out; omega)))
        obtain ⟨hcK, hfK⟩ := hck
        by_cases hgk : gap ≤ k
        · obtain ⟨j, hj⟩ : ∃ j, j = k - gap := ⟨_, rfl⟩
          have hws : IntKind.i64.wrap ((k : Int) - (gap : Int)) = (j : Int) := by rw [IntKind.wrap_i64]; omega
          have hjl : j < L.length := by omega
          obtain ⟨y, hy⟩ : ∃ y, y = M'.getD j 0 := ⟨_, rfl⟩
          have hcj := HK.out.row.2 j _ (ints_at (at_getD (by have := HK.out.len; have := HLM.out; omega)))
          rw [← hy] at hcj
          obtain ⟨hcJ, _⟩ := hcj
          have HJ := Lib.hid hj
          have HY := Lib.hid hy
          have hjz : (j : Int) < L.length := by omega
          have hkz : (k : Int) < L.length := by omega
          clear hj hy
          by_cases hxy : x < y
          · have hle : decide (y ≤ x) = false := decide_eq_false (by omega)
            have HN : Hid (InsK x gap g i M c m j (M'.set k y) (c' + 1) (m' + 1) w (wr.setCell ⟨g, k, none⟩ (.int .i64 y))) := Lib.hid (by
              have h := HK.out
              have hlM := HLM.out
              have h1 := h.le
              have h2 := h.cb
              have h3 := h.mb
              have h4 := h.len
              have hjj := HJ.out
              have hyy := HY.out
              refine ⟨?_, by rw [List.length_set]; exact h4, by omega, by omega, by omega, by rw [← ints_set]; exact h.row.set k _ (by rw [ints_length]; omega), h.but.setCell k _⟩
              rw [← h.run, sh_go c' m' hg0 hgk (by rw [← hjj, ← hyy]; exact hxy), ← hjj, ← hyy])
            clear HEND
            go_wp2_with fail
            go_roundw
            case rel => exact ⟨j, _, c' + 1, m' + 1, by go_num, by go_num, rfl, HN.out⟩
            case measure => have := HJ.out; simp [intOf]; omega
          · have hle : decide (y ≤ x) = true := decide_eq_true (by omega)
            have HE := Lib.hid (HEND.out (c' + 1) (by rw [← HK.out.run, sh_stop c' m' hg0 hgk (by rw [← HJ.out, ← HY.out]; exact hxy)]))
            clear HEND
            by_cases hki : k = i
            · have HN := Lib.hid (HE.out.1 hki)
              have hne : ((k : Int) == i) = true := by simp; omega
              clear HE
              subst hki
              go_wp2_with fail
              go_roundw
              case rel => exact ⟨k + 1, _, c' + 1, m', by go_num, rfl, by go_num, HN.out⟩
              case measure => simp [intOf]; omega
            · have HN := Lib.hid (HE.out.2 hki)
              have hne : ((k : Int) == i) = false := by simp; omega
              clear HE
              go_wp2_with fail
              go_roundw
              case rel => exact ⟨i + 1, _, c' + 1, m' + 1, by go_num, by go_num, by go_num, HN.out⟩
              case measure => simp [intOf]; omega
        · have HE := Lib.hid (HEND.out c' (by rw [← HK.out.run, sh_end c' m' (by omega)]))
          have hkz : (k : Int) < L.length := by omega
          clear HEND
          by_cases hki : k = i
          · have HN := Lib.hid (HE.out.1 hki)
            have hne : ((k : Int) == i) = true := by simp; omega
            clear HE
            subst hki
            go_wp2_with fail
            go_roundw
            case rel => exact ⟨k + 1, _, c', m', rfl, rfl, by go_num, HN.out⟩
            case measure => simp [intOf]; omega
          · have HN := Lib.hid (HE.out.2 hki)
            have hne : ((k : Int) == i) = false := by simp; omega
            clear HE
            go_wp2_with fail
            go_roundw
            case rel => exact ⟨i + 1, _, c', m' + 1, rfl, by go_num, by go_num, HN.out⟩
            case measure => simp [intOf]; omega
    · have HRES : Hid ((Ending.returned (.tuple #[.int .i64 (c : Int), .int .i64 (m : Int)]) = .returned (.tuple #[.int .i64 (R.2.1 : Nat), .int .i64 (R.2.2 : Nat)])) ∧ CellRow wr g (ints R.1) ∧ But g w wr) := Lib.hid (by
        have h := HO.out
        have hr := h.run
        rw [show L.length - i = 0 by omega, HR.out] at hr
        rw [← hr]
        exact ⟨rfl, h.row, h.but⟩)
      go_wp2_with fail
      go_ret2
      exact HRES.out

end Go.Proofs.Ytjmmhakmidddoaa
