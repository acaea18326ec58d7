/- The program's count of pairs of ranks, by its contract. -/
import Derived.Test.YtjlldjekjnlcaaaInvP
import Derived.Test.YtjlldjekjnlcaaaRecs
import Derived.Test.YtjlldjekjnlcaaaIntS
import Derived.Shelf.Abstract
import Derived.LoopTactic
import Derived.Laws.BitsLemmas
namespace Go.Proofs.Ytjlldjekjnlcaaa
open Go.RowKit P Iv
set_option linter.unusedVariables false

theorem ranks_differ_any (a b : Int × Int) (W : World) : Calls Try.prog 63 #[.agg #[.int .i64 a.1, .int .i64 a.2], .agg #[.int .i64 b.1, .int .i64 b.2]] W fun e w' => e = .returned (.bool (dis a b)) ∧ Below W.heap.size W w' := by
  obtain ⟨x, y⟩ := a
  obtain ⟨u, v⟩ := b
  have HB := Lib.hid (((Below.refl W.heap.size W).alloc (Nat.le_refl _) (.cells #[.int .i64 x, .int .i64 y] 59)).alloc (by simp) (.cells #[.int .i64 u, .int .i64 v] 59))
  have HD : Hid ((decide (x < u) != decide (y < v)) = dis (x, y) (u, v)) := Lib.hid rfl
  go_enter Try.func63, Try.ntmps63
  go_wp2_with fail
  go_ret
  exact ⟨by rw [← HD.out]; first | rfl | simp, HB.out⟩

set_option maxRecDepth 100000 in
set_option maxHeartbeats 4000000 in
theorem countPairsR_any (f : Int × Int → Int × Int → Bool) (g : Nat) (eg : ∀ args w, (callFunc g args).run Try.prog w = .ok (.enter g args) w) (gb : Nat) (z : List (Int × Int)) (w : World) (hz : CellRow w gb (recs z)) (hn : z.length ≤ 64)
    (hp : ∀ (W : World) a b, Calls Try.prog g #[.agg #[.int .i64 a.1, .int .i64 a.2], .agg #[.int .i64 b.1, .int .i64 b.2]] W fun e w' => e = .returned (.bool (f a b)) ∧ Below W.heap.size W w') :
    Calls Try.prog 62 #[.slice (some ⟨gb, 0, none⟩) z.length z.length, .func (.func g) #[] #[]] w fun e w' => e = .returned (.int .i64 (cp f z : Nat)) ∧ Below w.heap.size w w' := by
  have HE := Lib.hid (fun (W : World) (hb : Below w.heap.size w W) j (a : Int × Int) (hj : z[j]? = some a) => by
    obtain ⟨h1, h2⟩ := recs_at hj
    have hr := hz.below hb hz.1
    exact (⟨(hr.2 _ _ h1).1, (hr.2 _ _ h2).1⟩ : W.cell? ⟨gb, j * 2, none⟩ = some (.int .i64 a.1) ∧ W.cell? ⟨gb, j * 2 + 1, none⟩ = some (.int .i64 a.2)))
  have hgb : gb < w.heap.size := hz.1
  have HPR := Lib.hid hp
  have HCD := Lib.hid (fun i x (h : z[i]? = some x) => cp_drop (f := f) h)
  have HKD := Lib.hid (fun x k y (h : z[k]? = some y) => count_drop (f := f x) h)
  have HLE : Hid (cp f z ≤ 4096) := Lib.hid (by have := cp_le f z; have : z.length * z.length ≤ 64 * 64 := Nat.mul_le_mul hn hn; omega)
  have HEND : Hid (∀ i, z.length ≤ i → cp f (z.drop i) = 0) := Lib.hid (fun i h => cp_end h)
  have HKEND : Hid (∀ x i, z.length ≤ i → (z.drop i).countP (f x) = 0) := Lib.hid (fun x i h => count_end h)
  have H0 : Hid (0 + cp f (z.drop 0) = cp f z) := Lib.hid (by simp)
  clear hp hz
  go_enter Try.func62, Try.ntmps62
  go_wp2_with fail
  go_loopw [5, 6, 7, 9, 12] (fun n _ _ _ i wr => ∃ (k m : Nat), k ≤ z.length ∧ i = .int .i64 k ∧ n = .int .i64 m ∧ Hid (m + cp f (z.drop k) = cp f z) ∧ Below w.heap.size w wr) (fun _ _ _ _ i _ => z.length - (intOf i).toNat)
  case atStart => exact ⟨0, 0, Nat.zero_le _, rfl, rfl, H0, Below.refl _ _⟩
  case round =>
    obtain ⟨k, m, hk, rfl, rfl, HM, hb⟩ := hrel
    have HB := Lib.hid hb
    clear hb
    by_cases hlt : k < z.length
    · obtain ⟨⟨x, x'⟩, hx⟩ : ∃ x, z[k]? = some x := ⟨_, List.getElem?_eq_getElem hlt⟩
      obtain ⟨hcx, hcx'⟩ := HE.out _ HB.out _ _ hx
      simp only at hcx hcx'
      have HCX := Lib.hid (HCD.out _ _ hx)
      have hw1 : IntKind.i64.wrap ((k : Int) + 1) = (k : Int) + 1 := by rw [IntKind.wrap_i64]; omega
      have hgbr : gb < wr.heap.size := Nat.lt_of_lt_of_le hgb HB.out.size
      obtain ⟨W1, hW1⟩ : ∃ W1, W1 = wr.alloc (.cells #[.int .i64 x, .int .i64 x'] 59) := ⟨_, rfl⟩
      have HX1 : Hid (CellRow W1 wr.heap.size [.int .i64 x, .int .i64 x'] ∧ Below w.heap.size w W1 ∧ w.heap.size ≤ wr.heap.size) := Lib.hid (by rw [hW1]; exact ⟨CellRow.of_row (heap_alloc_new wr _), HB.out.alloc HB.out.size _, HB.out.size⟩)
      clear hx
      by_cases hce : z.length = k + 1
      · have HZ : Hid (m = cp f z) := Lib.hid (by have h1 := HM.out; have h2 := HCX.out; have h3 := HEND.out (k + 1) (by omega); have h4 := HKEND.out (x, x') (k + 1) (by omega); omega)
        go_wp2_with fail
        rw [← hW1]
        clear hW1 hcx hcx'
        go_loopw [5, 9, 22] (fun n _ i w2 => i = .int .i64 0 ∧ n = .int .i64 m ∧ w2 = W1) (fun _ _ _ _ => 0)
        case atStart => exact ⟨rfl, rfl, rfl⟩
        case round =>
          obtain ⟨rfl, rfl, rfl⟩ := hrel
          go_wp2_with fail
          go_roundw
          case rel => exact ⟨k + 1, m, by omega, by go_num, rfl, Lib.hid (by have h1 := HZ.out; have h2 := HEND.out (k + 1) (by omega); omega), HX1.out.2.1⟩
          case measure => simp [intOf]; omega
      · go_wp2_with fail
        rw [← hW1]
        obtain ⟨gx, hgx⟩ : ∃ gx, gx = wr.heap.size := ⟨_, rfl⟩
        rw [← hgx] at HX1 ⊢
        clear hgx hW1 hcx hcx'
        go_loopw [5, 9, 22] (fun n _ i w2 => ∃ (j q : Nat), j ≤ z.length - (k + 1) ∧ i = .int .i64 j ∧ n = .int .i64 q ∧ Hid (q + (z.drop (k + 1 + j)).countP (f (x, x')) + cp f (z.drop (k + 1)) = cp f z) ∧ CellRow w2 gx [.int .i64 x, .int .i64 x'] ∧ Below w.heap.size w w2) (fun _ _ i _ => z.length - (intOf i).toNat)
        case atStart => exact ⟨0, m, Nat.zero_le _, rfl, rfl, Lib.hid (by have h1 := HM.out; have h2 := HCX.out; rw [Nat.add_zero]; omega), HX1.out.1, HX1.out.2.1⟩
        case round =>
          obtain ⟨j, q, hj, rfl, rfl, HQ, hrx, hb2⟩ := hrel
          have HB2 := Lib.hid hb2
          have HRX := Lib.hid hrx
          clear hb2 hrx
          by_cases hjl : j < z.length - (k + 1)
          · obtain ⟨⟨y, y'⟩, hy⟩ : ∃ y, z[k + 1 + j]? = some y := ⟨_, List.getElem?_eq_getElem (by omega)⟩
            obtain ⟨hcy, hcy'⟩ := HE.out _ HB2.out _ _ hy
            simp only at hcy hcy'
            rw [show (k + 1 + j) * 2 = (k + 1) * 2 + j * 2 by omega] at hcy hcy'
            have HKY := Lib.hid (HKD.out (x, x') _ _ hy)
            have HQ2 := Lib.hid (show q ≤ 4096 by have := HQ.out; have := HLE.out; omega)
            have hq2 := HQ2.out
            have hrx0 := (HRX.out.2 0 _ rfl).1
            have hrx1 := (HRX.out.2 1 _ rfl).1
            have hgxr := HRX.out.1
            obtain ⟨W2, hW2⟩ : ∃ W2, W2 = wr.alloc (.cells #[.int .i64 y, .int .i64 y'] 59) := ⟨_, rfl⟩
            have HC := Lib.hid (fun (W : World) => HPR.out W (x, x') (y, y'))
            clear hy
            have HBW : Hid (Below w.heap.size w W2 ∧ CellRow W2 gx [.int .i64 x, .int .i64 x']) := Lib.hid (by rw [hW2]; exact ⟨HB2.out.alloc HB2.out.size _, HRX.out.same (heap_alloc_old wr _ HRX.out.1) (by simp)⟩)
            go_wp2_with fail
            rw [← hW2]
            clear hW2 hrx0 hrx1 hcy hcy' hgxr
            by_cases hf : f (x, x') (y, y') = true
            · rw [hf] at HC HKY
              refine (HC.out _).mono ?_
              rintro e w3 ⟨rfl, hb3⟩
              have HB3 := Lib.hid hb3
              clear hb3
              go_wp2_with fail
              go_roundw
              case rel => exact ⟨j + 1, q + 1, by omega, by go_num, by go_num, Lib.hid (by have h1 := HQ.out; have h2 := HKY.out; simp at h2; rw [show k + 1 + (j + 1) = k + 1 + j + 1 by omega]; omega), HBW.out.2.below HB3.out HBW.out.2.1, HBW.out.1.trans (HB3.out.mono HBW.out.1.size)⟩
              case measure => simp [intOf]; omega
            · have hf2 : f (x, x') (y, y') = false := by simpa using hf
              rw [hf2] at HC HKY
              clear hf hf2
              refine (HC.out _).mono ?_
              rintro e w3 ⟨rfl, hb3⟩
              have HB3 := Lib.hid hb3
              clear hb3
              go_wp2_with fail
              go_roundw
              case rel => exact ⟨j + 1, q, by omega, by go_num, rfl, Lib.hid (by have h1 := HQ.out; have h2 := HKY.out; simp at h2; rw [show k + 1 + (j + 1) = k + 1 + j + 1 by omega]; omega), HBW.out.2.below HB3.out HBW.out.2.1, HBW.out.1.trans (HB3.out.mono HBW.out.1.size)⟩
              case measure => simp [intOf]; omega
          · go_wp2_with fail
            go_roundw
            case rel => exact ⟨k + 1, q, by omega, by go_num, rfl, Lib.hid (by have h1 := HQ.out; have h2 := HKEND.out (x, x') (k + 1 + j) (by omega); omega), HB2.out⟩
            case measure => simp [intOf]; omega
    · obtain rfl : k = z.length := by omega
      have hm : m = cp f z := by have h1 := HM.out; have h2 := HEND.out z.length (Nat.le_refl _); omega
      obtain rfl := hm
      go_wp2_with fail
      go_ret
      exact ⟨rfl, HB.out⟩

end Go.Proofs.Ytjlldjekjnlcaaa
