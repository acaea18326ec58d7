/- The program's count of pairs at numbers, and CountInversions, by their contracts. -/
import Derived.Test.YtjlldjekjnlcaaaInvP
import Derived.Test.YtjlldjekjnlcaaaIList
import Derived.Test.YtjlldjekjnlcaaaIntS
import Derived.Shelf.Abstract
import Derived.LoopTactic
import Derived.Laws.BitsLemmas
namespace Go.Proofs.Ytjlldjekjnlcaaa
open Go.RowKit P Iv
set_option linter.unusedVariables false

set_option maxRecDepth 100000 in
set_option maxHeartbeats 4000000 in
theorem countPairsI_any (f : Int → Int → Bool) (g : Nat) (eg : ∀ args w, (callFunc g args).run Try.prog w = .ok (.enter g args) w) (v : Value) (l : List Int) (w : World) (hv : FlatAt w v l.length (ints l)) (hn : l.length ≤ 64)
    (hp : ∀ (W : World) x y, Calls Try.prog g #[.int .i64 x, .int .i64 y] W fun e w' => e = .returned (.bool (f x y)) ∧ w' = W) :
    Calls Try.prog 55 #[v, .func (.func g) #[] #[]] w fun e w' => e = .returned (.int .i64 (cp f l : Nat)) ∧ w' = w := by
  obtain ⟨a, c, rfl, hc, h⟩ := hv
  have HE := Lib.hid (fun j x (hj : l[j]? = some x) => by
    obtain ⟨b, o, e, hb, hh⟩ := h _ _ (ints_at hj)
    exact (⟨b, o, e, hb, hh⟩ : ∃ b o, a = some ⟨b, o, none⟩ ∧ b < w.heap.size ∧ w.cell? ⟨b, o + j, none⟩ = some (.int .i64 x)))
  have HPR := Lib.hid hp
  have HCD := Lib.hid (fun i x (h : l[i]? = some x) => cp_drop (f := f) h)
  have HKD := Lib.hid (fun x k y (h : l[k]? = some y) => count_drop (f := f x) h)
  have HLE : Hid (cp f l ≤ 4096) := Lib.hid (by have := cp_le f l; have : l.length * l.length ≤ 64 * 64 := Nat.mul_le_mul hn hn; omega)
  have HEND : Hid (∀ i, l.length ≤ i → cp f (l.drop i) = 0) := Lib.hid (fun i h => cp_end h)
  have HKEND : Hid (∀ x i, l.length ≤ i → (l.drop i).countP (f x) = 0) := Lib.hid (fun x i h => count_end h)
  have H0 : Hid (0 + cp f (l.drop 0) = cp f l) := Lib.hid (by simp)
  clear h hp
  go_enter Try.func55, Try.ntmps55
  go_wp2_with fail
  go_loopw [5, 6, 7, 9, 12] (fun n _ _ _ i wr => ∃ (k m : Nat), k ≤ l.length ∧ i = .int .i64 k ∧ n = .int .i64 m ∧ Hid (m + cp f (l.drop k) = cp f l) ∧ wr = w) (fun _ _ _ _ i _ => l.length - (intOf i).toNat)
  case atStart => exact ⟨0, 0, Nat.zero_le _, rfl, rfl, H0, rfl⟩
  case round =>
    obtain ⟨k, m, hk, rfl, rfl, HM, rfl⟩ := hrel
    by_cases hlt : k < l.length
    · obtain ⟨x, hx⟩ : ∃ x, l[k]? = some x := ⟨_, List.getElem?_eq_getElem hlt⟩
      obtain ⟨b, o, rfl, hbb, hcx⟩ := HE.out _ _ hx
      have HCX := Lib.hid (HCD.out _ _ hx)
      have hw1 : IntKind.i64.wrap ((k : Int) + 1) = (k : Int) + 1 := by rw [IntKind.wrap_i64]; omega
      clear hx
      by_cases hce : c = k + 1
      · have hl1 : l.length = k + 1 := by omega
        have HZ : Hid (m = cp f l) := Lib.hid (by have h1 := HM.out; have h2 := HCX.out; have h3 := HEND.out (k + 1) (by omega); have h4 := HKEND.out x (k + 1) (by omega); omega)
        go_wp2_with fail
        go_loopw [5, 9, 22] (fun n _ i w2 => i = .int .i64 0 ∧ n = .int .i64 m ∧ w2 = wr) (fun _ _ _ _ => 0)
        case atStart => exact ⟨rfl, rfl, rfl⟩
        case round =>
          obtain ⟨rfl, rfl, rfl⟩ := hrel
          go_wp2_with fail
          go_roundw
          case rel => exact ⟨k + 1, m, by omega, by go_num, rfl, Lib.hid (by have h1 := HZ.out; have h2 := HEND.out (k + 1) (by omega); omega), by trivial⟩
          case measure => simp [intOf]; omega
      · go_wp2_with fail
        go_loopw [5, 9, 22] (fun n _ i w2 => ∃ (j q : Nat), j ≤ l.length - (k + 1) ∧ i = .int .i64 j ∧ n = .int .i64 q ∧ Hid (q + (l.drop (k + 1 + j)).countP (f x) + cp f (l.drop (k + 1)) = cp f l) ∧ w2 = wr) (fun _ _ i _ => l.length - (intOf i).toNat)
        case atStart => exact ⟨0, m, Nat.zero_le _, rfl, rfl, Lib.hid (by have h1 := HM.out; have h2 := HCX.out; rw [Nat.add_zero]; omega), rfl⟩
        case round =>
          obtain ⟨j, q, hj, rfl, rfl, HQ, rfl⟩ := hrel
          by_cases hjl : j < l.length - (k + 1)
          · obtain ⟨y, hy⟩ : ∃ y, l[k + 1 + j]? = some y := ⟨_, List.getElem?_eq_getElem (by omega)⟩
            obtain ⟨b2, o2, he2, _, hcy⟩ := HE.out _ _ hy
            simp at he2
            obtain ⟨rfl, rfl⟩ := he2
            rw [show o + (k + 1 + j) = o + (k + 1) + j by omega] at hcy
            have HKY := Lib.hid (HKD.out x _ _ hy)
            have HC := Lib.hid (fun W => HPR.out W x y)
            have HQ2 := Lib.hid (show q ≤ 4096 by have := HQ.out; have := HLE.out; omega)
            have hq2 := HQ2.out
            clear hy
            by_cases hf : f x y = true
            · rw [hf] at HC HKY
              go_wp2_with (go_at_fn g; refine (HC.out _).mono ?_; rintro e w' ⟨rfl, rfl⟩)
              go_roundw
              case rel => exact ⟨j + 1, q + 1, by omega, by go_num, by go_num, Lib.hid (by have h1 := HQ.out; have h2 := HKY.out; simp at h2; rw [show k + 1 + (j + 1) = k + 1 + j + 1 by omega]; omega), by trivial⟩
              case measure => simp [intOf]; omega
            · have hf2 : f x y = false := by simpa using hf
              rw [hf2] at HC HKY
              clear hf hf2
              go_wp2_with (go_at_fn g; refine (HC.out _).mono ?_; rintro e w' ⟨rfl, rfl⟩)
              go_roundw
              case rel => exact ⟨j + 1, q, by omega, by go_num, rfl, Lib.hid (by have h1 := HQ.out; have h2 := HKY.out; simp at h2; rw [show k + 1 + (j + 1) = k + 1 + j + 1 by omega]; omega), by trivial⟩
              case measure => simp [intOf]; omega
          · go_wp2_with fail
            go_roundw
            case rel => exact ⟨k + 1, q, by omega, by go_num, rfl, Lib.hid (by have h1 := HQ.out; have h2 := HKEND.out x (k + 1 + j) (by omega); omega), by trivial⟩
            case measure => simp [intOf]; omega
    · obtain rfl : k = l.length := by omega
      have hm : m = cp f l := by have h1 := HM.out; have h2 := HEND.out l.length (Nat.le_refl _); omega
      obtain rfl := hm
      go_wp2_with fail
      go_ret
      exact ⟨rfl, rfl⟩

theorem greater_any (x y : Int) (W : World) : Calls Try.prog 56 #[.int .i64 x, .int .i64 y] W fun e w' => e = .returned (.bool (decide (y < x))) ∧ w' = W := by
  go_enter Try.func56, Try.ntmps56
  go_wp2_with fail
  go_ret
  exact ⟨rfl, rfl⟩

set_option maxRecDepth 100000 in
theorem implCi_any (v : Value) (l : List Int) (w : World) (hv : FlatAt w v l.length (ints l)) (hn : l.length ≤ 1048576) :
    Calls Try.prog 21 #[v] w fun e w' => e = .returned (.tuple #[.int .i64 (ciF l).1, .bool (ciF l).2]) ∧ Below w.heap.size w w' := by
  have HV := Lib.hid hv
  obtain ⟨a, c, rfl, _⟩ := hv
  have eg : ∀ args w, (callFunc 56 args).run Try.prog w = .ok (.enter 56 args) w := enters_of Try.func56 (by kernel_rfl) rfl
  by_cases hok : OkL l
  · have hd : decide (OkL l) = true := decide_eq_true hok
    have HI := Lib.hid (fun W (h : FlatAt W (.slice a l.length c) l.length (ints l)) => by have := implValidList_any _ l W h hn; rw [hd] at this; exact this)
    have HC := Lib.hid (fun W (h : FlatAt W (.slice a l.length c) l.length (ints l)) => countPairsI_any (fun x y => decide (y < x)) _ eg _ l W h hok.1 (fun W x y => greater_any x y W))
    have HF : Hid (ciF l = (((cp (fun x y => decide (y < x)) l : Nat) : Int), true)) := Lib.hid (by rw [ciF_yes hok, invs_cp])
    clear hok hd
    go_enter Try.func21, Try.ntmps21
    go_wp2_with fail
    refine (HI.out _ HV.out).mono ?_
    rintro e w1 ⟨rfl, hb1⟩
    have HV1 := Lib.hid (HV.out.below hb1)
    have HB1 := Lib.hid hb1
    clear hb1 HV HI
    go_wp2_with fail
    refine (HC.out _ HV1.out).mono ?_
    rintro e w2 ⟨rfl, rfl⟩
    go_wp2_with fail
    go_ret2
    exact ⟨by rw [HF.out]; rfl, HB1.out⟩
  · have hd : decide (OkL l) = false := decide_eq_false hok
    have HI := Lib.hid (fun W (h : FlatAt W (.slice a l.length c) l.length (ints l)) => by have := implValidList_any _ l W h hn; rw [hd] at this; exact this)
    have HF := Lib.hid (ciF_no hok)
    clear hok hd
    go_enter Try.func21, Try.ntmps21
    go_wp2_with fail
    refine (HI.out _ HV.out).mono ?_
    rintro e w1 ⟨rfl, hb1⟩
    have HB1 := Lib.hid hb1
    clear hb1 HI
    go_wp2_with fail
    go_ret2
    exact ⟨by rw [HF.out]; rfl, HB1.out⟩

end Go.Proofs.Ytjlldjekjnlcaaa
