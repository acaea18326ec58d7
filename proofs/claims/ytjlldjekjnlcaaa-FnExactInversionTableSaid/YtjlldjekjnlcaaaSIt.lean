/- The model's InversionTable and FromInversionTable, by their contracts. -/
import Derived.Test.YtjlldjekjnlcaaaInvP
import Derived.Test.YtjlldjekjnlcaaaSGood
import Derived.Test.YtjlldjekjnlcaaaRetIE
import Derived.Test.YtjlldjekjnlcaaaOwnFlat
import Derived.BigRegion
import Derived.BigQuiet
import Derived.Deep.QuietTactic
import Derived.Laws.BitsLemmas
namespace Go.Proofs.Ytjlldjekjnlcaaa
open Go.RowKit P Iv
set_option linter.unusedVariables false

attribute [local go_sem ↓ high] builtin_append_held

set_option maxRecDepth 100000 in
set_option maxHeartbeats 4000000 in
theorem specIt_any (v : Value) (l : List Int) (w : World) (hv : FlatAt w v l.length (ints l)) (hn : l.length ≤ 1048576) :
    Calls Try.prog 39 #[v] w (RetIE (itF l) w) := by
  have HV := Lib.hid hv
  obtain ⟨a, c, rfl, _, _⟩ := hv
  by_cases hok : OkP l
  · have hd : decide (OkP l) = true := decide_eq_true hok
    have HI := Lib.hid (fun W (h : FlatAt W (.slice a l.length c) l.length (ints l)) => by have := l3Good_any _ l W h hn; rw [hd] at this; exact this)
    have HF := Lib.hid (itF_yes hok)
    have HLN := Lib.hid (itL_length l)
    have HTK := Lib.hid (fun i (hi : i < l.length) => itL_take hi)
    have hl64 := hok.1
    obtain ⟨f, hf⟩ : ∃ f : Int → Int → Bool, f = fun a b => decide (b < a) := ⟨_, rfl⟩
    have HFD := Lib.hid hf
    have HKD := Lib.hid (fun x k y (h : l[k]? = some y) => count_drop (f := f x) h)
    have HKEND : Hid (∀ x i, l.length ≤ i → (l.drop i).countP (f x) = 0) := Lib.hid (fun x i h => count_end h)
    have HLT : Hid (∀ i x, l[i]? = some x → later l i = (l.drop (i + 1)).countP (f x)) := Lib.hid (fun i x h => by rw [hf]; unfold later; rw [getD_at h])
    have HLE : Hid (∀ i, later l i ≤ 64) := Lib.hid (fun i => by have := later_le l i; omega)
    clear hok hd hf
    go_enter Try.func39, Try.ntmps39
    go_wp2_with fail
    refine (HI.out _ HV.out).mono ?_
    rintro e w1 ⟨rfl, hb1⟩
    have HB1 := Lib.hid hb1
    have HV1 := Lib.hid (HV.out.below hb1)
    have HE := Lib.hid (fun j x (hj : l[j]? = some x) => by
      obtain ⟨a0, c0, e0, _, h⟩ := HV1.out
      simp at e0
      obtain ⟨rfl, rfl⟩ := e0
      obtain ⟨b, o, e, hb, hh⟩ := h _ _ (ints_at hj)
      exact (⟨b, o, e, hb, hh⟩ : ∃ b o, a = some ⟨b, o, none⟩ ∧ b < w1.heap.size ∧ w1.cell? ⟨b, o + j, none⟩ = some (.int .i64 x)))
    have HS0 : Hid (Held w1.heap.size (w1.alloc (.cells #[] 3)) (.slice (some ⟨w1.heap.size, 0, none⟩) 0 0) []) := Lib.hid (Held.start w1 w1.heap.size (Nat.le_refl _))
    have HB0 : Hid (Below w1.heap.size w1 (w1.alloc (.cells #[] 3))) := Lib.hid ((Below.refl _ _).alloc (Nat.le_refl _) _)
    clear hb1 HV HV1 HI
    go_wp2_with fail
    go_loopw [4, 5, 6, 7] (fun out i _ _ wr => ∃ k : Nat, k ≤ l.length ∧ i = .int .i64 k ∧ Held w1.heap.size wr out ((itL l).take k) ∧ Below w1.heap.size w1 wr) (fun _ i _ _ _ => l.length - (intOf i).toNat)
    case atStart => exact ⟨0, Nat.zero_le _, rfl, HS0.out, HB0.out⟩
    case round =>
      obtain ⟨k, hk, rfl, hH, hb⟩ := hrel
      obtain ⟨T, hT⟩ : ∃ T, T = (itL l).take k := ⟨_, rfl⟩
      rw [← hT] at hH
      have HT := Lib.hid hT
      have hTl : T.length ≤ 64 := by rw [hT, List.length_take]; omega
      have HH := Lib.hid hH
      have HB := Lib.hid hb
      obtain ⟨go, co, rfl, hgo, hco, hro⟩ := hH.row
      clear hb hH hro HS0 HB0 hT
      by_cases hlt : k < l.length
      · obtain ⟨x, hx⟩ : ∃ x, l[k]? = some x := ⟨_, List.getElem?_eq_getElem hlt⟩
        obtain ⟨b, o, rfl, hbb, hcx0⟩ := HE.out _ _ hx
        have hcx : wr.cell? ⟨b, o + k, none⟩ = some (.int .i64 x) := (HB.out.cell (p := ⟨b, o + k, none⟩) hbb).trans hcx0
        have HLX := Lib.hid (HLT.out _ _ hx)
        have hw1 : IntKind.i64.wrap ((k : Int) + 1) = (k : Int) + 1 := by rw [IntKind.wrap_i64]; omega
        have HLEK := Lib.hid (HLE.out k)
        clear hx hcx0
        go_wp2_with fail
        go_loopw [6, 7] (fun n i w2 => ∃ (j q t : Nat), j ≤ l.length ∧ k + 1 ≤ j ∧ i = .int .i64 j ∧ n = .int .i64 q ∧ Hid (q + (l.drop j).countP (f x) = later l k) ∧ w2 = wr.drewN t) (fun _ i _ => l.length - (intOf i).toNat)
        case atStart => exact ⟨k + 1, 0, 0, by omega, Nat.le_refl _, by go_num, rfl, Lib.hid (by have h1 := HLX.out; omega), rfl⟩
        case round =>
          obtain ⟨j, q, t, hj, hkj, rfl, rfl, HQ, rfl⟩ := hrel
          by_cases hjl : j < l.length
          · obtain ⟨y, hy⟩ : ∃ y, l[j]? = some y := ⟨_, List.getElem?_eq_getElem hjl⟩
            obtain ⟨b2, o2, he2, _, hcy0⟩ := HE.out _ _ hy
            simp at he2
            obtain ⟨rfl, rfl⟩ := he2
            have hcy : wr.cell? ⟨b, o + j, none⟩ = some (.int .i64 y) := (HB.out.cell (p := ⟨b, o + j, none⟩) hbb).trans hcy0
            have HKY := Lib.hid (HKD.out x _ _ hy)
            have HQ2 := Lib.hid (show q ≤ 64 by have := HQ.out; have := HLEK.out; omega)
            have hq2 := HQ2.out
            clear hy hcy0
            by_cases hd : y < x
            · have hgt : decide (y < x) = true := decide_eq_true hd
              have HFY : Hid (f x y = true) := Lib.hid (by rw [HFD.out]; exact hgt)
              go_wp2_with fail
              go_quiet (fail)
              go_wp2_with fail
              go_roundw
              case rel => exact ⟨j + 1, q + 1, t + nq, by omega, by omega, by go_num, by go_num, Lib.hid (by have h1 := HQ.out; have h2 := HKY.out; rw [HFY.out] at h2; simp at h2; omega), by trivial⟩
              case measure => simp [intOf]; omega
            · have hgt : decide (y < x) = false := decide_eq_false hd
              have HFY : Hid (f x y = false) := Lib.hid (by rw [HFD.out]; exact hgt)
              go_wp2_with fail
              go_quiet (fail)
              go_wp2_with fail
              go_roundw
              case rel => exact ⟨j + 1, q, t + nq, by omega, by omega, by go_num, rfl, Lib.hid (by have h1 := HQ.out; have h2 := HKY.out; rw [HFY.out] at h2; simp at h2; omega), by trivial⟩
              case measure => simp [intOf]; omega
          · have hq : q = later l k := by have h1 := HQ.out; have h2 := HKEND.out x j (by omega); omega
            have HB2 : Hid (Below w1.heap.size w1 (wr.drewN t)) := Lib.hid (HB.out.trans ⟨rfl, rfl, rfl, Nat.le_refl _, fun _ _ => rfl⟩)
            have HH2 : Hid (Held w1.heap.size (wr.drewN t) (.slice (some ⟨go, 0, none⟩) T.length co) T) := Lib.hid (HH.out.same (fun _ _ _ => rfl) (Nat.le_refl _))
            obtain ⟨W, hW⟩ : ∃ W, W = wr.drewN t := ⟨_, rfl⟩
            rw [← hW] at HB2 HH2 ⊢
            obtain ⟨v2, w3, hrun, hheld, hbel⟩ := appendOne w1.heap.size _ _ (q : Int) W HH2.out HB2.out.size (by omega)
            have HH3 := Lib.hid hheld
            have HB3 := Lib.hid (HB2.out.trans hbel)
            have HQE := Lib.hid hq
            clear hheld hbel hW hq
            go_wp2_with fail
            go_roundw
            case rel => exact ⟨k + 1, by omega, by go_num, by rw [HTK.out k hlt, ← HQE.out, ← HT.out]; exact HH3.out, HB3.out⟩
            case measure => simp [intOf]; omega
      · obtain rfl : k = l.length := by omega
        have HTT : Hid (T = itL l) := Lib.hid (by rw [HT.out, ← HLN.out, List.take_length])
        have HRES : Hid (RetIE (itF l) w (.returned (.tuple #[.slice (some ⟨go, 0, none⟩) T.length co, .bool true])) wr) := Lib.hid (by
          rw [HF.out, ← HTT.out]
          obtain ⟨g, c, he, hg, hc, hrow⟩ := HH.out.row
          simp at he
          obtain ⟨rfl, rfl⟩ := he
          exact .inl ⟨go, co, rfl, hc, Nat.le_trans HB1.out.size hg, hrow, HB1.out.trans (HB.out.mono HB1.out.size)⟩)
        go_wp2_with fail
        go_ret2
        exact HRES.out
  · have hd : decide (OkP l) = false := decide_eq_false hok
    have HI := Lib.hid (fun W (h : FlatAt W (.slice a l.length c) l.length (ints l)) => by have := l3Good_any _ l W h hn; rw [hd] at this; exact this)
    have HF := Lib.hid (itF_no hok)
    clear hok hd
    go_enter Try.func39, Try.ntmps39
    go_wp2_with fail
    refine (HI.out _ HV.out).mono ?_
    rintro e w1 ⟨rfl, hb1⟩
    have HRES : Hid (RetIE (itF l) w (.returned (.tuple #[.slice none 0 0, .bool false])) w1) := Lib.hid (by rw [HF.out]; exact .inr ⟨rfl, none, 0, rfl, hb1⟩)
    clear hb1 HI
    go_wp2_with fail
    go_ret2
    exact HRES.out

end Go.Proofs.Ytjlldjekjnlcaaa
