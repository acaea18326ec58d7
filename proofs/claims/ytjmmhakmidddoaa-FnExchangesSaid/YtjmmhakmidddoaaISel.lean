/- The program's SelectionSort, by its contract. -/
import Derived.Test.YtjmmhakmidddoaaISwap
import Derived.Test.YtjmmhakmidddoaaIList
import Derived.Test.YtjmmhakmidddoaaRet12
import Derived.Test.YtjmmhakmidddoaaInsP
namespace Go.Proofs.Ytjmmhakmidddoaa
open Go.RowKit P El
set_option linter.unusedVariables false

set_option maxRecDepth 100000 in
set_option maxHeartbeats 4000000 in
theorem indexOfLeast_any (g c fr : Nat) (l : List Int) (w : World) (h : CellRow w g (ints l)) (hn : l.length ≤ 1048576) (hf : fr < l.length) :
    Calls Try.prog 86 #[.slice (some ⟨g, 0, none⟩) l.length c, .int .i64 (fr : Int)] w fun e w' => e = .returned (.int .i64 (leastF l fr : Nat)) ∧ ∃ n, w' = w.drewN n := by
  have H := Lib.hid h
  have HS : Hid (least l (l.length - (fr + 1)) (fr + 1) fr = leastF l fr) := Lib.hid rfl
  have hw1 : IntKind.i64.wrap ((fr : Int) + 1) = ((fr + 1 : Nat) : Int) := by rw [IntKind.wrap_i64]; omega
  clear h
  go_enter Try.func86, Try.ntmps86
  go_wp2_with fail
  go_loopw [5, 6] (fun bv kv wr => ∃ (b k m : Nat), b < l.length ∧ k ≤ l.length ∧ bv = .int .i64 b ∧ kv = .int .i64 k ∧ least l (l.length - k) k b = leastF l fr ∧ wr = w.drewN m) (fun _ kv _ => l.length - (intOf kv).toNat)
  case atStart => exact ⟨fr, fr + 1, 0, hf, by omega, rfl, by go_num, HS.out, rfl⟩
  case round =>
    obtain ⟨b, k, m, hb, hk, rfl, rfl, hr, rfl⟩ := hrel
    have HR := Lib.hid hr
    clear hr HS hw1
    have hwk : IntKind.i64.wrap ((k : Int) + 1) = ((k + 1 : Nat) : Int) := by rw [IntKind.wrap_i64]; omega
    by_cases hlt : k < l.length
    · obtain ⟨p, hp⟩ : ∃ p, p = l.getD k 0 := ⟨_, rfl⟩
      obtain ⟨q, hq⟩ : ∃ q, q = l.getD b 0 := ⟨_, rfl⟩
      obtain ⟨hc1, _⟩ := H.out.2 k _ (ints_at (at_getD hlt))
      obtain ⟨hc2, _⟩ := H.out.2 b _ (ints_at (at_getD hb))
      rw [← hp] at hc1
      rw [← hq] at hc2
      have HP := Lib.hid hp
      have HQ := Lib.hid hq
      have hkz : (k : Int) < l.length := by omega
      have hbz : (b : Int) < l.length := by omega
      have HN : Hid (l.length - k = (l.length - (k + 1)) + 1) := Lib.hid (by omega)
      clear hp hq
      by_cases hd : p < q
      · have hgt : decide (p < q) = true := decide_eq_true hd
        have HE : Hid (least l (l.length - (k + 1)) (k + 1) k = leastF l fr) := Lib.hid (by rw [← HR.out, HN.out, least_lt (by rw [← HP.out, ← HQ.out]; exact hd)])
        go_wp2_with fail
        go_quiet (fail)
        go_wp2_with fail
        go_roundw
        case rel => exact ⟨k, k + 1, m + nq, hlt, by omega, rfl, by go_num, HE.out, by trivial⟩
        case measure => simp [intOf]; omega
      · have hgt : decide (p < q) = false := decide_eq_false hd
        have HE : Hid (least l (l.length - (k + 1)) (k + 1) b = leastF l fr) := Lib.hid (by rw [← HR.out, HN.out, least_ge (by rw [← HP.out, ← HQ.out]; exact hd)])
        go_wp2_with fail
        go_quiet (fail)
        go_wp2_with fail
        go_roundw
        case rel => exact ⟨b, k + 1, m + nq, hb, by omega, rfl, by go_num, HE.out, by trivial⟩
        case measure => simp [intOf]; omega
    · have hlz : ¬ (k : Int) < l.length := by omega
      have HE : Hid (b = leastF l fr) := Lib.hid (by rw [← HR.out, show l.length - k = 0 by omega]; rfl)
      go_wp2_with fail
      go_ret
      exact ⟨by rw [← HE.out]; rfl, m, rfl⟩

/-- The loop over the places. -/
structure SelO (base s g cap : Nat) (l : List Int) (i : Nat) (M : List Int) (q : Nat) (w W : World) : Prop where
  run : selN i (l.length - i) (M, q) = selF l
  len : M.length = l.length
  le : i ≤ l.length
  qb : q ≤ i
  cnt : Cnt base s g cap M 0 0 q W
  b : Below base w W

set_option maxRecDepth 100000 in
set_option maxHeartbeats 4000000 in
theorem implSel_any (b o c : Nat) (l : List Int) (w : World) (hv : FlatAt w (.slice (some ⟨b, o, none⟩) l.length c) l.length (ints l)) (hn : l.length ≤ 1048576) :
    Calls Try.prog 45 #[.slice (some ⟨b, o, none⟩) l.length c] w (RetI1 (selAll l) w) := by
  have HV := Lib.hid hv
  clear hv
  by_cases hok : OkL l
  · have hd : decide (OkL l) = true := decide_eq_true hok
    have HI := Lib.hid (fun W (h : FlatAt W (.slice (some ⟨b, o, none⟩) l.length c) l.length (ints l)) => by have := implValidList_any _ l W h hn; rw [hd] at this; exact this)
    have HCL := Lib.hid (fun W (h : FlatAt W (.slice (some ⟨b, o, none⟩) l.length c) l.length (ints l)) => counted_any b o c l W h hn)
    have HF := Lib.hid (selAll_yes hok)
    have h64 := hok.1
    clear hok hd
    go_enter Try.func45, Try.ntmps45
    go_wp2_with fail
    refine (HI.out _ HV.out).mono ?_
    rintro e w1 ⟨rfl, hb1⟩
    have HV1 := Lib.hid (HV.out.below hb1)
    have HB1 := Lib.hid hb1
    clear hb1 HV HI
    go_wp2_with fail
    refine (HCL.out _ HV1.out).mono ?_
    rintro e w2 ⟨s, g, cap, rfl, hcn, hb2⟩
    have HS0 : Hid (SelO w1.heap.size s g cap l 0 l 0 w1 w2) := Lib.hid ⟨rfl, rfl, Nat.zero_le _, Nat.le_refl _, hcn, hb2⟩
    obtain ⟨hs0, _⟩ := hcn.c0
    clear hb2 hcn HCL HV1
    go_wp2_with fail
    go_loopw [6, 7, 19] (fun _ _ iv wr => ∃ (i : Nat) (M : List Int) (q : Nat), iv = .int .i64 i ∧ SelO w1.heap.size s g cap l i M q w1 wr) (fun _ _ iv _ => l.length - (intOf iv).toNat)
    case atStart => exact ⟨0, l, 0, rfl, HS0.out⟩
    case round =>
      obtain ⟨i, M, q, rfl, ho⟩ := hrel
      have HO := Lib.hid ho
      have hi64 := ho.le
      have hq := ho.qb
      have hlM := ho.len
      obtain ⟨hs1, _, _, hs3, _⟩ := ho.cnt.c0
      clear ho HS0 hs0
      by_cases hlt : i < l.length
      · have hiM : i < M.length := by omega
        have HLF := Lib.hid (leastF_spec hiM)
        have HIX := Lib.hid (indexOfLeast_any g cap i M wr HO.out.cnt.row (by omega) hiM)
        have HSTEP : Hid (selN (i + 1) (l.length - (i + 1)) (selAt i (M, q)) = selF l) := Lib.hid (by
          have hr := HO.out.run
          rw [show l.length - i = l.length - (i + 1) + 1 by omega, selN_succ] at hr; exact hr)
        obtain ⟨j, hj⟩ : ∃ j, j = leastF M i := ⟨_, rfl⟩
        rw [← hj] at HIX HLF
        have HJ := Lib.hid hj
        have hjl := HLF.out.2.1
        have HLM := Lib.hid hlM
        clear hj hlM HLF
        go_wp2_with fail
        refine (HIX.out).mono ?_
        rintro e w3 ⟨rfl, n3, rfl⟩
        have HC3 := Lib.hid (HO.out.cnt.drewN n3)
        have HB3 : Hid (Below w1.heap.size w1 (wr.drewN n3)) := Lib.hid (HO.out.b.trans ⟨rfl, rfl, rfl, Nat.le_refl _, fun _ _ => rfl⟩)
        generalize wr.drewN n3 = W3 at HC3 HB3 ⊢
        clear hs1 hs3 HIX
        by_cases hji : j = i
        · have HN : Hid (SelO w1.heap.size s g cap l (i + 1) M q w1 W3) := Lib.hid (by
            have hst := HSTEP.out
            rw [selAt_stay (by rw [← HJ.out]; exact hji)] at hst
            exact ⟨hst, HLM.out, by omega, by omega, HC3.out, HB3.out⟩)
          subst hji
          go_wp2_with fail
          go_roundw
          case rel => exact ⟨j + 1, _, _, by go_num, HN.out⟩
          case measure => simp [intOf]; omega
        · have hne : ((j : Int) == i) = false := by simp; omega
          have HSW := Lib.hid (swap_any i j W3 HC3.out (by omega) hiM hjl (fun e => hji e.symm))
          go_wp2_with fail
          refine (HSW.out).mono ?_
          rintro e w4 ⟨rfl, hcn, hb⟩
          have HN : Hid (SelO w1.heap.size s g cap l (i + 1) (swapped M i j) (q + 1) w1 w4) := Lib.hid (by
            have hst := HSTEP.out
            rw [selAt_move (by rw [← HJ.out]; exact hji), ← HJ.out] at hst
            exact ⟨hst, by rw [swapped_length]; exact HLM.out, by omega, by omega, hcn, HB3.out.trans (hb.below hcn.bs hcn.bg HB3.out.size)⟩)
          clear hcn hb HSW
          go_wp2_with fail
          go_roundw
          case rel => exact ⟨i + 1, _, _, by go_num, HN.out⟩
          case measure => simp [intOf]; omega
      · have HRES : Hid (∀ n, RetI1 (selAll l) w (.returned (.tuple #[.slice (some ⟨g, 0, none⟩) M.length cap, .int .i64 (q : Int), .bool true])) (wr.drewN n)) := Lib.hid (fun n => by
          have h := HO.out
          have hr := h.run
          rw [show l.length - i = 0 by omega] at hr
          have hr2 : (M, q) = selF l := hr
          rw [HF.out, ← hr2]
          exact ⟨g, cap, rfl, h.cnt.cap, Nat.le_trans HB1.out.size h.cnt.bg, h.cnt.row.same rfl (Nat.le_refl _), (HB1.out.trans (h.b.mono HB1.out.size)).trans ⟨rfl, rfl, rfl, Nat.le_refl _, fun _ _ => rfl⟩⟩)
        clear hlM
        go_wp2_with fail
        go_quiet (fail)
        go_wp2_with fail
        go_ret3
        exact HRES.out _
  · have hd : decide (OkL l) = false := decide_eq_false hok
    have HI := Lib.hid (fun W (h : FlatAt W (.slice (some ⟨b, o, none⟩) l.length c) l.length (ints l)) => by have := implValidList_any _ l W h hn; rw [hd] at this; exact this)
    have HF := Lib.hid (selAll_no hok)
    clear hok hd
    go_enter Try.func45, Try.ntmps45
    go_wp2_with fail
    refine (HI.out _ HV.out).mono ?_
    rintro e w1 ⟨rfl, hb1⟩
    have HRES : Hid (RetI1 (selAll l) w (.returned (.tuple #[.slice (some ⟨w1.heap.size, 0, none⟩) 0 0, .int .i64 0, .bool false])) (w1.alloc (.cells #[] 3))) := Lib.hid (by rw [HF.out]; exact RetI1.none w w1 hb1)
    clear hb1 HI
    go_wp2_with fail
    go_ret3
    exact HRES.out

end Go.Proofs.Ytjmmhakmidddoaa
