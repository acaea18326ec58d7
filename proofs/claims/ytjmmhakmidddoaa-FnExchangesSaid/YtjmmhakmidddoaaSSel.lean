/- The model's SelectionSort, by its contract. -/
import Derived.Test.YtjmmhakmidddoaaOwnI
import Derived.Test.YtjmmhakmidddoaaRet12
import Derived.Test.YtjmmhakmidddoaaInsP
import Derived.BigRegion
import Derived.Laws.BitsLemmas
namespace Go.Proofs.Ytjmmhakmidddoaa
open Go.RowKit P El
set_option linter.unusedVariables false

/-- The loop over the places. -/
structure SelW (base g : Nat) (l : List Int) (i : Nat) (M : List Int) (q : Nat) (w W : World) : Prop where
  run : selN i (l.length - i) (M, q) = selF l
  len : M.length = l.length
  le : i ≤ l.length
  qb : q ≤ i
  row : CellRow W g (ints M)
  b : Below base w W

set_option maxRecDepth 100000 in
set_option maxHeartbeats 4000000 in
theorem specSel_any (b o c : Nat) (l : List Int) (w : World) (hv : FlatAt w (.slice (some ⟨b, o, none⟩) l.length c) l.length (ints l)) (hn : l.length ≤ 1048576) :
    Calls Try.prog 46 #[.slice (some ⟨b, o, none⟩) l.length c] w (RetI1 (selAll l) w) := by
  have HV := Lib.hid hv
  clear hv
  by_cases hok : OkL l
  · have hd : decide (OkL l) = true := decide_eq_true hok
    have HI := Lib.hid (fun W (h : FlatAt W (.slice (some ⟨b, o, none⟩) l.length c) l.length (ints l)) => by have := l2List_any _ l W h hn; rw [hd] at this; exact this)
    have HOWN := Lib.hid (fun W (h : FlatAt W (.slice (some ⟨b, o, none⟩) l.length c) l.length (ints l)) => l1Own_any b o c l W h hn)
    have HF := Lib.hid (selAll_yes hok)
    have h64 := hok.1
    clear hok hd
    go_enter Try.func46, Try.ntmps46
    go_wp2_with fail
    refine (HI.out _ HV.out).mono ?_
    rintro e w1 ⟨rfl, hb1⟩
    have HV1 := Lib.hid (HV.out.below hb1)
    have HB1 := Lib.hid hb1
    clear hb1 HV HI
    go_wp2_with fail
    refine (HOWN.out _ HV1.out).mono ?_
    rintro e w2 ⟨g, cap, rfl, hcap, hg, hrow, hb2⟩
    have HS0 : Hid (SelW w1.heap.size g l 0 l 0 w1 w2) := Lib.hid ⟨rfl, rfl, Nat.zero_le _, Nat.le_refl _, hrow, hb2⟩
    have HG := Lib.hid hg
    have HWG : Hid (w.heap.size ≤ g) := Lib.hid (Nat.le_trans HB1.out.size hg)
    clear hb2 hrow HOWN HV1 hg
    go_wp2_with fail
    go_loopw [6, 7, 8, 9, 10] (fun qv iv _ _ _ wr => ∃ (i : Nat) (M : List Int) (q : Nat), qv = .int .i64 q ∧ iv = .int .i64 i ∧ SelW w1.heap.size g l i M q w1 wr) (fun _ iv _ _ _ _ => l.length - (intOf iv).toNat)
    case atStart => exact ⟨0, l, 0, rfl, rfl, HS0.out⟩
    case round =>
      obtain ⟨i, M, q, rfl, rfl, ho⟩ := hrel
      have HO := Lib.hid ho
      have hi64 := ho.le
      have hq := ho.qb
      have hlM := ho.len
      clear ho HS0
      by_cases hlt : i < l.length
      · have hiM : i < M.length := by omega
        have HLF := Lib.hid (leastF_spec hiM)
        have HSTEP : Hid (selN (i + 1) (l.length - (i + 1)) (selAt i (M, q)) = selF l) := Lib.hid (by
          have hr := HO.out.run
          rw [show l.length - i = l.length - (i + 1) + 1 by omega, selN_succ] at hr; exact hr)
        have HL0 : Hid (least M (l.length - (i + 1)) (i + 1) i = leastF M i) := Lib.hid (by unfold leastF; rw [hlM])
        have HLM := Lib.hid hlM
        have hwi : IntKind.i64.wrap ((i : Int) + 1) = ((i + 1 : Nat) : Int) := by rw [IntKind.wrap_i64]; omega
        clear hlM
        go_wp2_with fail
        go_loopw [8, 9] (fun bv kv ws => ∃ (bb k m : Nat), bb < l.length ∧ k ≤ l.length ∧ bv = .int .i64 bb ∧ kv = .int .i64 k ∧ least M (l.length - k) k bb = leastF M i ∧ ws = wr.drewN m) (fun _ kv _ => l.length - (intOf kv).toNat)
        case atStart => exact ⟨i, i + 1, 0, hlt, by omega, rfl, by go_num, HL0.out, rfl⟩
        case round =>
          obtain ⟨bb, k, m, hb, hk, rfl, rfl, hr, rfl⟩ := hrel
          have HR := Lib.hid hr
          clear hr HL0
          have hwk : IntKind.i64.wrap ((k : Int) + 1) = ((k + 1 : Nat) : Int) := by rw [IntKind.wrap_i64]; omega
          by_cases hkl : k < l.length
          · obtain ⟨p, hp⟩ : ∃ p, p = M.getD k 0 := ⟨_, rfl⟩
            obtain ⟨z, hz⟩ : ∃ z, z = M.getD bb 0 := ⟨_, rfl⟩
            obtain ⟨hc1, _⟩ := HO.out.row.2 k _ (ints_at (at_getD (by rw [HLM.out]; exact hkl)))
            obtain ⟨hc2, _⟩ := HO.out.row.2 bb _ (ints_at (at_getD (by rw [HLM.out]; exact hb)))
            rw [← hp] at hc1
            rw [← hz] at hc2
            have HP := Lib.hid hp
            have HZ := Lib.hid hz
            have hkz : (k : Int) < l.length := by omega
            have hbz : (bb : Int) < l.length := by omega
            have HN : Hid (l.length - k = (l.length - (k + 1)) + 1) := Lib.hid (by omega)
            clear hp hz
            by_cases hd : p < z
            · have hgt : decide (p < z) = true := decide_eq_true hd
              have HE : Hid (least M (l.length - (k + 1)) (k + 1) k = leastF M i) := Lib.hid (by rw [← HR.out, HN.out, least_lt (by rw [← HP.out, ← HZ.out]; exact hd)])
              go_wp2_with fail
              go_quiet (fail)
              go_wp2_with fail
              go_roundw
              case rel => exact ⟨k, k + 1, m + nq, hkl, by omega, rfl, by go_num, HE.out, by trivial⟩
              case measure => simp [intOf]; omega
            · have hgt : decide (p < z) = false := decide_eq_false hd
              have HE : Hid (least M (l.length - (k + 1)) (k + 1) bb = leastF M i) := Lib.hid (by rw [← HR.out, HN.out, least_ge (by rw [← HP.out, ← HZ.out]; exact hd)])
              go_wp2_with fail
              go_quiet (fail)
              go_wp2_with fail
              go_roundw
              case rel => exact ⟨bb, k + 1, m + nq, hb, by omega, rfl, by go_num, HE.out, by trivial⟩
              case measure => simp [intOf]; omega
          · have HE : Hid (bb = leastF M i) := Lib.hid (by rw [← HR.out, show l.length - k = 0 by omega]; rfl)
            have HR3 : Hid (CellRow (wr.drewN m) g (ints M)) := Lib.hid (HO.out.row.same rfl (Nat.le_refl _))
            have HB3 : Hid (Below w1.heap.size w1 (wr.drewN m)) := Lib.hid (HO.out.b.trans ⟨rfl, rfl, rfl, Nat.le_refl _, fun _ _ => rfl⟩)
            generalize wr.drewN m = W3 at HR3 HB3 ⊢
            have hbz : (bb : Int) < l.length := by omega
            have hiz : (i : Int) < l.length := by omega
            by_cases hji : bb = i
            · have HN : Hid (SelW w1.heap.size g l (i + 1) M q w1 W3) := Lib.hid (by
                have hst := HSTEP.out
                rw [selAt_stay (by rw [← HE.out]; exact hji)] at hst
                exact ⟨hst, HLM.out, by omega, by omega, HR3.out, HB3.out⟩)
              subst hji
              go_wp2_with fail
              go_roundw
              case rel => exact ⟨bb + 1, M, q, rfl, by go_num, HN.out⟩
              case measure => simp [intOf]; omega
            · have hne : ((bb : Int) == i) = false := by simp; omega
              obtain ⟨x, hx⟩ : ∃ x, x = M.getD i 0 := ⟨_, rfl⟩
              obtain ⟨y, hy⟩ : ∃ y, y = M.getD bb 0 := ⟨_, rfl⟩
              obtain ⟨hcx, hfx⟩ := HR3.out.2 i _ (ints_at (at_getD hiM))
              obtain ⟨hcy, hfy⟩ := HR3.out.2 bb _ (ints_at (at_getD (by rw [HLM.out]; exact hb)))
              rw [← hx] at hcx
              rw [← hy] at hcy
              have HN : Hid (SelW w1.heap.size g l (i + 1) (swapped M i bb) (q + 1) w1 ((W3.setCell ⟨g, i, none⟩ (.int .i64 y)).setCell ⟨g, bb, none⟩ (.int .i64 x))) := Lib.hid (by
                have hst := HSTEP.out
                rw [selAt_move (by rw [← HE.out]; exact hji), ← HE.out] at hst
                have h1 := (HR3.out.set i (.int .i64 y) (by rw [ints_length]; exact hiM)).set bb (.int .i64 x) (by rw [List.length_set, ints_length, HLM.out]; exact hb)
                rw [ints_set, ints_set] at h1
                have e : (M.set i y).set bb x = swapped M i bb := by unfold swapped; rw [← hx, ← hy]
                rw [e] at h1
                exact ⟨hst, by rw [swapped_length]; exact HLM.out, by omega, by omega, h1, (HB3.out.setCell (p := ⟨g, i, none⟩) HG.out _).setCell (p := ⟨g, bb, none⟩) HG.out _⟩)
              have hne1 : ¬ i = bb := fun e => hji e.symm
              clear hx hy HE
              go_wp2_with fail
              go_roundw
              case rel => exact ⟨i + 1, _, q + 1, by go_num, by go_num, HN.out⟩
              case measure => simp [intOf]; omega
      · have HRES : Hid (RetI1 (selAll l) w (.returned (.tuple #[.slice (some ⟨g, 0, none⟩) l.length cap, .int .i64 (q : Int), .bool true])) wr) := Lib.hid (by
          have h := HO.out
          have hr := h.run
          rw [show l.length - i = 0 by omega] at hr
          have hr2 : (M, q) = selF l := hr
          rw [HF.out, ← hr2]
          exact ⟨g, cap, by rw [hlM], by simp only; rw [hlM]; exact hcap, HWG.out, h.row, HB1.out.trans (h.b.mono HB1.out.size)⟩)
        clear hlM
        go_wp2_with fail
        go_ret3
        exact HRES.out
  · have hd : decide (OkL l) = false := decide_eq_false hok
    have HI := Lib.hid (fun W (h : FlatAt W (.slice (some ⟨b, o, none⟩) l.length c) l.length (ints l)) => by have := l2List_any _ l W h hn; rw [hd] at this; exact this)
    have HF := Lib.hid (selAll_no hok)
    clear hok hd
    go_enter Try.func46, Try.ntmps46
    go_wp2_with fail
    refine (HI.out _ HV.out).mono ?_
    rintro e w1 ⟨rfl, hb1⟩
    have HRES : Hid (RetI1 (selAll l) w (.returned (.tuple #[.slice (some ⟨w1.heap.size, 0, none⟩) 0 0, .int .i64 0, .bool false])) (w1.alloc (.cells #[] 3))) := Lib.hid (by rw [HF.out]; exact RetI1.none w w1 hb1)
    clear hb1 HI
    go_wp2_with fail
    go_ret3
    exact HRES.out

end Go.Proofs.Ytjmmhakmidddoaa
