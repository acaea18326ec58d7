/- The program's InversionTable and FromInversionTable, by their contracts. -/
import Derived.Test.YtjlldjekjnlcaaaInvP
import Derived.Test.YtjlldjekjnlcaaaLess
import Derived.Test.YtjlldjekjnlcaaaIUnr
import Derived.Test.YtjlldjekjnlcaaaRetIE
namespace Go.Proofs.Ytjlldjekjnlcaaa
open Go.RowKit P Iv
set_option linter.unusedVariables false

theorem RetIE.nil {r : List Int × Bool} {w w' : World} (h : r = ([], false)) (hb : Below w.heap.size w w') : RetIE r w (.returned (.tuple #[.slice none 0 0, .bool false])) w' := by
  subst h; exact .inr ⟨rfl, none, 0, rfl, hb⟩

set_option maxRecDepth 100000 in
set_option maxHeartbeats 4000000 in
theorem implIt_any (v : Value) (l : List Int) (w : World) (hv : FlatAt w v l.length (ints l)) (hn : l.length ≤ 1048576) :
    Calls Try.prog 19 #[v] w (RetIE (itF l) w) := by
  have HV := Lib.hid hv
  obtain ⟨a, c, rfl, _⟩ := hv
  by_cases hok : OkP l
  · have hd : decide (OkP l) = true := decide_eq_true hok
    have HI := Lib.hid (fun W (h : FlatAt W (.slice a l.length c) l.length (ints l)) => by have := implValidPerm_any _ l W h hn; rw [hd] at this; exact this)
    have HLA := Lib.hid (fun W i (h : FlatAt W (.slice a l.length c) l.length (ints l)) (hi : i < l.length) => lessAfter_any _ l i W h hn hi)
    have HF := Lib.hid (itF_yes hok)
    have HLN := Lib.hid (itL_length l)
    have HAT := Lib.hid (fun i (hi : i < l.length) => itL_at hi)
    have hl64 := hok.1
    have HMK := fun W => makeInts l.length hn W
    clear hok hd
    go_enter Try.func19, Try.ntmps19
    go_wp2_with fail
    refine (HI.out _ HV.out).mono ?_
    rintro e w1 ⟨rfl, hb1⟩
    have HV1 := Lib.hid (HV.out.below hb1)
    have HB1 := Lib.hid hb1
    have hmk := HMK w1
    have HG := Lib.hid (CellRow.of_row (heap_alloc_new w1 (.cells (ints (List.replicate l.length 0)).toArray 3)))
    have HB2 : Hid (Below w1.heap.size w1 (w1.alloc (.cells (ints (List.replicate l.length 0)).toArray 3))) := Lib.hid ((Below.refl _ _).alloc (Nat.le_refl _) _)
    have HGW := Lib.hid hb1.size
    obtain ⟨g, hg⟩ : ∃ g, g = w1.heap.size := ⟨_, rfl⟩
    rw [← hg] at hmk HG HGW
    have HGE := Lib.hid hg
    clear hb1 HI HMK HV hg
    go_wp2_with fail
    clear hmk
    go_loopw [5, 14] (fun _ i wr => ∃ k : Nat, k ≤ l.length ∧ i = .int .i64 k ∧ CellRow wr g (ints (fill (itL l) 0 k)) ∧ Below w1.heap.size w1 wr) (fun _ i _ => l.length - (intOf i).toNat)
    case atStart => exact ⟨0, Nat.zero_le _, rfl, by rw [fill_zero, HLN.out]; exact HG.out, HB2.out⟩
    case round =>
      obtain ⟨k, hk, rfl, hr, hb⟩ := hrel
      have HR := Lib.hid hr
      have HB := Lib.hid hb
      clear hr hb HG HB2
      by_cases hlt : k < l.length
      · have HL := Lib.hid (HLA.out wr k (HV1.out.below HB.out) hlt)
        have hfl : (fill (itL l) 0 k).length = l.length := by rw [fill_length _ _ _ (by rw [HLN.out]; omega), HLN.out]
        obtain ⟨hcg, hfg⟩ := HR.out.2 k _ (ints_at (fill_at (l := itL l) (d := (0 : Int)) (k := k) (by rw [HLN.out]; exact hlt)))
        have HSET : Hid (CellRow (wr.setCell ⟨g, k, none⟩ (.int .i64 ((later l k : Nat) : Int))) g (ints (fill (itL l) 0 (k + 1)))) := Lib.hid (by
          have h1 := HR.out.set k (.int .i64 ((later l k : Nat) : Int)) (by rw [ints_length, hfl]; exact hlt)
          rw [ints_set, fill_set (HAT.out k hlt)] at h1
          exact h1)
        have HBS : Hid (Below w1.heap.size w1 (wr.setCell ⟨g, k, none⟩ (.int .i64 ((later l k : Nat) : Int)))) := Lib.hid (HB.out.setCell (p := ⟨g, k, none⟩) (by rw [HGE.out]; exact Nat.le_refl _) _)
        have hgw := HR.out.1
        clear hfl
        generalize later l k = d at *
        go_wp2_with fail
        refine (HL.out).mono ?_
        rintro e w2 ⟨rfl, rfl⟩
        clear HL
        go_wp2_with fail
        go_roundw
        case rel => exact ⟨k + 1, by omega, by go_num, HSET.out, HBS.out⟩
        case measure => simp [intOf]; omega
      · obtain rfl : k = l.length := by omega
        have HRES : Hid (RetIE (itF l) w (.returned (.tuple #[.slice (some ⟨g, 0, none⟩) l.length l.length, .bool true])) wr) := Lib.hid (by
          rw [HF.out]
          refine .inl ⟨g, l.length, by rw [HLN.out], by rw [HLN.out]; exact Nat.le_refl _, HGW.out, ?_, HB1.out.trans (HB.out.mono HB1.out.size)⟩
          have := HR.out
          rw [← HLN.out, fill_all] at this
          exact this)
        clear HR HB
        go_wp2_with fail
        go_ret2
        exact HRES.out
  · have hd : decide (OkP l) = false := decide_eq_false hok
    have HI := Lib.hid (fun W (h : FlatAt W (.slice a l.length c) l.length (ints l)) => by have := implValidPerm_any _ l W h hn; rw [hd] at this; exact this)
    have HF := Lib.hid (itF_no hok)
    clear hok hd
    go_enter Try.func19, Try.ntmps19
    go_wp2_with fail
    refine (HI.out _ HV.out).mono ?_
    rintro e w1 ⟨rfl, hb1⟩
    have HRES := Lib.hid (RetIE.nil (w := w) HF.out hb1)
    clear hb1 HI
    go_wp2_with fail
    go_ret2
    exact HRES.out

/-- What a table's digits are. -/
theorem digs_tdig {t : List Int} (h : OkT t) : digs t.length (tdig t) = t := by
  apply List.ext_getElem?
  intro i
  by_cases hi : i < t.length
  · rw [digs_at hi, at_getD hi, tdig_eq h hi]
  · rw [List.getElem?_eq_none (by rw [digs_length]; omega), List.getElem?_eq_none (by omega)]

set_option maxRecDepth 100000 in
set_option maxHeartbeats 4000000 in
theorem implFi_any (v : Value) (l : List Int) (w : World) (hv : FlatAt w v l.length (ints l)) (hn : l.length ≤ 1048576) :
    Calls Try.prog 20 #[v] w (RetIE (fiF l) w) := by
  have HV := Lib.hid hv
  obtain ⟨a, c, rfl, _, hx⟩ := hv
  have HE := Lib.hid (fun j x (hj : l[j]? = some x) => by
    obtain ⟨b, o, e, hb, hh⟩ := hx _ _ (ints_at hj)
    exact (⟨b, o, e, hb, hh⟩ : ∃ b o, a = some ⟨b, o, none⟩ ∧ b < w.heap.size ∧ w.cell? ⟨b, o + j, none⟩ = some (.int .i64 x)))
  clear hx
  by_cases h64 : l.length ≤ 64
  · have hz : ¬ (64 : Int) < l.length := by omega
    have HOK : Hid ((∀ i, i < l.length → 0 ≤ l.getD i 0 ∧ l.getD i 0 < (l.length : Int) - i) → OkT l) := Lib.hid (fun h => ⟨h64, h⟩)
    have HNO : Hid (∀ i, i < l.length → ¬ (0 ≤ l.getD i 0 ∧ l.getD i 0 < (l.length : Int) - i) → fiF l = ([], false)) := Lib.hid (fun i hi h => fiF_no fun hh => h (hh.2 i hi))
    go_enter Try.func20, Try.ntmps20
    go_wp2_with fail
    go_loopw [4, 5, 11] (fun _ _ i wr => ∃ k : Nat, k ≤ l.length ∧ i = .int .i64 k ∧ Hid (∀ i, i < k → 0 ≤ l.getD i 0 ∧ l.getD i 0 < (l.length : Int) - i) ∧ wr = w) (fun _ _ i _ => l.length - (intOf i).toNat)
    case atStart => exact ⟨0, Nat.zero_le _, rfl, Lib.hid (fun i hi => by omega), rfl⟩
    case round =>
      obtain ⟨k, hk, rfl, HG, rfl⟩ := hrel
      by_cases hlt : k < l.length
      · have hx := at_getD (l := l) hlt
        obtain ⟨x, he⟩ : ∃ x, x = l.getD k 0 := ⟨_, rfl⟩
        rw [← he] at hx
        obtain ⟨b, o, rfl, hbb, hcx⟩ := HE.out _ _ hx
        have HX := Lib.hid he
        have hw1 : IntKind.i64.wrap ((l.length : Int) - (k : Int)) = (l.length : Int) - k := by rw [IntKind.wrap_i64]; omega
        clear hx he
        by_cases h0 : x < 0
        · have h0d : decide (x < 0) = true := decide_eq_true h0
          have HRES := Lib.hid (RetIE.nil (w := wr) (HNO.out k hlt (by rw [← HX.out]; omega)) (Below.refl _ _))
          go_wp2_with fail
          go_ret2
          exact HRES.out
        · have h0d : decide (x < 0) = false := decide_eq_false h0
          by_cases h1 : (l.length : Int) - k ≤ x
          · have h1d : decide ((l.length : Int) - k ≤ x) = true := decide_eq_true h1
            have HRES := Lib.hid (RetIE.nil (w := wr) (HNO.out k hlt (by rw [← HX.out]; omega)) (Below.refl _ _))
            go_wp2_with fail
            go_ret2
            exact HRES.out
          · have h1d : decide ((l.length : Int) - k ≤ x) = false := decide_eq_false h1
            have HG2 : Hid (∀ i, i < k + 1 → 0 ≤ l.getD i 0 ∧ l.getD i 0 < (l.length : Int) - i) := Lib.hid (fun i hi => by
              by_cases e : i = k
              · subst e; rw [← HX.out]; omega
              · exact HG.out i (by omega))
            go_wp2_with fail
            go_roundw
            case rel => exact ⟨k + 1, by omega, by go_num, HG2, by trivial⟩
            case measure => simp [intOf]; omega
      · obtain rfl : k = l.length := by omega
        have HOT := Lib.hid (HOK.out HG.out)
        have HPO := Lib.hid (by
          have := permutationOf_any (.slice a l.length c) l.length (tdig l) wr (by rw [digs_tdig HOT.out]; exact HV.out) hn (fun k hk => tdig_lt HOT.out hk)
          exact this)
        have HF := Lib.hid (fiF_yes HOT.out)
        clear HG HNO HOK
        go_wp2_with fail
        refine (HPO.out).mono ?_
        rintro e w2 ⟨g, cg, rfl, hc, hg, hr, hb⟩
        have HRES : Hid (RetIE (fiF l) wr (.returned (.tuple #[.slice (some ⟨g, 0, none⟩) (pickSt (tdig l) (iota l.length) l.length).1.length cg, .bool true])) w2) := Lib.hid (by rw [HF.out]; exact .inl ⟨g, cg, rfl, hc, hg, hr, hb⟩)
        clear hc hg hr hb
        go_wp2_with fail
        go_ret2
        exact HRES.out
  · have hz : (64 : Int) < l.length := by omega
    have HRES := Lib.hid (RetIE.nil (w := w) (fiF_no fun h => h64 h.1) (Below.refl _ _))
    clear h64
    go_enter Try.func20, Try.ntmps20
    go_wp2_with fail
    go_ret2
    exact HRES.out

end Go.Proofs.Ytjlldjekjnlcaaa
