/- The model's BinaryInsertionSort, by its contract. -/
import Derived.Test.YtjmmhakmidddoaaInsR
import Derived.Test.YtjmmhakmidddoaaRet12
import Derived.Test.YtjmmhakmidddoaaInsP
import Derived.BigRegion
import Derived.BigQuiet
import Derived.Deep.QuietTactic
import Derived.Laws.BitsLemmas
namespace Go.Proofs.Ytjmmhakmidddoaa
open Go.RowKit P El
set_option linter.unusedVariables false
attribute [local go_sem ↓ high] builtin_append_held

set_option maxRecDepth 100000 in
set_option maxHeartbeats 8000000 in
theorem specBin_any (b o c : Nat) (l : List Int) (w : World) (hv : FlatAt w (.slice (some ⟨b, o, none⟩) l.length c) l.length (ints l)) (hn : l.length ≤ 1048576) :
    Calls Try.prog 42 #[.slice (some ⟨b, o, none⟩) l.length c] w (RetI1 (binAll l) w) := by
  have HV := Lib.hid hv
  have HCELL : Hid (∀ (j : Nat) z, l[j]? = some z → b < w.heap.size ∧ w.cell? ⟨b, o + j, none⟩ = some (.int .i64 z)) := Lib.hid (fun j z hj => by
    obtain ⟨a0, c0, e0, _, h⟩ := hv
    simp at e0
    obtain ⟨rfl, rfl⟩ := e0
    obtain ⟨b', o', e', h1, h2⟩ := h _ _ (ints_at hj)
    simp at e'
    obtain ⟨rfl, rfl⟩ := e'
    exact ⟨h1, h2⟩)
  have HS0 := Lib.hid (Held.start w w.heap.size (Nat.le_refl _))
  have HB0 : Hid (Below w.heap.size w (w.alloc (.cells #[] 3))) := Lib.hid ((Below.refl _ _).alloc (Nat.le_refl _) _)
  clear hv
  by_cases hok : OkL l
  · have hd : decide (OkL l) = true := decide_eq_true hok
    have HI := Lib.hid (fun W (h : FlatAt W (.slice (some ⟨b, o, none⟩) l.length c) l.length (ints l)) => by have := l2List_any _ l W h hn; rw [hd] at this; exact this)
    have HF := Lib.hid (binAll_yes hok)
    have h64 := hok.1
    clear hok hd
    go_enter Try.func42, Try.ntmps42
    go_wp2_with fail
    refine (HI.out _ (HV.out.below HB0.out)).mono ?_
    rintro e w1 ⟨rfl, hb1⟩
    have HO1 := Lib.hid (HS0.out.below hb1)
    have HB1 := Lib.hid (HB0.out.trans (hb1.mono HB0.out.size))
    clear hb1 HI HV HS0 HB0
    go_wp2_with fail
    go_loopw [5, 6, 7, 8, 9, 10] (fun out cv iv _ _ _ wr => ∃ (i : Nat) (O : List Int) (d : Nat), i ≤ l.length ∧ cv = .int .i64 d ∧ iv = .int .i64 i ∧ Held w.heap.size wr out O ∧ binTo l i = (O, d) ∧ Below w.heap.size w wr) (fun _ _ iv _ _ _ _ => l.length - (intOf iv).toNat)
    case atStart => exact ⟨0, [], 0, Nat.zero_le _, rfl, rfl, HO1.out, rfl, HB1.out⟩
    case round =>
      obtain ⟨i, O, d, hil, rfl, rfl, hO, hbt, hb⟩ := hrel
      have HO := Lib.hid hO
      have HB := Lib.hid hb
      have HBT := Lib.hid hbt
      have hOl : O.length = i := by have := binTo_length l i; rw [hbt] at this; exact this
      have hd7 : d ≤ 448 := by have := binTo_bounds l i (by omega); rw [hbt] at this; simp only at this; omega
      obtain ⟨go, co, rfl, hgo, hco, hrow⟩ := HO.out.row
      have HROW := Lib.hid hrow
      clear hO hb HO1 HB1 hbt hrow
      by_cases hlt : i < l.length
      · obtain ⟨x, hx⟩ : ∃ x, x = l.getD i 0 := ⟨_, rfl⟩
        have hlx := at_getD hlt
        rw [← hx] at hlx
        obtain ⟨hbb, hcx0⟩ := HCELL.out _ _ hlx
        have hcx : wr.cell? ⟨b, o + i, none⟩ = some (.int .i64 x) := (HB.out.cell (p := ⟨b, o + i, none⟩) hbb).trans hcx0
        have HX := Lib.hid hx
        have HOL := Lib.hid hOl
        have HCX0 := Lib.hid hcx0
        have hiz : (i : Int) < l.length := by omega
        have hO64 : O.length ≤ 64 := by omega
        have hiO : i ≤ O.length := by omega
        clear hx hlx hcx0 hOl
        go_wp2_with fail
        go_loopw [6, 8, 9, 10] (fun cv lv hv _ ws => ∃ (lo hi c' m : Nat), lo ≤ hi ∧ hi ≤ i ∧ c' + (hi - lo) ≤ d + i ∧ cv = .int .i64 c' ∧ lv = .int .i64 lo ∧ hv = .int .i64 hi ∧ bs x O lo hi c' = bs x O 0 i d ∧ ws = wr.drewN m) (fun _ lv hv _ _ => (intOf hv).toNat - (intOf lv).toNat)
        case atStart => exact ⟨0, i, d, 0, Nat.zero_le _, Nat.le_refl _, by omega, rfl, rfl, rfl, rfl, rfl⟩
        case round =>
          obtain ⟨lo, hi, c', m, hlh, hhi, hcb, rfl, rfl, rfl, hr, rfl⟩ := hrel
          have HR := Lib.hid hr
          clear hr
          have hc' : c' ≤ 1000 := by omega
          by_cases hlt2 : lo < hi
          · obtain ⟨mid, hm0⟩ : ∃ mid, mid = (lo + hi) / 2 := ⟨_, rfl⟩
            have hmid : ((lo : Int) + (hi : Int)) / 2 = (mid : Int) := by omega
            have hmO : mid < O.length := by omega
            obtain ⟨y, hy⟩ : ∃ y, y = O.getD mid 0 := ⟨_, rfl⟩
            obtain ⟨hcy, _⟩ := HROW.out.2 mid _ (ints_at (at_getD hmO))
            rw [← hy] at hcy
            have HM := Lib.hid hm0
            have HY := Lib.hid hy
            have hmz : (mid : Int) < O.length := by omega
            have hlo64 : lo ≤ 64 := by omega
            have hhi64 : hi ≤ 64 := by omega
            have hm1 : lo ≤ mid := by omega
            have hm2 : mid < hi := by omega
            clear hm0 hy
            by_cases hd : x < y
            · have hgt : decide (x < y) = true := decide_eq_true hd
              have HE : Hid (bs x O lo mid (c' + 1) = bs x O 0 i d) := Lib.hid (by rw [← HR.out, bs_lt c' hlt2 (by rw [← HM.out, ← HY.out]; exact hd), ← HM.out])
              go_wp2_with fail
              go_quiet (fail)
              go_wp2_with fail
              go_roundw
              case rel => exact ⟨lo, mid, c' + 1, m + nq, by omega, by omega, by omega, by go_num, rfl, by rw [hmid], HE.out, by first | trivial | rfl | simp⟩
              case measure => simp [intOf]; omega
            · have hgt : decide (x < y) = false := decide_eq_false hd
              have HE : Hid (bs x O (mid + 1) hi (c' + 1) = bs x O 0 i d) := Lib.hid (by rw [← HR.out, bs_ge c' hlt2 (by rw [← HM.out, ← HY.out]; exact hd), ← HM.out])
              go_wp2_with fail
              go_quiet (fail)
              go_wp2_with fail
              go_roundw
              case rel => exact ⟨mid + 1, hi, c' + 1, m + nq, by omega, by omega, by omega, by go_num, by go_num, rfl, HE.out, by trivial⟩
              case measure => simp [intOf]; omega
          · have HE : Hid (binTo l (i + 1) = (O.take lo ++ [x] ++ O.drop lo, c')) := Lib.hid (by
              rw [HX.out]
              refine binTo_step HBT.out ?_
              rw [← HX.out, ← HR.out, bs_end c' hlt2])
            have HR2 : Hid (CellRow (wr.drewN m) go (ints O)) := Lib.hid (HROW.out.same rfl (Nat.le_refl _))
            have HB2 : Hid (Below w.heap.size w (wr.drewN m)) := Lib.hid (HB.out.trans ⟨rfl, rfl, rfl, Nat.le_refl _, fun _ _ => rfl⟩)
            have hcx2 : (wr.drewN m).cell? ⟨b, o + i, none⟩ = some (.int .i64 x) := hcx
            have hb2 : b < (wr.drewN m).heap.size := Nat.lt_of_lt_of_le hbb HB2.out.size
            generalize wr.drewN m = w2 at HR2 HB2 hcx2 hb2 ⊢
            clear hcx HROW HR HBT
            have hloO : lo ≤ O.length := by omega
            have hlz : (lo : Int) ≤ O.length := by omega
            have hld : O.length - lo = O.length - lo := rfl
            have hnlt : ¬ (lo : Int) < hi := by omega
            have hnlt2 : ¬ lo < hi := hlt2
            by_cases hco2 : co = lo
            · subst hco2
              obtain ⟨v3, v3', v3'', w3, w3', w3'', v1, v1', v1'', v2, v2', v2'', w1, w1', w1'', wz, wz', wz'', I, blate⟩ := inserts2 go co co 0 0 0 x O w2 HR2.out hloO (by omega) (by omega) (fun h => by omega)
              obtain ⟨a1, a2, a3, b1, b2, b3, c1, c2, c3, ha, hb, hc⟩ := I
              have hcx3 : w1.cell? ⟨b, o + i, none⟩ = some (.int .i64 x) := (blate.cell (p := ⟨b, o + i, none⟩) hb2).trans hcx2
              have hws := HB2.out.size
              have HA : Hid (Held w.heap.size w3 v3 (O.take co ++ [x] ++ O.drop co) ∧ Below w.heap.size w w3) := Lib.hid ⟨ha.1.lower hws, HB2.out.trans (ha.2.mono hws)⟩
              have HBb : Hid (Held w.heap.size w3' v3' (O.take co ++ [x] ++ O.drop co) ∧ Below w.heap.size w w3') := Lib.hid ⟨hb.1.lower hws, HB2.out.trans (hb.2.mono hws)⟩
              have HC : Hid (Held w.heap.size w3'' v3'' (O.take co ++ [x] ++ O.drop co) ∧ Below w.heap.size w w3'') := Lib.hid ⟨hc.1.lower hws, HB2.out.trans (hc.2.mono hws)⟩
              clear ha hb hc HR2 HB2 blate
              go_wp2_with fail
              go_region
              all_goals (
                go_wp2_with fail
                go_roundw
                case rel => first | exact ⟨i + 1, _, c', by omega, rfl, by go_num, HA.out.1, HE.out, HA.out.2⟩ | exact ⟨i + 1, _, c', by omega, rfl, by go_num, HBb.out.1, HE.out, HBb.out.2⟩ | exact ⟨i + 1, _, c', by omega, rfl, by go_num, HC.out.1, HE.out, HC.out.2⟩
                case measure => simp [intOf]; omega)
            · obtain ⟨v3, v3', v3'', w3, w3', w3'', v1, v1', v1'', v2, v2', v2'', w1, w1', w1'', wz, wz', wz'', I, blate⟩ := inserts2 go co lo lo (co - lo) (O.length - lo) x O w2 HR2.out hloO (by omega) rfl (fun _ => rfl)
              obtain ⟨a1, a2, a3, b1, b2, b3, c1, c2, c3, ha, hb, hc⟩ := I
              have hcx3 : w1.cell? ⟨b, o + i, none⟩ = some (.int .i64 x) := (blate.cell (p := ⟨b, o + i, none⟩) hb2).trans hcx2
              have hws := HB2.out.size
              have HA : Hid (Held w.heap.size w3 v3 (O.take lo ++ [x] ++ O.drop lo) ∧ Below w.heap.size w w3) := Lib.hid ⟨ha.1.lower hws, HB2.out.trans (ha.2.mono hws)⟩
              have HBb : Hid (Held w.heap.size w3' v3' (O.take lo ++ [x] ++ O.drop lo) ∧ Below w.heap.size w w3') := Lib.hid ⟨hb.1.lower hws, HB2.out.trans (hb.2.mono hws)⟩
              have HC : Hid (Held w.heap.size w3'' v3'' (O.take lo ++ [x] ++ O.drop lo) ∧ Below w.heap.size w w3'') := Lib.hid ⟨hc.1.lower hws, HB2.out.trans (hc.2.mono hws)⟩
              clear ha hb hc HR2 HB2 blate
              go_wp2_with fail
              go_region
              all_goals (
                go_wp2_with fail
                go_roundw
                case rel => first | exact ⟨i + 1, _, c', by omega, rfl, by go_num, HA.out.1, HE.out, HA.out.2⟩ | exact ⟨i + 1, _, c', by omega, rfl, by go_num, HBb.out.1, HE.out, HBb.out.2⟩ | exact ⟨i + 1, _, c', by omega, rfl, by go_num, HC.out.1, HE.out, HC.out.2⟩
                case measure => simp [intOf]; omega)
      · obtain rfl : i = l.length := by omega
        have HRES : Hid (RetI1 (binAll l) w (.returned (.tuple #[.slice (some ⟨go, 0, none⟩) O.length co, .int .i64 (d : Int), .bool true])) wr) := Lib.hid (by
          rw [HF.out, HBT.out]
          exact ⟨go, co, rfl, hco, hgo, HROW.out, HB.out⟩)
        clear hOl
        go_wp2_with fail
        go_ret3
        exact HRES.out
  · have hd : decide (OkL l) = false := decide_eq_false hok
    have HI := Lib.hid (fun W (h : FlatAt W (.slice (some ⟨b, o, none⟩) l.length c) l.length (ints l)) => by have := l2List_any _ l W h hn; rw [hd] at this; exact this)
    have HF := Lib.hid (binAll_no hok)
    clear hok hd
    go_enter Try.func42, Try.ntmps42
    go_wp2_with fail
    refine (HI.out _ (HV.out.below HB0.out)).mono ?_
    rintro e w1 ⟨rfl, hb1⟩
    have HRES : Hid (RetI1 (binAll l) w (.returned (.tuple #[.slice (some ⟨w.heap.size, 0, none⟩) 0 0, .int .i64 0, .bool false])) w1) := Lib.hid (by
      rw [HF.out]
      obtain ⟨g1, c1, e1, h1, h2, h3⟩ := (HS0.out.below hb1).row
      simp at e1
      obtain ⟨rfl, rfl⟩ := e1
      exact ⟨w.heap.size, 0, rfl, Nat.le_refl _, Nat.le_refl _, h3, HB0.out.trans (hb1.mono HB0.out.size)⟩)
    clear hb1 HI
    go_wp2_with fail
    go_ret3
    exact HRES.out

end Go.Proofs.Ytjmmhakmidddoaa
