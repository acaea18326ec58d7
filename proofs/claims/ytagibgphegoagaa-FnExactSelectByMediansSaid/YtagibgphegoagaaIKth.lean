/- The program's KthSmallest and the lower median, by contracts. -/
import Derived.Test.YtagibgphegoagaaSelP
import Derived.Test.YtagibgphegoagaaSortedI
import Derived.Test.YtagibgphegoagaaIList
namespace Go.Proofs.Ytagibgphegoagaa
open Go.RowKit P El Qk Sl
set_option linter.unusedVariables false

set_option maxRecDepth 100000 in
set_option maxHeartbeats 4000000 in
theorem rank_any (v : Value) (l : List Int) (a : Option Addr) (c : Nat) (hs : v = .slice a l.length c) (k : Int) (w : World) (hv : FlatAt w v l.length (ints l)) (hn : l.length ≤ 1048576) :
    Calls Try.prog 103 #[v, .int .i64 k] w fun e w' => e = .returned (.bool (decide (OkK l k))) ∧ Below w.heap.size w w' := by
  subst hs
  have HV := Lib.hid (implValidList_any _ l w hv hn)
  clear hv
  by_cases hok : OkL l
  · rw [decide_eq_true hok] at HV
    by_cases h0 : 0 ≤ k
    · have d0 : decide (0 ≤ k) = true := decide_eq_true h0
      by_cases h1 : k < (l.length : Int)
      · have d1 : decide (k < (l.length : Int)) = true := decide_eq_true h1
        have HR : Hid (decide (OkK l k) = true) := Lib.hid (decide_eq_true ⟨hok, h0, h1⟩)
        clear hok
        go_enter Try.func103, Try.ntmps103
        go_wp2_with fail
        refine HV.out.mono ?_
        rintro e w1 ⟨rfl, hb1⟩
        have HB := Lib.hid hb1
        clear hb1 HV
        go_wp2_with fail
        go_ret
        exact ⟨by rw [HR.out]; rfl, HB.out⟩
      · have d1 : decide (k < (l.length : Int)) = false := decide_eq_false h1
        have HR : Hid (decide (OkK l k) = false) := Lib.hid (decide_eq_false fun h => h1 h.2.2)
        clear hok
        go_enter Try.func103, Try.ntmps103
        go_wp2_with fail
        refine HV.out.mono ?_
        rintro e w1 ⟨rfl, hb1⟩
        have HB := Lib.hid hb1
        clear hb1 HV
        go_wp2_with fail
        go_ret
        exact ⟨by rw [HR.out]; rfl, HB.out⟩
    · have d0 : decide (0 ≤ k) = false := decide_eq_false h0
      have HR : Hid (decide (OkK l k) = false) := Lib.hid (decide_eq_false fun h => h0 h.2.1)
      clear hok
      go_enter Try.func103, Try.ntmps103
      go_wp2_with fail
      refine HV.out.mono ?_
      rintro e w1 ⟨rfl, hb1⟩
      have HB := Lib.hid hb1
      clear hb1 HV
      go_wp2_with fail
      go_ret
      exact ⟨by rw [HR.out]; rfl, HB.out⟩
  · rw [decide_eq_false hok] at HV
    have HR : Hid (decide (OkK l k) = false) := Lib.hid (decide_eq_false fun h => hok h.1)
    clear hok
    go_enter Try.func103, Try.ntmps103
    go_wp2_with fail
    refine HV.out.mono ?_
    rintro e w1 ⟨rfl, hb1⟩
    have HB := Lib.hid hb1
    clear hb1 HV
    go_wp2_with fail
    go_ret
    exact ⟨by rw [HR.out]; rfl, HB.out⟩

/-- The cells behind a list, told for the iterator. -/
theorem flat_behind {w : World} {a : Option Addr} {c : Nat} {l : List Int} (hw : 0 < w.heap.size) (h : FlatAt w (.slice a l.length c) l.length (ints l)) : ∃ bp oo, bp < w.heap.size ∧ ∀ (j : Nat) x, l[j]? = some x → a = some ⟨bp, oo, none⟩ ∧ w.cell? ⟨bp, oo + j, none⟩ = some (.int .i64 x) := by
  obtain ⟨a0, c0, e0, _, h0⟩ := h
  simp at e0
  obtain ⟨rfl, rfl⟩ := e0
  cases hl0 : l[0]? with
  | none =>
    refine ⟨0, 0, hw, fun j x hj => ?_⟩
    have := List.getElem?_eq_none_iff.1 hl0
    have := (List.getElem?_eq_some_iff.1 hj).1
    omega
  | some x0 =>
    obtain ⟨b', o', e', hlt, _⟩ := h0 0 _ (ints_at hl0)
    refine ⟨b', o', hlt, fun j x hj => ?_⟩
    obtain ⟨b2, o2, e2, _, hc⟩ := h0 j _ (ints_at hj)
    have e3 := e'.symm.trans e2
    simp at e3
    obtain ⟨rfl, rfl⟩ := e3
    exact ⟨e2, hc⟩

set_option maxRecDepth 100000 in
set_option maxHeartbeats 4000000 in
theorem implKth_any (a : Option Addr) (c : Nat) (l : List Int) (k : Int) (w : World) (hv : FlatAt w (.slice a l.length c) l.length (ints l)) (hn : l.length ≤ 1048576) :
    Calls Try.prog 37 #[.slice a l.length c, .int .i64 k] w fun e w' => e = .returned (.tuple #[.int .i64 (kthAll l k).1, .bool (kthAll l k).2]) ∧ Below w.heap.size w w' := by
  have HRK := Lib.hid (rank_any _ l a c rfl k w hv hn)
  have HV := Lib.hid hv
  clear hv
  by_cases hok : OkK l k
  · rw [decide_eq_true hok] at HRK
    obtain ⟨K, rfl⟩ : ∃ K : Nat, k = (K : Int) := ⟨k.toNat, by have := hok.2.1; omega⟩
    have hK : K < l.length := by have := hok.2.2; omega
    have HF := Lib.hid (kthAll_yes hok.1 hK)
    have HVS := Lib.hid (fun W => vals_any a l.length c W)
    have hKz : (K : Int) < (l.length : Int) := by omega
    clear hok
    go_enter Try.func37, Try.ntmps37
    go_wp2_with fail
    refine HRK.out.mono ?_
    rintro e w1 ⟨rfl, hb1⟩
    have HV1 := Lib.hid (HV.out.below hb1)
    have HB1 := Lib.hid hb1
    clear hb1 HV HRK
    go_wp2_with fail
    refine (HVS.out _).mono ?_
    rintro e w2 ⟨rfl, rfl⟩
    have hal : Below w1.heap.size w1 (w1.alloc (.cells #[.slice a l.length c] 34)) := (Below.refl _ _).alloc (Nat.le_refl _) _
    have bN := (Boxed.new w1 34 (.slice a l.length c)).cell
    have hsz : (w1.alloc (.cells #[.slice a l.length c] 34)).heap.size = w1.heap.size + 1 := by simp
    have HV2 := Lib.hid (HV1.out.below hal)
    have HB2 := Lib.hid (HB1.out.trans (hal.mono HB1.out.size))
    generalize w1.alloc (.cells #[.slice a l.length c] 34) = w2 at *
    obtain ⟨bp, oo, hbp, hcp⟩ := flat_behind (by omega) HV2.out
    have HSO := Lib.hid (sortedI_any w2 w1.heap.size bp oo c a l (by omega) (by omega) hbp bN hcp)
    clear hal bN hbp hcp HVS HV1 HB1 hsz
    go_wp2_with fail
    refine (HSO.out).mono ?_
    rintro e w3 ⟨a3, c3, rfl, hfl, hb3⟩
    have HB3 := Lib.hid (HB2.out.trans (hb3.mono HB2.out.size))
    have hKs : K < (srt l).length := by rw [srt_length]; exact hK
    obtain ⟨x, hx⟩ : ∃ x, x = (srt l).getD K 0 := ⟨_, rfl⟩
    have h1 := at_getD hKs
    rw [← hx] at h1 HF
    rw [srt_length] at hfl ⊢
    obtain ⟨a5, c5, e5, _, h5⟩ := hfl
    simp at e5
    obtain ⟨rfl, rfl⟩ := e5
    obtain ⟨b6, o6, rfl, _, hcx⟩ := h5 _ _ (ints_at h1)
    clear hb3 HSO HV2 HB2 h5 h1 hx hKs
    go_wp2_with fail
    go_ret2
    exact ⟨by rw [HF.out]; rfl, HB3.out⟩
  · rw [decide_eq_false hok] at HRK
    have HF := Lib.hid (kthAll_no hok)
    clear hok
    go_enter Try.func37, Try.ntmps37
    go_wp2_with fail
    refine HRK.out.mono ?_
    rintro e w1 ⟨rfl, hb1⟩
    have HB1 := Lib.hid hb1
    clear hb1 HV HRK
    go_wp2_with fail
    go_ret2
    exact ⟨by rw [HF.out]; rfl, HB1.out⟩

end Go.Proofs.Ytagibgphegoagaa
