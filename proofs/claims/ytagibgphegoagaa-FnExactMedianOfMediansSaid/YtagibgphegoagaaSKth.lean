/- The model's KthSmallest, QuickSelect and NthElement, by contracts. -/
import Derived.Test.YtagibgphegoagaaSSpl
import Derived.Test.YtagibgphegoagaaSrt
import Derived.Test.YtagibgphegoagaaRetN0
namespace Go.Proofs.Ytagibgphegoagaa
open Go.RowKit P El Qk Sl
set_option linter.unusedVariables false
attribute [local go_sem ↓ high] builtin_append_held

set_option maxRecDepth 100000 in
set_option maxHeartbeats 4000000 in
theorem l9Rank_any (v : Value) (l : List Int) (a : Option Addr) (c : Nat) (hs : v = .slice a l.length c) (k : Int) (w : World) (hv : FlatAt w v l.length (ints l)) (hn : l.length ≤ 1048576) :
    Calls Try.prog 122 #[v, .int .i64 k] w fun e w' => e = .returned (.bool (decide (OkK l k))) ∧ Below w.heap.size w w' := by
  subst hs
  have HV := Lib.hid (l2List_any _ l w hv hn)
  clear hv
  by_cases hok : OkL l
  · rw [decide_eq_true hok] at HV
    have h64 := hok.1
    have ew : IntKind.i64.wrap ((l.length : Int) - 1) = (l.length : Int) - 1 := by rw [IntKind.wrap_i64]; omega
    have hr : decide (0 ≤ k ∧ k ≤ (l.length : Int) - 1) = decide (OkK l k) := decide_eq_decide.2 ⟨fun h => ⟨hok, h.1, by omega⟩, fun h => ⟨h.2.1, by have := h.2.2; omega⟩⟩
    have HI := Lib.hid (fun W => l1In_any k 0 ((l.length : Int) - 1) W)
    rw [hr] at HI
    clear hr
    generalize decide (OkK l k) = D at *
    clear hok
    go_enter Try.func122, Try.ntmps122
    go_wp2_with fail
    refine HV.out.mono ?_
    rintro e w1 ⟨rfl, hb1⟩
    have HB := Lib.hid hb1
    clear hb1 HV
    go_wp2_with fail
    refine (HI.out _).mono ?_
    rintro e w2 ⟨rfl, rfl⟩
    go_wp2_with fail
    go_ret
    exact ⟨rfl, HB.out⟩
  · rw [decide_eq_false hok] at HV
    have HR : Hid (decide (OkK l k) = false) := Lib.hid (decide_eq_false fun h => hok h.1)
    clear hok
    go_enter Try.func122, Try.ntmps122
    go_wp2_with fail
    refine HV.out.mono ?_
    rintro e w1 ⟨rfl, hb1⟩
    have HB := Lib.hid hb1
    clear hb1 HV
    go_wp2_with fail
    go_ret
    exact ⟨by rw [HR.out]; rfl, HB.out⟩

set_option maxRecDepth 100000 in
set_option maxHeartbeats 4000000 in
theorem specKth_any (b o c : Nat) (l : List Int) (k : Int) (w : World) (hv : FlatAt w (.slice (some ⟨b, o, none⟩) l.length c) l.length (ints l)) (hn : l.length ≤ 1048576) :
    Calls Try.prog 50 #[.slice (some ⟨b, o, none⟩) l.length c, .int .i64 k] w fun e w' => e = .returned (.tuple #[.int .i64 (kthAll l k).1, .bool (kthAll l k).2]) ∧ Below w.heap.size w w' := by
  have HRK := Lib.hid (l9Rank_any _ l (some ⟨b, o, none⟩) c rfl k w hv hn)
  have HV := Lib.hid hv
  clear hv
  by_cases hok : OkK l k
  · rw [decide_eq_true hok] at HRK
    obtain ⟨K, rfl⟩ : ∃ K : Nat, k = (K : Int) := ⟨k.toNat, by have := hok.2.1; omega⟩
    have hK : K < l.length := by have := hok.2.2; omega
    have h64 := hok.1.1
    have HF := Lib.hid (kthAll_yes hok.1 hK)
    have hKz : (K : Int) < (l.length : Int) := by omega
    have HSR := Lib.hid (fun W (h : FlatAt W (.slice (some ⟨b, o, none⟩) l.length c) l.length (ints l)) => l2Sorted_any b o c l W h h64)
    clear hok
    go_enter Try.func50, Try.ntmps50
    go_wp2_with fail
    refine HRK.out.mono ?_
    rintro e w1 ⟨rfl, hb1⟩
    have HV1 := Lib.hid (HV.out.below hb1)
    have HB1 := Lib.hid hb1
    clear hb1 HV HRK
    go_wp2_with fail
    refine (HSR.out _ HV1.out).mono ?_
    rintro e w2 ⟨g, cap, rfl, hcap, hg, hrow, hb2⟩
    have HB2 := Lib.hid (HB1.out.trans (hb2.mono HB1.out.size))
    have hKs : K < (srt l).length := by rw [srt_length]; exact hK
    obtain ⟨x, hx⟩ : ∃ x, x = (srt l).getD K 0 := ⟨_, rfl⟩
    have h1 := at_getD hKs
    rw [← hx] at h1 HF
    rw [srt_length] at hcap ⊢
    obtain ⟨hcx, _⟩ := hrow.2 _ _ (ints_at h1)
    clear hb2 hrow hg h1 hx hKs HV1 HB1 HSR
    go_wp2_with fail
    go_ret2
    exact ⟨by rw [HF.out]; rfl, HB2.out⟩
  · rw [decide_eq_false hok] at HRK
    have HF := Lib.hid (kthAll_no hok)
    clear hok
    go_enter Try.func50, Try.ntmps50
    go_wp2_with fail
    refine HRK.out.mono ?_
    rintro e w1 ⟨rfl, hb1⟩
    have HB1 := Lib.hid hb1
    clear hb1 HV HRK
    go_wp2_with fail
    go_ret2
    exact ⟨by rw [HF.out]; rfl, HB1.out⟩

end Go.Proofs.Ytagibgphegoagaa
