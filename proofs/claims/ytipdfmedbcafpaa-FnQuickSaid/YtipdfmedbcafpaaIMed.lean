/- The program's MedianIndex, by contracts. -/
import Derived.Test.YtipdfmedbcafpaaQuickA
import Derived.Test.YtipdfmedbcafpaaSeg
import Derived.Test.YtipdfmedbcafpaaIList
import Derived.BigQuiet
import Derived.Deep.QuietTactic
import Derived.Laws.BitsLemmas
namespace Go.Proofs.Ytipdfmedbcafpaa
open Go.RowKit P El Qk
set_option linter.unusedVariables false

set_option maxRecDepth 100000 in
set_option maxHeartbeats 8000000 in
theorem imedR_any {g o c n : Nat} {L : List Int} (w : World) (h : FlatRd w g o (ints L)) (hL : L.length = n) (hn : n ≤ 1048576) (h0 : 0 < n) :
    Calls Try.prog 113 #[.slice (some ⟨g, o, none⟩) n c] w fun e w' => e = .returned (.int .i64 ((medF L : Nat) : Int)) ∧ ∃ t, w' = w.drewN t := by
  obtain ⟨m, hm⟩ : ∃ m, m = n / 2 := ⟨_, rfl⟩
  obtain ⟨k, hk⟩ : ∃ k, k = n - 1 := ⟨_, rfl⟩
  obtain ⟨x, hx⟩ : ∃ x, x = L.getD 0 0 := ⟨_, rfl⟩
  obtain ⟨y, hy⟩ : ∃ y, y = L.getD m 0 := ⟨_, rfl⟩
  obtain ⟨z, hz⟩ : ∃ z, z = L.getD k 0 := ⟨_, rfl⟩
  have hq1 : (n : Int) / 2 = (m : Int) := by omega
  have hq2 : IntKind.i64.wrap ((n : Int) - 1) = (k : Int) := by rw [IntKind.wrap_i64]; omega
  have hcx := h.at (k := 0) (by omega)
  have hcy := h.at (k := m) (by omega)
  have hcz := h.at (k := k) (by omega)
  rw [← hx] at hcx
  rw [← hy] at hcy
  rw [← hz] at hcz
  rw [Nat.add_zero] at hcx
  have hnz : (0 : Int) < n := by omega
  have hmz : (m : Int) < n := by omega
  have hkz : (k : Int) < n := by omega
  have HF : Hid (medF L = if medI x y z = 0 then 0 else if medI x y z = 1 then m else k) := Lib.hid (by
    unfold medF pickI; rw [hL, ← hm, ← hk, ← hx, ← hy, ← hz])
  clear h hx hy hz hL hm hk
  by_cases e0 : max (min x y) (min (max x y) z) = x
  · have hb0 : (max (min x y) (min (max x y) z) == x) = true := beq_iff_eq.2 e0
    have HE : Hid (medF L = 0) := Lib.hid (by rw [HF.out, medI_0 e0, if_pos rfl])
    clear e0
    go_enter Try.func113, Try.ntmps113
    go_wp2_with fail
    go_quiet (fail)
    go_wp2_with fail
    go_ret
    exact ⟨by rw [HE.out]; rfl, _, rfl⟩
  · have hb0 : (max (min x y) (min (max x y) z) == x) = false := beq_eq_false_iff_ne.2 e0
    by_cases e1 : max (min x y) (min (max x y) z) = y
    · have hb1 : (max (min x y) (min (max x y) z) == y) = true := beq_iff_eq.2 e1
      have HE : Hid (medF L = m) := Lib.hid (by rw [HF.out, medI_1 e0 e1, if_neg (by omega), if_pos rfl])
      clear e0 e1
      go_enter Try.func113, Try.ntmps113
      go_wp2_with fail
      go_quiet (fail)
      go_wp2_with fail
      go_ret
      exact ⟨by rw [HE.out]; rfl, _, rfl⟩
    · have hb1 : (max (min x y) (min (max x y) z) == y) = false := beq_eq_false_iff_ne.2 e1
      have HE : Hid (medF L = k) := Lib.hid (by rw [HF.out, medI_2 e0 e1, if_neg (by omega), if_neg (by omega)])
      clear e0 e1
      go_enter Try.func113, Try.ntmps113
      go_wp2_with fail
      go_quiet (fail)
      go_wp2_with fail
      go_ret
      exact ⟨by rw [HE.out]; rfl, _, rfl⟩

set_option maxRecDepth 100000 in
theorem implMed_any (b o c : Nat) (l : List Int) (w : World) (hv : FlatAt w (.slice (some ⟨b, o, none⟩) l.length c) l.length (ints l)) (hn : l.length ≤ 1048576) :
    Calls Try.prog 53 #[.slice (some ⟨b, o, none⟩) l.length c] w fun e w' => e = .returned (.tuple #[.int .i64 (medAll l).1, .bool (medAll l).2]) ∧ Below w.heap.size w w' := by
  have HV := Lib.hid (implValidList_any _ l w hv hn)
  by_cases hok : OkL l
  · rw [decide_eq_true hok] at HV
    by_cases h0 : l.length = 0
    · have HN := Lib.hid (medAll_no (l := l) (fun h => by omega))
      obtain rfl := List.eq_nil_of_length_eq_zero h0
      clear hok hv h0
      rw [List.length_nil] at HV ⊢
      go_enter Try.func53, Try.ntmps53
      go_wp2_with fail
      refine HV.out.mono ?_
      rintro e w1 ⟨rfl, hb1⟩
      have HB1 := Lib.hid hb1
      clear hb1 HV
      go_wp2_with fail
      go_ret2
      exact ⟨by rw [HN.out]; rfl, HB1.out⟩
    · have hl0 : 0 < l.length := by omega
      have h0z : ((l.length : Int) == 0) = false := beq_eq_false_iff_ne.2 (by omega)
      have h0z2 : ¬ (l.length : Int) = 0 := by omega
      have HF := Lib.hid (medAll_yes ⟨hok, hl0⟩)
      have HS := Lib.hid (FlatRd.of_flat hv)
      have HM := Lib.hid (fun W (h : FlatRd W b o (ints l)) => imedR_any (c := c) (n := l.length) W h rfl hn hl0)
      clear hok hv h0
      go_enter Try.func53, Try.ntmps53
      go_wp2_with fail
      refine HV.out.mono ?_
      rintro e w1 ⟨rfl, hb1⟩
      have HS1 := Lib.hid (HS.out.below hb1)
      have HB1 := Lib.hid hb1
      clear hb1 HV HS
      go_wp2_with fail
      refine (HM.out _ HS1.out).mono ?_
      rintro e w2 ⟨rfl, t, rfl⟩
      go_wp2_with fail
      go_ret2
      exact ⟨by rw [HF.out]; rfl, HB1.out.trans ⟨rfl, rfl, rfl, Nat.le_refl _, fun _ _ => rfl⟩⟩
  · rw [decide_eq_false hok] at HV
    have HN := Lib.hid (medAll_no (l := l) (fun h => hok h.1))
    clear hok hv
    go_enter Try.func53, Try.ntmps53
    go_wp2_with fail
    refine HV.out.mono ?_
    rintro e w1 ⟨rfl, hb1⟩
    have HB1 := Lib.hid hb1
    clear hb1 HV
    go_wp2_with fail
    go_ret2
    exact ⟨by rw [HN.out]; rfl, HB1.out⟩

end Go.Proofs.Ytipdfmedbcafpaa
