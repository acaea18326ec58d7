/- The model's MedianIndex, by contracts. -/
import Derived.Test.YtipdfmedbcafpaaQuickA
import Derived.Test.YtipdfmedbcafpaaMedP
import Derived.Test.YtipdfmedbcafpaaSeg
import Derived.BigQuiet
import Derived.BigRegion
import Derived.Deep.QuietTactic
import Derived.Laws.BitsLemmas
namespace Go.Proofs.Ytipdfmedbcafpaa
open Go.RowKit P El Qk
set_option linter.unusedVariables false

/-- The two rows that the search reads. -/
structure MedW (A g o n : Nat) (L : List Int) (w wr : World) : Prop where
  at3 : CellRow wr A (ints (at3 n))
  row : FlatRd wr g o (ints L)
  b : Below w.heap.size w wr
theorem MedW.drewN {A g o n : Nat} {L : List Int} {w wr : World} (h : MedW A g o n L w wr) (t : Nat) : MedW A g o n L w (wr.drewN t) :=
  ⟨h.at3.same rfl (Nat.le_refl _), h.row, h.b.trans ⟨rfl, rfl, rfl, Nat.le_refl _, fun _ _ => rfl⟩⟩

set_option maxRecDepth 100000 in
set_option maxHeartbeats 16000000 in
theorem smedR_any {g o c n : Nat} {L : List Int} (w : World) (h : FlatRd w g o (ints L)) (hL : L.length = n) (hn : n ≤ 1048576) (h0 : 0 < n) :
    Calls Try.prog 114 #[.slice (some ⟨g, o, none⟩) n c] w fun e w' => e = .returned (.int .i64 ((medF L : Nat) : Int)) ∧ Below w.heap.size w w' := by
  obtain ⟨v, hv⟩ : ∃ v, v = vv (L.getD 0 0) (L.getD (n / 2) 0) (L.getD (n - 1) 0) := ⟨_, rfl⟩
  obtain ⟨m, hm⟩ : ∃ m, m = medI (L.getD 0 0) (L.getD (n / 2) 0) (L.getD (n - 1) 0) := ⟨_, rfl⟩
  have hm2 : m ≤ 2 := by rw [hm]; exact medI_le _ _ _
  have HGOOD : Hid (∀ i, i < 3 → i ≤ m → (leB v i 3 && geB v i 3) = decide (i = m)) := Lib.hid (fun i h1 h2 => by rw [hv, hm]; rw [hm] at h2; exact med_good h1 h2)
  have HF : Hid (medF L = pickI n m) := Lib.hid (by unfold medF; rw [hL, hm])
  have HV : Hid (∀ j, L.getD (pickI n j) 0 = v j) := Lib.hid (fun j => by rw [hv]; exact vv_at j)
  have HPL : Hid (∀ j, pickI n j < n) := Lib.hid (fun j => pickI_lt h0 j)
  have hwn : IntKind.i64.wrap ((n : Int) - 1) = (n : Int) - 1 := by rw [IntKind.wrap_i64]; omega
  have hnz : (0 : Int) < n := by omega
  have HL := Lib.hid hL
  have H0 := Lib.hid h0
  have HM0 : Hid (MedW w.heap.size g o n L w (w.alloc (.cells (ints (at3 n)).toArray 3))) := Lib.hid (by
    have hb : Below w.heap.size w (w.alloc (.cells (ints (at3 n)).toArray 3)) := (Below.refl _ _).alloc (Nat.le_refl _) _
    have hA : RowIs (w.alloc (.cells (ints (at3 n)).toArray 3)) w.heap.size 3 (ints (at3 n)) := heap_alloc_new w _
    exact ⟨CellRow.of_row hA, h.below hb, hb⟩)
  have hAT : (ints (at3 n)).toArray = #[.int .i64 0, .int .i64 ((n : Int) / 2), .int .i64 ((n : Int) - 1)] := rfl
  rw [hAT] at HM0
  clear h hL hv hm hAT h0
  go_enter Try.func114, Try.ntmps114
  go_wp2_with fail
  go_loopw [5, 6, 7, 8] (fun iv _ _ _ wr => ∃ i : Nat, iv = .int .i64 (i : Int) ∧ i ≤ m ∧ MedW w.heap.size g o n L w wr) (fun iv _ _ _ _ => 3 - (intOf iv).toNat)
  case atStart => exact ⟨0, rfl, Nat.zero_le _, HM0.out⟩
  case round =>
    obtain ⟨i, rfl, him, hw⟩ := hrel
    have HW := Lib.hid hw
    have hi3 : i < 3 := by omega
    have hiz : (i : Int) < 3 := by omega
    have HG := Lib.hid (HGOOD.out i hi3 him)
    have hpi : (pickI n i : Int) < n := by have := HPL.out i; omega
    clear hw HM0 HGOOD hwn
    generalize hpe : pickI n i = pi at *
    have HVI : Hid (L.getD pi 0 = v i) := Lib.hid (by rw [← hpe]; exact HV.out i)
    have HPI := Lib.hid hpe
    clear hpe
    go_wp2_with fail
    go_loopw [6, 7, 8] (fun lv mv kv ws => ∃ k : Nat, kv = .int .i64 (k : Int) ∧ k ≤ 3 ∧ lv = .bool (leB v i k) ∧ mv = .bool (geB v i k) ∧ MedW w.heap.size g o n L w ws) (fun _ _ kv _ => 3 - (intOf kv).toNat)
    case atStart => exact ⟨0, rfl, by omega, rfl, rfl, HW.out⟩
    case round =>
      obtain ⟨k, rfl, hk3, rfl, rfl, hw⟩ := hrel
      have HWK := Lib.hid hw
      clear hw HW
      by_cases hlt : k < 3
      · have hkz : (k : Int) < 3 := by omega
        by_cases hki : k = i
        · have hne : ((k : Int) != (i : Int)) = false := by simp; omega
          have hki2 : (k : Int) = (i : Int) := by omega
          have HL1 := Lib.hid (leB_same (v := v) hki)
          have HG1 := Lib.hid (geB_same (v := v) hki)
          subst hki
          go_wp2_with fail
          go_roundw
          case rel => exact ⟨k + 1, by go_num, by omega, by rw [HL1.out], by rw [HG1.out], HWK.out⟩
          case measure => simp [intOf]; omega
        · have hne : ((k : Int) != (i : Int)) = true := by simp; omega
          have hki2 : ¬ (k : Int) = (i : Int) := by omega
          have HL1 := Lib.hid (leB_step (v := v) hki)
          have HG1 := Lib.hid (geB_step (v := v) hki)
          have hpk : (pickI n k : Int) < n := by have := HPL.out k; omega
          have hck := HWK.out.at3.2 k _ (ints_at (at3_at H0.out hlt))
          have hci := HWK.out.at3.2 i _ (ints_at (at3_at H0.out hi3))
          rw [HPI.out] at hci
          have hxi := HWK.out.row.at (k := pi) (by rw [HL.out]; have := HPL.out i; rw [HPI.out] at this; exact this)
          have hxk := HWK.out.row.at (k := pickI n k) (by rw [HL.out]; exact HPL.out k)
          rw [HVI.out] at hxi
          rw [HV.out k] at hxk
          generalize pickI n k = pk at *
          obtain ⟨hck, _⟩ := hck
          obtain ⟨hci, _⟩ := hci
          generalize v i = vi at *
          generalize v k = vk at *
          generalize leB v i k = B1 at *
          generalize geB v i k = B2 at *
          have HW2 : Hid (∀ t, MedW w.heap.size g o n L w (wr.drewN t)) := Lib.hid (fun t => HWK.out.drewN t)
          clear hlt hki HWK HPI HVI
          by_cases h1 : vk ≤ vi <;> by_cases h2 : vi ≤ vk <;> cases B1 <;> cases B2
          all_goals
            first
            | (have hd1 : decide (vk ≤ vi) = true := decide_eq_true h1)
            | (have hd1 : decide (vk ≤ vi) = false := decide_eq_false h1)
            first
            | (have hd2 : decide (vi ≤ vk) = true := decide_eq_true h2)
            | (have hd2 : decide (vi ≤ vk) = false := decide_eq_false h2)
            rw [hd1] at HL1
            rw [hd2] at HG1
            go_wp2_with fail
            go_quiet (fail)
            go_wp2_with fail
            go_quiet (fail)
            go_wp2_with fail
            go_roundw
            case rel => exact ⟨k + 1, by go_num, by omega, by rw [HL1.out]; rfl, by rw [HG1.out]; rfl, HW2.out _⟩
            case measure => simp [intOf]; omega
      · obtain rfl : k = 3 := by omega
        generalize leB v i 3 = B1 at *
        generalize geB v i 3 = B2 at *
        have hck := HWK.out.at3.2 i _ (ints_at (at3_at H0.out hi3))
        rw [HPI.out] at hck
        obtain ⟨hck, _⟩ := hck
        by_cases he : i = m
        · have HE : Hid (medF L = pi) := Lib.hid (by rw [HF.out, ← he]; exact HPI.out)
          have hg := HG.out
          rw [decide_eq_true he] at hg
          simp only [Bool.and_eq_true] at hg
          obtain ⟨rfl, rfl⟩ := hg
          have HB := Lib.hid HWK.out.b
          clear he HG
          go_wp2_with fail
          go_ret
          exact ⟨by rw [HE.out]; rfl, HB.out⟩
        · have hg := HG.out
          rw [decide_eq_false he] at hg
          have him2 : i + 1 ≤ m := by omega
          clear he HG
          cases B1 <;> cases B2
          all_goals
            first
            | (exact absurd hg (by decide))
            | (clear hg
               go_wp2_with fail
               go_roundw
               case rel => exact ⟨i + 1, by go_num, him2, HWK.out⟩
               case measure => simp [intOf]; omega)

end Go.Proofs.Ytipdfmedbcafpaa
