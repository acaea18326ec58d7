/- The model's NaturalRuns, by its contract. -/
import Derived.Test.YtnjabdlhgmaeiaaIRun
namespace Go.Proofs.Ytnjabdlhgmaeiaa
open Go.RowKit Ru
set_option linter.unusedVariables false

attribute [local go_sem ↓ high] builtin_append_held

/-- The outer loop's word. -/
structure SoW (base : Nat) (l : List (Int × Int)) (i : Nat) (O : List (Int × Int)) (rv : Value) (w wr : World) : Prop where
  le : i ≤ l.length
  out : O ++ runsF l i = runsF l 0
  len : O.length ≤ i
  held : HeldU base wr rv O
  b : Below base w wr
/-- The inner loops' word. -/
structure SiW (base : Nat) (O : List (Int × Int)) (rv : Value) (w wr : World) : Prop where
  held : HeldU base wr rv O
  b : Below base w wr
theorem SiW.drewN {base : Nat} {O : List (Int × Int)} {rv : Value} {w wr : World} (h : SiW base O rv w wr) (n : Nat) : SiW base O rv w (wr.drewN n) :=
  ⟨h.held.drewN n, h.b.trans ⟨rfl, rfl, rfl, Nat.le_refl _, fun _ _ => rfl⟩⟩

set_option maxRecDepth 100000 in
set_option maxHeartbeats 16000000 in
theorem l5Runs_any (b o c : Nat) (l : List (Int × Int)) (w : World) (h : RecAt w b o c l) (h64 : l.length ≤ 64) :
    Calls Try.prog 82 #[.slice (some ⟨b, o, none⟩) l.length c] w (RowOfU (runsF l 0) w) := by
  have HREC := Lib.hid h
  have H0 : Hid (SoW w.heap.size l 0 [] (.slice (some ⟨w.heap.size, 0, none⟩) 0 0) w (w.alloc (.cells #[] 48))) := Lib.hid ⟨Nat.zero_le _, rfl, Nat.le_refl _, HeldU.start w _ (Nat.le_refl _), (Below.refl _ _).alloc (Nat.le_refl _) _⟩
  clear h
  go_enter Try.func82, Try.ntmps82
  go_wp2_with fail
  go_loopw [3, 4, 5] (fun rv iv _ wr => ∃ (i : Nat) (O : List (Int × Int)), iv = .int .i64 (i : Int) ∧ SoW w.heap.size l i O rv w wr) (fun _ iv _ _ => l.length - (intOf iv).toNat)
  case atStart => exact ⟨0, [], rfl, H0.out⟩
  case round =>
    clear H0
    obtain ⟨i, O, rfl, ho⟩ := hrel
    have hile := ho.le
    have hOi := ho.len
    have HOUT := Lib.hid ho.out
    have HI0 : Hid (SiW w.heap.size O u3 w wr) := Lib.hid ⟨ho.held, ho.b⟩
    by_cases hil : i < l.length
    · clear ho
      have hilz : (i : Int) < (l.length : Int) := by omega
      obtain ⟨k1, hk1⟩ : ∃ k1, k1 = i + 1 := ⟨_, rfl⟩
      have hk1z : IntKind.i64.wrap ((i : Int) + 1) = (k1 : Int) := by rw [IntKind.wrap_i64]; omega
      have HK1 := Lib.hid hk1
      by_cases hk1l : k1 < l.length
      · obtain ⟨hbb, hc1, _⟩ := (HREC.out.below HI0.out.b).2 k1 hk1l
        obtain ⟨_, hc2, _⟩ := (HREC.out.below HI0.out.b).2 i hil
        obtain ⟨x, hx⟩ : ∃ x, x = (l.getD k1 (0, 0)).1 := ⟨_, rfl⟩
        obtain ⟨y, hy⟩ : ∃ y, y = (l.getD i (0, 0)).1 := ⟨_, rfl⟩
        have hdn : dn l (i + 1) = decide (x < y) := by rw [dn_decide, ← hk1, ← hx, ← hy]
        have hst : ext l (dn l (i + 1)) (i + 1) = rend l i := (rend_next (by omega)).symm
        rw [hdn] at hst
        rw [← hx] at hc1
        rw [← hy] at hc2
        have hkz : (k1 : Int) < (l.length : Int) := by omega
        have hdk : decide ((k1 : Int) < (l.length : Int)) = true := decide_eq_true hkz
        clear hx hy hdn hk1
        by_cases hxy : x < y
        · have hdx : decide (x < y) = true := decide_eq_true hxy
          rw [hdx] at hst
          have HST := Lib.hid hst
          clear hst
          go_wp2_with fail
          go_quiet (fail)
          have HI0 := Lib.hid (HI0.out.drewN nq)
          generalize wr.drewN nq = wr at *
          go_wp2_with fail
          go_loopw [5] (fun kv ws => ∃ k : Nat, kv = .int .i64 (k : Int) ∧ i + 1 ≤ k ∧ k ≤ l.length ∧ ext l true k = rend l i ∧ SiW w.heap.size O u3 w ws) (fun kv _ => l.length - (intOf kv).toNat)
          case atStart => exact ⟨i + 1, by first | rfl | rw [HK1.out], Nat.le_refl _, hil, HST.out, HI0.out⟩
          case round =>
            clear HI0 HST
            obtain ⟨k, rfl, hk1, hk2, hex, hi⟩ := hrel
            have HEX := Lib.hid hex
            have HI := Lib.hid hi
            clear hex hi
            by_cases hlt : k < l.length
            · obtain ⟨j, hj⟩ : ∃ j, k = j + 1 := ⟨k - 1, by omega⟩
              obtain ⟨hbb, hc1, _⟩ := (HREC.out.below HI.out.b).2 k hlt
              obtain ⟨_, hc2, _⟩ := (HREC.out.below HI.out.b).2 j (by omega)
              obtain ⟨x, hx⟩ : ∃ x, x = (l.getD k (0, 0)).1 := ⟨_, rfl⟩
              obtain ⟨y, hy⟩ : ∃ y, y = (l.getD j (0, 0)).1 := ⟨_, rfl⟩
              have HDN : Hid (dn l k = decide (x < y)) := Lib.hid (by rw [hj, dn_decide, ← hj, ← hx, ← hy])
              rw [← hx] at hc1
              rw [← hy] at hc2
              have hwk : IntKind.i64.wrap ((k : Int) - 1) = (j : Int) := by rw [IntKind.wrap_i64]; omega
              have hkz : (k : Int) < (l.length : Int) := by omega
              have hdk : decide ((k : Int) < (l.length : Int)) = true := decide_eq_true hkz
              have hjl : j < l.length := by omega
              have hjz : (j : Int) < (l.length : Int) := by omega
              have HJ := Lib.hid hj
              clear hx hy hj
              by_cases hxy : x < y
              · have hdx : decide (x < y) = true := decide_eq_true hxy
                have hdg : decide (y ≤ x) = false := decide_eq_false (by omega)
                have HE : Hid (ext l true (k + 1) = rend l i) := Lib.hid (by rw [← HEX.out, ext_go hlt (by rw [HDN.out, hdx])])
                clear HDN HEX
                go_wp2_with fail
                go_quiet (fail)
                have HI := Lib.hid (HI.out.drewN nq)
                generalize wr.drewN nq = wr at *
                go_wp2_with fail
                go_roundw
                case rel => exact ⟨k + 1, by go_num, by omega, by omega, HE.out, HI.out⟩
                case measure => simp [intOf]; omega
              · have hdx : decide (x < y) = false := decide_eq_false hxy
                have hdg : decide (y ≤ x) = true := decide_eq_true (by omega)
                have HKR : Hid (k = rend l i) := Lib.hid (by rw [← HEX.out, ext_stop (by rw [HDN.out, hdx]; simp)])
                clear HDN HEX
                go_wp2_with fail
                go_quiet (fail)
                have HI := Lib.hid (HI.out.drewN nq)
                generalize wr.drewN nq = wr at *
                obtain ⟨cn, hcn⟩ : ∃ cn, cn = rcnt l i := ⟨_, rfl⟩
                have hkr := HKR.out
                have hp := rcnt_pos hil
                have hkc : (k : Int) - (i : Int) = (cn : Int) := by omega
                have hkle : k ≤ 64 := by omega
                have hcle : cn ≤ 64 := by omega
                have hikz : (i : Int) ≤ (k : Int) := by omega
                obtain ⟨v2, w2, hrun, hh2, hbel2⟩ := append1litU w.heap.size _ O i cn wr HI.out.held HI.out.b.size (by omega)
                have HN : Hid (SoW w.heap.size l k (O ++ [((i : Int), (cn : Int))]) v2 w w2) := Lib.hid (by
                  refine ⟨by omega, ?_, by simp; omega, hh2, HI.out.b.trans hbel2⟩
                  have h := HOUT.out
                  rw [runsF_in hil, ← hcn, show i + cn = k by omega] at h
                  rw [← h]; simp)
                clear hh2 hbel2 hcn hkr hp HI HKR
                go_wp2_with fail
                go_roundw
                case rel => exact ⟨k, _, rfl, HN.out⟩
                case measure => simp [intOf]; omega
            · have hkz : ¬ (k : Int) < (l.length : Int) := by omega
              have hdk : decide ((k : Int) < (l.length : Int)) = false := decide_eq_false hkz
              have HKR : Hid (k = rend l i) := Lib.hid (by rw [← HEX.out, ext_stop (by omega)])
              clear HEX
              go_wp2_with fail
              go_quiet (fail)
              have HI := Lib.hid (HI.out.drewN nq)
              generalize wr.drewN nq = wr at *
              obtain ⟨cn, hcn⟩ : ∃ cn, cn = rcnt l i := ⟨_, rfl⟩
              have hkr := HKR.out
              have hp := rcnt_pos hil
              have hkc : (k : Int) - (i : Int) = (cn : Int) := by omega
              have hkle : k ≤ 64 := by omega
              have hcle : cn ≤ 64 := by omega
              have hikz : (i : Int) ≤ (k : Int) := by omega
              obtain ⟨v2, w2, hrun, hh2, hbel2⟩ := append1litU w.heap.size _ O i cn wr HI.out.held HI.out.b.size (by omega)
              have HN : Hid (SoW w.heap.size l k (O ++ [((i : Int), (cn : Int))]) v2 w w2) := Lib.hid (by
                refine ⟨by omega, ?_, by simp; omega, hh2, HI.out.b.trans hbel2⟩
                have h := HOUT.out
                rw [runsF_in hil, ← hcn, show i + cn = k by omega] at h
                rw [← h]; simp)
              clear hh2 hbel2 hcn hkr hp HI HKR
              go_wp2_with fail
              go_roundw
              case rel => exact ⟨k, _, rfl, HN.out⟩
              case measure => simp [intOf]; omega
        · have hdx : decide (x < y) = false := decide_eq_false hxy
          rw [hdx] at hst
          have HST := Lib.hid hst
          clear hst
          go_wp2_with fail
          go_quiet (fail)
          have HI0 := Lib.hid (HI0.out.drewN nq)
          generalize wr.drewN nq = wr at *
          go_wp2_with fail
          go_loopw [5] (fun kv ws => ∃ k : Nat, kv = .int .i64 (k : Int) ∧ i + 1 ≤ k ∧ k ≤ l.length ∧ ext l false k = rend l i ∧ SiW w.heap.size O u3 w ws) (fun kv _ => l.length - (intOf kv).toNat)
          case atStart => exact ⟨i + 1, by first | rfl | rw [HK1.out], Nat.le_refl _, hil, HST.out, HI0.out⟩
          case round =>
            clear HI0 HST
            obtain ⟨k, rfl, hk1, hk2, hex, hi⟩ := hrel
            have HEX := Lib.hid hex
            have HI := Lib.hid hi
            clear hex hi
            by_cases hlt : k < l.length
            · obtain ⟨j, hj⟩ : ∃ j, k = j + 1 := ⟨k - 1, by omega⟩
              obtain ⟨hbb, hc1, _⟩ := (HREC.out.below HI.out.b).2 k hlt
              obtain ⟨_, hc2, _⟩ := (HREC.out.below HI.out.b).2 j (by omega)
              obtain ⟨x, hx⟩ : ∃ x, x = (l.getD k (0, 0)).1 := ⟨_, rfl⟩
              obtain ⟨y, hy⟩ : ∃ y, y = (l.getD j (0, 0)).1 := ⟨_, rfl⟩
              have HDN : Hid (dn l k = decide (x < y)) := Lib.hid (by rw [hj, dn_decide, ← hj, ← hx, ← hy])
              rw [← hx] at hc1
              rw [← hy] at hc2
              have hwk : IntKind.i64.wrap ((k : Int) - 1) = (j : Int) := by rw [IntKind.wrap_i64]; omega
              have hkz : (k : Int) < (l.length : Int) := by omega
              have hdk : decide ((k : Int) < (l.length : Int)) = true := decide_eq_true hkz
              have hjl : j < l.length := by omega
              have hjz : (j : Int) < (l.length : Int) := by omega
              have HJ := Lib.hid hj
              clear hx hy hj
              by_cases hxy : x < y
              · have hdx : decide (x < y) = true := decide_eq_true hxy
                have hdg : decide (y ≤ x) = false := decide_eq_false (by omega)
                have HKR : Hid (k = rend l i) := Lib.hid (by rw [← HEX.out, ext_stop (by rw [HDN.out, hdx]; simp)])
                clear HDN HEX
                go_wp2_with fail
                go_quiet (fail)
                have HI := Lib.hid (HI.out.drewN nq)
                generalize wr.drewN nq = wr at *
                obtain ⟨cn, hcn⟩ : ∃ cn, cn = rcnt l i := ⟨_, rfl⟩
                have hkr := HKR.out
                have hp := rcnt_pos hil
                have hkc : (k : Int) - (i : Int) = (cn : Int) := by omega
                have hkle : k ≤ 64 := by omega
                have hcle : cn ≤ 64 := by omega
                have hikz : (i : Int) ≤ (k : Int) := by omega
                obtain ⟨v2, w2, hrun, hh2, hbel2⟩ := append1litU w.heap.size _ O i cn wr HI.out.held HI.out.b.size (by omega)
                have HN : Hid (SoW w.heap.size l k (O ++ [((i : Int), (cn : Int))]) v2 w w2) := Lib.hid (by
                  refine ⟨by omega, ?_, by simp; omega, hh2, HI.out.b.trans hbel2⟩
                  have h := HOUT.out
                  rw [runsF_in hil, ← hcn, show i + cn = k by omega] at h
                  rw [← h]; simp)
                clear hh2 hbel2 hcn hkr hp HI HKR
                go_wp2_with fail
                go_roundw
                case rel => exact ⟨k, _, rfl, HN.out⟩
                case measure => simp [intOf]; omega
              · have hdx : decide (x < y) = false := decide_eq_false hxy
                have hdg : decide (y ≤ x) = true := decide_eq_true (by omega)
                have HE : Hid (ext l false (k + 1) = rend l i) := Lib.hid (by rw [← HEX.out, ext_go hlt (by rw [HDN.out, hdx])])
                clear HDN HEX
                go_wp2_with fail
                go_quiet (fail)
                have HI := Lib.hid (HI.out.drewN nq)
                generalize wr.drewN nq = wr at *
                go_wp2_with fail
                go_roundw
                case rel => exact ⟨k + 1, by go_num, by omega, by omega, HE.out, HI.out⟩
                case measure => simp [intOf]; omega
            · have hkz : ¬ (k : Int) < (l.length : Int) := by omega
              have hdk : decide ((k : Int) < (l.length : Int)) = false := decide_eq_false hkz
              have HKR : Hid (k = rend l i) := Lib.hid (by rw [← HEX.out, ext_stop (by omega)])
              clear HEX
              go_wp2_with fail
              go_quiet (fail)
              have HI := Lib.hid (HI.out.drewN nq)
              generalize wr.drewN nq = wr at *
              obtain ⟨cn, hcn⟩ : ∃ cn, cn = rcnt l i := ⟨_, rfl⟩
              have hkr := HKR.out
              have hp := rcnt_pos hil
              have hkc : (k : Int) - (i : Int) = (cn : Int) := by omega
              have hkle : k ≤ 64 := by omega
              have hcle : cn ≤ 64 := by omega
              have hikz : (i : Int) ≤ (k : Int) := by omega
              obtain ⟨v2, w2, hrun, hh2, hbel2⟩ := append1litU w.heap.size _ O i cn wr HI.out.held HI.out.b.size (by omega)
              have HN : Hid (SoW w.heap.size l k (O ++ [((i : Int), (cn : Int))]) v2 w w2) := Lib.hid (by
                refine ⟨by omega, ?_, by simp; omega, hh2, HI.out.b.trans hbel2⟩
                have h := HOUT.out
                rw [runsF_in hil, ← hcn, show i + cn = k by omega] at h
                rw [← h]; simp)
              clear hh2 hbel2 hcn hkr hp HI HKR
              go_wp2_with fail
              go_roundw
              case rel => exact ⟨k, _, rfl, HN.out⟩
              case measure => simp [intOf]; omega
      · have HST : Hid (ext l false (i + 1) = rend l i) := Lib.hid (by rw [rend_last (by omega), ext_stop (by omega)])
        have hkz : ¬ (k1 : Int) < (l.length : Int) := by omega
        have hdk : decide ((k1 : Int) < (l.length : Int)) = false := decide_eq_false hkz
        clear hk1
        go_wp2_with fail
        go_quiet (fail)
        have HI0 := Lib.hid (HI0.out.drewN nq)
        generalize wr.drewN nq = wr at *
        go_wp2_with fail
        go_loopw [5] (fun kv ws => ∃ k : Nat, kv = .int .i64 (k : Int) ∧ i + 1 ≤ k ∧ k ≤ l.length ∧ ext l false k = rend l i ∧ SiW w.heap.size O u3 w ws) (fun kv _ => l.length - (intOf kv).toNat)
        case atStart => exact ⟨i + 1, by first | rfl | rw [HK1.out], Nat.le_refl _, hil, HST.out, HI0.out⟩
        case round =>
          clear HI0 HST
          obtain ⟨k, rfl, hk1, hk2, hex, hi⟩ := hrel
          have HEX := Lib.hid hex
          have HI := Lib.hid hi
          clear hex hi
          by_cases hlt : k < l.length
          · obtain ⟨j, hj⟩ : ∃ j, k = j + 1 := ⟨k - 1, by omega⟩
            obtain ⟨hbb, hc1, _⟩ := (HREC.out.below HI.out.b).2 k hlt
            obtain ⟨_, hc2, _⟩ := (HREC.out.below HI.out.b).2 j (by omega)
            obtain ⟨x, hx⟩ : ∃ x, x = (l.getD k (0, 0)).1 := ⟨_, rfl⟩
            obtain ⟨y, hy⟩ : ∃ y, y = (l.getD j (0, 0)).1 := ⟨_, rfl⟩
            have HDN : Hid (dn l k = decide (x < y)) := Lib.hid (by rw [hj, dn_decide, ← hj, ← hx, ← hy])
            rw [← hx] at hc1
            rw [← hy] at hc2
            have hwk : IntKind.i64.wrap ((k : Int) - 1) = (j : Int) := by rw [IntKind.wrap_i64]; omega
            have hkz : (k : Int) < (l.length : Int) := by omega
            have hdk : decide ((k : Int) < (l.length : Int)) = true := decide_eq_true hkz
            have hjl : j < l.length := by omega
            have hjz : (j : Int) < (l.length : Int) := by omega
            have HJ := Lib.hid hj
            clear hx hy hj
            by_cases hxy : x < y
            · have hdx : decide (x < y) = true := decide_eq_true hxy
              have hdg : decide (y ≤ x) = false := decide_eq_false (by omega)
              have HKR : Hid (k = rend l i) := Lib.hid (by rw [← HEX.out, ext_stop (by rw [HDN.out, hdx]; simp)])
              clear HDN HEX
              go_wp2_with fail
              go_quiet (fail)
              have HI := Lib.hid (HI.out.drewN nq)
              generalize wr.drewN nq = wr at *
              obtain ⟨cn, hcn⟩ : ∃ cn, cn = rcnt l i := ⟨_, rfl⟩
              have hkr := HKR.out
              have hp := rcnt_pos hil
              have hkc : (k : Int) - (i : Int) = (cn : Int) := by omega
              have hkle : k ≤ 64 := by omega
              have hcle : cn ≤ 64 := by omega
              have hikz : (i : Int) ≤ (k : Int) := by omega
              obtain ⟨v2, w2, hrun, hh2, hbel2⟩ := append1litU w.heap.size _ O i cn wr HI.out.held HI.out.b.size (by omega)
              have HN : Hid (SoW w.heap.size l k (O ++ [((i : Int), (cn : Int))]) v2 w w2) := Lib.hid (by
                refine ⟨by omega, ?_, by simp; omega, hh2, HI.out.b.trans hbel2⟩
                have h := HOUT.out
                rw [runsF_in hil, ← hcn, show i + cn = k by omega] at h
                rw [← h]; simp)
              clear hh2 hbel2 hcn hkr hp HI HKR
              go_wp2_with fail
              go_roundw
              case rel => exact ⟨k, _, rfl, HN.out⟩
              case measure => simp [intOf]; omega
            · have hdx : decide (x < y) = false := decide_eq_false hxy
              have hdg : decide (y ≤ x) = true := decide_eq_true (by omega)
              have HE : Hid (ext l false (k + 1) = rend l i) := Lib.hid (by rw [← HEX.out, ext_go hlt (by rw [HDN.out, hdx])])
              clear HDN HEX
              go_wp2_with fail
              go_quiet (fail)
              have HI := Lib.hid (HI.out.drewN nq)
              generalize wr.drewN nq = wr at *
              go_wp2_with fail
              go_roundw
              case rel => exact ⟨k + 1, by go_num, by omega, by omega, HE.out, HI.out⟩
              case measure => simp [intOf]; omega
          · have hkz : ¬ (k : Int) < (l.length : Int) := by omega
            have hdk : decide ((k : Int) < (l.length : Int)) = false := decide_eq_false hkz
            have HKR : Hid (k = rend l i) := Lib.hid (by rw [← HEX.out, ext_stop (by omega)])
            clear HEX
            go_wp2_with fail
            go_quiet (fail)
            have HI := Lib.hid (HI.out.drewN nq)
            generalize wr.drewN nq = wr at *
            obtain ⟨cn, hcn⟩ : ∃ cn, cn = rcnt l i := ⟨_, rfl⟩
            have hkr := HKR.out
            have hp := rcnt_pos hil
            have hkc : (k : Int) - (i : Int) = (cn : Int) := by omega
            have hkle : k ≤ 64 := by omega
            have hcle : cn ≤ 64 := by omega
            have hikz : (i : Int) ≤ (k : Int) := by omega
            obtain ⟨v2, w2, hrun, hh2, hbel2⟩ := append1litU w.heap.size _ O i cn wr HI.out.held HI.out.b.size (by omega)
            have HN : Hid (SoW w.heap.size l k (O ++ [((i : Int), (cn : Int))]) v2 w w2) := Lib.hid (by
              refine ⟨by omega, ?_, by simp; omega, hh2, HI.out.b.trans hbel2⟩
              have h := HOUT.out
              rw [runsF_in hil, ← hcn, show i + cn = k by omega] at h
              rw [← h]; simp)
            clear hh2 hbel2 hcn hkr hp HI HKR
            go_wp2_with fail
            go_roundw
            case rel => exact ⟨k, _, rfl, HN.out⟩
            case measure => simp [intOf]; omega
    · obtain rfl : i = l.length := by omega
      obtain ⟨g, c', rfl, hbg, hOc, hrow⟩ := ho.held.row
      have HRES : Hid (RowOfU (runsF l 0) w (.returned (.slice (some ⟨g, 0, none⟩) O.length c')) wr) := Lib.hid (by
        have h := ho.out
        rw [runsF_out (by omega), List.append_nil] at h
        rw [← h]
        exact ⟨g, c', rfl, hOc, hbg, hrow, ho.b⟩)
      clear ho HI0 HOUT hrow
      go_wp2_with fail
      go_ret
      exact HRES.out

set_option maxRecDepth 100000 in
theorem specNr_any (b o c : Nat) (l : List (Int × Int)) (w : World) (hv : FlatAt w (.slice (some ⟨b, o, none⟩) l.length c) l.length (recs l)) (hn : l.length ≤ 1048576) :
    Calls Try.prog 33 #[.slice (some ⟨b, o, none⟩) l.length c] w (RetU (nrAll l) w) := by
  have HV := Lib.hid hv
  clear hv
  have HA := Lib.hid (fun W (h : FlatAt W (.slice (some ⟨b, o, none⟩) l.length c) l.length (recs l)) => l2Records_any _ l W h hn)
  by_cases h0 : OkR l
  · rw [decide_eq_true h0] at HA
    have HF := Lib.hid (nrAll_yes h0)
    have h64 := h0.1
    clear h0
    go_enter Try.func33, Try.ntmps33
    go_wp2_with fail
    refine (HA.out _ HV.out).mono ?_
    rintro e w1 ⟨rfl, hb⟩
    have HL := Lib.hid (l5Runs_any b o c l w1 (RecAt.of_flat (HV.out.below hb)) h64)
    have HB1 := Lib.hid hb
    clear hb HA HV
    go_wp2_with fail
    refine (HL.out).mono ?_
    rintro e w2 ⟨g, c', rfl, hc, hg, hrow, hb⟩
    have HRES : Hid (RetU (nrAll l) w (.returned (.tuple #[.slice (some ⟨g, 0, none⟩) (runsF l 0).length c', .bool true])) w2) := Lib.hid (by
      rw [HF.out]
      exact ⟨g, c', rfl, hc, Nat.le_trans HB1.out.size hg, hrow, HB1.out.trans (hb.mono HB1.out.size)⟩)
    clear HL hc hg hrow hb HB1 HF
    go_wp2_with fail
    go_ret2
    exact HRES.out
  · rw [decide_eq_false h0] at HA
    have HF := Lib.hid (nrAll_no h0)
    clear h0
    go_enter Try.func33, Try.ntmps33
    go_wp2_with fail
    refine (HA.out _ HV.out).mono ?_
    rintro e w1 ⟨rfl, hb⟩
    have HRES : Hid (RetU (nrAll l) w (.returned (.tuple #[.slice (some ⟨w1.heap.size, 0, none⟩) 0 0, .bool false])) (w1.alloc (.cells #[] 48))) := Lib.hid (by rw [HF.out]; exact RetU.none w w1 hb)
    clear hb HA HV
    go_wp2_with fail
    go_ret2
    exact HRES.out

end Go.Proofs.Ytnjabdlhgmaeiaa
