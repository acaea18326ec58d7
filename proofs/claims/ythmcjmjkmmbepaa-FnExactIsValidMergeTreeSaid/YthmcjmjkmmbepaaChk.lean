/- slices.Chunk at lists of numbers: its iterator, by its contract. -/
import Derived.Test.YthmcjmjkmmbepaaSteps
import Derived.Test.YthmcjmjkmmbepaaRetI
import Derived.RangeFuncNested
import Derived.RangeFuncBound
import Derived.RangeFuncCalls
import Derived.RangeFuncLeaves
import Derived.RangeFuncBox
import Derived.RangeFuncFrom
import Derived.Shelf.Abstract
import Derived.WalkKit
import Derived.OwnWalkIn
import Derived.TacticsInMore
import Derived.LoopNIn
import Derived.LoopIn
import Derived.Lib.Hide
import Derived.Shelf.RegionOpen
import Derived.Stop.RegionWithIn
namespace Go.Proofs.Ythmcjmjkmmbepaa
open Go.RowKit Go.Shelf
set_option linter.unusedVariables false

attribute [local go_sem] Oper.semAt_some

theorem grown_drewC (W : World) : W.grownBy W.drew none := ⟨rfl, rfl, rfl, Nat.le_refl _, fun _ _ _ => rfl⟩

/-- The i-th chunk of d elements. -/
def chunkV (b o N d i : Nat) : Value := .slice (some ⟨b, o + d * i, none⟩) (min d (N - d * i)) (min d (N - d * i))

set_option maxRecDepth 100000 in
set_option maxHeartbeats 2000000 in
theorem chunk_steps (F : Fence) (n : Nat) (hf : F.fn 115) (hro : F.round = none) (hn : 1 ≤ n) (w : World) (Bs Bn b o c N d : Nat) (hBs : Bs < w.heap.size) (hBn : Bn < w.heap.size) (hd : 0 < d) (hd2 : d ≤ 64) (hN : N ≤ 1048576) (hNc : N ≤ c)
    (hc1 : w.cell? ⟨Bs, 0, none⟩ = some (.slice (some ⟨b, o, none⟩) N c)) (hc2 : w.cell? ⟨Bn, 0, none⟩ = some (.int .i64 (d : Int))) :
    StepsSeq F n Try.prog 115 #[.pointer (some ⟨Bs, 0, none⟩), .pointer (some ⟨Bn, 0, none⟩)] (fun i : Nat => #[chunkV b o N d i]) (KeepTwo Bs Bn) (fun pre i => pre = List.range i ∧ d * i < N) (fun xs => xs = List.range ((N + d - 1) / d)) w := by
  intro ln J W hW hJ hY h0
  have hd1 : W.cell? ⟨Bs, 0, none⟩ = some (.slice (some ⟨b, o, none⟩) N c) := (hW.cell (p := ⟨Bs, 0, none⟩) hBs).trans hc1
  have hd3 : W.cell? ⟨Bn, 0, none⟩ = some (.int .i64 (d : Int)) := (hW.cell (p := ⟨Bn, 0, none⟩) hBn).trans hc2
  have HY := Lib.hid hY
  have HJ := Lib.hid hJ
  clear hY hc1 hc2 hW hJ
  refine callsIn_of_wp Try.func115 rfl hf ?_ hro
  simp only [Try.ntmps115, List.size_toArray, List.length_cons, List.length_nil, Nat.reduceAdd, Nat.reduceSub, Array.replicate_succ, Array.replicate_zero, List.push_toArray, List.append_toArray, List.nil_append, List.cons_append]
  gi_wp2
  gi_loopw [4, 5] (fun p _ wr => ∃ k : Nat, p = .int .i64 ((d * k : Nat) : Int) ∧ (k = 0 ∨ d * (k - 1) < N) ∧ KeepTwo Bs Bn W wr ∧ J (List.range k) wr) (fun p _ _ => N + d - (intOf p).toNat)
  case atStart => exact ⟨0, rfl, .inl rfl, ⟨rfl, rfl⟩, h0⟩
  case round =>
    obtain ⟨k, rfl, hk, hkp, hJs⟩ := hrel
    have hcs : wr.cell? ⟨Bs, 0, none⟩ = some (.slice (some ⟨b, o, none⟩) N c) := (World.cell?_of_block (w := W) (a := ⟨Bs, 0, none⟩) hkp.1).trans hd1
    have hcn : wr.cell? ⟨Bn, 0, none⟩ = some (.int .i64 (d : Int)) := (World.cell?_of_block (w := W) (a := ⟨Bn, 0, none⟩) hkp.2).trans hd3
    obtain ⟨i, hi⟩ : ∃ i, i = d * k := ⟨_, rfl⟩
    have hiN : i < N + d := by
      rcases hk with rfl | hk
      · rw [hi]; omega
      · cases k with
        | zero => rw [hi]; omega
        | succ k => rw [hi, Nat.mul_succ]; rw [Nat.add_sub_cancel] at hk; omega
    rw [← hi]
    by_cases hlt : i < N
    · obtain ⟨fn, tmps, assign, body, hy, hR⟩ := HY.out (List.range k) k wr.drew ⟨rfl, by rw [← hi]; exact hlt⟩ (HJ.out _ _ _ none hJs (grown_drewC wr) (fun r e => by cases e))
      obtain ⟨e, he⟩ : ∃ e, e = min d (N - i) := ⟨_, rfl⟩
      have hchunk : chunkV b o N d k = .slice (some ⟨b, o + i, none⟩) e e := by unfold chunkV; rw [← hi, ← he]
      rw [hchunk] at hy
      have HKP := Lib.hid hkp
      have HI := Lib.hid hi
      have HD : Hid (d * (k + 1) = i + d) := Lib.hid (by rw [Nat.mul_succ, ← hi])
      have hiz : (i : Int) < (N : Int) := by omega
      have hic : ¬ i = c := by omega
      have hic2 : ¬ c = i := by omega
      have hicz : ¬ (i : Int) = (c : Int) := by omega
      obtain ⟨m, hm⟩ : ∃ m, m = N - i := ⟨_, rfl⟩
      have hmz : (N : Int) - (i : Int) = (m : Int) := by omega
      have HIF : Hid ((if m < d then (m : Int) else (d : Int)) = (e : Int)) := Lib.hid (by split <;> omega)
      obtain ⟨j, hj⟩ : ∃ j, j = i + e := ⟨_, rfl⟩
      obtain ⟨i2, hi2⟩ : ∃ i2, i2 = i + d := ⟨_, rfl⟩
      have hw1 : IntKind.i64.wrap ((i : Int) + (e : Int)) = (j : Int) := by rw [IntKind.wrap_i64]; omega
      have hw2 : IntKind.i64.wrap ((i : Int) + (d : Int)) = (i2 : Int) := by rw [IntKind.wrap_i64]; omega
      have hNm : N - i = m := hm.symm
      have hji : j - i = e := by omega
      have hij : i ≤ j := by omega
      have hij2 : ¬ i = j := by omega
      have hij3 : ¬ j = i := by omega
      have he0 : ¬ e = 0 := by omega
      have hjc : j ≤ c := by omega
      have hijz : (i : Int) ≤ (j : Int) := by omega
      have hjcz : (j : Int) ≤ (c : Int) := by omega
      have hiNz : (i : Int) ≤ (N : Int) := by omega
      have hjN : j ≤ N := by omega
      have HI3 : Hid (i2 < N + d ∧ i < i2) := Lib.hid (by omega)
      have HK := Lib.hid hk
      have HI2E := Lib.hid hi2
      clear hchunk hkp hi hk hiN he hm hj hi2 hlt hmz
      gi_wp2
      first | (gi_region_with (fail)) | fail
      all_goals
        rw [HIF.out]
        clear HIF
        gi_wp2
        refine hR.mono ?_
        rintro e W3 ⟨rfl, hJ3, hk3⟩
        have HN : Hid (KeepTwo Bs Bn W W3 ∧ J (List.range (k + 1)) W3) := Lib.hid ⟨HKP.out.trans ⟨hk3.1, hk3.2⟩, by rw [List.range_succ]; exact hJ3⟩
        have HI2 : Hid (d * (k + 1 - 1) < N) := Lib.hid (by rw [Nat.add_sub_cancel, ← HI.out]; omega)
        have hcn3 : W3.cell? ⟨Bn, 0, none⟩ = some (.int .i64 (d : Int)) := (World.cell?_of_block (w := wr.drew) (a := ⟨Bn, 0, none⟩) hk3.2).trans hcn
        clear hJ3 hk3 hy hR
        gi_wp2
        go_roundw
        case rel => exact ⟨k + 1, by rw [HD.out, HI2E.out], .inr HI2.out, HN.out.1, HN.out.2⟩
        case measure => have := HI3.out; simp [intOf]; omega
    · have HN : Hid (J (List.range ((N + d - 1) / d)) wr) := Lib.hid (by
        have e : (N + d - 1) / d = k := by
          have h1 : N ≤ d * k := by rw [← hi]; omega
          rcases hk with rfl | hk
          · rw [Nat.mul_zero] at h1
            rw [Nat.div_eq_of_lt (by omega)]
          · obtain ⟨j, rfl⟩ : ∃ j, k = j + 1 := ⟨k - 1, by
              cases k with
              | zero => rw [Nat.mul_zero] at h1; omega
              | succ k => omega⟩
            rw [Nat.add_sub_cancel] at hk
            rw [Nat.mul_succ] at h1
            have h2 : d * (j + 1) = d * j + d := Nat.mul_succ _ _
            have h3 : d * (j + 1 + 1) = d * j + d + d := by rw [Nat.mul_succ, h2]
            exact Nat.div_eq_of_lt_le (by rw [Nat.mul_comm, h2]; omega) (by rw [Nat.mul_comm, h3]; omega)
        rw [e]; exact hJs)
      have hiz : ¬ (i : Int) < (N : Int) := by omega
      clear hJs hkp hi hk
      gi_wp2
      go_end0
      exact ⟨⟨_, rfl⟩, HN.out⟩

end Go.Proofs.Ythmcjmjkmmbepaa
