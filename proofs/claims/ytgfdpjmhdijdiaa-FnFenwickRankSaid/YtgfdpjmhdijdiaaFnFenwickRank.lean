/- FnFenwickRank returns true at every input. No condition. -/
import Derived.Test.YtgfdpjmhdijdiaaRows
import Derived.WalkKit
import Derived.ProofKit
import Derived.OpenShut
import Derived.ShutString
import Derived.ChangeOld
import Derived.Below
import Derived.SliceStrings
import Derived.Test.YtgfdpjmhdijdiaaHead
import Derived.Test.YtgfdpjmhdijdiaaDrawFk
import Derived.Test.YtgfdpjmhdijdiaaDrawFs
import Derived.Test.YtgfdpjmhdijdiaaIFs
import Derived.Test.YtgfdpjmhdijdiaaSFs
import Derived.Test.YtgfdpjmhdijdiaaOpenFen
import Derived.Test.YtgfdpjmhdijdiaaCode
namespace Go.Proofs.Ytgfdpjmhdijdiaa.fnFenwickRank
open Go.ChangeShapes Go.WideShapes Go.ChangeAt Go.RowKit
open Go.ChangeMaps (open_string shut_string)
set_option linter.unusedVariables false

theorem own : ownKnob Try.prog.godebug = none := by kernel_rfl
theorem laidOut : laidOutB Try.prog = true := by kernel_rfl

def IsRow (k : IntKind) (w : World) (a : Option Addr) (len cap : Nat) (zs : List Int) : Prop :=
  (a = none ∧ len = 0 ∧ cap = 0 ∧ zs = []) ∨
  ∃ x, a = some x ∧ len ≤ cap ∧ cap ≤ maxLen ∧ zs.length = cap ∧ (∀ i, i < zs.length → w.cell? (x.add i) = some (.int k (zs.getD i 0))) ∧ ∀ n ∈ zs, (Lit.int k n).wf = true

theorem code_of {w : World} {a : Option Addr} {len cap : Nat} {zs : List Int} (h : IsRow .u8 w a len cap zs) : Code0 w a len := by
  intro k hk
  rcases h with ⟨_, rfl, _⟩ | ⟨x, rfl, hlc, _, hz, hc, hw⟩
  · omega
  · have hkz : k < zs.length := by omega
    have hd : zs.getD k 0 = zs[k] := by simp [List.getD, hkz]
    have hm := hw zs[k] (List.getElem_mem hkz)
    have hcell := hc k hkz
    rw [hd] at hcell
    have hlt := World.block_lt_of_cell? w _ hcell
    have hbk := Go.ChangeShapes.block_add x k
    have hr := bounds_u8 hm
    exact ⟨x, zs[k], rfl, by omega, hcell, hr.1, hr.2⟩

theorem vbig_no (a : Option Addr) (len cap : Nat) (w : World) (h : len ≤ 65536) : Calls Try.prog 24 #[.slice a len cap] w fun e w' => e = .returned (.bool false) ∧ w' = w := by
  go_enter Try.func24, Try.ntmps24
  have hq : decide ((65536 : Int) < (len : Int)) = false := decide_eq_false (by omega)
  go_wp2
  go_ret
  exact ⟨by rw [← hq]; rfl, rfl⟩

set_option maxRecDepth 100000 in
set_option maxHeartbeats 40000000 in
theorem below_drewN (B : Nat) (w : World) (k : Nat) : Below B w (w.drewN k) := ⟨rfl, rfl, rfl, Nat.le_refl _, fun _ _ => rfl⟩
set_option maxRecDepth 100000 in
set_option maxHeartbeats 1000000 in
open Fw in
theorem walk (a : Option Addr) (len cap : Nat) (z : List Int) (w : World) (w0 : IsRow .u8 w a len cap z) :
    Calls Try.prog 9 #[.slice a len cap] w fun e w' => e = .returned (.bool true) ∧ Below w.heap.size w w' := by
  have hlen : len ≤ maxLen := by
    rcases w0 with ⟨_, rfl, _⟩ | ⟨x, _, h1, h2, _⟩ <;> omega
  unfold maxLen at hlen
  have HCODE := Lib.hid (code_of w0)
  clear w0
  by_cases hbig : 65536 < len
  · clear HCODE
    go_enter Try.func9, Try.ntmps9
    go_wp2
    go_ret
    exact ⟨rfl, Below.refl _ _⟩
  · go_enter Try.func9, Try.ntmps9
    go_wp2_with fail
    refine (vbig_no a len cap _ (by omega)).mono ?_
    rintro e w0 ⟨rfl, rfl⟩
    have HLEN : Hid (len ≤ 65536) := Lib.hid (by omega)
    clear hlen hbig
    have B0 : Hid (Below w0.heap.size w0 w0) := Lib.hid (Below.refl _ _)
    have HCODE0 := HCODE
    go_wp2_with fail
    refine (drawFs_any a len cap _ HCODE.out (fun B g m w h hm => fenwick_any B g a len cap m w h hm)).mono ?_
    rintro e w_1 ⟨gF, cF, S, n, hl, hiw, rfl, hcF, hgF, hrow, hb⟩
    have hnl : S.length ≤ 1048576 := by omega
    obtain ⟨w_2, hWN, hxN, hzN, hbN⟩ := box1 w_1 53 (.slice (some ⟨gF, 0, none⟩) S.length cF)
    have RF := Lib.hid (hrow.below hbN hrow.1)
    have B0z := Lib.hid (B0.out.trans (hb.trans (hbN.mono hb.size)))
    clear B0
    have B0 := B0z
    clear B0z
    have VF := Lib.hid hxN
    have hcVF := Boxed.cell VF.out
    have hWr := hWN.symm
    clear hWN hxN hzN hbN hrow hb hgF HCODE
    have HI := Lib.hid (fun W (h : CellRow W gF (ints S)) => implFs_any gF 0 cF S n W (h.flat hcF) hnl hiw)
    have HS := Lib.hid (fun W (h : CellRow W gF (ints S)) => specFs_any gF 0 cF S n W (h.flat hcF) hnl hiw)
    have HP : Hid (∀ (m : Int) W, CellRow W gF (ints S) → Calls Try.prog 47 #[.agg #[.slice (some ⟨gF, 0, none⟩) S.length cF], .int .i64 m] W fun e w' => e = .returned (.tuple #[.int .i64 (preF S m).1, .int .i64 (preF S m).2.1, .bool (preF S m).2.2]) ∧ Below W.heap.size W w') := Lib.hid (fun m W h => implFp_any gF 0 cF S m W (h.flat hcF) hnl hiw)
    by_cases hsel : OkF S ∧ 0 ≤ n ∧ n < pre (vl S) S.length
    · rw [selF_yes hsel] at HI HS
      obtain ⟨hok, h0, h1⟩ := hsel
      have h64 := hok.len
      obtain ⟨r1, r2, r3⟩ := sel_spec hok h0 (by rw [vl_len]; exact h1)
      rw [vl_len] at r1
      have HP1 := Lib.hid (HP.out ((sel (vl S) n : Nat) : Int))
      have HP2 := Lib.hid (HP.out ((sel (vl S) n : Nat) + 1 : Int))
      rw [preF_yes hok (by omega) (by omega), Int.toNat_natCast] at HP1
      rw [preF_yes hok (by omega) (by omega), show (((sel (vl S) n : Nat) + 1 : Int)).toNat = sel (vl S) n + 1 by omega] at HP2
      generalize pre (vl S) (sel (vl S) n) = p1 at *
      generalize pre (vl S) (sel (vl S) n + 1) = p2 at *
      generalize cw (sel (vl S) n) = c1 at *
      generalize cw (sel (vl S) n + 1) = c2 at *
      obtain ⟨r, hr⟩ : ∃ r, r = sel (vl S) n := ⟨_, rfl⟩
      rw [← hr] at HI HS HP1 HP2 r1
      simp only at HI HS
      have hb1 : ((r : Int) != (r : Int)) = false := by simp
      have hr64 : r < 64 := by omega
      clear HP hok h0 h1 hr hiw
      go_wp2_with fail
      refine (HI.out _ RF.out).mono ?_
      rintro e w_3 ⟨rfl, hb⟩
      have RFz := Lib.hid (RF.out.below hb RF.out.1)
      have VFz := Lib.hid (boxed_below VF.out hb (Boxed.lt VF.out))
      clear RF VF hcVF
      have RF := RFz
      have VF := VFz
      have hcVF := Boxed.cell VF.out
      have B0z := Lib.hid (B0.out.trans (hb.mono B0.out.size))
      clear B0 RFz VFz hb
      have B0 := B0z
      clear B0z
      go_wp2_with fail
      refine (HS.out _ RF.out).mono ?_
      rintro e w_4 ⟨rfl, hb⟩
      have RFz := Lib.hid (RF.out.below hb RF.out.1)
      have VFz := Lib.hid (boxed_below VF.out hb (Boxed.lt VF.out))
      clear RF VF hcVF
      have RF := RFz
      have VF := VFz
      have hcVF := Boxed.cell VF.out
      have B0z := Lib.hid (B0.out.trans (hb.mono B0.out.size))
      clear B0 RFz VFz hb
      have B0 := B0z
      clear B0z
      clear HI HS
      go_wp2_with fail
      refine (HP1.out _ RF.out).mono ?_
      rintro e w_5 ⟨rfl, hb⟩
      have RFz := Lib.hid (RF.out.below hb RF.out.1)
      have VFz := Lib.hid (boxed_below VF.out hb (Boxed.lt VF.out))
      clear RF VF hcVF
      have RF := RFz
      have VF := VFz
      have hcVF := Boxed.cell VF.out
      have B0z := Lib.hid (B0.out.trans (hb.mono B0.out.size))
      clear B0 RFz VFz hb
      have B0 := B0z
      clear B0z
      go_wp2_with fail
      refine (HP2.out _ RF.out).mono ?_
      rintro e w_6 ⟨rfl, hb⟩
      have RFz := Lib.hid (RF.out.below hb RF.out.1)
      have VFz := Lib.hid (boxed_below VF.out hb (Boxed.lt VF.out))
      clear RF VF hcVF
      have RF := RFz
      have VF := VFz
      have hcVF := Boxed.cell VF.out
      have B0z := Lib.hid (B0.out.trans (hb.mono B0.out.size))
      clear B0 RFz VFz hb
      have B0 := B0z
      clear B0z
      go_wp2_with fail
      go_ret
      exact ⟨rfl, B0.out⟩
    · rw [selF_no hsel] at HI HS
      simp only at HI HS
      clear HP hsel hiw
      go_wp2_with fail
      refine (HI.out _ RF.out).mono ?_
      rintro e w_3 ⟨rfl, hb⟩
      have RFz := Lib.hid (RF.out.below hb RF.out.1)
      have VFz := Lib.hid (boxed_below VF.out hb (Boxed.lt VF.out))
      clear RF VF hcVF
      have RF := RFz
      have VF := VFz
      have hcVF := Boxed.cell VF.out
      have B0z := Lib.hid (B0.out.trans (hb.mono B0.out.size))
      clear B0 RFz VFz hb
      have B0 := B0z
      clear B0z
      go_wp2_with fail
      refine (HS.out _ RF.out).mono ?_
      rintro e w_4 ⟨rfl, hb⟩
      have RFz := Lib.hid (RF.out.below hb RF.out.1)
      have VFz := Lib.hid (boxed_below VF.out hb (Boxed.lt VF.out))
      clear RF VF hcVF
      have RF := RFz
      have VF := VFz
      have hcVF := Boxed.cell VF.out
      have B0z := Lib.hid (B0.out.trans (hb.mono B0.out.size))
      clear B0 RFz VFz hb
      have B0 := B0z
      clear B0z
      clear HI HS
      go_wp2_with fail
      go_ret
      exact ⟨rfl, B0.out⟩

set_option maxRecDepth 100000 in
theorem lifted (os : Os) (started : os.Started) (H : Type) (enc : TypeId × Value → H) :
    ReturnsInHanded {} Try.checked os 9 .any (Rows.fnFenwickRankSpec.pre6 enc Try.prog Try.f9 Rows.fnFenwickRankRow.domain false) (Rows.fnFenwickRankSpec.post enc Try.prog Try.f9 false true false false) := by
  refine returnsInHanded_of_change (C := Try.checked) own started (by kernel_rfl) Try.func9
    (ChangeSpec.witness6 (enc := enc) (C := Try.checked) false ⟨#[], #[.slice none 0 0], []⟩ 8 (by kernel_rfl) (by kernel_rfl) (by kernel_rfl) (by kernel_rfl)) ?_
  intro W base args ds gs before hval0 hW hcnd _
  have hval : ∀ (j : Nat) t v, Try.f9.params[j]? = some t → args[j]? = some v → Value.okWide Try.prog W .any base t v := hval0
  have hW' := hW
  obtain ⟨p, q, hA0, hV, rfl, hfz, hnd⟩ := hW
  have hA : DataW.TrodAll enc Try.prog W 0 (fun _ => true) true Try.f9.params.toList args.toList ds p := hA0
  rw [Try.params9] at hA hval
  obtain ⟨v0, vs0, d0, ds0, p0, q0, hargs, rfl, rfl, h0, r0⟩ := trodAll_cons hA
  obtain ⟨rfl, rfl, rfl⟩ := trodAll_nil r0
  obtain rfl : args = #[v0] := by cases args; simp_all
  obtain ⟨rfl, rfl⟩ := trodVars_none hV
  obtain ⟨a0, len0, cap0, rfl⟩ := okWide_slice Try.underlying30 (hval 0 30 v0 rfl rfl)
  have k0 := h0
  have lt0 : ∀ x ∈ p0, x.block < W.heap.size := by obtain ⟨m, hm⟩ := k0; exact DataW.trod_lt m _ _ _ hm
  obtain ⟨z0, w0⟩ : ∃ zs, IsRow .u8 W a0 len0 cap0 zs := by
    obtain ⟨fuel, hf⟩ := h0
    rcases open_ints Try.underlying30 Try.underlying5 (by kernel_rfl) hf with ⟨hcs, _⟩ | ⟨x, l, c, zs, hcs, _, hl, hm, hz, _, hcell, hwz⟩
    · simp [Value.cells] at hcs
      obtain ⟨rfl, rfl, rfl⟩ := hcs
      exact ⟨[], .inl ⟨rfl, rfl, rfl, rfl⟩⟩
    · simp [Value.cells] at hcs
      obtain ⟨rfl, rfl, rfl⟩ := hcs
      exact ⟨zs, .inr ⟨_, rfl, hl, hm, by simpa using hz, hcell, hwz⟩⟩
  clear hA0 hval0
  refine (walk a0 len0 cap0 z0 W w0).mono fun e W' ⟨he, bel⟩ => ?_
  subst he
  exact ⟨_, rfl, _, _, _, [], _, [], hW', trodAll_mk1 (shut_bool Try.underlying4 _), (trodAll_cons_mk (Below.trod laidOut (by kernel_rfl) (of_decide_eq_true (by kernel_rfl)) k0 bel lt0) trodAll_mk0), rfl, bel.frame _, fun h => by cases h⟩

theorem closed : joinedFacts Try.prog 9 Try.f9 Rows.fnFenwickRankSpec Rows.fnFenwickRankRow = true := by
  unfold joinedFacts
  rw [head_enter, head_final, head_make]
  kernel_rfl

theorem over : Rows.fnFenwickRankRow.holds Try.pinned (OpenSpec.ofChange Rows.fnFenwickRankSpec) :=
  OpenClaim.holds_of_wide 9 Try.f9 rfl rfl rfl rfl rfl rfl rfl ⟨rfl, rfl, rfl, rfl, rfl⟩ rfl rfl rfl rfl rfl (by kernel_rfl) Try.func9 closed
    (of_decide_eq_true (by kernel_rfl)) (by unfold Func.isWrapper; first | (rw [if_pos (by decide +kernel)]; kernel_rfl) | (rw [if_neg (by decide +kernel)]; exact ⟨rfl, rfl⟩))
    (fun os started H enc _ => lifted os started H enc)

theorem proved : Rows.FnFenwickRankSaid := over
#print axioms proved
end Go.Proofs.Ytgfdpjmhdijdiaa.fnFenwickRank
