/- FnFlag returns true at every input. No condition. -/
import Derived.Test.YtebipiehkmhaiaaRows
import Derived.WalkKit
import Derived.ProofKit
import Derived.OpenShut
import Derived.ShutString
import Derived.ChangeOld
import Derived.Below
import Derived.SliceStrings
import Derived.Test.YtebipiehkmhaiaaHead
import Derived.Test.YtebipiehkmhaiaaVLst
import Derived.Test.YtebipiehkmhaiaaRetF
import Derived.Test.YtebipiehkmhaiaaVOrd
import Derived.Test.YtebipiehkmhaiaaVInts
import Derived.Test.YtebipiehkmhaiaaVAt
import Derived.Test.YtebipiehkmhaiaaFgAll
import Derived.Test.YtebipiehkmhaiaaCode
namespace Go.Proofs.Ytebipiehkmhaiaa.fnFlag
open Go.ChangeShapes Go.WideShapes Go.ChangeAt Go.RowKit
open Go.ChangeMaps (open_string shut_string)
set_option linter.unusedVariables false

theorem own : ownKnob Try.prog.godebug = none := by kernel_rfl
theorem laidOut : laidOutB Try.prog = true := by kernel_rfl

def IsRow (k : IntKind) (w : World) (a : Option Addr) (len cap : Nat) (zs : List Int) : Prop :=
  (a = none ∧ len = 0 ∧ cap = 0 ∧ zs = []) ∨
  ∃ x, a = some x ∧ len ≤ cap ∧ cap ≤ maxLen ∧ zs.length = cap ∧ (∀ i, i < zs.length → w.cell? (x.add i) = some (.int k (zs.getD i 0))) ∧ ∀ n ∈ zs, (Lit.int k n).wf = true

theorem code_of {w : World} {a : Option Addr} {len cap : Nat} {zs : List Int} (h : IsRow .u8 w a len cap zs) : Code0 w a len := by
  intro k hk
  rcases h with ⟨_, rfl, _⟩ | ⟨x, rfl, hlc, _, hz, hc, hw⟩
  · omega
  · have hkz : k < zs.length := by omega
    have hd : zs.getD k 0 = zs[k] := by simp [List.getD, hkz]
    have hm := hw zs[k] (List.getElem_mem hkz)
    have hcell := hc k hkz
    rw [hd] at hcell
    have hlt := World.block_lt_of_cell? w _ hcell
    have hbk := Go.ChangeShapes.block_add x k
    have hr := bounds_u8 hm
    exact ⟨x, zs[k], rfl, by omega, hcell, hr.1, hr.2⟩

theorem vbig_no (a : Option Addr) (len cap : Nat) (w : World) (h : len ≤ 65536) : Calls Try.prog 16 #[.slice a len cap] w fun e w' => e = .returned (.bool false) ∧ w' = w := by
  go_enter Try.func16, Try.ntmps16
  have hq : decide ((65536 : Int) < (len : Int)) = false := decide_eq_false (by omega)
  go_wp2
  go_ret
  exact ⟨by rw [← hq]; rfl, rfl⟩

set_option maxRecDepth 100000 in
set_option maxHeartbeats 40000000 in
theorem walk (a : Option Addr) (len cap : Nat) (z : List Int) (w : World) (w0 : IsRow .u8 w a len cap z) :
    Calls Try.prog 6 #[.slice a len cap] w fun e w' => e = .returned (.bool true) ∧ Below w.heap.size w w' := by
  have hlen : len ≤ maxLen := by
    rcases w0 with ⟨_, rfl, _⟩ | ⟨x, _, h1, h2, _⟩ <;> omega
  unfold maxLen at hlen
  have HCODE := Lib.hid (code_of w0)
  clear w0
  by_cases hbig : 65536 < len
  · clear HCODE
    go_enter Try.func6, Try.ntmps6
    go_wp2
    go_ret
    exact ⟨rfl, Below.refl _ _⟩
  · go_enter Try.func6, Try.ntmps6
    go_wp2_with fail
    refine (vbig_no a len cap _ (by omega)).mono ?_
    rintro e w0 ⟨rfl, rfl⟩
    have HLEN : Hid (len ≤ 65536) := Lib.hid (by omega)
    clear hlen hbig
    have B0 : Hid (Below w0.heap.size w0 w0) := Lib.hid (Below.refl _ _)
    have HCODE0 := HCODE
    go_wp2_with fail
    refine (vList_any a len cap _ HCODE.out).mono ?_
    rintro e w_1 ⟨gRL, cRL, li, hok, rfl, hcRL, hrow, hb⟩
    have RL := Lib.hid hrow
    have hnRL : li.length ≤ 1048576 := by have := hok.1; omega
    have BN := Lib.hid (B0.out.trans (hb.mono B0.out.size))
    clear B0
    have B0 := BN
    clear BN
    clear hrow hb HCODE
    have HCODE := Lib.hid (HCODE0.out.below B0.out)
    go_wp2_with fail
    refine (vAt_any a len cap 1 _ HCODE.out (by omega) (by have := HLEN.out; omega)).mono ?_
    rintro e w_2 ⟨⟨rz, h0, h1, rfl⟩, rfl⟩
    obtain ⟨r, rfl⟩ : ∃ n : Nat, rz = n := ⟨rz.toNat, by omega⟩
    obtain ⟨q, hq⟩ : ∃ n, n = r % 15 := ⟨_, rfl⟩
    have ql : q < 15 := by omega
    have qe : (r : Int) % 15 = (q : Int) := by omega
    have qt : Int.tmod (r : Int) 15 = (q : Int) := by rw [Int.tmod_eq_emod_of_nonneg (by omega)]; exact qe
    clear h0 h1 hq HCODE
    have HCODE := Lib.hid (HCODE0.out.below B0.out)
    go_wp2_with fail
    refine (vAt_any a len cap 2 _ HCODE.out (by omega) (by have := HLEN.out; omega)).mono ?_
    rintro e w_3 ⟨⟨tz, h0, h1, rfl⟩, rfl⟩
    obtain ⟨t, rfl⟩ : ∃ n : Nat, tz = n := ⟨tz.toNat, by omega⟩
    obtain ⟨p, hp⟩ : ∃ n, n = t % 4 := ⟨_, rfl⟩
    have pl : p < 4 := by omega
    have pe : (t : Int) % 4 = (p : Int) := by omega
    have pt : Int.tmod (t : Int) 4 = (p : Int) := by rw [Int.tmod_eq_emod_of_nonneg (by omega)]; exact pe
    clear h0 h1 hp HCODE
    obtain ⟨R, hR⟩ : ∃ R, R = Rx.flagR (dgI (q + 2) p) (q + 2) li := ⟨_, rfl⟩
    have eB : ((q + 2 : Nat) : Int) = 2 + (q : Int) := by omega
    have hD := dgI_lt (b := q + 2) (by omega) p li
    have hG := (Rx.flagR_is hD).2
    have hag := Rx.flag_again hD
    rw [← hR] at hG hag
    have hlen := hG.perm.length_eq
    have h64 := hok.1
    have hokS : OkL R.L := ⟨by omega, fun x hx => hok.2 x (hG.perm.mem_iff.1 hx)⟩
    have HFP : Hid (∀ b o c W, FlatAt W (.slice (some ⟨b, o, none⟩) li.length c) li.length (ints li) → Calls Try.prog 37 #[.slice (some ⟨b, o, none⟩) li.length c, .int .i64 (2 + (q : Int)), .int .i64 (p : Int)] W (RetI1 (R.L, (R.sw : Int), true) W)) := Lib.hid (fun b o c W h => by
      have := implFpY_any b o c li (q + 2) p W h hok (by omega) (by omega) (by omega)
      rw [eB, ← hR] at this; exact this)
    have HFQ : Hid (∀ b o c W, FlatAt W (.slice (some ⟨b, o, none⟩) R.L.length c) R.L.length (ints R.L) → Calls Try.prog 37 #[.slice (some ⟨b, o, none⟩) R.L.length c, .int .i64 (2 + (q : Int)), .int .i64 (p : Int)] W (RetI1 (R.L, (0 : Int), true) W)) := Lib.hid (fun b o c W h => by
      have := implFpY_any b o c R.L (q + 2) p W h hokS (by omega) (by omega) (by omega)
      rw [eB, hag.1, hag.2] at this; exact this)
    have HDF : Hid (∀ x ∈ R.L, ∀ W, Calls Try.prog 30 #[.int .i64 x, .int .i64 (2 + (q : Int)), .int .i64 (p : Int)] W fun e w' => e = .returned (.tuple #[.int .i64 ((dgI (q + 2) p x : Nat) : Int), .bool true]) ∧ Below W.heap.size W w') := Lib.hid (fun x hx W => by
      have := implDof_any x ((q + 2 : Nat) : Int) (p : Int) W
      rw [dofAll_yes ⟨hokS.2 x hx, ⟨⟨by omega, by omega⟩, by omega, by omega⟩⟩, Int.toNat_natCast, Int.toNat_natCast, eB] at this; exact this)
    have HSO : Hid (∀ i k, i ≤ k → k < R.L.length → dgI (q + 2) p (R.L.getD i 0) ≤ dgI (q + 2) p (R.L.getD k 0)) := Lib.hid (fun i k hik hk => hG.sorted hD hik (by omega))
    have hsw := (hG.grouped hD).2
    have hs64 : R.L.length ≤ 64 := hokS.1
    have HSE : Hid (El.srt R.L = El.srt li) := Lib.hid (El.srt_uniq (El.srt_asc _) ((El.srt_perm _).trans hG.perm))
    have HVH := Lib.hid (fun b o c W (h : FlatAt W (.slice (some ⟨b, o, none⟩) R.L.length c) R.L.length (ints R.L)) => vOrdered_any b o c R.L W h hs64)
    have HVX := Lib.hid (fun b o c W (h : FlatAt W (.slice (some ⟨b, o, none⟩) li.length c) li.length (ints li)) => by have := vOrdered_any b o c li W h h64; rw [← HSE.out] at this; exact this)
    have hsl : (El.srt R.L).length ≤ 1048576 := by rw [El.srt_length]; omega
    obtain ⟨U, hU⟩ : ∃ U, U = El.srt R.L := ⟨_, rfl⟩
    rw [← hU] at HVH HVX hsl
    obtain ⟨S, sw⟩ : ∃ S : List Int, ∃ sw : Nat, S = R.L ∧ sw = R.sw := ⟨_, _, rfl, rfl⟩
    obtain ⟨sw, hS, hW⟩ := sw
    rw [← hS] at HFP HFQ HDF HSO hs64 HVH
    rw [← hW] at HFP hsw
    have hsS : S.length ≤ 1048576 := by omega
    generalize dgI (q + 2) p = ff at *
    have hw0 : ¬ (sw : Int) < 0 := by omega
    have hw1 : ¬ (li.length : Int) < (sw : Int) := by omega
    have hw2 : decide ((li.length : Int) < (sw : Int)) = false := decide_eq_false hw1
    have hw3 : (sw : Int) ≤ (li.length : Int) := by omega
    clear hag hG hD hR hlen hok hokS eB hU hS hW HSE
    go_wp2_with fail
    refine (HFP.out _ _ _ _ (RL.out.flat hcRL)).mono ?_
    rintro e w_4 ⟨gRS, cRS, rfl, hcRS, hg, hrow, hb⟩
    simp only at hcRS hrow
    have hyRS := Lib.hid hrow
    have RLz := Lib.hid (RL.out.below hb RL.out.1)
    clear RL
    have RL := RLz
    clear RLz
    have BN := Lib.hid (B0.out.trans (hb.mono B0.out.size))
    clear B0
    have B0 := BN
    clear BN
    have RS := hyRS
    clear hyRS hrow hb hg
    clear qe qt pe pt
    go_wp2_with fail
    refine (HVH.out _ _ _ _ (RS.out.flat hcRS)).mono ?_
    rintro e w_5 ⟨gRO, cRO, rfl, hcRO, hg, hrow, hb⟩
    have hyRO := Lib.hid hrow
    have RLz := Lib.hid (RL.out.below hb RL.out.1)
    clear RL
    have RL := RLz
    clear RLz
    have RSz := Lib.hid (RS.out.below hb RS.out.1)
    clear RS
    have RS := RSz
    clear RSz
    have BN := Lib.hid (B0.out.trans (hb.mono B0.out.size))
    clear B0
    have B0 := BN
    clear BN
    have RO := hyRO
    clear hyRO hrow hb hg HVH
    go_wp2_with fail
    refine (HVX.out _ _ _ _ (RL.out.flat hcRL)).mono ?_
    rintro e w_6 ⟨gRP, cRP, rfl, hcRP, hg, hrow, hb⟩
    have hyRP := Lib.hid hrow
    have RLz := Lib.hid (RL.out.below hb RL.out.1)
    clear RL
    have RL := RLz
    clear RLz
    have RSz := Lib.hid (RS.out.below hb RS.out.1)
    clear RS
    have RS := RSz
    clear RSz
    have ROz := Lib.hid (RO.out.below hb RO.out.1)
    clear RO
    have RO := ROz
    clear ROz
    have BN := Lib.hid (B0.out.trans (hb.mono B0.out.size))
    clear B0
    have B0 := BN
    clear BN
    have RP := hyRP
    clear hyRP hrow hb hg HVX
    go_wp2_with fail
    refine (vInts_yes _ _ U _ (RO.out.flat hcRO) (RP.out.flat hcRP) hsl).mono ?_
    rintro e w_7 ⟨rfl, hb⟩
    have RLz := Lib.hid (RL.out.below hb RL.out.1)
    clear RL
    have RL := RLz
    clear RLz
    have RSz := Lib.hid (RS.out.below hb RS.out.1)
    clear RS
    have RS := RSz
    clear RSz
    have ROz := Lib.hid (RO.out.below hb RO.out.1)
    clear RO
    have RO := ROz
    clear ROz
    have RPz := Lib.hid (RP.out.below hb RP.out.1)
    clear RP
    have RP := RPz
    clear RPz
    have BN := Lib.hid (B0.out.trans (hb.mono B0.out.size))
    clear B0
    have B0 := BN
    clear BN
    clear hb
    clear RO RP RL
    clear HFP
    go_wp2_with fail
    clear hw0 hw1 hw2 hw3 hsw
    generalize decide (li.length < sw) = bz1
    generalize decide ((li.length : Int) < (sw : Int)) = bz2
    generalize decide ((sw : Int) < 0) = bz3
    go_loopw [2, 9, 10, 11, 12, 13] (fun _ iv _ _ _ _ wr => ∃ i : Nat, iv = .int .i64 (i : Int) ∧ 1 ≤ i ∧ (i ≤ S.length ∨ i = 1) ∧ CellRow wr gRS (ints S) ∧ Below w_7.heap.size w_7 wr) (fun _ iv _ _ _ _ _ => S.length - (intOf iv).toNat)
    case atStart => exact ⟨1, rfl, Nat.le_refl _, .inr rfl, RS.out, Below.refl _ _⟩
    case round =>
      obtain ⟨i, rfl, hi1, hiS, hrow, hb⟩ := hrel
      have RI := Lib.hid hrow
      have HBI := Lib.hid hb
      clear hrow hb
      by_cases hlt : i < S.length
      · have hiz : (i : Int) < (S.length : Int) := by omega
        have hid : decide ((i : Int) < (S.length : Int)) = true := decide_eq_true hiz
        obtain ⟨j, hj⟩ : ∃ j, j = i - 1 := ⟨_, rfl⟩
        have hjz : (i : Int) - 1 = (j : Int) := by omega
        have hjS : (j : Int) < (S.length : Int) := by omega
        have hjSn : j < S.length := by omega
        have hji : j ≤ i := by omega
        clear hj
        obtain ⟨x, hx⟩ : ∃ x, x = S.getD j 0 := ⟨_, rfl⟩
        obtain ⟨y, hy⟩ : ∃ y, y = S.getD i 0 := ⟨_, rfl⟩
        obtain ⟨hcx, _⟩ := RI.out.2 j _ (ints_at (P.at_getD hjSn))
        obtain ⟨hcy, _⟩ := RI.out.2 i _ (ints_at (P.at_getD hlt))
        rw [← hx] at hcx
        rw [← hy] at hcy
        have hle := HSO.out j i hji hlt
        rw [← hx, ← hy] at hle
        have HDX := Lib.hid (HDF.out x (by rw [hx]; exact Rx.getD_mem hjSn))
        have HDY := Lib.hid (HDF.out y (by rw [hy]; exact Rx.getD_mem hlt))
        generalize ff x = u at HDX hle
        generalize ff y = v at HDY hle
        have hno : ¬ (v : Int) < (u : Int) := by omega
        have hnd : decide ((v : Int) < (u : Int)) = false := decide_eq_false hno
        have HCY : Hid (∀ W, Below wr.heap.size wr W → W.cell? ⟨gRS, i, none⟩ = some (.int .i64 y)) := Lib.hid (fun W hW => (hW.cell (p := ⟨gRS, i, none⟩) RI.out.1).trans hcy)
        clear hx hy hle hcy
        go_wp2_with fail
        refine (HDX.out _).mono ?_
        rintro e w_a ⟨rfl, hba⟩
        have hcy2 := HCY.out w_a hba
        have HBA := Lib.hid hba
        clear hba hcx HCY
        go_wp2_with fail
        refine (HDY.out _).mono ?_
        rintro e w_b ⟨rfl, hbb⟩
        have hbt : Below wr.heap.size wr w_b := HBA.out.trans (hbb.mono HBA.out.size)
        have HN : Hid (CellRow w_b gRS (ints S) ∧ Below w_7.heap.size w_7 w_b) := Lib.hid ⟨RI.out.below hbt RI.out.1, HBI.out.trans (hbt.mono HBI.out.size)⟩
        clear hbb hbt hcy2 HBA RI HBI
        go_wp2_with fail
        go_roundw
        case rel => exact ⟨i + 1, by go_num, by omega, .inl (by omega), HN.out.1, HN.out.2⟩
        case measure => simp [intOf]; omega
      · have hiz : ¬ (i : Int) < (S.length : Int) := by omega
        have hid : decide ((i : Int) < (S.length : Int)) = false := decide_eq_false hiz
        have hb := HBI.out
        clear RS
        have BN := Lib.hid (B0.out.trans (hb.mono B0.out.size))
        clear B0
        have B0 := BN
        clear BN
        have RS := RI
        clear hb HBI RI
        go_wp2_with fail
        refine (HFQ.out _ _ _ _ (RS.out.flat hcRS)).mono ?_
        rintro e w_8 ⟨gRA, cRA, rfl, hcRA, hg, hrow, hb⟩
        simp only at hcRA hrow
        have hyRA := Lib.hid hrow
        have RSz := Lib.hid (RS.out.below hb RS.out.1)
        clear RS
        have RS := RSz
        clear RSz
        have BN := Lib.hid (B0.out.trans (hb.mono B0.out.size))
        clear B0
        have B0 := BN
        clear BN
        have RA := hyRA
        clear hyRA hrow hb hg
        go_wp2_with fail
        refine (vInts_yes _ _ S _ (RA.out.flat hcRA) (RS.out.flat hcRS) hsS).mono ?_
        rintro e w_9 ⟨rfl, hb⟩
        have RSz := Lib.hid (RS.out.below hb RS.out.1)
        clear RS
        have RS := RSz
        clear RSz
        have RAz := Lib.hid (RA.out.below hb RA.out.1)
        clear RA
        have RA := RAz
        clear RAz
        have BN := Lib.hid (B0.out.trans (hb.mono B0.out.size))
        clear B0
        have B0 := BN
        clear BN
        clear hb
        go_wp2_with fail
        go_ret
        exact ⟨rfl, B0.out⟩

set_option maxRecDepth 100000 in
theorem lifted (os : Os) (started : os.Started) (H : Type) (enc : TypeId × Value → H) :
    ReturnsInHanded {} Try.checked os 6 .any (Rows.fnFlagSpec.pre6 enc Try.prog Try.f6 Rows.fnFlagRow.domain false) (Rows.fnFlagSpec.post enc Try.prog Try.f6 false true false false) := by
  refine returnsInHanded_of_change (C := Try.checked) own started (by kernel_rfl) Try.func6
    (ChangeSpec.witness6 (enc := enc) (C := Try.checked) false ⟨#[], #[.slice none 0 0], []⟩ 8 (by kernel_rfl) (by kernel_rfl) (by kernel_rfl) (by kernel_rfl)) ?_
  intro W base args ds gs before hval0 hW hcnd _
  have hval : ∀ (j : Nat) t v, Try.f6.params[j]? = some t → args[j]? = some v → Value.okWide Try.prog W .any base t v := hval0
  have hW' := hW
  obtain ⟨p, q, hA0, hV, rfl, hfz, hnd⟩ := hW
  have hA : DataW.TrodAll enc Try.prog W 0 (fun _ => true) true Try.f6.params.toList args.toList ds p := hA0
  rw [Try.params6] at hA hval
  obtain ⟨v0, vs0, d0, ds0, p0, q0, hargs, rfl, rfl, h0, r0⟩ := trodAll_cons hA
  obtain ⟨rfl, rfl, rfl⟩ := trodAll_nil r0
  obtain rfl : args = #[v0] := by cases args; simp_all
  obtain ⟨rfl, rfl⟩ := trodVars_none hV
  obtain ⟨a0, len0, cap0, rfl⟩ := okWide_slice Try.underlying22 (hval 0 22 v0 rfl rfl)
  have k0 := h0
  have lt0 : ∀ x ∈ p0, x.block < W.heap.size := by obtain ⟨m, hm⟩ := k0; exact DataW.trod_lt m _ _ _ hm
  obtain ⟨z0, w0⟩ : ∃ zs, IsRow .u8 W a0 len0 cap0 zs := by
    obtain ⟨fuel, hf⟩ := h0
    rcases open_ints Try.underlying22 Try.underlying5 (by kernel_rfl) hf with ⟨hcs, _⟩ | ⟨x, l, c, zs, hcs, _, hl, hm, hz, _, hcell, hwz⟩
    · simp [Value.cells] at hcs
      obtain ⟨rfl, rfl, rfl⟩ := hcs
      exact ⟨[], .inl ⟨rfl, rfl, rfl, rfl⟩⟩
    · simp [Value.cells] at hcs
      obtain ⟨rfl, rfl, rfl⟩ := hcs
      exact ⟨zs, .inr ⟨_, rfl, hl, hm, by simpa using hz, hcell, hwz⟩⟩
  clear hA0 hval0
  refine (walk a0 len0 cap0 z0 W w0).mono fun e W' ⟨he, bel⟩ => ?_
  subst he
  exact ⟨_, rfl, _, _, _, [], _, [], hW', trodAll_mk1 (shut_bool Try.underlying4 _), (trodAll_cons_mk (Below.trod laidOut (by kernel_rfl) (of_decide_eq_true (by kernel_rfl)) k0 bel lt0) trodAll_mk0), rfl, bel.frame _, fun h => by cases h⟩

theorem closed : joinedFacts Try.prog 6 Try.f6 Rows.fnFlagSpec Rows.fnFlagRow = true := by
  unfold joinedFacts
  rw [head_enter, head_final, head_make]
  kernel_rfl

theorem over : Rows.fnFlagRow.holds Try.pinned (OpenSpec.ofChange Rows.fnFlagSpec) :=
  OpenClaim.holds_of_wide 6 Try.f6 rfl rfl rfl rfl rfl rfl rfl ⟨rfl, rfl, rfl, rfl, rfl⟩ rfl rfl rfl rfl rfl (by kernel_rfl) Try.func6 closed
    (of_decide_eq_true (by kernel_rfl)) (by unfold Func.isWrapper; first | (rw [if_pos (by decide +kernel)]; kernel_rfl) | (rw [if_neg (by decide +kernel)]; exact ⟨rfl, rfl⟩))
    (fun os started H enc _ => lifted os started H enc)

theorem proved : Rows.FnFlagSaid := over
#print axioms proved
end Go.Proofs.Ytebipiehkmhaiaa.fnFlag
