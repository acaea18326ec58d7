/- FnPartial returns true at every input. No condition. -/
import Derived.Test.YtagibgphegoagaaRows
import Derived.WalkKit
import Derived.ProofKit
import Derived.OpenShut
import Derived.ShutString
import Derived.ChangeOld
import Derived.Below
import Derived.SliceStrings
import Derived.Test.YtagibgphegoagaaHead
import Derived.Test.YtagibgphegoagaaPtAll
import Derived.Test.YtagibgphegoagaaVOrd
import Derived.Test.YtagibgphegoagaaVInts
import Derived.Test.YtagibgphegoagaaNthP
import Derived.Test.YtagibgphegoagaaCode
namespace Go.Proofs.Ytagibgphegoagaa.fnPartial
open Go.ChangeShapes Go.WideShapes Go.ChangeAt Go.RowKit
open Go.ChangeMaps (open_string shut_string)
set_option linter.unusedVariables false

theorem own : ownKnob Try.prog.godebug = none := by kernel_rfl
theorem laidOut : laidOutB Try.prog = true := by kernel_rfl

def IsRow (k : IntKind) (w : World) (a : Option Addr) (len cap : Nat) (zs : List Int) : Prop :=
  (a = none ∧ len = 0 ∧ cap = 0 ∧ zs = []) ∨
  ∃ x, a = some x ∧ len ≤ cap ∧ cap ≤ maxLen ∧ zs.length = cap ∧ (∀ i, i < zs.length → w.cell? (x.add i) = some (.int k (zs.getD i 0))) ∧ ∀ n ∈ zs, (Lit.int k n).wf = true

theorem code_of {w : World} {a : Option Addr} {len cap : Nat} {zs : List Int} (h : IsRow .u8 w a len cap zs) : Code0 w a len := by
  intro k hk
  rcases h with ⟨_, rfl, _⟩ | ⟨x, rfl, hlc, _, hz, hc, hw⟩
  · omega
  · have hkz : k < zs.length := by omega
    have hd : zs.getD k 0 = zs[k] := by simp [List.getD, hkz]
    have hm := hw zs[k] (List.getElem_mem hkz)
    have hcell := hc k hkz
    rw [hd] at hcell
    have hlt := World.block_lt_of_cell? w _ hcell
    have hbk := Go.ChangeShapes.block_add x k
    have hr := bounds_u8 hm
    exact ⟨x, zs[k], rfl, by omega, hcell, hr.1, hr.2⟩

theorem vbig_no (a : Option Addr) (len cap : Nat) (w : World) (h : len ≤ 65536) : Calls Try.prog 18 #[.slice a len cap] w fun e w' => e = .returned (.bool false) ∧ w' = w := by
  go_enter Try.func18, Try.ntmps18
  have hq : decide ((65536 : Int) < (len : Int)) = false := decide_eq_false (by omega)
  go_wp2
  go_ret
  exact ⟨by rw [← hq]; rfl, rfl⟩

set_option maxRecDepth 100000 in
set_option maxHeartbeats 40000000 in
theorem walk (a : Option Addr) (len cap : Nat) (z : List Int) (w : World) (w0 : IsRow .u8 w a len cap z) :
    Calls Try.prog 7 #[.slice a len cap] w fun e w' => e = .returned (.bool true) ∧ Below w.heap.size w w' := by
  have hlen : len ≤ maxLen := by
    rcases w0 with ⟨_, rfl, _⟩ | ⟨x, _, h1, h2, _⟩ <;> omega
  unfold maxLen at hlen
  have HCODE := Lib.hid (code_of w0)
  clear w0
  by_cases hbig : 65536 < len
  · clear HCODE
    go_enter Try.func7, Try.ntmps7
    go_wp2
    go_ret
    exact ⟨rfl, Below.refl _ _⟩
  · go_enter Try.func7, Try.ntmps7
    go_wp2_with fail
    refine (vbig_no a len cap _ (by omega)).mono ?_
    rintro e w0 ⟨rfl, rfl⟩
    have HLEN : Hid (len ≤ 65536) := Lib.hid (by omega)
    clear hlen hbig
    have B0 : Hid (Below w0.heap.size w0 w0) := Lib.hid (Below.refl _ _)
    have HCODE0 := HCODE
    go_wp2_with fail
    refine (vList_any a len cap _ HCODE.out).mono ?_
    rintro e w_1 ⟨gRL, cRL, li, hok, rfl, hcRL, hrow, hb⟩
    have RL := Lib.hid hrow
    have hnRL : li.length ≤ 1048576 := by have := hok.1; omega
    have BN := Lib.hid (B0.out.trans (hb.mono B0.out.size))
    clear B0
    have B0 := BN
    clear BN
    clear hrow hb HCODE
    have h64 := hok.1
    have HCODE := Lib.hid (HCODE0.out.below B0.out)
    go_wp2_with fail
    refine (vAt_any a len cap 3 _ HCODE.out (by omega) (by have := HLEN.out; omega)).mono ?_
    rintro e w_2 ⟨⟨rz, hr0, hr1, rfl⟩, rfl⟩
    obtain ⟨r, rfl⟩ : ∃ n : Nat, rz = n := ⟨rz.toNat, by omega⟩
    obtain ⟨N, hN⟩ : ∃ N, N = li.length + 1 := ⟨_, rfl⟩
    obtain ⟨k, hk⟩ : ∃ n, n = r % N := ⟨_, rfl⟩
    have hkN : k < N := by rw [hk]; exact Nat.mod_lt _ (by omega)
    have ewN : IntKind.i64.wrap ((li.length : Int) + 1) = (N : Int) := by rw [IntKind.wrap_i64]; omega
    have hNz : ¬ (N : Int) = 0 := by omega
    have hNz2 : ((N : Int) == 0) = false := beq_eq_false_iff_ne.2 hNz
    have hke : (r : Int) % (N : Int) = (k : Int) := by rw [hk]; exact (Int.natCast_emod r N).symm
    have hkt : Int.tmod (r : Int) (N : Int) = (k : Int) := by rw [Int.tmod_eq_emod_of_nonneg (by omega)]; exact hke
    have hkw : IntKind.i64.wrap (k : Int) = (k : Int) := by rw [IntKind.wrap_i64]; omega
    have hkl : k ≤ li.length := by omega
    have hkz : (k : Int) ≤ (li.length : Int) := by omega
    have HP := Lib.hid (fun b o c W (h : FlatAt W (.slice (some ⟨b, o, none⟩) li.length c) li.length (ints li)) => implPsoY_any b o c li k W h hok hkl)
    have HVO := Lib.hid (fun b o c W (h : FlatAt W (.slice (some ⟨b, o, none⟩) li.length c) li.length (ints li)) => vOrdered_any b o c li W h h64)
    obtain ⟨U, hU⟩ : ∃ U, U = Sl.psF li k := ⟨_, rfl⟩
    obtain ⟨S, hS⟩ : ∃ S, S = El.srt li := ⟨_, rfl⟩
    have hup := Sl.psF_perm li k
    have hul := Sl.psF_length li k
    have hut : U.take k = S.take k := by rw [hU, hS, Sl.psF_eq, List.take_append_of_le_length (by rw [List.length_take, El.srt_length]; omega), List.take_take, Nat.min_self]
    have hsl : S.length = li.length := by rw [hS]; exact El.srt_length li
    have hus : El.srt U = S := by rw [hU, hS]; exact El.srt_uniq (El.srt_asc _) ((El.srt_perm _).trans hup)
    rw [← hU] at HP hup hul
    rw [← hS] at HVO
    have HVU := Lib.hid (fun (g c : Nat) (W : World) (hc : li.length ≤ c) (h : CellRow W g (ints U)) => by
      have := vOrdered_any g 0 c U W (h.flat (by omega)) (by omega)
      rw [hus, hul] at this
      refine this.mono (R' := fun e w' => ∃ g2 c2, e = .returned (.slice (some ⟨g2, 0, none⟩) li.length c2) ∧ li.length ≤ c2 ∧ CellRow w' g2 (ints S) ∧ Below W.heap.size W w') ?_
      rintro e w' ⟨g2, c2, rfl, h1, _, h3, h4⟩
      rw [hsl] at h1 ⊢
      exact ⟨g2, c2, rfl, h1, h3, h4⟩)
    have HV2 := Lib.hid (fun (g c g2 c2 : Nat) (W : World) (hc : li.length ≤ c) (hc2 : li.length ≤ c2) (h : CellRow W g (ints S)) (h2 : CellRow W g2 (ints S)) => by
      have := vInts_yes (.slice (some ⟨g, 0, none⟩) S.length c) (.slice (some ⟨g2, 0, none⟩) S.length c2) S W (h.flat (by omega)) (h2.flat (by omega)) (by omega)
      rw [hsl] at this; exact this)
    have HSL := Lib.hid hsl
    have HUL := Lib.hid hul
    have HUT := Lib.hid hut
    have hs1 : S.length ≤ 1048576 := by omega
    have HNT := Lib.hid (fun (hlt : k < li.length) b o c W (h : FlatAt W (.slice (some ⟨b, o, none⟩) li.length c) li.length (ints li)) => by have := (implNth_any b o c li (k : Int) W h hnRL).mono fun e w2 hq => hq.flat; rw [Sl.nthAll_yes hok hlt] at this; exact this)
    have HAT0 := Lib.hid (fun (x : Int) (hx : x = (El.srt li).getD k 0) => ((fun j i y h1 h2 h3 => Qk.du_at (Int.le_refl x) h1 h2 h3 : ∀ j i y, j < 3 → li[i]? = some y → Qk.selB x x j y = true → (Qk.duF li x x)[Qk.offD x x li j + ((li.take i).filter (Qk.selB x x j)).length]? = some y)))
    have HO3 := Lib.hid (fun x : Int => Qk.offD3 (Int.le_refl x) li)
    have HOL := Lib.hid (fun (x : Int) j (hj : j ≤ 3) => Qk.offD_le (Int.le_refl x) li hj)
    have HDL := Lib.hid (fun x : Int => Qk.duF_length (Int.le_refl x) li)
    have HMID := Lib.hid (fun (x : Int) (hx : x ∈ li) => hx)
    have HSEQ : Hid (El.srt li = S) := Lib.hid hS.symm
    clear hk hN hU hup hut hsl hus hS hok hr0 hr1 HCODE HCODE0
    go_wp2_with fail
    refine (HP.out _ _ _ _ (RL.out.flat hcRL)).mono ?_
    rintro e w_3 ⟨gRU, cRU, rfl, hcRU, hg, hrow, hb⟩
    simp only at hcRU hrow
    have hyRU := Lib.hid hrow
    have RLz := Lib.hid (RL.out.below hb RL.out.1)
    clear RL
    have RL := RLz
    clear RLz
    have BN := Lib.hid (B0.out.trans (hb.mono B0.out.size))
    clear B0
    have B0 := BN
    clear BN
    have RU := hyRU
    clear hyRU hrow hb hg
    rw [HUL.out] at hcRU ⊢
    clear HP hke hkt hkw ewN
    go_wp2_with fail
    refine (HVO.out _ _ _ _ (RL.out.flat hcRL)).mono ?_
    rintro e w_4 ⟨gRO, cRO, rfl, hcRO, hg, hrow, hb⟩
    have hyRO := Lib.hid hrow
    rw [HSL.out] at hcRO ⊢
    have RLz := Lib.hid (RL.out.below hb RL.out.1)
    clear RL
    have RL := RLz
    clear RLz
    have RUz := Lib.hid (RU.out.below hb RU.out.1)
    clear RU
    have RU := RUz
    clear RUz
    have BN := Lib.hid (B0.out.trans (hb.mono B0.out.size))
    clear B0
    have B0 := BN
    clear BN
    have RO := hyRO
    clear hyRO hrow hb hg HVO hul
    have hkU : k ≤ cRU := by omega
    have hkO : k ≤ cRO := by omega
    have HVI := Lib.hid (fun W (h1 : CellRow W gRU (ints U)) (h2 : CellRow W gRO (ints S)) => by
      have e1 := row_take (c := cRU) h1 (k := k) (by rw [HUL.out]; exact hkl) hkU
      have e2 := row_take (c := cRO) h2 (k := k) (by rw [HSL.out]; exact hkl) hkO
      rw [HUT.out] at e1
      have hl : (S.take k).length = k := by rw [List.length_take, HSL.out]; omega
      have := vInts_yes _ _ (S.take k) W (by rw [hl]; exact e1) (by rw [hl]; exact e2) (by omega)
      exact this)
    go_wp2_with fail
    have HFP : Hid (CellRow (w_4.drewN 1) gRU (ints U) ∧ CellRow (w_4.drewN 1) gRO (ints S)) := Lib.hid ⟨RU.out.same (w' := w_4.drewN 1) rfl (Nat.le_refl _), RO.out.same (w' := w_4.drewN 1) rfl (Nat.le_refl _)⟩
    have hll : ((li.length : Int) != (li.length : Int)) = false := by simp
    have hkUz : (k : Int) ≤ (cRU : Int) := by omega
    have hkOz : (k : Int) ≤ (cRO : Int) := by omega
    go_region_held3 (fun _ => True) (trivial) (first
      | (go_at_call_of 43 (Value.slice (some ⟨gRU, 0, none⟩) k cRU); refine (HVI.out _ HFP.out.1 HFP.out.2).mono ?_; rintro e wa ⟨rfl, hba⟩)
      | (go_at_call 41; refine (HVU.out _ _ _ hcRU (HFP.out.1.below hba HFP.out.1.1)).mono ?_; rintro e wb ⟨gRV, cRV, rfl, hcRV, hrv, hbb⟩)
      | (go_at_call 43; refine (HV2.out _ _ _ _ _ hcRV hcRO hrv ((HFP.out.2.below hba HFP.out.2.1).below hbb (HFP.out.2.below hba HFP.out.2.1).1)).mono ?_; rintro e wc ⟨rfl, hbc⟩))
    all_goals
      have hb : Below w_4.heap.size w_4 wc := (⟨rfl, rfl, rfl, Nat.le_refl _, fun _ _ => rfl⟩ : Below w_4.heap.size w_4 (w_4.drewN 1)).trans (hba.trans ((hbb.mono hba.size).trans (hbc.mono (Nat.le_trans hba.size hbb.size))))
      clear RU
      have RLz := Lib.hid (RL.out.below hb RL.out.1)
      clear RL
      have RL := RLz
      clear RLz
      have ROz := Lib.hid (RO.out.below hb RO.out.1)
      clear RO
      have RO := ROz
      clear ROz
      have BN := Lib.hid (B0.out.trans (hb.mono B0.out.size))
      clear B0
      have B0 := BN
      clear BN
      clear hb hrv hba hbb hbc hcRV HVI HVU HV2 HFP hll
      by_cases hlt : k < li.length
      case neg =>
        obtain rfl : k = li.length := by omega
        have hbe : ((li.length : Int) == (li.length : Int)) = true := by simp
        go_wp2_with fail
        go_ret
        exact ⟨rfl, B0.out⟩
      have hbe : ((k : Int) == (li.length : Int)) = false := beq_eq_false_iff_ne.2 (by omega)
      have hkne : ¬ k = li.length := by omega
      have hklz : (k : Int) < (li.length : Int) := by omega
      obtain ⟨x, hx⟩ : ∃ x, x = S.getD k 0 := ⟨_, rfl⟩
      have hcO := RO.out.2 _ _ (ints_at (P.at_getD (l := S) (k := k) (by rw [HSL.out]; exact hlt)))
      rw [← hx] at hcO
      have hxe : x = (El.srt li).getD k 0 := by rw [HSEQ.out]; exact hx
      have hNT := HNT.out hlt
      rw [← hxe] at hNT
      have HNT2 := Lib.hid hNT
      have HAT := Lib.hid (HAT0.out x hxe)
      have hO3 := HO3.out x
      have HOLx := Lib.hid (HOL.out x)
      have hD := HDL.out x
      obtain ⟨D, hDe⟩ : ∃ D, D = Qk.duF li x x := ⟨_, rfl⟩
      -- the element of the rank stands at its place
      have hDk : D[k]? = some x := by
        rw [hDe, hxe]; exact Sl.nth_at hlt
      rw [← hDe] at HNT2 HAT hD
      have HDk := Lib.hid hDk
      have HD := Lib.hid hD
      have HX := Lib.hid hx
      have HO3x := Lib.hid hO3
      clear hx hxe hNT hO3 hD hDe hDk HNT HAT0 HO3 HOL HDL HSEQ hcO
      go_wp2_with fail
      refine (HNT2.out _ _ _ _ (RL.out.flat hcRL)).mono ?_
      rintro e w_5 ⟨aRD, cRD, rfl, hf, hb⟩
      simp only at hf ⊢
      have hyRD := Lib.hid hf
      rw [HD.out] at hyRD ⊢
      have RLz := Lib.hid (RL.out.below hb RL.out.1)
      clear RL
      have RL := RLz
      clear RLz
      have ROz := Lib.hid (RO.out.below hb RO.out.1)
      clear RO
      have RO := ROz
      clear ROz
      have BN := Lib.hid (B0.out.trans (hb.mono B0.out.size))
      clear B0
      have B0 := BN
      clear BN
      have RD := hyRD
      clear hyRD hf hb HNT2
      obtain ⟨b9, o9, rfl, HCD⟩ : ∃ b9 o9, aRD = some ⟨b9, o9, none⟩ ∧ Hid (∀ j y, D[j]? = some y → w_5.cell? ⟨b9, o9 + j, none⟩ = some (.int .i64 y)) := by
        obtain ⟨a', c', e1, _, hh⟩ := RD.out
        simp at e1
        obtain ⟨rfl, rfl⟩ := e1
        obtain ⟨b9, o9, e2, _, _⟩ := hh k _ (ints_at HDk.out)
        refine ⟨b9, o9, e2, Lib.hid fun j y hj => ?_⟩
        obtain ⟨b8, o8, e3, _, hc⟩ := hh j _ (ints_at hj)
        rw [e2] at e3
        simp at e3
        obtain ⟨rfl, rfl⟩ := e3
        exact hc
      have hcDk := HCD.out k x HDk.out
      obtain ⟨hcS, _⟩ := RO.out.2 _ _ (ints_at (P.at_getD (l := S) (k := k) (by rw [HSL.out]; exact hlt)))
      rw [← HX.out] at hcS
      have HLI : Hid (∀ i y, li[i]? = some y → w_5.cell? ⟨gRL, i, none⟩ = some (.int .i64 y)) := Lib.hid (fun i y hi => (RL.out.2 i _ (ints_at hi)).1)
      have hxx : (x == x) = true := by simp
      clear RD HX HDk RO RL
      go_wp2_with fail
      go_quiet (fail)
      go_wp2_with fail
      go_loopw [10, 11, 12, 13] (fun av pv _ _ wr => ∃ (j t m : Nat) (g : Int), av = .int .i64 (t : Int) ∧ pv = .int .i64 g ∧ g = (j : Int) - 1 ∧ j ≤ 3 ∧ t = Qk.offD x x li j ∧ wr = w_5.drewN m) (fun _ pv _ _ _ => (2 - intOf pv).toNat)
      case atStart => exact ⟨0, 0, _, -1, rfl, rfl, rfl, Nat.zero_le _, rfl, rfl⟩
      case round =>
        obtain ⟨j, t, m, g, rfl, rfl, hg, hj3, ht, rfl⟩ := hrel
        have ht64 : t ≤ 64 := by have := HOLx.out j hj3; omega
        have HT := Lib.hid ht
        clear ht
        by_cases hj : j < 3
        · have hjz : g ≤ 1 := by omega
          have hjd : decide (g ≤ 1) = true := decide_eq_true hjz
          have ewg : IntKind.i64.wrap (g + 1) = g + 1 := by rw [IntKind.wrap_i64]; omega
          have HG := Lib.hid hg
          clear hg
          go_wp2_with fail
          go_loopw [10, 12, 13] (fun av iv _ ws => ∃ i t m : Nat, av = .int .i64 (t : Int) ∧ iv = .int .i64 (i : Int) ∧ i ≤ li.length ∧ t = Qk.offD x x li j + ((li.take i).filter (Qk.selB x x j)).length ∧ ws = w_5.drewN m) (fun _ iv _ _ => li.length - (intOf iv).toNat)
          case atStart => exact ⟨0, t, _, rfl, rfl, Nat.zero_le _, by rw [HT.out]; simp, rfl⟩
          case round =>
            obtain ⟨i, t', m2, rfl, rfl, hi, ht, rfl⟩ := hrel
            have ht64' : t' ≤ 128 := by
              have h1 := HOLx.out j hj3
              have h2 : ((li.take i).filter (Qk.selB x x j)).length ≤ li.length := filt_len _ _
              omega
            have HTI := Lib.hid ht
            clear ht
            by_cases hlt : i < li.length
            · have hiz : (i : Int) < (li.length : Int) := by omega
              have hid : decide ((i : Int) < (li.length : Int)) = true := decide_eq_true hiz
              obtain ⟨y, hy⟩ : ∃ y, li[i]? = some y := ⟨_, List.getElem?_eq_getElem hlt⟩
              have hci := HLI.out i y hy
              have HY := Lib.hid hy
              clear hy
              have hg := HG.out
              rcases (show j = 0 ∨ j = 1 ∨ j = 2 by omega) with hj' | hj' | hj' <;> rcases (show y < x ∨ y = x ∨ x < y by omega) with hx1 | hx1 | hx1
              all_goals
                first
                | have hn1 : ((-1 : Int) != g) = true := bne_iff_ne.2 (by omega)
                | have hn1 : ((-1 : Int) != g) = false := by rw [show g = -1 by omega]; rfl
                first
                | have hn2 : ((0 : Int) != g) = true := bne_iff_ne.2 (by omega)
                | have hn2 : ((0 : Int) != g) = false := by rw [show g = 0 by omega]; rfl
                first
                | have hn3 : ((1 : Int) != g) = true := bne_iff_ne.2 (by omega)
                | have hn3 : ((1 : Int) != g) = false := by rw [show g = 1 by omega]; rfl
                first
                | have hd1 : decide (y < x) = true := decide_eq_true (by omega)
                | have hd1 : decide (y < x) = false := decide_eq_false (by omega)
                first
                | have hd2 : decide (x < y) = true := decide_eq_true (by omega)
                | have hd2 : decide (x < y) = false := decide_eq_false (by omega)
                first
                | (have hsel : Qk.selB x x j y = true := by unfold Qk.selB; rw [hd1, hd2, hj']; decide
                   have hD := HAT.out j i y hj HY.out hsel
                   rw [← HTI.out] at hD
                   have hltD := (List.getElem?_eq_some_iff.1 hD).1
                   have htz : (t' : Int) < (li.length : Int) := by have := HD.out; omega
                   have hcd := HCD.out t' y hD
                   have hyy : (y != y) = false := by simp
                   have HN : Hid (t' + 1 = Qk.offD x x li j + ((li.take (i + 1)).filter (Qk.selB x x j)).length) := Lib.hid (by rw [filt_yes HY.out hsel, List.length_append, HTI.out]; simp; omega)
                   clear hsel hD hltD hj' hx1 hg
                   go_wp2_with fail
                   go_quiet (fail)
                   go_wp2_with fail
                   go_quiet (fail)
                   go_wp2_with fail
                   go_quiet (fail)
                   go_wp2_with fail
                   go_roundw
                   case rel => exact ⟨i + 1, t' + 1, _, by go_num, by go_num, by omega, HN.out, rfl⟩
                   case measure => simp [intOf]; omega)
                | (have hsel : Qk.selB x x j y = false := by unfold Qk.selB; rw [hd1, hd2, hj']; decide
                   have HN : Hid (t' = Qk.offD x x li j + ((li.take (i + 1)).filter (Qk.selB x x j)).length) := Lib.hid (by rw [filt_no HY.out hsel]; exact HTI.out)
                   clear hsel hj' hx1 hg
                   go_wp2_with fail
                   go_quiet (fail)
                   go_wp2_with fail
                   go_quiet (fail)
                   go_wp2_with fail
                   go_roundw
                   case rel => exact ⟨i + 1, t', _, rfl, by go_num, by omega, HN.out, rfl⟩
                   case measure => simp [intOf]; omega)
            · have hiz : ¬ (i : Int) < (li.length : Int) := by omega
              have hid : decide ((i : Int) < (li.length : Int)) = false := decide_eq_false hiz
              have HN : Hid (t' = Qk.offD x x li (j + 1)) := Lib.hid (by rw [HTI.out, List.take_of_length_le (by omega)]; rfl)
              go_wp2_with fail
              go_roundw
              case rel => exact ⟨j + 1, t', _, g + 1, rfl, rfl, by have := HG.out; omega, by omega, HN.out, rfl⟩
              case measure => simp only [intOf]; omega
        · have hjz : ¬ g ≤ 1 := by omega
          have hjd : decide (g ≤ 1) = false := decide_eq_false hjz
          have hte : t = li.length := by rw [HT.out, show j = 3 by omega]; exact HO3x.out
          have hq1 : ((t : Int) == (li.length : Int)) = true := by rw [hte]; simp
          have HBE : Hid (Below w0.heap.size w0 (w_5.drewN m)) := Lib.hid (B0.out.trans ⟨rfl, rfl, rfl, Nat.le_refl _, fun _ _ => rfl⟩)
          subst hte
          go_wp2_with fail
          go_ret
          exact ⟨rfl, HBE.out⟩

set_option maxRecDepth 100000 in
theorem lifted (os : Os) (started : os.Started) (H : Type) (enc : TypeId × Value → H) :
    ReturnsInHanded {} Try.checked os 7 .any (Rows.fnPartialSpec.pre6 enc Try.prog Try.f7 Rows.fnPartialRow.domain false) (Rows.fnPartialSpec.post enc Try.prog Try.f7 false true false false) := by
  refine returnsInHanded_of_change (C := Try.checked) own started (by kernel_rfl) Try.func7
    (ChangeSpec.witness6 (enc := enc) (C := Try.checked) false ⟨#[], #[.slice none 0 0], []⟩ 8 (by kernel_rfl) (by kernel_rfl) (by kernel_rfl) (by kernel_rfl)) ?_
  intro W base args ds gs before hval0 hW hcnd _
  have hval : ∀ (j : Nat) t v, Try.f7.params[j]? = some t → args[j]? = some v → Value.okWide Try.prog W .any base t v := hval0
  have hW' := hW
  obtain ⟨p, q, hA0, hV, rfl, hfz, hnd⟩ := hW
  have hA : DataW.TrodAll enc Try.prog W 0 (fun _ => true) true Try.f7.params.toList args.toList ds p := hA0
  rw [Try.params7] at hA hval
  obtain ⟨v0, vs0, d0, ds0, p0, q0, hargs, rfl, rfl, h0, r0⟩ := trodAll_cons hA
  obtain ⟨rfl, rfl, rfl⟩ := trodAll_nil r0
  obtain rfl : args = #[v0] := by cases args; simp_all
  obtain ⟨rfl, rfl⟩ := trodVars_none hV
  obtain ⟨a0, len0, cap0, rfl⟩ := okWide_slice Try.underlying22 (hval 0 22 v0 rfl rfl)
  have k0 := h0
  have lt0 : ∀ x ∈ p0, x.block < W.heap.size := by obtain ⟨m, hm⟩ := k0; exact DataW.trod_lt m _ _ _ hm
  obtain ⟨z0, w0⟩ : ∃ zs, IsRow .u8 W a0 len0 cap0 zs := by
    obtain ⟨fuel, hf⟩ := h0
    rcases open_ints Try.underlying22 Try.underlying5 (by kernel_rfl) hf with ⟨hcs, _⟩ | ⟨x, l, c, zs, hcs, _, hl, hm, hz, _, hcell, hwz⟩
    · simp [Value.cells] at hcs
      obtain ⟨rfl, rfl, rfl⟩ := hcs
      exact ⟨[], .inl ⟨rfl, rfl, rfl, rfl⟩⟩
    · simp [Value.cells] at hcs
      obtain ⟨rfl, rfl, rfl⟩ := hcs
      exact ⟨zs, .inr ⟨_, rfl, hl, hm, by simpa using hz, hcell, hwz⟩⟩
  clear hA0 hval0
  refine (walk a0 len0 cap0 z0 W w0).mono fun e W' ⟨he, bel⟩ => ?_
  subst he
  exact ⟨_, rfl, _, _, _, [], _, [], hW', trodAll_mk1 (shut_bool Try.underlying4 _), (trodAll_cons_mk (Below.trod laidOut (by kernel_rfl) (of_decide_eq_true (by kernel_rfl)) k0 bel lt0) trodAll_mk0), rfl, bel.frame _, fun h => by cases h⟩

theorem closed : joinedFacts Try.prog 7 Try.f7 Rows.fnPartialSpec Rows.fnPartialRow = true := by
  unfold joinedFacts
  rw [head_enter, head_final, head_make]
  kernel_rfl

theorem over : Rows.fnPartialRow.holds Try.pinned (OpenSpec.ofChange Rows.fnPartialSpec) :=
  OpenClaim.holds_of_wide 7 Try.f7 rfl rfl rfl rfl rfl rfl rfl ⟨rfl, rfl, rfl, rfl, rfl⟩ rfl rfl rfl rfl rfl (by kernel_rfl) Try.func7 closed
    (of_decide_eq_true (by kernel_rfl)) (by unfold Func.isWrapper; first | (rw [if_pos (by decide +kernel)]; kernel_rfl) | (rw [if_neg (by decide +kernel)]; exact ⟨rfl, rfl⟩))
    (fun os started H enc _ => lifted os started H enc)

theorem proved : Rows.FnPartialSaid := over
#print axioms proved
end Go.Proofs.Ytagibgphegoagaa.fnPartial
