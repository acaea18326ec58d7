/- FnSelect returns true at every input. No condition. -/
import Derived.Test.YtagibgphegoagaaRows
import Derived.WalkKit
import Derived.ProofKit
import Derived.OpenShut
import Derived.ShutString
import Derived.ChangeOld
import Derived.Below
import Derived.SliceStrings
import Derived.Test.YtagibgphegoagaaHead
import Derived.Test.YtagibgphegoagaaSlAll
import Derived.Test.YtagibgphegoagaaVOrd
import Derived.Test.YtagibgphegoagaaCode
namespace Go.Proofs.Ytagibgphegoagaa.fnSelect
open Go.ChangeShapes Go.WideShapes Go.ChangeAt Go.RowKit
open Go.ChangeMaps (open_string shut_string)
set_option linter.unusedVariables false

theorem own : ownKnob Try.prog.godebug = none := by kernel_rfl
theorem laidOut : laidOutB Try.prog = true := by kernel_rfl

def IsRow (k : IntKind) (w : World) (a : Option Addr) (len cap : Nat) (zs : List Int) : Prop :=
  (a = none ∧ len = 0 ∧ cap = 0 ∧ zs = []) ∨
  ∃ x, a = some x ∧ len ≤ cap ∧ cap ≤ maxLen ∧ zs.length = cap ∧ (∀ i, i < zs.length → w.cell? (x.add i) = some (.int k (zs.getD i 0))) ∧ ∀ n ∈ zs, (Lit.int k n).wf = true

theorem code_of {w : World} {a : Option Addr} {len cap : Nat} {zs : List Int} (h : IsRow .u8 w a len cap zs) : Code0 w a len := by
  intro k hk
  rcases h with ⟨_, rfl, _⟩ | ⟨x, rfl, hlc, _, hz, hc, hw⟩
  · omega
  · have hkz : k < zs.length := by omega
    have hd : zs.getD k 0 = zs[k] := by simp [List.getD, hkz]
    have hm := hw zs[k] (List.getElem_mem hkz)
    have hcell := hc k hkz
    rw [hd] at hcell
    have hlt := World.block_lt_of_cell? w _ hcell
    have hbk := Go.ChangeShapes.block_add x k
    have hr := bounds_u8 hm
    exact ⟨x, zs[k], rfl, by omega, hcell, hr.1, hr.2⟩

theorem vbig_no (a : Option Addr) (len cap : Nat) (w : World) (h : len ≤ 65536) : Calls Try.prog 18 #[.slice a len cap] w fun e w' => e = .returned (.bool false) ∧ w' = w := by
  go_enter Try.func18, Try.ntmps18
  have hq : decide ((65536 : Int) < (len : Int)) = false := decide_eq_false (by omega)
  go_wp2
  go_ret
  exact ⟨by rw [← hq]; rfl, rfl⟩

set_option maxRecDepth 100000 in
set_option maxHeartbeats 40000000 in
theorem walk (a : Option Addr) (len cap : Nat) (z : List Int) (w : World) (w0 : IsRow .u8 w a len cap z) :
    Calls Try.prog 6 #[.slice a len cap] w fun e w' => e = .returned (.bool true) ∧ Below w.heap.size w w' := by
  have hlen : len ≤ maxLen := by
    rcases w0 with ⟨_, rfl, _⟩ | ⟨x, _, h1, h2, _⟩ <;> omega
  unfold maxLen at hlen
  have HCODE := Lib.hid (code_of w0)
  clear w0
  by_cases hbig : 65536 < len
  · clear HCODE
    go_enter Try.func6, Try.ntmps6
    go_wp2
    go_ret
    exact ⟨rfl, Below.refl _ _⟩
  · go_enter Try.func6, Try.ntmps6
    go_wp2_with fail
    refine (vbig_no a len cap _ (by omega)).mono ?_
    rintro e w0 ⟨rfl, rfl⟩
    have HLEN : Hid (len ≤ 65536) := Lib.hid (by omega)
    clear hlen hbig
    have B0 : Hid (Below w0.heap.size w0 w0) := Lib.hid (Below.refl _ _)
    have HCODE0 := HCODE
    go_wp2_with fail
    refine (vList_any a len cap _ HCODE.out).mono ?_
    rintro e w_1 ⟨gRL, cRL, li, hok, rfl, hcRL, hrow, hb⟩
    have RL := Lib.hid hrow
    have hnRL : li.length ≤ 1048576 := by have := hok.1; omega
    have BN := Lib.hid (B0.out.trans (hb.mono B0.out.size))
    clear B0
    have B0 := BN
    clear BN
    clear hrow hb HCODE
    by_cases h0 : li.length = 0
    · obtain rfl : li = [] := List.eq_nil_of_length_eq_zero h0
      rw [List.length_nil] at hcRL
      clear hok h0
      have HK := Lib.hid (fun W (h : FlatAt W (.slice (some ⟨gRL, 0, none⟩) 0 cRL) 0 (ints [])) => implKth_any (some ⟨gRL, 0, none⟩) cRL [] 0 W h (by simp))
      have HQ := Lib.hid (fun W (h : FlatAt W (.slice (some ⟨gRL, 0, none⟩) 0 cRL) 0 (ints [])) => implQsel_any gRL 0 cRL [] 0 W h (by simp))
      have HP := Lib.hid (fun W (h : FlatAt W (.slice (some ⟨gRL, 0, none⟩) 0 cRL) 0 (ints [])) => (implPso_any gRL 0 cRL [] 0 W h (by simp)).mono fun e w2 hq => hq.flat)
      rw [Sl.kthAll_no (fun h => by have := h.2.2; simp at this)] at HK
      rw [Sl.qsAll1_no (fun h => by have := h.2.2; simp at this)] at HQ
      have e0 : Sl.psAll [] 0 = ([], true) := by
        have := Sl.psAll_yes (l := []) (k := 0) ⟨by simp, fun x hx => by cases hx⟩ (Nat.le_refl _)
        rw [show ((0 : Nat) : Int) = 0 from rfl] at this
        rw [this, List.eq_nil_of_length_eq_zero (Sl.psF_length [] 0)]
      rw [e0] at HP
      simp only [List.length_nil] at HK HQ HP
      clear e0
      go_wp2_with fail
      refine (HK.out _ (RL.out.flat hcRL)).mono ?_
      rintro e w_2 ⟨rfl, hb⟩
      have RLz := Lib.hid (RL.out.below hb RL.out.1)
      clear RL
      have RL := RLz
      clear RLz
      have BN := Lib.hid (B0.out.trans (hb.mono B0.out.size))
      clear B0
      have B0 := BN
      clear BN
      clear hb
      go_wp2_with fail
      refine (HQ.out _ (RL.out.flat hcRL)).mono ?_
      rintro e w_3 ⟨rfl, hb⟩
      have RLz := Lib.hid (RL.out.below hb RL.out.1)
      clear RL
      have RL := RLz
      clear RLz
      have BN := Lib.hid (B0.out.trans (hb.mono B0.out.size))
      clear B0
      have B0 := BN
      clear BN
      clear hb
      go_wp2_with fail
      refine (HP.out _ (RL.out.flat hcRL)).mono ?_
      rintro e w_4 ⟨a9, c9, rfl, _, hb⟩
      have RLz := Lib.hid (RL.out.below hb RL.out.1)
      clear RL
      have RL := RLz
      clear RLz
      have BN := Lib.hid (B0.out.trans (hb.mono B0.out.size))
      clear B0
      have B0 := BN
      clear BN
      clear hb HP HK HQ
      simp only [List.length_nil]
      go_wp2_with fail
      go_ret
      exact ⟨rfl, B0.out⟩
    · have hl0 : 0 < li.length := Nat.pos_of_ne_zero h0
      have hz : ((li.length : Int) == 0) = false := by rw [beq_eq_false_iff_ne]; omega
      have hlz : ¬ (li.length : Int) = 0 := by omega
      have h64 := hok.1
      have HCODE := Lib.hid (HCODE0.out.below B0.out)
      go_wp2_with fail
      refine (vAt_any a len cap 0 _ HCODE.out (by omega) (by have := HLEN.out; omega)).mono ?_
      rintro e w_5 ⟨⟨rz, hr0, hr1, rfl⟩, rfl⟩
      obtain ⟨r, rfl⟩ : ∃ n : Nat, rz = n := ⟨rz.toNat, by omega⟩
      obtain ⟨k, hk⟩ : ∃ n, n = r % li.length := ⟨_, rfl⟩
      have hkl : k < li.length := by rw [hk]; exact Nat.mod_lt _ hl0
      have hke : (r : Int) % (li.length : Int) = (k : Int) := by rw [hk]; exact (Int.natCast_emod r li.length).symm
      have hkt : Int.tmod (r : Int) (li.length : Int) = (k : Int) := by rw [Int.tmod_eq_emod_of_nonneg (by omega)]; exact hke
      have hkw : IntKind.i64.wrap (k : Int) = (k : Int) := by rw [IntKind.wrap_i64]; omega
      have HVO := Lib.hid (fun b o c W (h : FlatAt W (.slice (some ⟨b, o, none⟩) li.length c) li.length (ints li)) => vOrdered_any b o c li W h h64)
      have HK := Lib.hid (fun a c W (h : FlatAt W (.slice a li.length c) li.length (ints li)) => implKth_any a c li (k : Int) W h hnRL)
      have HQ := Lib.hid (fun b o c W (h : FlatAt W (.slice (some ⟨b, o, none⟩) li.length c) li.length (ints li)) => implQsel_any b o c li (k : Int) W h hnRL)
      have HM := Lib.hid (fun b o c W (h : FlatAt W (.slice (some ⟨b, o, none⟩) li.length c) li.length (ints li)) => implSelM_any b o c li (k : Int) W h hnRL)
      rw [Sl.kthAll_yes hok hkl] at HK
      rw [Sl.qsAll1_yes hok hkl] at HQ
      rw [Sl.smAll_yes hok hkl] at HM
      obtain ⟨q1, _, _, q4, q5⟩ := Sl.qk_spec Sl.fst_mem li.length li k 0 0 hkl (Nat.le_refl _)
      obtain ⟨m1, m2, m3, _, _⟩ := Sl.qk_spec Sl.momF_mem li.length li k 0 0 hkl (Nat.le_refl _)
      generalize Sl.qk Sl.fstF li.length li k 0 0 = Q at *
      generalize Sl.qk Sl.momF li.length li k 0 0 = M at *
      obtain ⟨y, _, n⟩ := Q
      obtain ⟨z, ro, _⟩ := M
      simp only at q1 q4 q5 m1 m2 m3 HQ HM
      obtain ⟨x, hx⟩ : ∃ x, x = (El.srt li).getD k 0 := ⟨_, rfl⟩
      rw [← hx] at q1 m1 HK
      subst q1
      subst m1
      have hks : k < (El.srt li).length := by rw [El.srt_length]; exact hkl
      have hat := P.at_getD hks
      rw [← hx] at hat
      have HAT := Lib.hid hat
      have HSL : Hid ((El.srt li).length = li.length) := Lib.hid (El.srt_length li)
      generalize El.srt li = S at *
      obtain ⟨m, hm⟩ : ∃ m, m = li.length - 1 := ⟨_, rfl⟩
      obtain ⟨t, ht⟩ : ∃ t, t = li.length * m := ⟨_, rfl⟩
      obtain ⟨hf, hhf⟩ : ∃ hf, hf = t / 2 := ⟨_, rfl⟩
      have htl : t ≤ 4096 := by rw [ht]; exact Nat.le_trans (Nat.mul_le_mul h64 (show m ≤ 64 by omega)) (by omega)
      have ewm : IntKind.i64.wrap ((li.length : Int) - 1) = (m : Int) := by rw [IntKind.wrap_i64]; omega
      have ewp : (li.length : Int) * (m : Int) = (t : Int) := by rw [ht]; exact (Int.natCast_mul _ _).symm
      have ewt : IntKind.i64.wrap (t : Int) = (t : Int) := by rw [IntKind.wrap_i64]; omega
      have ewh : (t : Int) / 2 = (hf : Int) := by omega
      have ewh2 : IntKind.i64.wrap (hf : Int) = (hf : Int) := by rw [IntKind.wrap_i64]; omega
      rw [← hm] at q4 q5
      rw [← ht] at q5
      have g1 : decide ((m : Int) ≤ (n : Int)) = true := decide_eq_true (by omega)
      have g2 : decide ((n : Int) ≤ (hf : Int)) = true := decide_eq_true (by omega)
      have g3 : decide ((1 : Int) ≤ (ro : Int)) = true := decide_eq_true (by omega)
      have g4 : decide ((ro : Int) ≤ (li.length : Int)) = true := decide_eq_true (by omega)
      have g1z : (m : Int) ≤ (n : Int) := by omega
      have g2z : (n : Int) ≤ (hf : Int) := by omega
      have g3z : (1 : Int) ≤ (ro : Int) := by omega
      have g4z : (ro : Int) ≤ (li.length : Int) := by omega
      have hkz : (k : Int) < (li.length : Int) := by omega
      clear hat hx hks hr0 hr1 hk hm ht hhf q4 q5 m2 m3 hok h0 htl HCODE HCODE0
      go_wp2_with fail
      refine (HVO.out _ _ _ _ (RL.out.flat hcRL)).mono ?_
      rintro e w_6 ⟨gRO, cRO, rfl, hcRO, hg, hrow, hb⟩
      have hyRO := Lib.hid hrow
      rw [HSL.out]
      have RLz := Lib.hid (RL.out.below hb RL.out.1)
      clear RL
      have RL := RLz
      clear RLz
      have BN := Lib.hid (B0.out.trans (hb.mono B0.out.size))
      clear B0
      have B0 := BN
      clear BN
      have RO := hyRO
      clear hyRO hrow hb hg HVO
      obtain ⟨hcx, _⟩ := RO.out.2 _ _ (ints_at HAT.out)
      clear RO hcRO
      go_wp2_with fail
      refine (HK.out _ _ _ (RL.out.flat hcRL)).mono ?_
      rintro e w_7 ⟨rfl, hb⟩
      have RLz := Lib.hid (RL.out.below hb RL.out.1)
      clear RL
      have RL := RLz
      clear RLz
      have BN := Lib.hid (B0.out.trans (hb.mono B0.out.size))
      clear B0
      have B0 := BN
      clear BN
      clear hb
      clear HK hcx hke hkt
      go_wp2_with fail
      refine (HQ.out _ _ _ _ (RL.out.flat hcRL)).mono ?_
      rintro e w_8 ⟨rfl, hb⟩
      have RLz := Lib.hid (RL.out.below hb RL.out.1)
      clear RL
      have RL := RLz
      clear RLz
      have BN := Lib.hid (B0.out.trans (hb.mono B0.out.size))
      clear B0
      have B0 := BN
      clear BN
      clear hb
      clear HQ
      go_wp2_with fail
      refine (HM.out _ _ _ _ (RL.out.flat hcRL)).mono ?_
      rintro e w_9 ⟨rfl, hb⟩
      have RLz := Lib.hid (RL.out.below hb RL.out.1)
      clear RL
      have RL := RLz
      clear RLz
      have BN := Lib.hid (B0.out.trans (hb.mono B0.out.size))
      clear B0
      have B0 := BN
      clear BN
      clear hb
      clear HM
      go_wp2_with fail
      go_ret
      exact ⟨rfl, B0.out⟩

set_option maxRecDepth 100000 in
theorem lifted (os : Os) (started : os.Started) (H : Type) (enc : TypeId × Value → H) :
    ReturnsInHanded {} Try.checked os 6 .any (Rows.fnSelectSpec.pre6 enc Try.prog Try.f6 Rows.fnSelectRow.domain false) (Rows.fnSelectSpec.post enc Try.prog Try.f6 false true false false) := by
  refine returnsInHanded_of_change (C := Try.checked) own started (by kernel_rfl) Try.func6
    (ChangeSpec.witness6 (enc := enc) (C := Try.checked) false ⟨#[], #[.slice none 0 0], []⟩ 8 (by kernel_rfl) (by kernel_rfl) (by kernel_rfl) (by kernel_rfl)) ?_
  intro W base args ds gs before hval0 hW hcnd _
  have hval : ∀ (j : Nat) t v, Try.f6.params[j]? = some t → args[j]? = some v → Value.okWide Try.prog W .any base t v := hval0
  have hW' := hW
  obtain ⟨p, q, hA0, hV, rfl, hfz, hnd⟩ := hW
  have hA : DataW.TrodAll enc Try.prog W 0 (fun _ => true) true Try.f6.params.toList args.toList ds p := hA0
  rw [Try.params6] at hA hval
  obtain ⟨v0, vs0, d0, ds0, p0, q0, hargs, rfl, rfl, h0, r0⟩ := trodAll_cons hA
  obtain ⟨rfl, rfl, rfl⟩ := trodAll_nil r0
  obtain rfl : args = #[v0] := by cases args; simp_all
  obtain ⟨rfl, rfl⟩ := trodVars_none hV
  obtain ⟨a0, len0, cap0, rfl⟩ := okWide_slice Try.underlying22 (hval 0 22 v0 rfl rfl)
  have k0 := h0
  have lt0 : ∀ x ∈ p0, x.block < W.heap.size := by obtain ⟨m, hm⟩ := k0; exact DataW.trod_lt m _ _ _ hm
  obtain ⟨z0, w0⟩ : ∃ zs, IsRow .u8 W a0 len0 cap0 zs := by
    obtain ⟨fuel, hf⟩ := h0
    rcases open_ints Try.underlying22 Try.underlying5 (by kernel_rfl) hf with ⟨hcs, _⟩ | ⟨x, l, c, zs, hcs, _, hl, hm, hz, _, hcell, hwz⟩
    · simp [Value.cells] at hcs
      obtain ⟨rfl, rfl, rfl⟩ := hcs
      exact ⟨[], .inl ⟨rfl, rfl, rfl, rfl⟩⟩
    · simp [Value.cells] at hcs
      obtain ⟨rfl, rfl, rfl⟩ := hcs
      exact ⟨zs, .inr ⟨_, rfl, hl, hm, by simpa using hz, hcell, hwz⟩⟩
  clear hA0 hval0
  refine (walk a0 len0 cap0 z0 W w0).mono fun e W' ⟨he, bel⟩ => ?_
  subst he
  exact ⟨_, rfl, _, _, _, [], _, [], hW', trodAll_mk1 (shut_bool Try.underlying4 _), (trodAll_cons_mk (Below.trod laidOut (by kernel_rfl) (of_decide_eq_true (by kernel_rfl)) k0 bel lt0) trodAll_mk0), rfl, bel.frame _, fun h => by cases h⟩

theorem closed : joinedFacts Try.prog 6 Try.f6 Rows.fnSelectSpec Rows.fnSelectRow = true := by
  unfold joinedFacts
  rw [head_enter, head_final, head_make]
  kernel_rfl

theorem over : Rows.fnSelectRow.holds Try.pinned (OpenSpec.ofChange Rows.fnSelectSpec) :=
  OpenClaim.holds_of_wide 6 Try.f6 rfl rfl rfl rfl rfl rfl rfl ⟨rfl, rfl, rfl, rfl, rfl⟩ rfl rfl rfl rfl rfl (by kernel_rfl) Try.func6 closed
    (of_decide_eq_true (by kernel_rfl)) (by unfold Func.isWrapper; first | (rw [if_pos (by decide +kernel)]; kernel_rfl) | (rw [if_neg (by decide +kernel)]; exact ⟨rfl, rfl⟩))
    (fun os started H enc _ => lifted os started H enc)

theorem proved : Rows.FnSelectSaid := over
#print axioms proved
end Go.Proofs.Ytagibgphegoagaa.fnSelect
