/- FnDescents returns true at every input. No condition. -/
import Derived.Test.YtjlldjekjnlcaaaRows
import Derived.WalkKit
import Derived.ProofKit
import Derived.OpenShut
import Derived.ShutString
import Derived.ChangeOld
import Derived.Below
import Derived.SliceStrings
import Derived.Test.YtjlldjekjnlcaaaHead
import Derived.Test.YtjlldjekjnlcaaaRSumN
import Derived.Test.YtjlldjekjnlcaaaVLst
import Derived.Test.YtjlldjekjnlcaaaIDs
import Derived.Test.YtjlldjekjnlcaaaICnt
import Derived.Test.YtjlldjekjnlcaaaCode
namespace Go.Proofs.Ytjlldjekjnlcaaa.fnDescents
open Go.ChangeShapes Go.WideShapes Go.ChangeAt Go.RowKit
open Go.ChangeMaps (open_string shut_string)
set_option linter.unusedVariables false

theorem own : ownKnob Try.prog.godebug = none := by kernel_rfl
theorem laidOut : laidOutB Try.prog = true := by kernel_rfl

def IsRow (k : IntKind) (w : World) (a : Option Addr) (len cap : Nat) (zs : List Int) : Prop :=
  (a = none ∧ len = 0 ∧ cap = 0 ∧ zs = []) ∨
  ∃ x, a = some x ∧ len ≤ cap ∧ cap ≤ maxLen ∧ zs.length = cap ∧ (∀ i, i < zs.length → w.cell? (x.add i) = some (.int k (zs.getD i 0))) ∧ ∀ n ∈ zs, (Lit.int k n).wf = true

theorem code_of {w : World} {a : Option Addr} {len cap : Nat} {zs : List Int} (h : IsRow .u8 w a len cap zs) : Code0 w a len := by
  intro k hk
  rcases h with ⟨_, rfl, _⟩ | ⟨x, rfl, hlc, _, hz, hc, hw⟩
  · omega
  · have hkz : k < zs.length := by omega
    have hd : zs.getD k 0 = zs[k] := by simp [List.getD, hkz]
    have hm := hw zs[k] (List.getElem_mem hkz)
    have hcell := hc k hkz
    rw [hd] at hcell
    have hlt := World.block_lt_of_cell? w _ hcell
    have hbk := Go.ChangeShapes.block_add x k
    have hr := bounds_u8 hm
    exact ⟨x, zs[k], rfl, by omega, hcell, hr.1, hr.2⟩

theorem vbig_no (a : Option Addr) (len cap : Nat) (w : World) (h : len ≤ 65536) : Calls Try.prog 16 #[.slice a len cap] w fun e w' => e = .returned (.bool false) ∧ w' = w := by
  go_enter Try.func16, Try.ntmps16
  have hq : decide ((65536 : Int) < (len : Int)) = false := decide_eq_false (by omega)
  go_wp2
  go_ret
  exact ⟨by rw [← hq]; rfl, rfl⟩

set_option maxRecDepth 100000 in
set_option maxHeartbeats 40000000 in
theorem walk (a : Option Addr) (len cap : Nat) (z : List Int) (w : World) (w0 : IsRow .u8 w a len cap z) :
    Calls Try.prog 6 #[.slice a len cap] w fun e w' => e = .returned (.bool true) ∧ Below w.heap.size w w' := by
  have hlen : len ≤ maxLen := by
    rcases w0 with ⟨_, rfl, _⟩ | ⟨x, _, h1, h2, _⟩ <;> omega
  unfold maxLen at hlen
  have HCODE := Lib.hid (code_of w0)
  clear w0
  by_cases hbig : 65536 < len
  · clear HCODE
    go_enter Try.func6, Try.ntmps6
    go_wp2
    go_ret
    exact ⟨rfl, Below.refl _ _⟩
  · go_enter Try.func6, Try.ntmps6
    go_wp2_with fail
    refine (vbig_no a len cap _ (by omega)).mono ?_
    rintro e w0 ⟨rfl, rfl⟩
    clear hlen hbig
    have B0 : Hid (Below w0.heap.size w0 w0) := Lib.hid (Below.refl _ _)
    have HCODE0 := HCODE
    go_wp2_with fail
    refine (vList_any a len cap _ HCODE.out).mono ?_
    rintro e w_1 ⟨gRL, cRL, li, hok, rfl, hcRL, hrow, hb⟩
    have RL := Lib.hid hrow
    have hnRL : li.length ≤ 1048576 := by have := hok.1; omega
    have BN := Lib.hid (B0.out.trans (hb.mono B0.out.size))
    clear B0
    have B0 := BN
    clear BN
    clear hrow hb HCODE
    clear HCODE0
    obtain ⟨D, hD⟩ : ∃ D, D = Iv.ds li 0 := ⟨_, rfl⟩
    obtain ⟨Z, hZ⟩ : ∃ Z, Z = P.nats D := ⟨_, rfl⟩
    have hZl : Z.length = D.length := by rw [hZ, P.nats_length]
    have hDS : Iv.dsF li = (Z, true) := by rw [Iv.dsF_yes hok, hZ, hD]; rfl
    have HDI := Lib.hid (fun v W (h : FlatAt W v li.length (ints li)) => by have := (implDs_any v li W h hnRL).mono fun _ _ q => q.flat; rw [hDS] at this; exact this)
    have HMJ := Lib.hid (fun v W (h : FlatAt W v li.length (ints li)) => by have := implMj_any v li W h hnRL; rw [Iv.mjF_yes hok, ← hD] at this; exact this)
    have HCI := Lib.hid (fun v W (h : FlatAt W v li.length (ints li)) => by have := implCi_any v li W h hnRL; rw [Iv.ciF_yes hok] at this; exact this)
    have h64 := hok.1
    have hd64 : D.length ≤ 64 := by have := Iv.ds_len li 0; rw [← hD] at this; omega
    have hmem := Iv.ds_mem li 0
    rw [← hD] at hmem
    have hsm : ∀ x ∈ D, x ≤ 64 := fun x hx => by have := hmem.1 x hx; omega
    have HRS := Lib.hid (fun v W (h : FlatAt W v Z.length (ints Z)) => rSumN_any D v W (by rw [← hZ]; exact h) hd64 hsm)
    have HZI : Hid (∀ k, k < Z.length → ∃ d : Nat, Z[k]? = some (d : Int) ∧ d + 1 < li.length ∧ li.getD (d + 1) 0 < li.getD d 0) := Lib.hid (fun k hk => by
      have hk2 : k < D.length := by omega
      refine ⟨D[k], by rw [hZ]; unfold P.nats; rw [List.getElem?_map, List.getElem?_eq_getElem hk2]; rfl, ?_⟩
      have := hmem.1 D[k] (List.getElem_mem hk2)
      exact ⟨by omega, by simpa using this.2.2⟩)
    have HZP : Hid (∀ k (d e : Nat), Z[k]? = some (d : Int) → Z[k + 1]? = some (e : Int) → d < e) := Lib.hid (fun k d e h1 h2 => by
      rw [hZ] at h1 h2
      unfold P.nats at h1 h2
      rw [List.getElem?_map] at h1 h2
      obtain ⟨x, hx, hx2⟩ := Option.map_eq_some_iff.1 h1
      obtain ⟨y, hy, hy2⟩ := Option.map_eq_some_iff.1 h2
      obtain ⟨ha, rfl⟩ := List.getElem?_eq_some_iff.1 hx
      obtain ⟨hb, rfl⟩ := List.getElem?_eq_some_iff.1 hy
      have := List.pairwise_iff_getElem.1 hmem.2 k (k + 1) ha hb (by omega)
      omega)
    obtain ⟨m, hm⟩ : ∃ m, m = Iv.mj D := ⟨_, rfl⟩
    obtain ⟨n, hn⟩ : ∃ n, n = P.invs li := ⟨_, rfl⟩
    obtain ⟨s, hs⟩ : ∃ s, s = D.sum := ⟨_, rfl⟩
    rw [← hm] at HMJ
    rw [← hn] at HCI
    rw [← hs] at HRS
    have hms : m = s + Z.length := by
      have h1 := Iv.mj_sum D
      have h2 : ∀ E : List Nat, (E.map fun j : Nat => (j : Int)).sum = ((E.sum : Nat) : Int) := fun E => by
        induction E with
        | nil => rfl
        | cons x E ih => rw [List.map_cons, List.sum_cons, List.sum_cons, ih]; omega
      rw [h2] at h1
      omega
    have hzn : Z.length = 0 ↔ n = 0 := by
      rw [hZl, hn, ← Iv.ds_none li 0, ← hD]; exact List.length_eq_zero_iff
    have hzl : Z.length ≤ n := by rw [hZl, hn, hD]; exact Iv.ds_invs li 0
    have hm4 : m ≤ 4096 := by rw [hm, hD]; exact Iv.mj_ds hok
    have hn4 : n ≤ 4096 := by rw [hn]; have := Iv.invs_le li; have : li.length * li.length ≤ 64 * 64 := Nat.mul_le_mul h64 h64; omega
    have hz64 : Z.length ≤ 64 := by omega
    have HMS := Lib.hid hms
    have HZN := Lib.hid hzn
    clear hms hzn hm hn hs hmem hsm hZl hDS hZ hD hd64
    go_wp2_with fail
    refine (HDI.out _ _ (RL.out.flat hcRL)).mono ?_
    rintro e w_2 ⟨aZ, cZ, rfl, hf, hb⟩
    simp only at hf
    have hyZ := Lib.hid hf
    have RLz := Lib.hid (RL.out.below hb RL.out.1)
    clear RL
    have RL := RLz
    clear RLz
    have BN := Lib.hid (B0.out.trans (hb.mono B0.out.size))
    clear B0
    have B0 := BN
    clear BN
    have RZ := hyZ
    clear hyZ hf hb HDI
    go_wp2_with fail
    refine (HMJ.out _ _ (RL.out.flat hcRL)).mono ?_
    rintro e w_3 ⟨rfl, hb⟩
    have RZz := Lib.hid (RZ.out.below hb)
    clear RZ
    have RZ := RZz
    clear RZz
    have RLz := Lib.hid (RL.out.below hb RL.out.1)
    clear RL
    have RL := RLz
    clear RLz
    have BN := Lib.hid (B0.out.trans (hb.mono B0.out.size))
    clear B0
    have B0 := BN
    clear BN
    clear hb
    clear HMJ
    go_wp2_with fail
    refine (HCI.out _ _ (RL.out.flat hcRL)).mono ?_
    rintro e w_4 ⟨rfl, hb⟩
    have RZz := Lib.hid (RZ.out.below hb)
    clear RZ
    have RZ := RZz
    clear RZz
    have RLz := Lib.hid (RL.out.below hb RL.out.1)
    clear RL
    have RL := RLz
    clear RLz
    have BN := Lib.hid (B0.out.trans (hb.mono B0.out.size))
    clear B0
    have B0 := BN
    clear BN
    clear hb
    clear HCI
    have hmz : (m : Int) = (s : Int) + (Z.length : Int) := by have := HMS.out; omega
    have hs4 : s ≤ 4096 := by have := HMS.out; omega
    have hlz : ¬ (n : Int) < (Z.length : Int) := by omega
    have hld : decide (n < Z.length) = false := decide_eq_false (by omega)
    have HRQ := Lib.hid (HRS.out _ _ RZ.out)
    clear HRS
    by_cases hz : Z.length = 0
    · have hn0 : n = 0 := HZN.out.1 hz
      obtain rfl : Z = [] := List.eq_nil_of_length_eq_zero hz
      subst hn0
      simp only [List.length_nil] at HRQ hmz ⊢
      clear HZI HZP hz hlz hld hzl hz64
      go_wp2_with fail
      refine (HRQ.out).mono ?_
      rintro e w_5 ⟨rfl, rfl⟩
      go_wp2_with fail
      go_loopw [10] (fun iv wr => iv = .int .i64 0 ∧ wr = w_5) (fun _ _ => 0)
      case atStart => exact ⟨rfl, rfl⟩
      case round =>
        obtain ⟨rfl, rfl⟩ := hrel
        go_wp2_with fail
        go_ret
        exact ⟨rfl, B0.out⟩
    · have hn0 : ¬ n = 0 := fun e => hz (HZN.out.2 e)
      have hzi : ¬ (Z.length : Int) = 0 := by omega
      have hni : ¬ (n : Int) = 0 := by omega
      have hzd : decide (Z.length = 0) = false := decide_eq_false hz
      have hnd : decide (n = 0) = false := decide_eq_false hn0
      have hzb : ((Z.length : Int) == 0) = false := by simpa using hzi
      have hnb : ((n : Int) == 0) = false := by simpa using hni
      have hws : IntKind.i64.wrap ((s : Int) + (Z.length : Int)) = (s : Int) + (Z.length : Int) := by rw [IntKind.wrap_i64]; omega
      go_wp2_with fail
      refine (HRQ.out).mono ?_
      rintro e w_5 ⟨rfl, rfl⟩
      clear HRQ
      go_wp2_with fail
      clear hmz hws hzd hnd hzb hnb hld hlz hzi hni hz hn0
      generalize decide (n < Z.length) = bz1
      generalize decide ((n : Int) < (Z.length : Int)) = bz2
      generalize decide (Z.length = 0) = bz3
      generalize decide (n = 0) = bz4
      generalize ((Z.length : Int) == 0) = bz5
      generalize ((n : Int) == 0) = bz6
      go_loopw [10] (fun iv wr => ∃ (k t : Nat), k ≤ Z.length ∧ iv = .int .i64 (k : Int) ∧ wr = w_5.drewN t) (fun iv _ => Z.length - (intOf iv).toNat)
      case atStart => exact ⟨0, 0, Nat.zero_le _, rfl, rfl⟩
      case round =>
        obtain ⟨k, t, hk, rfl, rfl⟩ := hrel
        by_cases hlt : k < Z.length
        · obtain ⟨d, hd1, hd2, hd3⟩ := HZI.out k hlt
          obtain ⟨x, hx⟩ : ∃ x, x = li.getD d 0 := ⟨_, rfl⟩
          obtain ⟨y, hy⟩ : ∃ y, y = li.getD (d + 1) 0 := ⟨_, rfl⟩
          have hcx := (RL.out.2 _ _ (ints_at (P.at_getD (show d < li.length by omega)))).1
          have hcy := (RL.out.2 _ _ (ints_at (P.at_getD hd2))).1
          rw [← hx] at hcx hd3
          rw [← hy] at hcy hd3
          have hrl := RL.out.1
          obtain ⟨a0, c0, he0, _, hZe⟩ := RZ.out
          simp at he0
          obtain ⟨rfl, rfl⟩ := he0
          obtain ⟨bz, oz, rfl, hbz, hcz⟩ := hZe k _ (ints_at hd1)
          have hxd : decide (x ≤ y) = false := decide_eq_false (by omega)
          have hdz : decide ((d : Int) < 0) = false := decide_eq_false (by omega)
          have hdl : decide ((li.length : Int) ≤ (d : Int) + 1) = false := decide_eq_false (by omega)
          have hdl2 : ¬ (li.length : Int) ≤ (d : Int) + 1 := by omega
          have hdn : ¬ (d : Int) < 0 := by omega
          have hd64 : d ≤ 64 := by omega
          have hw1 : IntKind.i64.wrap ((d : Int) + 1) = ((d + 1 : Nat) : Int) := by rw [IntKind.wrap_i64]; omega
          obtain ⟨d1, hd1e⟩ : ∃ d1, d1 = d + 1 := ⟨_, rfl⟩
          rw [← hd1e] at hw1 hcy
          have hd1l : d1 < li.length := by omega
          have hd1i : (d1 : Int) < li.length := by omega
          have hdl3 : decide (li.length ≤ d1) = false := decide_eq_false (by omega)
          have hdl4 : decide ((li.length : Int) ≤ (d1 : Int)) = false := decide_eq_false (by omega)
          have hdil : d < li.length := by omega
          have hkz : (k : Int) < Z.length := by omega
          have HZK := Lib.hid hd1
          clear hx hy hd2 hd3 hd1e hd1
          rcases Nat.eq_zero_or_pos k with hk0 | hk0
          · have hkd : decide ((0 : Int) < (k : Int)) = false := decide_eq_false (by omega)
            have hkd2 : decide (0 < k) = false := decide_eq_false (by omega)
            have hkn : ¬ (0 : Int) < (k : Int) := by omega
            have HK0 := Lib.hid hk0
            clear hk0
            go_upto_region 12 with fail
            try dsimp only [List.append]
            go_quiet (fail)
            go_wp2_with fail
            go_roundw
            case rel => exact ⟨k + 1, t + nq, by omega, by go_num, by trivial⟩
            case measure => simp [intOf]; omega
          · obtain ⟨j, rfl⟩ : ∃ j, k = j + 1 := ⟨k - 1, by omega⟩
            obtain ⟨e0, he1, _, _⟩ := HZI.out j (by omega)
            have hde := HZP.out j e0 d he1 HZK.out
            obtain ⟨bz', oz', hbe, _, hcj⟩ := hZe j _ (ints_at he1)
            simp at hbe
            obtain ⟨rfl, rfl⟩ := hbe
            obtain ⟨q, hq⟩ : ∃ q, q = j + 1 := ⟨_, rfl⟩
            have hqj : (q : Int) - 1 = (j : Int) := by omega
            rw [← hq] at hcz hkz hk0 hlt ⊢
            have hwq : IntKind.i64.wrap ((q : Int) - 1) = (j : Int) := by rw [IntKind.wrap_i64]; omega
            have hq0 : (0 : Int) < (q : Int) := by omega
            have hqd : decide ((0 : Int) < (q : Int)) = true := decide_eq_true hq0
            have hqd2 : decide (0 < q) = true := decide_eq_true hk0
            have hjz : j < Z.length := by omega
            have hjzi : (j : Int) < Z.length := by omega
            have hded : decide ((d : Int) ≤ (e0 : Int)) = false := decide_eq_false (by omega)
            have hded2 : decide (d ≤ e0) = false := decide_eq_false (by omega)
            have HQ := Lib.hid hq
            clear hq hde he1 hqj
            go_upto_region 12 with fail
            try dsimp only [List.append]
            go_quiet (fail)
            go_wp2_with fail
            go_roundw
            case rel => exact ⟨q + 1, t + nq, by omega, by go_num, by trivial⟩
            case measure => simp [intOf]; omega
        · obtain rfl : k = Z.length := by omega
          go_wp2_with fail
          go_ret
          exact ⟨rfl, B0.out.trans ⟨rfl, rfl, rfl, Nat.le_refl _, fun _ _ => rfl⟩⟩

set_option maxRecDepth 100000 in
theorem lifted (os : Os) (started : os.Started) (H : Type) (enc : TypeId × Value → H) :
    ReturnsInHanded {} Try.checked os 6 .any (Rows.fnDescentsSpec.pre6 enc Try.prog Try.f6 Rows.fnDescentsRow.domain false) (Rows.fnDescentsSpec.post enc Try.prog Try.f6 false true false false) := by
  refine returnsInHanded_of_change (C := Try.checked) own started (by kernel_rfl) Try.func6
    (ChangeSpec.witness6 (enc := enc) (C := Try.checked) false ⟨#[], #[.slice none 0 0], []⟩ 8 (by kernel_rfl) (by kernel_rfl) (by kernel_rfl) (by kernel_rfl)) ?_
  intro W base args ds gs before hval0 hW hcnd _
  have hval : ∀ (j : Nat) t v, Try.f6.params[j]? = some t → args[j]? = some v → Value.okWide Try.prog W .any base t v := hval0
  have hW' := hW
  obtain ⟨p, q, hA0, hV, rfl, hfz, hnd⟩ := hW
  have hA : DataW.TrodAll enc Try.prog W 0 (fun _ => true) true Try.f6.params.toList args.toList ds p := hA0
  rw [Try.params6] at hA hval
  obtain ⟨v0, vs0, d0, ds0, p0, q0, hargs, rfl, rfl, h0, r0⟩ := trodAll_cons hA
  obtain ⟨rfl, rfl, rfl⟩ := trodAll_nil r0
  obtain rfl : args = #[v0] := by cases args; simp_all
  obtain ⟨rfl, rfl⟩ := trodVars_none hV
  obtain ⟨a0, len0, cap0, rfl⟩ := okWide_slice Try.underlying22 (hval 0 22 v0 rfl rfl)
  have k0 := h0
  have lt0 : ∀ x ∈ p0, x.block < W.heap.size := by obtain ⟨m, hm⟩ := k0; exact DataW.trod_lt m _ _ _ hm
  obtain ⟨z0, w0⟩ : ∃ zs, IsRow .u8 W a0 len0 cap0 zs := by
    obtain ⟨fuel, hf⟩ := h0
    rcases open_ints Try.underlying22 Try.underlying5 (by kernel_rfl) hf with ⟨hcs, _⟩ | ⟨x, l, c, zs, hcs, _, hl, hm, hz, _, hcell, hwz⟩
    · simp [Value.cells] at hcs
      obtain ⟨rfl, rfl, rfl⟩ := hcs
      exact ⟨[], .inl ⟨rfl, rfl, rfl, rfl⟩⟩
    · simp [Value.cells] at hcs
      obtain ⟨rfl, rfl, rfl⟩ := hcs
      exact ⟨zs, .inr ⟨_, rfl, hl, hm, by simpa using hz, hcell, hwz⟩⟩
  clear hA0 hval0
  refine (walk a0 len0 cap0 z0 W w0).mono fun e W' ⟨he, bel⟩ => ?_
  subst he
  exact ⟨_, rfl, _, _, _, [], _, [], hW', trodAll_mk1 (shut_bool Try.underlying4 _), (trodAll_cons_mk (Below.trod laidOut (by kernel_rfl) (of_decide_eq_true (by kernel_rfl)) k0 bel lt0) trodAll_mk0), rfl, bel.frame _, fun h => by cases h⟩

theorem closed : joinedFacts Try.prog 6 Try.f6 Rows.fnDescentsSpec Rows.fnDescentsRow = true := by
  unfold joinedFacts
  rw [head_enter, head_final, head_make]
  kernel_rfl

theorem over : Rows.fnDescentsRow.holds Try.pinned (OpenSpec.ofChange Rows.fnDescentsSpec) :=
  OpenClaim.holds_of_wide 6 Try.f6 rfl rfl rfl rfl rfl rfl rfl ⟨rfl, rfl, rfl, rfl, rfl⟩ rfl rfl rfl rfl rfl (by kernel_rfl) Try.func6 closed
    (of_decide_eq_true (by kernel_rfl)) (by unfold Func.isWrapper; first | (rw [if_pos (by decide +kernel)]; kernel_rfl) | (rw [if_neg (by decide +kernel)]; exact ⟨rfl, rfl⟩))
    (fun os started H enc _ => lifted os started H enc)

theorem proved : Rows.FnDescentsSaid := over
#print axioms proved
end Go.Proofs.Ytjlldjekjnlcaaa.fnDescents
