/- FnRunMerges returns true at every input. No condition. -/
import Derived.Test.YtnjabdlhgmaeiaaRows
import Derived.WalkKit
import Derived.ProofKit
import Derived.OpenShut
import Derived.ShutString
import Derived.ChangeOld
import Derived.Below
import Derived.SliceStrings
import Derived.Test.YtnjabdlhgmaeiaaDrawRm
import Derived.Test.YtnjabdlhgmaeiaaStkD
import Derived.Test.YtnjabdlhgmaeiaaRetN
import Derived.Test.YtnjabdlhgmaeiaaVInts
import Derived.Test.YtnjabdlhgmaeiaaCode
namespace Go.Proofs.Ytnjabdlhgmaeiaa.fnRunMerges
open Go.ChangeShapes Go.WideShapes Go.ChangeAt Go.RowKit
open Go.ChangeMaps (open_string shut_string)
set_option linter.unusedVariables false

theorem own : ownKnob Try.prog.godebug = none := by kernel_rfl
theorem laidOut : laidOutB Try.prog = true := by kernel_rfl

def IsRow (k : IntKind) (w : World) (a : Option Addr) (len cap : Nat) (zs : List Int) : Prop :=
  (a = none ∧ len = 0 ∧ cap = 0 ∧ zs = []) ∨
  ∃ x, a = some x ∧ len ≤ cap ∧ cap ≤ maxLen ∧ zs.length = cap ∧ (∀ i, i < zs.length → w.cell? (x.add i) = some (.int k (zs.getD i 0))) ∧ ∀ n ∈ zs, (Lit.int k n).wf = true

theorem code_of {w : World} {a : Option Addr} {len cap : Nat} {zs : List Int} (h : IsRow .u8 w a len cap zs) : Code0 w a len := by
  intro k hk
  rcases h with ⟨_, rfl, _⟩ | ⟨x, rfl, hlc, _, hz, hc, hw⟩
  · omega
  · have hkz : k < zs.length := by omega
    have hd : zs.getD k 0 = zs[k] := by simp [List.getD, hkz]
    have hm := hw zs[k] (List.getElem_mem hkz)
    have hcell := hc k hkz
    rw [hd] at hcell
    have hlt := World.block_lt_of_cell? w _ hcell
    have hbk := Go.ChangeShapes.block_add x k
    have hr := bounds_u8 hm
    exact ⟨x, zs[k], rfl, by omega, hcell, hr.1, hr.2⟩

theorem vbig_no (a : Option Addr) (len cap : Nat) (w : World) (h : len ≤ 65536) : Calls Try.prog 16 #[.slice a len cap] w fun e w' => e = .returned (.bool false) ∧ w' = w := by
  go_enter Try.func16, Try.ntmps16
  have hq : decide ((65536 : Int) < (len : Int)) = false := decide_eq_false (by omega)
  go_wp2
  go_ret
  exact ⟨by rw [← hq]; rfl, rfl⟩

theorem ownN_flat {base : Nat} {w : World} {v : Value} {L : List Int} (h : OwnN base w v L) : ∃ a c, v = .slice a L.length c ∧ FlatAt w (.slice a L.length c) L.length (ints L) := by
  rcases h.2 with ⟨e, h0⟩ | ⟨g, c, _, e, _⟩
  · have hL : L = [] := List.length_eq_zero_iff.1 h0
    subst hL
    exact ⟨_, _, e, flat0 _ _ _⟩
  · subst e
    obtain ⟨_, h2, h3⟩ := OwnN.row h
    exact ⟨_, _, rfl, h3.flat h2⟩

open Sk in
theorem dep_le : ∀ (n x : Nat), x ≤ n → dep x ≤ x := by
  intro n
  induction n with
  | zero => intro x h; rw [dep_stop (by omega)]; omega
  | succ n ih =>
    intro x h
    by_cases h1 : x ≤ 1
    · rw [dep_stop h1]; omega
    · rw [dep_go (by omega)]
      have := ih (x * 2 / 3) (by omega)
      omega
theorem tot_take {l : List Int} {k : Nat} {x : Int} (h : l[k]? = some x) : Sk.tot (l.take (k + 1)) = Sk.tot (l.take k) + x := by
  rw [List.take_add_one, h, Sk.tot_append]
  simp [Sk.tot]
theorem tot_bound {l : List Int} (h : ∀ x ∈ l, 1 ≤ x ∧ x ≤ 100000) : 0 ≤ Sk.tot l ∧ Sk.tot l ≤ 100000 * l.length := by
  induction l with
  | nil => simp [Sk.tot]
  | cons x l ih =>
    have := ih (fun y hy => h y (by simp [hy]))
    have := h x (by simp)
    rw [Sk.tot, List.length_cons]
    omega

set_option maxRecDepth 100000 in
set_option maxHeartbeats 40000000 in
theorem walk (a : Option Addr) (len cap : Nat) (z : List Int) (w : World) (w0 : IsRow .u8 w a len cap z) :
    Calls Try.prog 7 #[.slice a len cap] w fun e w' => e = .returned (.bool true) ∧ Below w.heap.size w w' := by
  have hlen : len ≤ maxLen := by
    rcases w0 with ⟨_, rfl, _⟩ | ⟨x, _, h1, h2, _⟩ <;> omega
  unfold maxLen at hlen
  have HCODE := Lib.hid (code_of w0)
  clear w0
  by_cases hbig : 65536 < len
  · clear HCODE
    go_enter Try.func7, Try.ntmps7
    go_wp2
    go_ret
    exact ⟨rfl, Below.refl _ _⟩
  · go_enter Try.func7, Try.ntmps7
    go_wp2_with fail
    refine (vbig_no a len cap _ (by omega)).mono ?_
    rintro e w0 ⟨rfl, rfl⟩
    clear hlen hbig
    go_wp2_with fail
    refine (drawRm_any a len cap _ HCODE.out).mono ?_
    rintro e w1 ⟨g1, c1, l, hl, rfl, hc1, hg1, hrow, hb⟩
    have HR1 := Lib.hid hrow
    have HB1 := Lib.hid hb
    have hg1s := hrow.1
    obtain ⟨R, hR⟩ : ∃ R, R = Sk.rmAll l := ⟨_, rfl⟩
    have HI : Hid (∀ W, CellRow W g1 (ints l) → Calls Try.prog 35 #[.slice (some ⟨g1, 0, none⟩) l.length c1] W (RetN1 R W)) := Lib.hid (fun W h => by rw [hR]; exact implRm_any g1 0 c1 l W (h.flat hc1) (by omega))
    have HS : Hid (∀ W, CellRow W g1 (ints l) → Calls Try.prog 36 #[.slice (some ⟨g1, 0, none⟩) l.length c1] W (RetI1 R W)) := Lib.hid (fun W h => by rw [hR]; exact specRm_any g1 0 c1 l W (h.flat hc1) (by omega))
    have hR1 : R.1.length ≤ 1048576 := by rw [hR]; exact Sk.rmAll_len l
    have HYES : Hid (Sk.OkC l → R = ((Sk.planF l).1, (((Sk.planF l).2 : Nat) : Int), true)) := Lib.hid (fun h => by rw [hR]; exact Sk.rmAll_yes h)
    have HNO : Hid (¬ Sk.OkC l → R = ([], 0, false)) := Lib.hid (fun h => by rw [hR]; exact Sk.rmAll_no h)
    clear hrow hb HCODE hR
    go_wp2_with fail
    refine (HI.out _ HR1.out).mono ?_
    rintro e w2 ⟨v2, rfl, hown, hb⟩
    obtain ⟨a2, c2, rfl, hfl⟩ := ownN_flat hown
    have HF2 := Lib.hid hfl
    have HR2 := Lib.hid (HR1.out.below hb hg1s)
    have HB2 := Lib.hid (HB1.out.trans (hb.mono HB1.out.size))
    clear hown hfl hb HR1 HB1 HI
    go_wp2_with fail
    refine (HS.out _ HR2.out).mono ?_
    rintro e w3 ⟨g3, c3, rfl, hc3, hg3, hrow3, hb⟩
    have HV := Lib.hid (vInts_yes _ _ R.1 w3 (HF2.out.below hb) (hrow3.flat hc3) hR1)
    have HR3 := Lib.hid (HR2.out.below hb HR2.out.1)
    have HB3 := Lib.hid (HB2.out.trans (hb.mono HB2.out.size))
    clear hrow3 hb HF2 HR2 HB2 HS hg3
    by_cases hok : Sk.OkC l
    · have he := HYES.out hok
      obtain ⟨hm1, hm2, hm3⟩ := Sk.planF_most hok
      have HALL := Lib.hid hok.2
      have h40 := hok.1
      obtain ⟨M, hM⟩ : ∃ M, M = (Sk.planF l).2 := ⟨_, rfl⟩
      obtain ⟨K, hK⟩ : ∃ K, K = (Sk.planF l).1 := ⟨_, rfl⟩
      rw [← hM, ← hK] at he
      rw [← hM] at hm1 hm2
      rw [← hK] at hm3
      subst he
      obtain ⟨T, hT⟩ : ∃ T, T = (Sk.tot l).toNat := ⟨_, rfl⟩
      have htb := tot_bound hok.2
      have hTz : Sk.tot l = (T : Int) := by omega
      have hT4 : T ≤ 4000000 := by omega
      rw [← hT] at hm2
      have hdT := dep_le T T (Nat.le_refl _)
      have HDT := Lib.hid hdT
      have HM1 := Lib.hid hm1
      have HM2 := Lib.hid hm2
      have HM3 := Lib.hid hm3
      have HTZ := Lib.hid hTz
      have HT4 := Lib.hid hT4
      have HH40 := Lib.hid h40
      clear hm1 hm2 hm3 hM hK hok HYES HNO hT htb hTz hT4 hdT h40
      simp only at *
      go_wp2_with fail
      refine (HV.out).mono ?_
      rintro e w4 ⟨rfl, hb⟩
      have HR4 := Lib.hid (HR3.out.below hb HR3.out.1)
      have HB4 := Lib.hid (HB3.out.trans (hb.mono HB3.out.size))
      clear hb HR3 HB3 HV
      go_wp2_with fail
      go_loopw [10, 11] (fun tv iv wr => ∃ k : Nat, k ≤ l.length ∧ iv = .int .i64 (k : Int) ∧ tv = .int .i64 (Sk.tot (l.take k)) ∧ wr = w4) (fun _ iv _ => l.length - (intOf iv).toNat)
      case atStart => exact ⟨0, Nat.zero_le _, rfl, by simp [Sk.tot], rfl⟩
      case round =>
        obtain ⟨k, hk, rfl, rfl, rfl⟩ := hrel
        by_cases hlt : k < l.length
        · obtain ⟨x, hx⟩ : ∃ x, l[k]? = some x := ⟨_, List.getElem?_eq_getElem hlt⟩
          have hcell : wr.cell? ⟨g1, k, none⟩ = some (.int .i64 x) := (HR4.out.2 k _ (ints_at hx)).1
          have hkz : (k : Int) < (l.length : Int) := by omega
          have hx12 := HALL.out x (List.mem_of_getElem? hx)
          have htb := tot_bound (l := l.take k) (fun y hy => HALL.out y (List.mem_of_mem_take hy))
          have hh := HH40.out
          rw [List.length_take] at htb
          have HTK := Lib.hid (tot_take hx)
          obtain ⟨t, ht⟩ : ∃ t, Sk.tot (l.take k) = t := ⟨_, rfl⟩
          rw [ht] at htb HTK ⊢
          have ht0 : 0 ≤ t := htb.1
          have ht1 : t ≤ 4000000 := by omega
          clear hx htb ht hh
          go_wp2_with fail
          go_roundw
          case rel => exact ⟨k + 1, by omega, by go_num, by rw [HTK.out], by first | rfl | trivial⟩
          case measure => simp [intOf]; omega
        · obtain rfl : k = l.length := by omega
          have et : Sk.tot (l.take l.length) = (T : Int) := by rw [List.take_length]; exact HTZ.out
          rw [et]
          clear et
          go_wp2_with fail
          go_loopw [12, 13] (fun dv xv wq => ∃ d n : Nat, dv = .int .i64 ((3 + d : Nat) : Int) ∧ xv = .int .i64 (n : Int) ∧ d + Sk.dep n = Sk.dep T ∧ n ≤ 4000000 ∧ wq = wr) (fun _ xv _ => (intOf xv).toNat)
          case atStart => exact ⟨0, T, rfl, rfl, by omega, HT4.out, rfl⟩
          case round =>
            obtain ⟨d, n, rfl, rfl, hdn, hn4, rfl⟩ := hrel
            have hd4 : d ≤ 4000000 := by have := HDT.out; have := HT4.out; omega
            by_cases h1 : 1 < n
            · have h1z : (1 : Int) < (n : Int) := by omega
              have HDN : Hid (d + 1 + Sk.dep (n * 2 / 3) = Sk.dep T) := Lib.hid (by rw [← hdn, Sk.dep_go h1]; omega)
              obtain ⟨m, hm⟩ : ∃ m, n * 2 / 3 = m := ⟨_, rfl⟩
              rw [hm] at HDN
              have hq : Int.tdiv ((n : Int) * 2) 3 = (m : Int) := by rw [Int.tdiv_eq_ediv_of_nonneg (by omega)]; omega
              have hmn : m < n := by omega
              clear hdn hm
              go_wp2_with fail
              go_roundw
              case rel => exact ⟨d + 1, m, by go_num, by first | rfl | (rw [hq]) | go_num, HDN.out, by omega, by first | rfl | trivial⟩
              case measure => first | (simp [intOf]; omega) | (simp [intOf, hq]; omega)
            · have h1z : ¬ (1 : Int) < (n : Int) := by omega
              have hdd : d = Sk.dep T := by rw [← hdn, Sk.dep_stop (by omega)]; rfl
              have hm1 : M ≤ l.length := HM1.out
              have hm2 : M ≤ 3 + d := by have := HM2.out; omega
              have hm1z : (M : Int) ≤ (l.length : Int) := by omega
              have hm2z : (M : Int) ≤ ((3 + d : Nat) : Int) := by omega
              have hm3 := HM3.out
              clear hdd hdn
              by_cases hl0 : l.length = 0
              · have hK0 : K.length = 0 := by omega
                have hM0 : M = 0 := by omega
                obtain rfl : l = [] := List.length_eq_zero_iff.1 hl0
                obtain rfl : K = [] := List.length_eq_zero_iff.1 hK0
                subst hM0
                simp only [List.length_nil] at *
                go_wp2_with fail
                go_ret
                exact ⟨by first | rfl | simp, HB4.out⟩
              · obtain ⟨N, hN⟩ : ∃ N, K.length = N := ⟨_, rfl⟩
                have hlN : l.length = N + 1 := by omega
                have hl40 := HH40.out
                have hN40 : N ≤ 40 := by omega
                have hm1n : (M : Int) ≤ (N : Int) + 1 := by omega
                have hm2n : (M : Int) ≤ 3 + (d : Int) := by omega
                clear hm1z hm2z hm1 hm2 hl40
                rw [hN, hlN] at *
                have hk0 : (((N + 1 : Nat) : Int) == 0) = false := by simp; omega
                have hk1 : (((N + 1 : Nat) : Int) - 1) = (N : Int) := by omega
                clear hN hlN hl0 hm3
                go_wp2_with fail
                go_ret
                exact ⟨by first | rfl | (simp; done) | (simp; omega), HB4.out⟩
    · have he := HNO.out hok
      subst he
      clear hok HYES HNO
      simp only at *
      go_wp2_with fail
      refine (HV.out).mono ?_
      rintro e w4 ⟨rfl, hb⟩
      have HB4 := Lib.hid (HB3.out.trans (hb.mono HB3.out.size))
      clear hb HV
      go_wp2_with fail
      go_ret
      exact ⟨rfl, HB4.out⟩

set_option maxRecDepth 100000 in
theorem lifted (os : Os) (started : os.Started) (H : Type) (enc : TypeId × Value → H) :
    ReturnsInHanded {} Try.checked os 7 .any (Rows.fnRunMergesSpec.pre6 enc Try.prog Try.f7 Rows.fnRunMergesRow.domain false) (Rows.fnRunMergesSpec.post enc Try.prog Try.f7 false true false false) := by
  refine returnsInHanded_of_change (C := Try.checked) own started (by kernel_rfl) Try.func7
    (ChangeSpec.witness6 (enc := enc) (C := Try.checked) false ⟨#[], #[.slice none 0 0], []⟩ 8 (by kernel_rfl) (by kernel_rfl) (by kernel_rfl) (by kernel_rfl)) ?_
  intro W base args ds gs before hval0 hW hcnd _
  have hval : ∀ (j : Nat) t v, Try.f7.params[j]? = some t → args[j]? = some v → Value.okWide Try.prog W .any base t v := hval0
  have hW' := hW
  obtain ⟨p, q, hA0, hV, rfl, hfz, hnd⟩ := hW
  have hA : DataW.TrodAll enc Try.prog W 0 (fun _ => true) true Try.f7.params.toList args.toList ds p := hA0
  rw [Try.params7] at hA hval
  obtain ⟨v0, vs0, d0, ds0, p0, q0, hargs, rfl, rfl, h0, r0⟩ := trodAll_cons hA
  obtain ⟨rfl, rfl, rfl⟩ := trodAll_nil r0
  obtain rfl : args = #[v0] := by cases args; simp_all
  obtain ⟨rfl, rfl⟩ := trodVars_none hV
  obtain ⟨a0, len0, cap0, rfl⟩ := okWide_slice Try.underlying22 (hval 0 22 v0 rfl rfl)
  have k0 := h0
  have lt0 : ∀ x ∈ p0, x.block < W.heap.size := by obtain ⟨m, hm⟩ := k0; exact DataW.trod_lt m _ _ _ hm
  obtain ⟨z0, w0⟩ : ∃ zs, IsRow .u8 W a0 len0 cap0 zs := by
    obtain ⟨fuel, hf⟩ := h0
    rcases open_ints Try.underlying22 Try.underlying5 (by kernel_rfl) hf with ⟨hcs, _⟩ | ⟨x, l, c, zs, hcs, _, hl, hm, hz, _, hcell, hwz⟩
    · simp [Value.cells] at hcs
      obtain ⟨rfl, rfl, rfl⟩ := hcs
      exact ⟨[], .inl ⟨rfl, rfl, rfl, rfl⟩⟩
    · simp [Value.cells] at hcs
      obtain ⟨rfl, rfl, rfl⟩ := hcs
      exact ⟨zs, .inr ⟨_, rfl, hl, hm, by simpa using hz, hcell, hwz⟩⟩
  clear hA0 hval0
  refine (walk a0 len0 cap0 z0 W w0).mono fun e W' ⟨he, bel⟩ => ?_
  subst he
  exact ⟨_, rfl, _, _, _, [], _, [], hW', trodAll_mk1 (shut_bool Try.underlying4 _), (trodAll_cons_mk (Below.trod laidOut (by kernel_rfl) (of_decide_eq_true (by kernel_rfl)) k0 bel lt0) trodAll_mk0), rfl, bel.frame _, fun h => by cases h⟩

theorem over : Rows.fnRunMergesRow.holds Try.pinned (OpenSpec.ofChange Rows.fnRunMergesSpec) :=
  OpenClaim.holds_of_wide 7 Try.f7 rfl rfl rfl rfl rfl rfl rfl ⟨rfl, rfl, rfl, rfl, rfl⟩ rfl rfl rfl rfl rfl (by kernel_rfl) Try.func7 (by kernel_rfl)
    (of_decide_eq_true (by kernel_rfl)) (by unfold Func.isWrapper; first | (rw [if_pos (by decide +kernel)]; kernel_rfl) | (rw [if_neg (by decide +kernel)]; exact ⟨rfl, rfl⟩))
    (fun os started H enc _ => lifted os started H enc)

theorem proved : Rows.FnRunMergesSaid := over
#print axioms proved
end Go.Proofs.Ytnjabdlhgmaeiaa.fnRunMerges
