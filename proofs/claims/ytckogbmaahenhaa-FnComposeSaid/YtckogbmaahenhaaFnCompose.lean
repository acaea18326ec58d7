/- FnCompose returns true at every input. No condition. -/
import Derived.Test.YtckogbmaahenhaaRows
import Derived.WalkKit
import Derived.ProofKit
import Derived.OpenShut
import Derived.ShutString
import Derived.ChangeOld
import Derived.Below
import Derived.SliceStrings
import Derived.Test.YtckogbmaahenhaaHead
import Derived.Test.YtckogbmaahenhaaIComp
import Derived.Test.YtckogbmaahenhaaSComp
import Derived.Test.YtckogbmaahenhaaISign
import Derived.Test.YtckogbmaahenhaaSSign
import Derived.Test.YtckogbmaahenhaaVInts
import Derived.Test.YtckogbmaahenhaaDrawAp
import Derived.Test.YtckogbmaahenhaaVAt
import Derived.Test.YtckogbmaahenhaaCode
namespace Go.Proofs.Ytckogbmaahenhaa.fnCompose
open Go.ChangeShapes Go.WideShapes Go.ChangeAt Go.RowKit
open Go.ChangeMaps (open_string shut_string)
set_option linter.unusedVariables false

theorem own : ownKnob Try.prog.godebug = none := by kernel_rfl
theorem laidOut : laidOutB Try.prog = true := by kernel_rfl

def IsRow (k : IntKind) (w : World) (a : Option Addr) (len cap : Nat) (zs : List Int) : Prop :=
  (a = none ∧ len = 0 ∧ cap = 0 ∧ zs = []) ∨
  ∃ x, a = some x ∧ len ≤ cap ∧ cap ≤ maxLen ∧ zs.length = cap ∧ (∀ i, i < zs.length → w.cell? (x.add i) = some (.int k (zs.getD i 0))) ∧ ∀ n ∈ zs, (Lit.int k n).wf = true

attribute [local go_sem ↓ high] builtin_append_held
theorem code_of {w : World} {a : Option Addr} {len cap : Nat} {zs : List Int} (h : IsRow .u8 w a len cap zs) : Code0 w a len := by
  intro k hk
  rcases h with ⟨_, rfl, _⟩ | ⟨x, rfl, hlc, _, hz, hc, hw⟩
  · omega
  · have hkz : k < zs.length := by omega
    have hd : zs.getD k 0 = zs[k] := by simp [List.getD, hkz]
    have hm := hw zs[k] (List.getElem_mem hkz)
    have hcell := hc k hkz
    rw [hd] at hcell
    have hlt := World.block_lt_of_cell? w _ hcell
    have hbk := Go.ChangeShapes.block_add x k
    have hr := bounds_u8 hm
    exact ⟨x, zs[k], rfl, by omega, hcell, hr.1, hr.2⟩

theorem vbig_no (a : Option Addr) (len cap : Nat) (w : World) (h : len ≤ 65536) : Calls Try.prog 20 #[.slice a len cap] w fun e w' => e = .returned (.bool false) ∧ w' = w := by
  go_enter Try.func20, Try.ntmps20
  have hq : decide ((65536 : Int) < (len : Int)) = false := decide_eq_false (by omega)
  go_wp2
  go_ret
  exact ⟨by rw [← hq]; rfl, rfl⟩

set_option maxRecDepth 100000 in
set_option maxHeartbeats 40000000 in
theorem walk (a : Option Addr) (len cap : Nat) (z : List Int) (w : World) (w0 : IsRow .u8 w a len cap z) :
    Calls Try.prog 4 #[.slice a len cap] w fun e w' => e = .returned (.bool true) ∧ Below w.heap.size w w' := by
  have hlen : len ≤ maxLen := by
    rcases w0 with ⟨_, rfl, _⟩ | ⟨x, _, h1, h2, _⟩ <;> omega
  unfold maxLen at hlen
  have HCODE := Lib.hid (code_of w0)
  clear w0
  by_cases hbig : 65536 < len
  · clear HCODE
    go_enter Try.func4, Try.ntmps4
    go_wp2
    go_ret
    exact ⟨rfl, Below.refl _ _⟩
  · go_enter Try.func4, Try.ntmps4
    go_wp2_with fail
    refine (vbig_no a len cap _ (by omega)).mono ?_
    rintro e w0 ⟨rfl, rfl⟩
    have HLEN : Hid (len ≤ 65536) := Lib.hid (by omega)
    clear hlen hbig
    have B0 : Hid (Below w0.heap.size w0 w0) := Lib.hid (Below.refl _ _)
    have HCODE0 := HCODE
    go_wp2_with fail
    refine (drawComp_any a len cap _ HCODE.out).mono ?_
    rintro e w_1 ⟨aFP, cFP, p, aFQ, cFQ, q, hlFP, hlFQ, rfl, hf1, hf2, hb⟩
    have hnFP : p.length ≤ 1048576 := by omega
    have hnFQ : q.length ≤ 1048576 := by omega
    have BN := Lib.hid (B0.out.trans (hb.mono B0.out.size))
    clear B0
    have B0 := BN
    clear BN
    have FP := Lib.hid hf1
    have FQ := Lib.hid hf2
    clear hf1 hf2 hb HCODE
    obtain ⟨r, okc, hM⟩ : ∃ x b, P.compF p q = (x, b) := ⟨_, _, rfl⟩
    obtain ⟨s1, one, hS⟩ : ∃ x b, P.signF p = (x, b) := ⟨_, _, rfl⟩
    have HCI := Lib.hid (fun v v' W (h : FlatAt W v p.length (ints p)) (h' : FlatAt W v' q.length (ints q)) => by have := implComp_any v p v' q W h hnFP h' hnFQ; rw [hM] at this; exact this)
    have HCS := Lib.hid (fun v v' W (h : FlatAt W v p.length (ints p)) (h' : FlatAt W v' q.length (ints q)) => by have := specComp_any v p v' q W h hnFP h' hnFQ; rw [hM] at this; exact this)
    have hr : r.length ≤ 1048576 := by have := P.compF_len p q; rw [hM] at this; exact this
    have HSI := Lib.hid (fun v W (h : FlatAt W v p.length (ints p)) => by have := implSign_any v p W h hnFP; rw [hS] at this; exact this)
    have HSS := Lib.hid (fun v W (h : FlatAt W v p.length (ints p)) => by have := specSign_any v p W h hnFP; rw [hS] at this; exact this)
    have HOK : Hid (okc = true → (one = true ∧ ∃ s2 s3 : Int, P.signF q = (s2, true) ∧ P.signF r = (s3, true) ∧ IntKind.i64.wrap (s1 * s2) = s3 ∧ r.length = q.length ∧ p.length = q.length ∧ p.length ≤ 64) ∧
        ∀ L : List Int, L.length = p.length → OkL L → ∃ A B : List Int, A.length = q.length ∧ applyF p L = (A, true) ∧ applyF q A = (B, true) ∧ applyF r L = (B, true) ∧ B.length ≤ 64) := Lib.hid (fun hk => by
      rw [hk] at hM
      by_cases h : P.OkP p ∧ P.OkP q ∧ p.length = q.length
      · rw [P.compF_yes h] at hM
        have e := (Prod.mk.inj hM).1
        obtain ⟨hp, hq, hl⟩ := h
        obtain ⟨c1, c2⟩ := P.comp_sign hp hq hl
        rw [e] at c1 c2
        have hrl : r.length = q.length := by rw [← e, P.pickAt_length]
        rw [P.signF_yes hp] at hS
        have hs1 := (Prod.mk.inj hS).1
        refine ⟨⟨(Prod.mk.inj hS).2.symm, P.pm (P.invs q), P.pm (P.invs r), P.signF_yes hq, P.signF_yes c1, ?_, hrl, hl, hp.1⟩, fun L hL hok => ?_⟩
        · rw [c2, ← hs1]
          have t : ∀ n, P.pm n = 1 ∨ P.pm n = -1 := fun n => by unfold P.pm; split <;> simp
          rcases t (P.invs p) with a | a <;> rcases t (P.invs q) with b | b <;> rw [a, b] <;> rw [IntKind.wrap_i64] <;> omega
        · have hin : ∀ (l idx : List Int), (∀ i ∈ idx, 0 ≤ i ∧ i < l.length) → OkL l → idx.length ≤ 64 → OkL (P.pickAt l idx) := fun l idx hi hl h64 => by
            refine ⟨by rw [P.pickAt_length]; exact h64, fun x hx => ?_⟩
            unfold P.pickAt at hx
            obtain ⟨i, hii, rfl⟩ := List.mem_map.1 hx
            have := hi i hii
            have hlt : i.toNat < l.length := by omega
            exact hl.2 _ (by rw [P.getD_at (List.getElem?_eq_getElem hlt)]; exact List.getElem_mem hlt)
          have hA : (P.pickAt L p).length = p.length := P.pickAt_length _ _
          have hokA : OkL (P.pickAt L p) := hin L p (fun i hi => by rw [hL]; exact hp.2.1 i hi) hok hp.1
          refine ⟨P.pickAt L p, P.pickAt (P.pickAt L p) q, by rw [hA, hl], applyF_yes ⟨hp, hok, hL.symm⟩, applyF_yes ⟨hq, hokA, by rw [hA, hl]⟩, ?_, by rw [P.pickAt_length]; exact hq.1⟩
          rw [applyF_yes ⟨c1, hok, by rw [hrl, hL, hl]⟩, P.pick_pick hq hl, e]
      · rw [P.compF_no h] at hM
        exact absurd (Prod.mk.inj hM).2 (by simp))
    clear hM hS
    go_wp2_with fail
    refine (HCI.out _ _ _ FP.out FQ.out).mono ?_
    rintro e w_2 ⟨gRR, cRR, rfl, hcRR, hg, hrow, hb⟩
    simp only at hcRR hrow
    have hyRR := Lib.hid hrow
    have FPz := Lib.hid (FP.out.below hb)
    clear FP
    have FP := FPz
    clear FPz
    have FQz := Lib.hid (FQ.out.below hb)
    clear FQ
    have FQ := FQz
    clear FQz
    have BN := Lib.hid (B0.out.trans (hb.mono B0.out.size))
    clear B0
    have B0 := BN
    clear BN
    have RR := hyRR
    clear hyRR hrow hb hg
    go_wp2_with fail
    refine (HCS.out _ _ _ FP.out FQ.out).mono ?_
    rintro e w_3 ⟨gRW, cRW, rfl, hcRW, hg, hrow, hb⟩
    simp only at hcRW hrow
    have hyRW := Lib.hid hrow
    have FPz := Lib.hid (FP.out.below hb)
    clear FP
    have FP := FPz
    clear FPz
    have FQz := Lib.hid (FQ.out.below hb)
    clear FQ
    have FQ := FQz
    clear FQz
    have RRz := Lib.hid (RR.out.below hb RR.out.1)
    clear RR
    have RR := RRz
    clear RRz
    have BN := Lib.hid (B0.out.trans (hb.mono B0.out.size))
    clear B0
    have B0 := BN
    clear BN
    have RW := hyRW
    clear hyRW hrow hb hg
    go_wp2_with fail
    refine (vInts_yes _ _ r _ (RR.out.flat hcRR) (RW.out.flat hcRW) hr).mono ?_
    rintro e w_4 ⟨rfl, hb⟩
    have FPz := Lib.hid (FP.out.below hb)
    clear FP
    have FP := FPz
    clear FPz
    have FQz := Lib.hid (FQ.out.below hb)
    clear FQ
    have FQ := FQz
    clear FQz
    have RRz := Lib.hid (RR.out.below hb RR.out.1)
    clear RR
    have RR := RRz
    clear RRz
    have RWz := Lib.hid (RW.out.below hb RW.out.1)
    clear RW
    have RW := RWz
    clear RWz
    have BN := Lib.hid (B0.out.trans (hb.mono B0.out.size))
    clear B0
    have B0 := BN
    clear BN
    clear hb
    clear RW
    go_wp2_with fail
    refine (HSI.out _ _ FP.out).mono ?_
    rintro e w_5 ⟨rfl, hb⟩
    have FPz := Lib.hid (FP.out.below hb)
    clear FP
    have FP := FPz
    clear FPz
    have FQz := Lib.hid (FQ.out.below hb)
    clear FQ
    have FQ := FQz
    clear FQz
    have RRz := Lib.hid (RR.out.below hb RR.out.1)
    clear RR
    have RR := RRz
    clear RRz
    have BN := Lib.hid (B0.out.trans (hb.mono B0.out.size))
    clear B0
    have B0 := BN
    clear BN
    clear hb
    go_wp2_with fail
    refine (HSS.out _ _ FP.out).mono ?_
    rintro e w_6 ⟨rfl, hb⟩
    have FPz := Lib.hid (FP.out.below hb)
    clear FP
    have FP := FPz
    clear FPz
    have FQz := Lib.hid (FQ.out.below hb)
    clear FQ
    have FQ := FQz
    clear FQz
    have RRz := Lib.hid (RR.out.below hb RR.out.1)
    clear RR
    have RR := RRz
    clear RRz
    have BN := Lib.hid (B0.out.trans (hb.mono B0.out.size))
    clear B0
    have B0 := BN
    clear BN
    clear hb
    clear HCI HCS HSI HSS
    cases okc
    case false =>
      clear HOK
      go_wp2_with fail
      go_ret
      exact ⟨rfl, B0.out⟩
    obtain ⟨⟨hone, s2, s3, hS2, hS3, hws, hrl, hpq, hp64⟩, hap⟩ := HOK.out (by first | rfl | trivial)
    subst hone
    have HSQ := Lib.hid (fun v W (h : FlatAt W v q.length (ints q)) => by have := implSign_any v q W h hnFQ; rw [hS2] at this; exact this)
    have HSR := Lib.hid (fun v W (h : FlatAt W v r.length (ints r)) => by have := implSign_any v r W h hr; rw [hS3] at this; exact this)
    have HRL := Lib.hid hrl
    have HPQ := Lib.hid hpq
    have HAP := Lib.hid hap
    clear hS2 hS3 hrl hpq hap HOK
    go_wp2_with fail
    refine (HSQ.out _ _ FQ.out).mono ?_
    rintro e w_7 ⟨rfl, hb⟩
    have FPz := Lib.hid (FP.out.below hb)
    clear FP
    have FP := FPz
    clear FPz
    have FQz := Lib.hid (FQ.out.below hb)
    clear FQ
    have FQ := FQz
    clear FQz
    have RRz := Lib.hid (RR.out.below hb RR.out.1)
    clear RR
    have RR := RRz
    clear RRz
    have BN := Lib.hid (B0.out.trans (hb.mono B0.out.size))
    clear B0
    have B0 := BN
    clear BN
    clear hb
    go_wp2_with fail
    refine (HSR.out _ _ (RR.out.flat hcRR)).mono ?_
    rintro e w_8 ⟨rfl, hb⟩
    have FPz := Lib.hid (FP.out.below hb)
    clear FP
    have FP := FPz
    clear FPz
    have FQz := Lib.hid (FQ.out.below hb)
    clear FQ
    have FQ := FQz
    clear FQz
    have RRz := Lib.hid (RR.out.below hb RR.out.1)
    clear RR
    have RR := RRz
    clear RRz
    have BN := Lib.hid (B0.out.trans (hb.mono B0.out.size))
    clear B0
    have B0 := BN
    clear BN
    clear hb
    clear HSQ HSR
    have HCODEz := Lib.hid (HCODE0.out.below B0.out)
    have HCODE := HCODEz
    clear HCODEz HCODE0
    have HST : Hid (Held w_8.heap.size (w_8.alloc (.cells #[] 3)) (.slice (some ⟨w_8.heap.size, 0, none⟩) 0 0) []) := Lib.hid (Held.start w_8 w_8.heap.size (Nat.le_refl _))
    have HSB : Hid (Below w_8.heap.size w_8 (w_8.alloc (.cells #[] 3))) := Lib.hid ((Below.refl _ _).alloc (Nat.le_refl _) _)
    go_wp2_with fail
    go_loopw [17, 18] (fun lv iv wr => ∃ (k : Nat) (L : List Int), k ≤ p.length ∧ iv = .int .i64 k ∧ L.length = k ∧ (∀ x ∈ L, 0 ≤ x ∧ x ≤ 255) ∧ Held w_8.heap.size wr lv L ∧ Below w_8.heap.size w_8 wr) (fun _ iv _ => p.length - (intOf iv).toNat)
    case atStart => exact ⟨0, [], Nat.zero_le _, rfl, rfl, by simp, HST.out, HSB.out⟩
    case round =>
      obtain ⟨k, L, hk, rfl, hLk, hLx, hH, hb⟩ := hrel
      have HLK := Lib.hid hLk
      have HLX := Lib.hid hLx
      have HH := Lib.hid hH
      have HB := Lib.hid hb
      clear hLk hLx hH hb HST HSB
      by_cases hlt : k < p.length
      · have HC1 := Lib.hid (HCODE.out.below HB.out)
        have hw5 : IntKind.i64.wrap ((k : Int) + 5) = ((k + 5 : Nat) : Int) := by rw [IntKind.wrap_i64]; omega
        go_wp2_with fail
        refine (vAt_any a len cap (k + 5) _ HC1.out (by omega) (by have := HLEN.out; omega)).mono ?_
        rintro e w2 ⟨⟨x, hx0, hx1, rfl⟩, rfl⟩
        have HX := Lib.hid (And.intro hx0 hx1)
        clear hx0 hx1
        obtain ⟨v2, w3, hrun, hheld, hbel⟩ := appendOne w_8.heap.size _ L x _ HH.out HB.out.size (by have := HLK.out; omega)
        have HH2 := Lib.hid hheld
        have HB2 := Lib.hid (HB.out.trans hbel)
        clear hheld hbel HH HB HC1
        go_wp2_with fail
        go_roundw
        case rel => exact ⟨k + 1, L ++ [x], by omega, by go_num, by simp [HLK.out], by
          intro y hy
          rcases List.mem_append.1 hy with h | h
          · exact HLX.out y h
          · simp at h; subst h; exact HX.out, HH2.out, HB2.out⟩
        case measure => simp [intOf]; omega
      · obtain rfl : k = p.length := by omega
        obtain ⟨gLI, cLI, rfl, _, hcLI, hrowL⟩ := HH.out.row
        have hb := HB.out
        have LI := Lib.hid hrowL
        obtain ⟨A, Bq, hAq, hap1, hap2, hap3, hB64⟩ := HAP.out L HLK.out ⟨by rw [HLK.out]; exact hp64, fun x hx => by have := HLX.out x hx; omega⟩
        have hL64 : L.length ≤ 1048576 := by rw [HLK.out]; omega
        have hA64 : A.length ≤ 1048576 := by rw [hAq]; exact hnFQ
        have hBn : Bq.length ≤ 1048576 := by omega
        have HA1 := Lib.hid (fun v v' W (h : FlatAt W v p.length (ints p)) (h' : FlatAt W v' L.length (ints L)) => by have := implApply_any v p v' L W h hnFP h' hL64; rw [hap1] at this; exact this)
        have HA2 := Lib.hid (fun v v' W (h : FlatAt W v q.length (ints q)) (h' : FlatAt W v' A.length (ints A)) => by have := implApply_any v q v' A W h hnFQ h' hA64; rw [hap2] at this; exact this)
        have HA3 := Lib.hid (fun v v' W (h : FlatAt W v r.length (ints r)) (h' : FlatAt W v' L.length (ints L)) => by have := implApply_any v r v' L W h hr h' hL64; rw [hap3] at this; exact this)
        clear hrowL hap1 hap2 hap3 hAq HAP HLK HLX HH HB hB64
        have FPz := Lib.hid (FP.out.below hb)
        clear FP
        have FP := FPz
        clear FPz
        have FQz := Lib.hid (FQ.out.below hb)
        clear FQ
        have FQ := FQz
        clear FQz
        have RRz := Lib.hid (RR.out.below hb RR.out.1)
        clear RR
        have RR := RRz
        clear RRz
        have BN := Lib.hid (B0.out.trans (hb.mono B0.out.size))
        clear B0
        have B0 := BN
        clear BN
        clear hb
        go_wp2_with fail
        refine (HA1.out _ _ _ FP.out (LI.out.flat hcLI)).mono ?_
        rintro e w_9 ⟨gRA, cRA, rfl, hcRA, hg, hrow, hb⟩
        simp only at hcRA hrow
        have hyRA := Lib.hid hrow
        have FPz := Lib.hid (FP.out.below hb)
        clear FP
        have FP := FPz
        clear FPz
        have FQz := Lib.hid (FQ.out.below hb)
        clear FQ
        have FQ := FQz
        clear FQz
        have RRz := Lib.hid (RR.out.below hb RR.out.1)
        clear RR
        have RR := RRz
        clear RRz
        have LIz := Lib.hid (LI.out.below hb LI.out.1)
        clear LI
        have LI := LIz
        clear LIz
        have BN := Lib.hid (B0.out.trans (hb.mono B0.out.size))
        clear B0
        have B0 := BN
        clear BN
        have RA := hyRA
        clear hyRA hrow hb hg
        go_wp2_with fail
        refine (HA2.out _ _ _ FQ.out (RA.out.flat hcRA)).mono ?_
        rintro e w_10 ⟨gRB, cRB, rfl, hcRB, hg, hrow, hb⟩
        simp only at hcRB hrow
        have hyRB := Lib.hid hrow
        have FPz := Lib.hid (FP.out.below hb)
        clear FP
        have FP := FPz
        clear FPz
        have FQz := Lib.hid (FQ.out.below hb)
        clear FQ
        have FQ := FQz
        clear FQz
        have RRz := Lib.hid (RR.out.below hb RR.out.1)
        clear RR
        have RR := RRz
        clear RRz
        have LIz := Lib.hid (LI.out.below hb LI.out.1)
        clear LI
        have LI := LIz
        clear LIz
        have RAz := Lib.hid (RA.out.below hb RA.out.1)
        clear RA
        have RA := RAz
        clear RAz
        have BN := Lib.hid (B0.out.trans (hb.mono B0.out.size))
        clear B0
        have B0 := BN
        clear BN
        have RB := hyRB
        clear hyRB hrow hb hg
        go_wp2_with fail
        refine (HA3.out _ _ _ (RR.out.flat hcRR) (LI.out.flat hcLI)).mono ?_
        rintro e w_11 ⟨gRC, cRC, rfl, hcRC, hg, hrow, hb⟩
        simp only at hcRC hrow
        have hyRC := Lib.hid hrow
        have FPz := Lib.hid (FP.out.below hb)
        clear FP
        have FP := FPz
        clear FPz
        have FQz := Lib.hid (FQ.out.below hb)
        clear FQ
        have FQ := FQz
        clear FQz
        have RRz := Lib.hid (RR.out.below hb RR.out.1)
        clear RR
        have RR := RRz
        clear RRz
        have LIz := Lib.hid (LI.out.below hb LI.out.1)
        clear LI
        have LI := LIz
        clear LIz
        have RAz := Lib.hid (RA.out.below hb RA.out.1)
        clear RA
        have RA := RAz
        clear RAz
        have RBz := Lib.hid (RB.out.below hb RB.out.1)
        clear RB
        have RB := RBz
        clear RBz
        have BN := Lib.hid (B0.out.trans (hb.mono B0.out.size))
        clear B0
        have B0 := BN
        clear BN
        have RC := hyRC
        clear hyRC hrow hb hg
        clear HA1 HA2 HA3
        go_wp2_with fail
        refine (vInts_yes _ _ Bq _ (RB.out.flat hcRB) (RC.out.flat hcRC) hBn).mono ?_
        rintro e w_12 ⟨rfl, hb⟩
        have FPz := Lib.hid (FP.out.below hb)
        clear FP
        have FP := FPz
        clear FPz
        have FQz := Lib.hid (FQ.out.below hb)
        clear FQ
        have FQ := FQz
        clear FQz
        have RRz := Lib.hid (RR.out.below hb RR.out.1)
        clear RR
        have RR := RRz
        clear RRz
        have LIz := Lib.hid (LI.out.below hb LI.out.1)
        clear LI
        have LI := LIz
        clear LIz
        have RAz := Lib.hid (RA.out.below hb RA.out.1)
        clear RA
        have RA := RAz
        clear RAz
        have RBz := Lib.hid (RB.out.below hb RB.out.1)
        clear RB
        have RB := RBz
        clear RBz
        have RCz := Lib.hid (RC.out.below hb RC.out.1)
        clear RC
        have RC := RCz
        clear RCz
        have BN := Lib.hid (B0.out.trans (hb.mono B0.out.size))
        clear B0
        have B0 := BN
        clear BN
        clear hb
        go_wp2_with fail
        go_ret
        exact ⟨rfl, B0.out⟩

set_option maxRecDepth 100000 in
theorem lifted (os : Os) (started : os.Started) (H : Type) (enc : TypeId × Value → H) :
    ReturnsInHanded {} Try.checked os 4 .any (Rows.fnComposeSpec.pre6 enc Try.prog Try.f4 Rows.fnComposeRow.domain false) (Rows.fnComposeSpec.post enc Try.prog Try.f4 false true false false) := by
  refine returnsInHanded_of_change (C := Try.checked) own started (by kernel_rfl) Try.func4
    (ChangeSpec.witness6 (enc := enc) (C := Try.checked) false ⟨#[], #[.slice none 0 0], []⟩ 8 (by kernel_rfl) (by kernel_rfl) (by kernel_rfl) (by kernel_rfl)) ?_
  intro W base args ds gs before hval0 hW hcnd _
  have hval : ∀ (j : Nat) t v, Try.f4.params[j]? = some t → args[j]? = some v → Value.okWide Try.prog W .any base t v := hval0
  have hW' := hW
  obtain ⟨p, q, hA0, hV, rfl, hfz, hnd⟩ := hW
  have hA : DataW.TrodAll enc Try.prog W 0 (fun _ => true) true Try.f4.params.toList args.toList ds p := hA0
  rw [Try.params4] at hA hval
  obtain ⟨v0, vs0, d0, ds0, p0, q0, hargs, rfl, rfl, h0, r0⟩ := trodAll_cons hA
  obtain ⟨rfl, rfl, rfl⟩ := trodAll_nil r0
  obtain rfl : args = #[v0] := by cases args; simp_all
  obtain ⟨rfl, rfl⟩ := trodVars_none hV
  obtain ⟨a0, len0, cap0, rfl⟩ := okWide_slice Try.underlying22 (hval 0 22 v0 rfl rfl)
  have k0 := h0
  have lt0 : ∀ x ∈ p0, x.block < W.heap.size := by obtain ⟨m, hm⟩ := k0; exact DataW.trod_lt m _ _ _ hm
  obtain ⟨z0, w0⟩ : ∃ zs, IsRow .u8 W a0 len0 cap0 zs := by
    obtain ⟨fuel, hf⟩ := h0
    rcases open_ints Try.underlying22 Try.underlying5 (by kernel_rfl) hf with ⟨hcs, _⟩ | ⟨x, l, c, zs, hcs, _, hl, hm, hz, _, hcell, hwz⟩
    · simp [Value.cells] at hcs
      obtain ⟨rfl, rfl, rfl⟩ := hcs
      exact ⟨[], .inl ⟨rfl, rfl, rfl, rfl⟩⟩
    · simp [Value.cells] at hcs
      obtain ⟨rfl, rfl, rfl⟩ := hcs
      exact ⟨zs, .inr ⟨_, rfl, hl, hm, by simpa using hz, hcell, hwz⟩⟩
  clear hA0 hval0
  refine (walk a0 len0 cap0 z0 W w0).mono fun e W' ⟨he, bel⟩ => ?_
  subst he
  exact ⟨_, rfl, _, _, _, [], _, [], hW', trodAll_mk1 (shut_bool Try.underlying4 _), (trodAll_cons_mk (Below.trod laidOut (by kernel_rfl) (of_decide_eq_true (by kernel_rfl)) k0 bel lt0) trodAll_mk0), rfl, bel.frame _, fun h => by cases h⟩

theorem closed : joinedFacts Try.prog 4 Try.f4 Rows.fnComposeSpec Rows.fnComposeRow = true := by
  unfold joinedFacts
  rw [head_enter, head_final, head_make]
  kernel_rfl

theorem over : Rows.fnComposeRow.holds Try.pinned (OpenSpec.ofChange Rows.fnComposeSpec) :=
  OpenClaim.holds_of_wide 4 Try.f4 rfl rfl rfl rfl rfl rfl rfl ⟨rfl, rfl, rfl, rfl, rfl⟩ rfl rfl rfl rfl rfl (by kernel_rfl) Try.func4 closed
    (of_decide_eq_true (by kernel_rfl)) (by unfold Func.isWrapper; first | (rw [if_pos (by decide +kernel)]; kernel_rfl) | (rw [if_neg (by decide +kernel)]; exact ⟨rfl, rfl⟩))
    (fun os started H enc _ => lifted os started H enc)

theorem proved : Rows.FnComposeSaid := over
#print axioms proved
end Go.Proofs.Ytckogbmaahenhaa.fnCompose
