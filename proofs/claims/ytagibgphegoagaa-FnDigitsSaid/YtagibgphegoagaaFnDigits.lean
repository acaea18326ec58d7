/- FnDigits returns true at every input. No condition. -/
import Derived.Test.YtagibgphegoagaaRows
import Derived.WalkKit
import Derived.ProofKit
import Derived.OpenShut
import Derived.ShutString
import Derived.ChangeOld
import Derived.Below
import Derived.SliceStrings
import Derived.Test.YtagibgphegoagaaHead
import Derived.Test.YtagibgphegoagaaDgAll
import Derived.Test.YtagibgphegoagaaVRecs
namespace Go.Proofs.Ytagibgphegoagaa.fnDigits
open Go.ChangeShapes Go.WideShapes Go.ChangeAt Go.RowKit
open Go.ChangeMaps (open_string shut_string)
set_option linter.unusedVariables false

theorem own : ownKnob Try.prog.godebug = none := by kernel_rfl
theorem laidOut : laidOutB Try.prog = true := by kernel_rfl

def IsRow (k : IntKind) (w : World) (a : Option Addr) (len cap : Nat) (zs : List Int) : Prop :=
  (a = none ∧ len = 0 ∧ cap = 0 ∧ zs = []) ∨
  ∃ x, a = some x ∧ len ≤ cap ∧ cap ≤ maxLen ∧ zs.length = cap ∧ (∀ i, i < zs.length → w.cell? (x.add i) = some (.int k (zs.getD i 0))) ∧ ∀ n ∈ zs, (Lit.int k n).wf = true

theorem code_of {w : World} {a : Option Addr} {len cap : Nat} {zs : List Int} (h : IsRow .u8 w a len cap zs) : Code0 w a len := by
  intro k hk
  rcases h with ⟨_, rfl, _⟩ | ⟨x, rfl, hlc, _, hz, hc, hw⟩
  · omega
  · have hkz : k < zs.length := by omega
    have hd : zs.getD k 0 = zs[k] := by simp [List.getD, hkz]
    have hm := hw zs[k] (List.getElem_mem hkz)
    have hcell := hc k hkz
    rw [hd] at hcell
    have hlt := World.block_lt_of_cell? w _ hcell
    have hbk := Go.ChangeShapes.block_add x k
    have hr := bounds_u8 hm
    exact ⟨x, zs[k], rfl, by omega, hcell, hr.1, hr.2⟩

theorem vbig_no (a : Option Addr) (len cap : Nat) (w : World) (h : len ≤ 65536) : Calls Try.prog 18 #[.slice a len cap] w fun e w' => e = .returned (.bool false) ∧ w' = w := by
  go_enter Try.func18, Try.ntmps18
  have hq : decide ((65536 : Int) < (len : Int)) = false := decide_eq_false (by omega)
  go_wp2
  go_ret
  exact ⟨by rw [← hq]; rfl, rfl⟩

set_option maxRecDepth 100000 in
set_option maxHeartbeats 40000000 in
theorem walk (a : Option Addr) (len cap : Nat) (z : List Int) (w : World) (w0 : IsRow .u8 w a len cap z) :
    Calls Try.prog 3 #[.slice a len cap] w fun e w' => e = .returned (.bool true) ∧ Below w.heap.size w w' := by
  have hlen : len ≤ maxLen := by
    rcases w0 with ⟨_, rfl, _⟩ | ⟨x, _, h1, h2, _⟩ <;> omega
  unfold maxLen at hlen
  have HCODE := Lib.hid (code_of w0)
  clear w0
  by_cases hbig : 65536 < len
  · clear HCODE
    go_enter Try.func3, Try.ntmps3
    go_wp2
    go_ret
    exact ⟨rfl, Below.refl _ _⟩
  · go_enter Try.func3, Try.ntmps3
    go_wp2_with fail
    refine (vbig_no a len cap _ (by omega)).mono ?_
    rintro e w0 ⟨rfl, rfl⟩
    clear hlen hbig
    have B0 : Hid (Below w0.heap.size w0 w0) := Lib.hid (Below.refl _ _)
    have HCODE0 := HCODE
    go_wp2_with fail
    refine (drawDigitOf_any a len cap _ HCODE.out).mono ?_
    rintro e w_1 ⟨x, b, p, hx0, hx1, hb0, hb1, hp0, hp1, rfl, hb⟩
    have BN := Lib.hid (B0.out.trans (hb.mono B0.out.size))
    clear B0
    have B0 := BN
    clear BN
    clear hb HCODE hp0 hp1
    obtain ⟨q, hq⟩ : ∃ q, q = decide ((-100000 : Int) ≤ x ∧ x ≤ 100000 ∧ (2 : Int) ≤ (b : Int) ∧ (b : Int) ≤ 256) := ⟨_, rfl⟩
    have HQ := Lib.hid hq
    clear hq
    go_upto_region 4 with fail
    go_cut [44] from 31 to 43 (fun u wx => wx = w_1 ∧ u = .bool q)
    case first =>
      rcases (show x < -100000 ∨ ¬ x < -100000 by omega) with h1 | h1
      · have g1 : ¬ (-100000 : Int) ≤ x := by omega
        have d1 : decide ((-100000 : Int) ≤ x) = false := decide_eq_false g1
        clear B0 HCODE0
        go_wp2_with fail
        go_meet
        exact ⟨rfl, by rw [HQ.out]; exact congrArg Value.bool (decide_eq_false (by omega)).symm⟩
      have g1 : (-100000 : Int) ≤ x := by omega
      have d1 : decide ((-100000 : Int) ≤ x) = true := decide_eq_true g1
      rcases (show ¬ x ≤ 100000 ∨ x ≤ 100000 by omega) with g2 | g2
      · have d2 : decide (x ≤ (100000 : Int)) = false := decide_eq_false g2
        clear B0 HCODE0
        go_wp2_with fail
        go_meet
        exact ⟨rfl, by rw [HQ.out]; exact congrArg Value.bool (decide_eq_false (by omega)).symm⟩
      have d2 : decide (x ≤ (100000 : Int)) = true := decide_eq_true g2
      rcases (show b < 2 ∨ 2 ≤ b by omega) with g3 | g3
      · have g3z : ¬ (2 : Int) ≤ (b : Int) := by omega
        have d3 : decide ((2 : Int) ≤ (b : Int)) = false := decide_eq_false g3z
        clear B0 HCODE0
        go_wp2_with fail
        go_meet
        exact ⟨rfl, by rw [HQ.out]; exact congrArg Value.bool (decide_eq_false (by omega)).symm⟩
      rcases (show 256 < b ∨ b ≤ 256 by omega) with g4 | g4
      · have g3z : (2 : Int) ≤ (b : Int) := by omega
        have g4z : ¬ (b : Int) ≤ 256 := by omega
        have d3 : decide ((2 : Int) ≤ (b : Int)) = true := decide_eq_true g3z
        have d4 : decide ((b : Int) ≤ (256 : Int)) = false := decide_eq_false g4z
        clear B0 HCODE0
        go_wp2_with fail
        go_meet
        exact ⟨rfl, by rw [HQ.out]; exact congrArg Value.bool (decide_eq_false (by omega)).symm⟩
      · have g3z : (2 : Int) ≤ (b : Int) := by omega
        have g4z : (b : Int) ≤ 256 := by omega
        have d3 : decide ((2 : Int) ≤ (b : Int)) = true := decide_eq_true g3z
        have d4 : decide ((b : Int) ≤ (256 : Int)) = true := decide_eq_true g4z
        clear B0 HCODE0
        go_wp2_with fail
        go_meet
        exact ⟨rfl, by rw [HQ.out]; exact congrArg Value.bool (decide_eq_true (by omega)).symm⟩
    case rest =>
      obtain ⟨rfl, rfl⟩ := hcut
      go_upto_if 44 with fail
      go_cut [6, 7, 8, 9, 10] from 31 to 78 (fun _ _ _ _ _ wx => Below w0.heap.size w0 wx)
      case first =>
        cases q
        case false =>
          go_wp2_with fail
          go_meet
          exact B0.out
        obtain ⟨g1, g2, g3z, g4z⟩ := of_decide_eq_true HQ.out.symm
        have g3 : 2 ≤ b := by omega
        have g4 : b ≤ 256 := by omega
        obtain ⟨n, hn⟩ : ∃ n, n = sk x := ⟨_, rfl⟩
        have hxn : x + 100000 = (n : Int) := by rw [hn]; exact sk_eq g1
        have hn2 : n ≤ 200000 := by omega
        have HDF : Hid (∀ k : Nat, k < 18 → ∀ W, Calls Try.prog 20 #[.int .i64 x, .int .i64 (b : Int), .int .i64 (k : Int)] W fun e w' => e = .returned (.tuple #[.int .i64 ((Rx.dg b k n : Nat) : Int), .bool true]) ∧ Below W.heap.size W w') := Lib.hid (fun k hk W => by
          have := implDof_any x (b : Int) (k : Int) W
          rw [dofAll_yes ⟨⟨g1, g2⟩, ⟨by omega, by omega⟩, by omega, by omega⟩, Int.toNat_natCast, Int.toNat_natCast] at this
          rw [hn]; exact this)
        have HDL : Hid (∀ k, Rx.dg b k n < b) := Lib.hid (fun k => Rx.dg_lt (by omega) k n)
        have HMP : Hid (∀ k, n % b ^ (k + 1) = n % b ^ k + Rx.dg b k n * b ^ k) := Lib.hid (fun k => by
          unfold Rx.dg; rw [Nat.mod_pow_succ, Nat.mul_comm])
        have HP0 : Hid (∀ k, b ^ k ≤ b ^ (k + 1)) := Lib.hid (fun k => Nat.pow_le_pow_right (by omega) (by omega))
        have HPS : Hid (∀ k, b ^ (k + 1) = b ^ k * b) := Lib.hid (fun k => Nat.pow_succ b k)
        have HEND : Hid (n % b ^ 18 = n) := Lib.hid (Nat.mod_eq_of_lt (Nat.lt_of_lt_of_le (show n < 2 ^ 18 by omega) (Nat.pow_le_pow_left (show 2 ≤ b by omega) 18)))
        have HLE : Hid (∀ k, n % b ^ k ≤ n) := Lib.hid (fun k => Nat.mod_le _ _)
        have HD0 : Hid (∀ k, n < b ^ k → Rx.dg b k n = 0) := Lib.hid (fun k h => by unfold Rx.dg; rw [Nat.div_eq_of_lt h, Nat.zero_mod])
        generalize Rx.dg b = D at *
        clear hn hx0 hx1 HQ
        go_wp2_with fail
        go_loopw [2, 6, 7, 8, 9, 10] (fun _ sv uv kv _ _ wr => ∃ (k s : Nat) (u : Int), k ≤ 18 ∧ sv = .int .i64 (s : Int) ∧ uv = .int .i64 u ∧ kv = .int .i64 (k : Int) ∧ s = n % b ^ k ∧ (b ^ k ≤ n → u = ((b ^ k : Nat) : Int)) ∧ Below wc.heap.size wc wr) (fun _ _ _ kv _ _ _ => 18 - (intOf kv).toNat)
        case atStart => exact ⟨0, 0, 1, by omega, rfl, rfl, rfl, by simp [Nat.mod_one], fun _ => by simp, Below.refl _ _⟩
        case round =>
          obtain ⟨k, s, u, hk, rfl, rfl, rfl, hs, hu, hb⟩ := hrel
          have HS := Lib.hid hs
          have HU := Lib.hid hu
          have HBI := Lib.hid hb
          clear hs hu hb
          by_cases hlt : k < 18
          · have hkz : (k : Int) ≤ 17 := by omega
            have hkd : decide ((k : Int) ≤ 17) = true := decide_eq_true hkz
            have hsl : s ≤ 200000 := by have := HLE.out k; have := HS.out; omega
            have HD1 := Lib.hid (HDF.out k hlt)
            obtain ⟨d, hd⟩ : ∃ d, d = D k n := ⟨_, rfl⟩
            rw [← hd] at HD1
            have hdl : d < b := by rw [hd]; exact HDL.out k
            have hdz : ¬ (d : Int) < 0 := by omega
            have hdy : ¬ (b : Int) ≤ (d : Int) := by omega
            have hdd1 : decide ((d : Int) < 0) = false := decide_eq_false hdz
            have hdd2 : decide ((b : Int) ≤ (d : Int)) = false := decide_eq_false hdy
            by_cases ht : b ^ k ≤ n
            · obtain ⟨t, htt⟩ : ∃ t, t = b ^ k := ⟨_, rfl⟩
              obtain rfl : u = (t : Int) := by rw [htt]; exact HU.out ht
              have htl : t ≤ 200000 := by omega
              obtain ⟨e2, he2⟩ : ∃ e, e = d * t := ⟨_, rfl⟩
              obtain ⟨t2, ht2⟩ : ∃ e, e = t * b := ⟨_, rfl⟩
              have hee : (d : Int) * (t : Int) = (e2 : Int) := by rw [he2]; exact (Int.natCast_mul d t).symm
              have hte : (t : Int) * (b : Int) = (t2 : Int) := by rw [ht2]; exact (Int.natCast_mul t b).symm
              have hmp := HMP.out k
              rw [← hd, ← htt, ← he2] at hmp
              have hsum : s + e2 ≤ 200000 := by have := HLE.out (k + 1); have := HS.out; rw [← htt] at this; omega
              have ht2l : t2 ≤ 51200000 := by rw [ht2]; exact Nat.mul_le_mul htl (show b ≤ 256 by omega)
              have HN : Hid (s + e2 = n % b ^ (k + 1) ∧ t2 = b ^ (k + 1)) := Lib.hid ⟨by have := HS.out; rw [← htt] at this; omega, by rw [ht2, htt]; exact (HPS.out k).symm⟩
              clear hd ht htt he2 ht2 hmp HS HU
              go_wp2_with fail
              refine (HD1.out _).mono ?_
              rintro e w_d ⟨rfl, hbd⟩
              have HBD := Lib.hid (HBI.out.trans (hbd.mono HBI.out.size))
              clear hbd HBI HD1
              go_wp2_with fail
              go_roundw
              case rel => exact ⟨k + 1, s + e2, t2, by omega, by go_num, by go_num, by go_num, HN.out.1, fun _ => by rw [HN.out.2], HBD.out⟩
              case measure => simp [intOf]; omega
            · have hd0 : d = 0 := by rw [hd]; exact HD0.out k (by omega)
              have HN : Hid (s = n % b ^ (k + 1) ∧ ¬ b ^ (k + 1) ≤ n) := Lib.hid ⟨by have h1 := HMP.out k; rw [← hd, hd0, Nat.zero_mul, Nat.add_zero] at h1; rw [h1]; exact HS.out, fun h => ht (Nat.le_trans (HP0.out k) h)⟩
              clear hd ht HS HU hdz hdy hdd1 hdd2
              subst hd0
              have hdy : ¬ (b : Int) ≤ 0 := by omega
              have hdd2 : decide ((b : Int) ≤ (0 : Int)) = false := decide_eq_false hdy
              go_wp2_with fail
              refine (HD1.out _).mono ?_
              rintro e w_d ⟨rfl, hbd⟩
              have HBD := Lib.hid (HBI.out.trans (hbd.mono HBI.out.size))
              clear hbd HBI HD1
              go_wp2_with fail
              go_roundw
              case rel => exact ⟨k + 1, s, _, by omega, by go_num, rfl, by go_num, HN.out.1, fun h => absurd h HN.out.2, HBD.out⟩
              case measure => simp [intOf]; omega
          · obtain rfl : k = 18 := by omega
            have hsn : s = n := by rw [HS.out]; exact HEND.out
            subst hsn
            have hb := HBI.out
            clear HS HU HDF HDL HMP HP0 HPS HEND HLE HD0 HBI
            have BN := Lib.hid (B0.out.trans (hb.mono B0.out.size))
            clear B0
            have B0 := BN
            clear BN
            clear hb
            go_wp2_with fail
            go_meet
            exact B0.out
      case rest =>
        clear B0
        have B0 := Lib.hid hcut
        clear hcut
        have HCODE := Lib.hid (HCODE0.out.below B0.out)
        clear HCODE0
        go_wp2_with fail
        refine (drawCs_any a len cap _ HCODE.out).mono ?_
        rintro e w_2 ⟨gRL, cRL, li, lo, hi, hlRL, hlo0, hlo1, hhi0, hhi1, rfl, hcRL, hrow, hb⟩
        have RL := Lib.hid hrow
        have hnRL : li.length ≤ 1048576 := by omega
        have BN := Lib.hid (B0.out.trans (hb.mono B0.out.size))
        clear B0
        have B0 := BN
        clear BN
        clear hrow hb HCODE
        obtain ⟨S, okc, hS⟩ : ∃ x y, csAll li lo hi = (x, y) := ⟨_, _, rfl⟩
        have HCI := Lib.hid (fun b o c W (h : FlatAt W (.slice (some ⟨b, o, none⟩) li.length c) li.length (recs li)) => by have := (implCs_any b o c li lo hi W h hnRL).mono fun e w2 hq => hq.flat; rw [hS] at this; exact this)
        have HCS := Lib.hid (fun b o c W (h : FlatAt W (.slice (some ⟨b, o, none⟩) li.length c) li.length (recs li)) => by have := (specCs_any b o c li lo hi W h hnRL).mono fun e w2 hq => hq.flat; rw [hS] at this; exact this)
        have hsn : S.length ≤ 1048576 := by have := csAll_len li lo hi; rw [hS] at this; exact this
        clear hS
        go_wp2_with fail
        refine (HCI.out _ _ _ _ (RL.out.flat hcRL)).mono ?_
        rintro e w_3 ⟨aRS, cRS, rfl, hf, hb⟩
        simp only at hf
        have hyRS := Lib.hid hf
        have RLz := Lib.hid (RL.out.below hb RL.out.1)
        clear RL
        have RL := RLz
        clear RLz
        have BN := Lib.hid (B0.out.trans (hb.mono B0.out.size))
        clear B0
        have B0 := BN
        clear BN
        have RS := hyRS
        clear hyRS hf hb HCI
        go_wp2_with fail
        refine (HCS.out _ _ _ _ (RL.out.flat hcRL)).mono ?_
        rintro e w_4 ⟨aRW, cRW, rfl, hf, hb⟩
        simp only at hf
        have hyRW := Lib.hid hf
        have RSz := Lib.hid (RS.out.below hb)
        clear RS
        have RS := RSz
        clear RSz
        have RLz := Lib.hid (RL.out.below hb RL.out.1)
        clear RL
        have RL := RLz
        clear RLz
        have BN := Lib.hid (B0.out.trans (hb.mono B0.out.size))
        clear B0
        have B0 := BN
        clear BN
        have RW := hyRW
        clear hyRW hf hb HCS
        go_wp2_with fail
        refine (vRecords_yes _ _ S _ RS.out RW.out hsn).mono ?_
        rintro e w_5 ⟨rfl, hb⟩
        have RSz := Lib.hid (RS.out.below hb)
        clear RS
        have RS := RSz
        clear RSz
        have RWz := Lib.hid (RW.out.below hb)
        clear RW
        have RW := RWz
        clear RWz
        have RLz := Lib.hid (RL.out.below hb RL.out.1)
        clear RL
        have RL := RLz
        clear RLz
        have BN := Lib.hid (B0.out.trans (hb.mono B0.out.size))
        clear B0
        have B0 := BN
        clear BN
        clear hb
        clear RS RW
        clear hsn
        by_cases hok : OkR li
        case neg =>
          have HSP := Lib.hid (fun b o c W (h : FlatAt W (.slice (some ⟨b, o, none⟩) li.length c) li.length (recs li)) => (implSp_any b o c li W h hnRL).mono (R' := fun e w' => ∃ a c', e = .returned (.tuple #[.slice a 0 c', .bool false]) ∧ Below W.heap.size W w') fun e w2 hq => by
            have := hq.flat
            rw [spAll_no hok] at this
            obtain ⟨a, c', rfl, _, hb⟩ := this
            exact ⟨a, c', rfl, hb⟩)
          have HSO := Lib.hid (fun b o c W (h : FlatAt W (.slice (some ⟨b, o, none⟩) li.length c) li.length (recs li)) => (implSort_any b o c li W h hnRL).mono (R' := fun e w' => ∃ a c', e = .returned (.tuple #[.slice a 0 c', .bool false]) ∧ Below W.heap.size W w') fun e w2 hq => by
            obtain ⟨g, cap, L, rfl, h1, h2, h3, h4, h5⟩ := hq
            rcases h4 with ⟨h4, _⟩ | ⟨_, rfl⟩
            · exact absurd h4 hok
            · exact ⟨some ⟨g, 0, none⟩, cap, by rw [decide_eq_false hok]; rfl, h5⟩)
          clear hok
          go_wp2_with fail
          refine (HSP.out _ _ _ _ (RL.out.flat hcRL)).mono ?_
          rintro e w_6 ⟨aA, cA, rfl, hb⟩
          have RLz := Lib.hid (RL.out.below hb RL.out.1)
          clear RL
          have RL := RLz
          clear RLz
          have BN := Lib.hid (B0.out.trans (hb.mono B0.out.size))
          clear B0
          have B0 := BN
          clear BN
          clear hb HSP
          go_wp2_with fail
          refine (HSO.out _ _ _ _ (RL.out.flat hcRL)).mono ?_
          rintro e w_7 ⟨aT, cT, rfl, hb⟩
          have RLz := Lib.hid (RL.out.below hb RL.out.1)
          clear RL
          have RL := RLz
          clear RLz
          have BN := Lib.hid (B0.out.trans (hb.mono B0.out.size))
          clear B0
          have B0 := BN
          clear BN
          clear hb HSO
          clear RL
          go_wp2_with fail
          go_loopw [2, 22] (fun _ iv wr => iv = .int .i64 0 ∧ wr = w_7) (fun _ _ _ => 0)
          case atStart => exact ⟨rfl, rfl⟩
          case round =>
            obtain ⟨rfl, rfl⟩ := hrel
            go_wp2_with fail
            go_ret
            exact ⟨rfl, B0.out⟩
        have HSP := Lib.hid (fun b o c W (h : FlatAt W (.slice (some ⟨b, o, none⟩) li.length c) li.length (recs li)) => (implSp_any b o c li W h hnRL).mono (R' := fun e w' => ∃ a c', e = .returned (.tuple #[.slice a li.length c', .bool true]) ∧ FlatAt w' (.slice a li.length c') li.length (ints (spF li)) ∧ Below W.heap.size W w') fun e w2 hq => by
          have := hq.flat
          rw [spAll_yes hok] at this
          obtain ⟨a, c', rfl, h1, hb⟩ := this
          simp only [spF_len] at h1 ⊢
          exact ⟨a, c', rfl, h1, hb⟩)
        have HSO := Lib.hid (fun b o c W (h : FlatAt W (.slice (some ⟨b, o, none⟩) li.length c) li.length (recs li)) => (implSort_any b o c li W h hnRL).mono (R' := fun e w' => ∃ g c', e = .returned (.tuple #[.slice (some ⟨g, 0, none⟩) li.length c', .bool true]) ∧ CellRow w' g (recs (stb li)) ∧ Below W.heap.size W w') fun e w2 hq => by
          obtain ⟨g, cap, L, rfl, h1, h2, h3, h4, h5⟩ := hq
          obtain rfl : L = stb li := SortedOf.uniq h4 (.inl ⟨hok, stb_of li⟩)
          exact ⟨g, cap, by rw [decide_eq_true hok, stb_len], h3, h5⟩)
        clear hok
        go_wp2_with fail
        refine (HSP.out _ _ _ _ (RL.out.flat hcRL)).mono ?_
        rintro e w_8 ⟨aA, cA, rfl, hf, hb⟩
        have hyA := Lib.hid hf
        have RLz := Lib.hid (RL.out.below hb RL.out.1)
        clear RL
        have RL := RLz
        clear RLz
        have BN := Lib.hid (B0.out.trans (hb.mono B0.out.size))
        clear B0
        have B0 := BN
        clear BN
        have RA := hyA
        clear hyA hf hb HSP
        go_wp2_with fail
        refine (HSO.out _ _ _ _ (RL.out.flat hcRL)).mono ?_
        rintro e w_9 ⟨gRT, cRT, rfl, hrow, hb⟩
        have hyT := Lib.hid hrow
        have RAz := Lib.hid (RA.out.below hb)
        clear RA
        have RA := RAz
        clear RAz
        have RLz := Lib.hid (RL.out.below hb RL.out.1)
        clear RL
        have RL := RLz
        clear RLz
        have BN := Lib.hid (B0.out.trans (hb.mono B0.out.size))
        clear B0
        have B0 := BN
        clear BN
        have RT := hyT
        clear hyT hrow hb HSO
        go_wp2_with fail
        have HAT : Hid (∀ j u, (ints (spF li))[j]? = some u → ∃ b o, aA = some ⟨b, o, none⟩ ∧ b < w_9.heap.size ∧ w_9.cell? ⟨b, o + j, none⟩ = some u) := Lib.hid (by
          obtain ⟨a', c', e, _, h⟩ := RA.out
          simp at e
          obtain ⟨rfl, rfl⟩ := e
          exact h)
        clear RA
        go_loopw [2, 22] (fun _ iv wr => ∃ i m : Nat, i ≤ li.length ∧ iv = .int .i64 (i : Int) ∧ wr = w_9.drewN m) (fun _ iv _ => li.length - (intOf iv).toNat)
        case atStart => exact ⟨0, 0, Nat.zero_le _, rfl, rfl⟩
        case round =>
          obtain ⟨i, m, hi, rfl, rfl⟩ := hrel
          by_cases hlt : i < li.length
          · have hiz : (i : Int) < (li.length : Int) := by omega
            have hid : decide ((i : Int) < (li.length : Int)) = true := decide_eq_true hiz
            obtain ⟨pr, hpr⟩ : ∃ pr, li[i]? = some pr := ⟨_, List.getElem?_eq_getElem hlt⟩
            obtain ⟨hm1, hm2⟩ := stb_rk hlt
            have hsp : (spF li)[i]? = some ((rk li i : Nat) : Int) := by simp [spF, hlt]
            generalize rk li i = q at *
            rw [hpr] at hm2
            obtain ⟨b2, o2, rfl, _, hc0⟩ := HAT.out _ _ (ints_at hsp)
            obtain ⟨hcx, _⟩ := RT.out.2 _ _ (recs_at hm2).1
            obtain ⟨hcy, _⟩ := RT.out.2 _ _ (recs_at hm2).2
            obtain ⟨hdx, _⟩ := RL.out.2 _ _ (recs_at hpr).1
            obtain ⟨hdy, _⟩ := RL.out.2 _ _ (recs_at hpr).2
            have hqz : ¬ (q : Int) < 0 := by omega
            have hqy : ¬ (li.length : Int) ≤ (q : Int) := by omega
            have hqx : (q : Int) < (li.length : Int) := by omega
            have hd1 : decide ((q : Int) < 0) = false := decide_eq_false hqz
            have hd2 : decide ((li.length : Int) ≤ (q : Int)) = false := decide_eq_false hqy
            clear hpr hm2 hsp
            go_wp2_with fail
            go_quiet (fail)
            go_wp2_with fail
            go_roundw
            case rel => exact ⟨i + 1, _, by omega, by go_num, rfl⟩
            case measure => simp [intOf]; omega
          · have hiz : ¬ (i : Int) < (li.length : Int) := by omega
            have hid : decide ((i : Int) < (li.length : Int)) = false := decide_eq_false hiz
            go_wp2_with fail
            go_ret
            exact ⟨rfl, B0.out.trans ⟨rfl, rfl, rfl, Nat.le_refl _, fun _ _ => rfl⟩⟩

set_option maxRecDepth 100000 in
theorem lifted (os : Os) (started : os.Started) (H : Type) (enc : TypeId × Value → H) :
    ReturnsInHanded {} Try.checked os 3 .any (Rows.fnDigitsSpec.pre6 enc Try.prog Try.f3 Rows.fnDigitsRow.domain false) (Rows.fnDigitsSpec.post enc Try.prog Try.f3 false true false false) := by
  refine returnsInHanded_of_change (C := Try.checked) own started (by kernel_rfl) Try.func3
    (ChangeSpec.witness6 (enc := enc) (C := Try.checked) false ⟨#[], #[.slice none 0 0], []⟩ 8 (by kernel_rfl) (by kernel_rfl) (by kernel_rfl) (by kernel_rfl)) ?_
  intro W base args ds gs before hval0 hW hcnd _
  have hval : ∀ (j : Nat) t v, Try.f3.params[j]? = some t → args[j]? = some v → Value.okWide Try.prog W .any base t v := hval0
  have hW' := hW
  obtain ⟨p, q, hA0, hV, rfl, hfz, hnd⟩ := hW
  have hA : DataW.TrodAll enc Try.prog W 0 (fun _ => true) true Try.f3.params.toList args.toList ds p := hA0
  rw [Try.params3] at hA hval
  obtain ⟨v0, vs0, d0, ds0, p0, q0, hargs, rfl, rfl, h0, r0⟩ := trodAll_cons hA
  obtain ⟨rfl, rfl, rfl⟩ := trodAll_nil r0
  obtain rfl : args = #[v0] := by cases args; simp_all
  obtain ⟨rfl, rfl⟩ := trodVars_none hV
  obtain ⟨a0, len0, cap0, rfl⟩ := okWide_slice Try.underlying22 (hval 0 22 v0 rfl rfl)
  have k0 := h0
  have lt0 : ∀ x ∈ p0, x.block < W.heap.size := by obtain ⟨m, hm⟩ := k0; exact DataW.trod_lt m _ _ _ hm
  obtain ⟨z0, w0⟩ : ∃ zs, IsRow .u8 W a0 len0 cap0 zs := by
    obtain ⟨fuel, hf⟩ := h0
    rcases open_ints Try.underlying22 Try.underlying5 (by kernel_rfl) hf with ⟨hcs, _⟩ | ⟨x, l, c, zs, hcs, _, hl, hm, hz, _, hcell, hwz⟩
    · simp [Value.cells] at hcs
      obtain ⟨rfl, rfl, rfl⟩ := hcs
      exact ⟨[], .inl ⟨rfl, rfl, rfl, rfl⟩⟩
    · simp [Value.cells] at hcs
      obtain ⟨rfl, rfl, rfl⟩ := hcs
      exact ⟨zs, .inr ⟨_, rfl, hl, hm, by simpa using hz, hcell, hwz⟩⟩
  clear hA0 hval0
  refine (walk a0 len0 cap0 z0 W w0).mono fun e W' ⟨he, bel⟩ => ?_
  subst he
  exact ⟨_, rfl, _, _, _, [], _, [], hW', trodAll_mk1 (shut_bool Try.underlying4 _), (trodAll_cons_mk (Below.trod laidOut (by kernel_rfl) (of_decide_eq_true (by kernel_rfl)) k0 bel lt0) trodAll_mk0), rfl, bel.frame _, fun h => by cases h⟩

theorem closed : joinedFacts Try.prog 3 Try.f3 Rows.fnDigitsSpec Rows.fnDigitsRow = true := by
  unfold joinedFacts
  rw [head_enter, head_final, head_make]
  kernel_rfl

theorem over : Rows.fnDigitsRow.holds Try.pinned (OpenSpec.ofChange Rows.fnDigitsSpec) :=
  OpenClaim.holds_of_wide 3 Try.f3 rfl rfl rfl rfl rfl rfl rfl ⟨rfl, rfl, rfl, rfl, rfl⟩ rfl rfl rfl rfl rfl (by kernel_rfl) Try.func3 closed
    (of_decide_eq_true (by kernel_rfl)) (by unfold Func.isWrapper; first | (rw [if_pos (by decide +kernel)]; kernel_rfl) | (rw [if_neg (by decide +kernel)]; exact ⟨rfl, rfl⟩))
    (fun os started H enc _ => lifted os started H enc)

theorem proved : Rows.FnDigitsSaid := over
#print axioms proved
end Go.Proofs.Ytagibgphegoagaa.fnDigits
