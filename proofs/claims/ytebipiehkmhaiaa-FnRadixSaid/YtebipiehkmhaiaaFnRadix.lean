/- FnRadix returns true at every input. No condition. -/
import Derived.Test.YtebipiehkmhaiaaRows
import Derived.WalkKit
import Derived.ProofKit
import Derived.OpenShut
import Derived.ShutString
import Derived.ChangeOld
import Derived.Below
import Derived.SliceStrings
import Derived.Test.YtebipiehkmhaiaaHead
import Derived.Test.YtebipiehkmhaiaaVKeys
import Derived.Test.YtebipiehkmhaiaaVRecs
import Derived.Test.YtebipiehkmhaiaaVAt
import Derived.Test.YtebipiehkmhaiaaFrAll
import Derived.Test.YtebipiehkmhaiaaCode
namespace Go.Proofs.Ytebipiehkmhaiaa.fnRadix
open Go.ChangeShapes Go.WideShapes Go.ChangeAt Go.RowKit
open Go.ChangeMaps (open_string shut_string)
set_option linter.unusedVariables false

theorem own : ownKnob Try.prog.godebug = none := by kernel_rfl
theorem laidOut : laidOutB Try.prog = true := by kernel_rfl

def IsRow (k : IntKind) (w : World) (a : Option Addr) (len cap : Nat) (zs : List Int) : Prop :=
  (a = none ∧ len = 0 ∧ cap = 0 ∧ zs = []) ∨
  ∃ x, a = some x ∧ len ≤ cap ∧ cap ≤ maxLen ∧ zs.length = cap ∧ (∀ i, i < zs.length → w.cell? (x.add i) = some (.int k (zs.getD i 0))) ∧ ∀ n ∈ zs, (Lit.int k n).wf = true

attribute [local go_sem ↓ high] builtin_append_held

theorem code_of {w : World} {a : Option Addr} {len cap : Nat} {zs : List Int} (h : IsRow .u8 w a len cap zs) : Code0 w a len := by
  intro k hk
  rcases h with ⟨_, rfl, _⟩ | ⟨x, rfl, hlc, _, hz, hc, hw⟩
  · omega
  · have hkz : k < zs.length := by omega
    have hd : zs.getD k 0 = zs[k] := by simp [List.getD, hkz]
    have hm := hw zs[k] (List.getElem_mem hkz)
    have hcell := hc k hkz
    rw [hd] at hcell
    have hlt := World.block_lt_of_cell? w _ hcell
    have hbk := Go.ChangeShapes.block_add x k
    have hr := bounds_u8 hm
    exact ⟨x, zs[k], rfl, by omega, hcell, hr.1, hr.2⟩

theorem vbig_no (a : Option Addr) (len cap : Nat) (w : World) (h : len ≤ 65536) : Calls Try.prog 16 #[.slice a len cap] w fun e w' => e = .returned (.bool false) ∧ w' = w := by
  go_enter Try.func16, Try.ntmps16
  have hq : decide ((65536 : Int) < (len : Int)) = false := decide_eq_false (by omega)
  go_wp2
  go_ret
  exact ⟨by rw [← hq]; rfl, rfl⟩

set_option maxRecDepth 100000 in
set_option maxHeartbeats 40000000 in
theorem walk (a : Option Addr) (len cap : Nat) (z : List Int) (w : World) (w0 : IsRow .u8 w a len cap z) :
    Calls Try.prog 4 #[.slice a len cap] w fun e w' => e = .returned (.bool true) ∧ Below w.heap.size w w' := by
  have hlen : len ≤ maxLen := by
    rcases w0 with ⟨_, rfl, _⟩ | ⟨x, _, h1, h2, _⟩ <;> omega
  unfold maxLen at hlen
  have HCODE := Lib.hid (code_of w0)
  clear w0
  by_cases hbig : 65536 < len
  · clear HCODE
    go_enter Try.func4, Try.ntmps4
    go_wp2
    go_ret
    exact ⟨rfl, Below.refl _ _⟩
  · go_enter Try.func4, Try.ntmps4
    go_wp2_with fail
    refine (vbig_no a len cap _ (by omega)).mono ?_
    rintro e w0 ⟨rfl, rfl⟩
    have HLEN : Hid (len ≤ 65536) := Lib.hid (by omega)
    clear hlen hbig
    have B0 : Hid (Below w0.heap.size w0 w0) := Lib.hid (Below.refl _ _)
    have HCODE0 := HCODE
    go_wp2_with fail
    refine (vKeys_any a len cap _ HCODE.out).mono ?_
    rintro e w_1 ⟨gRL, cRL, li, hok, rfl, hcRL, hrow, hb⟩
    have RL := Lib.hid hrow
    have hnRL : li.length ≤ 1048576 := by have := hok.1; omega
    have BN := Lib.hid (B0.out.trans (hb.mono B0.out.size))
    clear B0
    have B0 := BN
    clear BN
    clear hrow hb HCODE
    have HCODE := Lib.hid (HCODE0.out.below B0.out)
    go_wp2_with fail
    refine (vAt_any a len cap 0 _ HCODE.out (by omega) (by have := HLEN.out; omega)).mono ?_
    rintro e w_2 ⟨⟨rz, h0, h1, rfl⟩, rfl⟩
    obtain ⟨r, rfl⟩ : ∃ n : Nat, rz = n := ⟨rz.toNat, by omega⟩
    obtain ⟨q, hq⟩ : ∃ n, n = r % 255 := ⟨_, rfl⟩
    have ql : q < 255 := by omega
    have qe : (r : Int) % 255 = (q : Int) := by omega
    have qt : Int.tmod (r : Int) 255 = (q : Int) := by rw [Int.tmod_eq_emod_of_nonneg (by omega)]; exact qe
    obtain ⟨n, hn⟩ : ∃ n, n = q + 2 := ⟨_, rfl⟩
    have hn2 : 2 ≤ n := by omega
    have hn256 : n ≤ 256 := by omega
    have qb : (2 : Int) + (q : Int) = (n : Int) := by omega
    clear h0 h1 hq HCODE hn
    have hOKB : OkB (n : Int) := ⟨by omega, by omega⟩
    have hst0 := passes_stb (b := n) hok (by omega)
    have hm18 := most_18 (b := n) hok (by omega)
    obtain ⟨P, hP⟩ : ∃ P : Nat → List (Int × Int), P = fun k => Rx.passes (fun p : Int × Int => sk p.1) n li k := ⟨_, rfl⟩
    obtain ⟨S, hS⟩ : ∃ S, S = stb li := ⟨_, rfl⟩
    obtain ⟨m, hm⟩ : ∃ m, m = Rx.most n (sks li) := ⟨_, rfl⟩
    have hSO := stb_of li
    rw [← hS] at hSO hst0
    rw [← hm] at hm18 hst0
    have hst : P m = S := by rw [hP]; exact hst0
    have hP0 : P 0 = li := by rw [hP]; rfl
    have hPS : ∀ k, P (k + 1) = Rx.bk (dgR n k) (P k) n := fun k => by rw [hP]; rfl
    have hPO : ∀ k, Stab.Of (fun p : Int × Int => ((sk p.1 % n ^ k : Nat) : Int)) li (P k) := fun k => by rw [hP]; exact Rx.passes_of (key := fun p : Int × Int => sk p.1) (by omega) li k
    have hPl : ∀ k, (P k).length = li.length := fun k => (hPO k).length
    have hPok : ∀ k, OkR (P k) := fun k => ⟨by rw [hPl]; exact hok.1, fun p hp => hok.2 p (((hPO k).mem p).1 hp)⟩
    have hsl : S.length = li.length := hSO.length
    have hli : li.length ≤ 64 := hok.1
    have hsn : S.length ≤ 1048576 := by omega
    have HRS : Hid (∀ b o c W, FlatAt W (.slice (some ⟨b, o, none⟩) li.length c) li.length (recs li) → Calls Try.prog 25 #[.slice (some ⟨b, o, none⟩) li.length c, .int .i64 (n : Int)] W (RetFC1 (S, (m : Int), true) W)) := Lib.hid (fun b o c W h => by
      have := (implRs_any b o c li (n : Int) W h hnRL).mono fun e w2 hq => hq.flat
      rw [rsAll_yes ⟨hok, hOKB⟩, Int.toNat_natCast, ← hS, ← hm] at this; exact this)
    have HSO : Hid (∀ b o c W, FlatAt W (.slice (some ⟨b, o, none⟩) li.length c) li.length (recs li) → Calls Try.prog 21 #[.slice (some ⟨b, o, none⟩) li.length c] W fun e w' => ∃ g cap, e = .returned (.tuple #[.slice (some ⟨g, 0, none⟩) S.length cap, .bool true]) ∧ S.length ≤ cap ∧ W.heap.size ≤ g ∧ CellRow w' g (recs S) ∧ Below W.heap.size W w') := Lib.hid (fun b o c W h => (implSort_any b o c li W h hnRL).mono fun e w2 hq => by
      obtain ⟨g, cap, L, rfl, h1, h2, h3, h4, h5⟩ := hq
      obtain rfl : L = S := SortedOf.uniq h4 (.inl ⟨hok, hSO⟩)
      exact ⟨g, cap, by rw [decide_eq_true hok], h1, h2, h3, h5⟩)
    have HPN : Hid (∀ b o c W, FlatAt W (.slice (some ⟨b, o, none⟩) li.length c) li.length (recs li) → Calls Try.prog 26 #[.slice (some ⟨b, o, none⟩) li.length c, .int .i64 (n : Int)] W fun e w' => e = .returned (.tuple #[.int .i64 (m : Int), .bool true]) ∧ Below W.heap.size W w') := Lib.hid (fun b o c W h => by
      have := implPn_any b o c li (n : Int) W h hnRL
      rw [pnAll_yes ⟨hok, hOKB⟩, Int.toNat_natCast, ← hm] at this; exact this)
    have HRP : Hid (∀ k, k < m → ∀ b o c W, FlatAt W (.slice (some ⟨b, o, none⟩) li.length c) li.length (recs (P k)) → Calls Try.prog 27 #[.slice (some ⟨b, o, none⟩) li.length c, .int .i64 (n : Int), .int .i64 (k : Int)] W fun e w' => ∃ g cap, e = .returned (.tuple #[.slice (some ⟨g, 0, none⟩) li.length cap, .bool true]) ∧ li.length ≤ cap ∧ W.heap.size ≤ g ∧ CellRow w' g (recs (P (k + 1))) ∧ Below W.heap.size W w') := Lib.hid (fun k hk b o c W h => by
      have := implRpY_any b o c (P k) n k W (by rw [hPl]; exact h) (hPok k) (by omega) (by omega) (by omega)
      rw [← hPS, hPl] at this
      refine this.mono fun e w2 hq => ?_
      obtain ⟨g, cap, rfl, h1, h2, h3, h4⟩ := hq
      simp only [hPl] at h1 ⊢
      exact ⟨g, cap, rfl, h1, h2, h3, h4⟩)
    have HDC : Hid (∀ k, k < m → ∀ b o c W, FlatAt W (.slice (some ⟨b, o, none⟩) li.length c) li.length (recs (P k)) → Calls Try.prog 28 #[.slice (some ⟨b, o, none⟩) li.length c, .int .i64 (n : Int), .int .i64 (k : Int)] W fun e w' => ∃ a cap, e = .returned (.tuple #[.slice a n cap, .bool true]) ∧ FlatAt w' (.slice a n cap) n (ints (rng (Rx.cnt (dgR n k) (P k)) n)) ∧ Below W.heap.size W w') := Lib.hid (fun k hk b o c W h => by
      have := (implDc_any b o c (P k) (n : Int) (k : Int) W (by rw [hPl]; exact h) (by rw [hPl]; exact hnRL)).mono fun e w2 hq => hq.flat
      rw [dcAll_yes ⟨hPok k, hOKB, by omega, by omega⟩, Int.toNat_natCast, Int.toNat_natCast, hPl] at this
      refine this.mono fun e w2 hq => ?_
      obtain ⟨a, cap, rfl, h1, h2⟩ := hq
      have hl : (rng (Rx.cnt (dgR n k) (P k)) n).length = n := rng_length _ _
      have hl2 : ((List.range n).map fun d => (Rx.cnt (dgR n k) (P k) d : Int)).length = n := hl
      simp only [hl2] at h1 ⊢
      exact ⟨a, cap, rfl, h1, h2⟩)
    have HSUM : Hid (∀ k v W, FlatAt W v n (ints (rng (Rx.cnt (dgR n k) (P k)) n)) → Calls Try.prog 29 #[v] W fun e w' => e = .returned (.int .i64 (li.length : Int)) ∧ Below W.heap.size W w') := Lib.hid (fun k v W h => by
      have := rSum_any (dgR n k) (P k) n v W h (by omega) (by rw [hPl]; exact hli) (fun x _ => Rx.dg_lt (by omega) k _)
      rw [hPl] at this; exact this)
    have HDF : Hid (∀ k i, k < m → i < li.length → ∀ W, Calls Try.prog 30 #[.int .i64 ((P (k + 1)).getD i (0, 0)).1, .int .i64 (n : Int), .int .i64 (k : Int)] W fun e w' => e = .returned (.tuple #[.int .i64 ((dgR n k ((P (k + 1)).getD i (0, 0)) : Nat) : Int), .bool true]) ∧ Below W.heap.size W w') := Lib.hid (fun k i hk hi W => by
      have hmem : (P (k + 1)).getD i (0, 0) ∈ P (k + 1) := by
        have h2 : i < (P (k + 1)).length := by rw [hPl]; exact hi
        simp only [List.getD, List.getElem?_eq_getElem h2, Option.getD_some]; exact List.getElem_mem h2
      have := implDof_any ((P (k + 1)).getD i (0, 0)).1 (n : Int) (k : Int) W
      rw [dofAll_yes ⟨(hPok (k + 1)).key hmem, hOKB, by omega, by omega⟩, Int.toNat_natCast, Int.toNat_natCast] at this; exact this)
    have HOR : Hid (∀ k i j, i < j → j < li.length → dgR n k ((P (k + 1)).getD i (0, 0)) ≤ dgR n k ((P (k + 1)).getD j (0, 0))) := Lib.hid (fun k i j hij hj => by
      have hs := Rx.bk_sorted (dgR n k) (P k) n
      rw [← hPS] at hs
      have hj2 : j < (P (k + 1)).length := by rw [hPl]; exact hj
      have hi2 : i < (P (k + 1)).length := by omega
      simp only [List.getD, List.getElem?_eq_getElem hj2, List.getElem?_eq_getElem hi2, Option.getD_some]
      exact List.pairwise_iff_getElem.1 hs i j hi2 hj2 hij)
    have HSL : Hid (S.length = li.length) := Lib.hid hsl
    have HPL := Lib.hid hPl
    have HPM : Hid (P m = S) := Lib.hid hst
    have HP0 : Hid (P 0 = li) := Lib.hid hP0
    clear hok hOKB hst hst0 hP hS hm hSO hP0 hPS hPO hPl hPok hsl
    go_wp2_with fail
    refine (HRS.out _ _ _ _ (RL.out.flat hcRL)).mono ?_
    rintro e w_3 ⟨aRS, cRS, rfl, hf, hb⟩
    simp only at hf
    have hyRS := Lib.hid hf
    have RLz := Lib.hid (RL.out.below hb RL.out.1)
    clear RL
    have RL := RLz
    clear RLz
    have BN := Lib.hid (B0.out.trans (hb.mono B0.out.size))
    clear B0
    have B0 := BN
    clear BN
    have RS := hyRS
    clear hyRS hf hb HRS qe qt qb
    go_wp2_with fail
    refine (HSO.out _ _ _ _ (RL.out.flat hcRL)).mono ?_
    rintro e w_4 ⟨gRT, cRT, rfl, hcRT, hg, hrow, hb⟩
    have hyRT := Lib.hid hrow
    have RSz := Lib.hid (RS.out.below hb)
    clear RS
    have RS := RSz
    clear RSz
    have RLz := Lib.hid (RL.out.below hb RL.out.1)
    clear RL
    have RL := RLz
    clear RLz
    have BN := Lib.hid (B0.out.trans (hb.mono B0.out.size))
    clear B0
    have B0 := BN
    clear BN
    have RT := hyRT
    clear hyRT hrow hb hg HSO
    go_wp2_with fail
    refine (HPN.out _ _ _ _ (RL.out.flat hcRL)).mono ?_
    rintro e w_5 ⟨rfl, hb⟩
    have RSz := Lib.hid (RS.out.below hb)
    clear RS
    have RS := RSz
    clear RSz
    have RLz := Lib.hid (RL.out.below hb RL.out.1)
    clear RL
    have RL := RLz
    clear RLz
    have RTz := Lib.hid (RT.out.below hb RT.out.1)
    clear RT
    have RT := RTz
    clear RTz
    have BN := Lib.hid (B0.out.trans (hb.mono B0.out.size))
    clear B0
    have B0 := BN
    clear BN
    clear hb
    clear HPN
    go_wp2_with fail
    refine (vRecords_yes _ _ S _ RS.out (RT.out.flat hcRT) hsn).mono ?_
    rintro e w_6 ⟨rfl, hb⟩
    have RSz := Lib.hid (RS.out.below hb)
    clear RS
    have RS := RSz
    clear RSz
    have RLz := Lib.hid (RL.out.below hb RL.out.1)
    clear RL
    have RL := RLz
    clear RLz
    have RTz := Lib.hid (RT.out.below hb RT.out.1)
    clear RT
    have RT := RTz
    clear RTz
    have BN := Lib.hid (B0.out.trans (hb.mono B0.out.size))
    clear B0
    have B0 := BN
    clear BN
    clear hb
    clear RS
    obtain ⟨gN, cN, wN, hrun, hcN, hgN, hrowN, hbN⟩ := appendRecs gRL 0 cRL li _ (RL.out.flat hcRL) hnRL
    have HRN := Lib.hid hrowN
    have hb := hbN
    have RLz := Lib.hid (RL.out.below hb RL.out.1)
    clear RL
    have RL := RLz
    clear RLz
    have RTz := Lib.hid (RT.out.below hb RT.out.1)
    clear RT
    have RT := RTz
    clear RTz
    have BN := Lib.hid (B0.out.trans (hb.mono B0.out.size))
    clear B0
    have B0 := BN
    clear BN
    clear hb hgN hrowN hbN
    clear RL
    go_wp2_with fail
    clear hrun
    go_loopw [2, 12, 13, 14, 15, 16, 17, 18, 19, 20, 21, 22] (fun _ nv kv _ _ _ _ _ _ _ _ _ wr => ∃ (k g cg : Nat), k ≤ m ∧ kv = .int .i64 (k : Int) ∧ nv = .slice (some ⟨g, 0, none⟩) li.length cg ∧ li.length ≤ cg ∧ CellRow wr g (recs (P k)) ∧ Below wN.heap.size wN wr) (fun _ _ kv _ _ _ _ _ _ _ _ _ _ => m - (intOf kv).toNat)
    case atStart => exact ⟨0, gN, cN, Nat.zero_le _, rfl, rfl, hcN, by rw [HP0.out]; exact HRN.out, Below.refl _ _⟩
    case round =>
      obtain ⟨k, g, cg, hk, rfl, rfl, hcg, hrow, hb⟩ := hrel
      have HB := Lib.hid hb
      have HR := Lib.hid hrow
      have HCG := Lib.hid hcg
      clear hb hrow hcg HRN
      by_cases hlt : k < m
      · have hltz : (k : Int) < (m : Int) := by omega
        have hltd : decide ((k : Int) < (m : Int)) = true := decide_eq_true hltz
        have HK : Hid (k < m) := Lib.hid hlt
        have HR1 := Lib.hid (HRP.out k hlt)
        have HD1 := Lib.hid (HDC.out k hlt)
        have HS1 := Lib.hid (HSUM.out k)
        have HF1 := Lib.hid (fun i => HDF.out k i hlt)
        have HO1 := Lib.hid (HOR.out k)
        have HL1 := Lib.hid (HPL.out (k + 1))
        clear HRP HDC HSUM HDF HOR HPM HP0 RT B0
        generalize dgR n k = D at *
        obtain ⟨Q, hQ⟩ : ∃ Q, Q = P (k + 1) := ⟨_, rfl⟩
        rw [← hQ] at HR1 HF1 HO1 HL1
        have HQ := Lib.hid hQ
        clear hQ
        go_wp2_with fail
        refine (HR1.out _ _ _ _ (HR.out.flat HCG.out)).mono ?_
        rintro e w_a ⟨g2, c2, rfl, hc2, hg2, hrow2, hba⟩
        have R2 := Lib.hid hrow2
        have RA := Lib.hid (HR.out.below hba HR.out.1)
        have BA := Lib.hid (HB.out.trans (hba.mono HB.out.size))
        clear hrow2 hba hg2 HR HB HR1
        go_wp2_with fail
        refine (HD1.out _ _ _ _ (RA.out.flat HCG.out)).mono ?_
        rintro e w_b ⟨aC, cC, rfl, hfC, hbb⟩
        have FC := Lib.hid hfC
        have R3 := Lib.hid (R2.out.below hbb R2.out.1)
        have BB := Lib.hid (BA.out.trans (hbb.mono BA.out.size))
        clear hfC hbb R2 RA BA HD1
        go_wp2_with fail
        refine (HS1.out _ _ FC.out).mono ?_
        rintro e w_c ⟨rfl, hbc⟩
        have R4 := Lib.hid (R3.out.below hbc R3.out.1)
        have BC := Lib.hid (BB.out.trans (hbc.mono BB.out.size))
        clear hbc R3 BB FC HS1
        go_wp2_with fail
        skip
        go_loopw [2, 18, 19, 20, 21, 22] (fun _ iv _ _ _ _ ws => ∃ i : Nat, iv = .int .i64 (i : Int) ∧ 1 ≤ i ∧ (i ≤ li.length ∨ i = 1) ∧ CellRow ws g2 (recs Q) ∧ Below wN.heap.size wN ws) (fun _ iv _ _ _ _ _ => li.length - (intOf iv).toNat)
        case atStart => exact ⟨1, rfl, Nat.le_refl _, .inr rfl, R4.out, BC.out⟩
        case round =>
          obtain ⟨i, rfl, hi1, hiS, hrow, hb⟩ := hrel
          have RI := Lib.hid hrow
          have HBI := Lib.hid hb
          clear hrow hb R4 BC
          by_cases hil : i < li.length
          · have hiz : (i : Int) < (li.length : Int) := by omega
            have hid : decide ((i : Int) < (li.length : Int)) = true := decide_eq_true hiz
            obtain ⟨j, hj⟩ : ∃ j, j = i - 1 := ⟨_, rfl⟩
            have hjz : (i : Int) - 1 = (j : Int) := by omega
            have hjS : (j : Int) < (li.length : Int) := by omega
            have hjn : j < li.length := by omega
            have hji : j < i := by omega
            clear hj
            obtain ⟨x, hx⟩ : ∃ x, x = Q.getD j (0, 0) := ⟨_, rfl⟩
            obtain ⟨y, hy⟩ : ∃ y, y = Q.getD i (0, 0) := ⟨_, rfl⟩
            have hjQ : Q[j]? = some x := by have h2 : j < Q.length := by { rw [HL1.out]; exact hjn }; rw [hx]; simp [List.getD, List.getElem?_eq_getElem h2]
            have hiQ : Q[i]? = some y := by have h2 : i < Q.length := by { rw [HL1.out]; exact hil }; rw [hy]; simp [List.getD, List.getElem?_eq_getElem h2]
            obtain ⟨hcx, _⟩ := RI.out.2 _ _ (recs_at hjQ).1
            obtain ⟨hcy, _⟩ := RI.out.2 _ _ (recs_at hiQ).1
            have hle := HO1.out j i hji hil
            rw [← hx, ← hy] at hle
            have HDX := HF1.out j hjn
            have HDY := HF1.out i hil
            rw [← hx] at HDX
            rw [← hy] at HDY
            replace HDX := Lib.hid HDX
            replace HDY := Lib.hid HDY
            generalize D x = u at HDX hle
            generalize D y = v at HDY hle
            have hno : ¬ (v : Int) < (u : Int) := by omega
            have hnd : decide ((v : Int) < (u : Int)) = false := decide_eq_false hno
            have HCY : Hid (∀ W, Below wr.heap.size wr W → W.cell? ⟨g2, i * 2, none⟩ = some (.int .i64 y.1)) := Lib.hid (fun W hW => (hW.cell (p := ⟨g2, i * 2, none⟩) RI.out.1).trans hcy)
            clear hx hy hle hcy hjQ hiQ
            go_wp2_with fail
            refine (HDX.out _).mono ?_
            rintro e w_d ⟨rfl, hbd⟩
            have hcy2 := HCY.out w_d hbd
            have HBD := Lib.hid hbd
            clear hbd hcx HCY
            go_wp2_with fail
            refine (HDY.out _).mono ?_
            rintro e w_e ⟨rfl, hbe⟩
            have hbt : Below wr.heap.size wr w_e := HBD.out.trans (hbe.mono HBD.out.size)
            have HN : Hid (CellRow w_e g2 (recs Q) ∧ Below wN.heap.size wN w_e) := Lib.hid ⟨RI.out.below hbt RI.out.1, HBI.out.trans (hbt.mono HBI.out.size)⟩
            clear hbe hbt hcy2 HBD RI HBI
            go_wp2_with fail
            go_roundw
            case rel => exact ⟨i + 1, by go_num, by omega, .inl (by omega), HN.out.1, HN.out.2⟩
            case measure => simp [intOf]; omega
          · have hiz : ¬ (i : Int) < (li.length : Int) := by omega
            have hid : decide ((i : Int) < (li.length : Int)) = false := decide_eq_false hiz
            go_wp2_with fail
            go_roundw
            case rel => exact ⟨k + 1, g2, c2, HK.out, by go_num, rfl, hc2, by rw [← HQ.out]; exact RI.out, HBI.out⟩
            case measure => have := HK.out; simp [intOf]; omega
      · obtain rfl : k = m := by omega
        have hltz : ¬ (k : Int) < (k : Int) := by omega
        have hltd : decide ((k : Int) < (k : Int)) = false := decide_eq_false hltz
        have HRE : Hid (CellRow wr g (recs S)) := Lib.hid (by rw [← HPM.out]; exact HR.out)
        have RTe := Lib.hid (RT.out.below HB.out RT.out.1)
        have BE := Lib.hid (B0.out.trans (HB.out.mono B0.out.size))
        have hcg2 : S.length ≤ cg := by rw [HSL.out]; exact HCG.out
        have HF2 : Hid (FlatAt wr (.slice (some ⟨g, 0, none⟩) li.length cg) S.length (recs S)) := Lib.hid (by have := HRE.out.flat hcg2; rw [HSL.out] at this ⊢; exact this)
        clear HRP HDC HSUM HDF HOR HP0 RT B0 HR HB
        go_wp2_with fail
        refine (vRecords_yes _ _ S _ HF2.out (by have := RTe.out.flat hcRT; rw [HSL.out] at this ⊢; exact this) hsn).mono ?_
        rintro e w_z ⟨rfl, hbz⟩
        have BZ := Lib.hid (BE.out.trans (hbz.mono BE.out.size))
        clear hbz BE
        go_wp2_with fail
        go_ret
        exact ⟨rfl, BZ.out⟩

set_option maxRecDepth 100000 in
theorem lifted (os : Os) (started : os.Started) (H : Type) (enc : TypeId × Value → H) :
    ReturnsInHanded {} Try.checked os 4 .any (Rows.fnRadixSpec.pre6 enc Try.prog Try.f4 Rows.fnRadixRow.domain false) (Rows.fnRadixSpec.post enc Try.prog Try.f4 false true false false) := by
  refine returnsInHanded_of_change (C := Try.checked) own started (by kernel_rfl) Try.func4
    (ChangeSpec.witness6 (enc := enc) (C := Try.checked) false ⟨#[], #[.slice none 0 0], []⟩ 8 (by kernel_rfl) (by kernel_rfl) (by kernel_rfl) (by kernel_rfl)) ?_
  intro W base args ds gs before hval0 hW hcnd _
  have hval : ∀ (j : Nat) t v, Try.f4.params[j]? = some t → args[j]? = some v → Value.okWide Try.prog W .any base t v := hval0
  have hW' := hW
  obtain ⟨p, q, hA0, hV, rfl, hfz, hnd⟩ := hW
  have hA : DataW.TrodAll enc Try.prog W 0 (fun _ => true) true Try.f4.params.toList args.toList ds p := hA0
  rw [Try.params4] at hA hval
  obtain ⟨v0, vs0, d0, ds0, p0, q0, hargs, rfl, rfl, h0, r0⟩ := trodAll_cons hA
  obtain ⟨rfl, rfl, rfl⟩ := trodAll_nil r0
  obtain rfl : args = #[v0] := by cases args; simp_all
  obtain ⟨rfl, rfl⟩ := trodVars_none hV
  obtain ⟨a0, len0, cap0, rfl⟩ := okWide_slice Try.underlying22 (hval 0 22 v0 rfl rfl)
  have k0 := h0
  have lt0 : ∀ x ∈ p0, x.block < W.heap.size := by obtain ⟨m, hm⟩ := k0; exact DataW.trod_lt m _ _ _ hm
  obtain ⟨z0, w0⟩ : ∃ zs, IsRow .u8 W a0 len0 cap0 zs := by
    obtain ⟨fuel, hf⟩ := h0
    rcases open_ints Try.underlying22 Try.underlying5 (by kernel_rfl) hf with ⟨hcs, _⟩ | ⟨x, l, c, zs, hcs, _, hl, hm, hz, _, hcell, hwz⟩
    · simp [Value.cells] at hcs
      obtain ⟨rfl, rfl, rfl⟩ := hcs
      exact ⟨[], .inl ⟨rfl, rfl, rfl, rfl⟩⟩
    · simp [Value.cells] at hcs
      obtain ⟨rfl, rfl, rfl⟩ := hcs
      exact ⟨zs, .inr ⟨_, rfl, hl, hm, by simpa using hz, hcell, hwz⟩⟩
  clear hA0 hval0
  refine (walk a0 len0 cap0 z0 W w0).mono fun e W' ⟨he, bel⟩ => ?_
  subst he
  exact ⟨_, rfl, _, _, _, [], _, [], hW', trodAll_mk1 (shut_bool Try.underlying4 _), (trodAll_cons_mk (Below.trod laidOut (by kernel_rfl) (of_decide_eq_true (by kernel_rfl)) k0 bel lt0) trodAll_mk0), rfl, bel.frame _, fun h => by cases h⟩

theorem closed : joinedFacts Try.prog 4 Try.f4 Rows.fnRadixSpec Rows.fnRadixRow = true := by
  unfold joinedFacts
  rw [head_enter, head_final, head_make]
  kernel_rfl

theorem over : Rows.fnRadixRow.holds Try.pinned (OpenSpec.ofChange Rows.fnRadixSpec) :=
  OpenClaim.holds_of_wide 4 Try.f4 rfl rfl rfl rfl rfl rfl rfl ⟨rfl, rfl, rfl, rfl, rfl⟩ rfl rfl rfl rfl rfl (by kernel_rfl) Try.func4 closed
    (of_decide_eq_true (by kernel_rfl)) (by unfold Func.isWrapper; first | (rw [if_pos (by decide +kernel)]; kernel_rfl) | (rw [if_neg (by decide +kernel)]; exact ⟨rfl, rfl⟩))
    (fun os started H enc _ => lifted os started H enc)

theorem proved : Rows.FnRadixSaid := over
#print axioms proved
end Go.Proofs.Ytebipiehkmhaiaa.fnRadix
