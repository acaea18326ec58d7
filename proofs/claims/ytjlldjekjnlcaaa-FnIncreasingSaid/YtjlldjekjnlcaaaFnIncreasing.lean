/- FnIncreasing returns true at every input. No condition. -/
import Derived.Test.YtjlldjekjnlcaaaRows
import Derived.WalkKit
import Derived.ProofKit
import Derived.OpenShut
import Derived.ShutString
import Derived.ChangeOld
import Derived.Below
import Derived.SliceStrings
import Derived.Test.YtjlldjekjnlcaaaHead
import Derived.Test.YtjlldjekjnlcaaaRJoin
import Derived.Test.YtjlldjekjnlcaaaVOrd
import Derived.Test.YtjlldjekjnlcaaaVLst
import Derived.Test.YtjlldjekjnlcaaaVInts
import Derived.Test.YtjlldjekjnlcaaaILi
import Derived.Test.YtjlldjekjnlcaaaIPp
import Derived.Test.YtjlldjekjnlcaaaLisP
import Derived.Test.YtjlldjekjnlcaaaCode
namespace Go.Proofs.Ytjlldjekjnlcaaa.fnIncreasing
open Go.ChangeShapes Go.WideShapes Go.ChangeAt Go.RowKit
open Go.ChangeMaps (open_string shut_string)
set_option linter.unusedVariables false

theorem own : ownKnob Try.prog.godebug = none := by kernel_rfl
theorem laidOut : laidOutB Try.prog = true := by kernel_rfl

def IsRow (k : IntKind) (w : World) (a : Option Addr) (len cap : Nat) (zs : List Int) : Prop :=
  (a = none ∧ len = 0 ∧ cap = 0 ∧ zs = []) ∨
  ∃ x, a = some x ∧ len ≤ cap ∧ cap ≤ maxLen ∧ zs.length = cap ∧ (∀ i, i < zs.length → w.cell? (x.add i) = some (.int k (zs.getD i 0))) ∧ ∀ n ∈ zs, (Lit.int k n).wf = true

theorem code_of {w : World} {a : Option Addr} {len cap : Nat} {zs : List Int} (h : IsRow .u8 w a len cap zs) : Code0 w a len := by
  intro k hk
  rcases h with ⟨_, rfl, _⟩ | ⟨x, rfl, hlc, _, hz, hc, hw⟩
  · omega
  · have hkz : k < zs.length := by omega
    have hd : zs.getD k 0 = zs[k] := by simp [List.getD, hkz]
    have hm := hw zs[k] (List.getElem_mem hkz)
    have hcell := hc k hkz
    rw [hd] at hcell
    have hlt := World.block_lt_of_cell? w _ hcell
    have hbk := Go.ChangeShapes.block_add x k
    have hr := bounds_u8 hm
    exact ⟨x, zs[k], rfl, by omega, hcell, hr.1, hr.2⟩

theorem vbig_no (a : Option Addr) (len cap : Nat) (w : World) (h : len ≤ 65536) : Calls Try.prog 16 #[.slice a len cap] w fun e w' => e = .returned (.bool false) ∧ w' = w := by
  go_enter Try.func16, Try.ntmps16
  have hq : decide ((65536 : Int) < (len : Int)) = false := decide_eq_false (by omega)
  go_wp2
  go_ret
  exact ⟨by rw [← hq]; rfl, rfl⟩

set_option maxRecDepth 100000 in
set_option maxHeartbeats 40000000 in
theorem walk (a : Option Addr) (len cap : Nat) (z : List Int) (w : World) (w0 : IsRow .u8 w a len cap z) :
    Calls Try.prog 5 #[.slice a len cap] w fun e w' => e = .returned (.bool true) ∧ Below w.heap.size w w' := by
  have hlen : len ≤ maxLen := by
    rcases w0 with ⟨_, rfl, _⟩ | ⟨x, _, h1, h2, _⟩ <;> omega
  unfold maxLen at hlen
  have HCODE := Lib.hid (code_of w0)
  clear w0
  by_cases hbig : 65536 < len
  · clear HCODE
    go_enter Try.func5, Try.ntmps5
    go_wp2
    go_ret
    exact ⟨rfl, Below.refl _ _⟩
  · go_enter Try.func5, Try.ntmps5
    go_wp2_with fail
    refine (vbig_no a len cap _ (by omega)).mono ?_
    rintro e w0 ⟨rfl, rfl⟩
    clear hlen hbig
    have B0 : Hid (Below w0.heap.size w0 w0) := Lib.hid (Below.refl _ _)
    have HCODE0 := HCODE
    go_wp2_with fail
    refine (vList_any a len cap _ HCODE.out).mono ?_
    rintro e w_1 ⟨gRL, cRL, li, hok, rfl, hcRL, hrow, hb⟩
    have RL := Lib.hid hrow
    have hnRL : li.length ≤ 1048576 := by have := hok.1; omega
    have BN := Lib.hid (B0.out.trans (hb.mono B0.out.size))
    clear B0
    have B0 := BN
    clear BN
    clear hrow hb HCODE
    clear HCODE0
    obtain ⟨D, hD⟩ : ∃ D, D = Iv.pk (Iv.lis li) (Iv.best (Iv.lis li)) 0 := ⟨_, rfl⟩
    obtain ⟨M, hM⟩ : ∃ M, M = Iv.deal li := ⟨_, rfl⟩
    obtain ⟨Z, hZ⟩ : ∃ Z, Z = P.nats D := ⟨_, rfl⟩
    obtain ⟨N, hN⟩ : ∃ N, N = D.length := ⟨_, rfl⟩
    have hLI : Iv.liF li = (Z, true) := by rw [Iv.liF_yes hok, hZ, hD]; rfl
    have hPP : Iv.ppF li = (M, true) := by rw [Iv.ppF_yes hok, hM]
    obtain ⟨g1, g2, g3, _⟩ := Iv.pk_good li (Iv.best (Iv.lis li)) 0 (Iv.best_nonneg _) (Int.le_refl _)
    rw [← hD] at g1 g2 g3
    have hZl : Z.length = N := by rw [hZ, P.nats_length, hN]
    have hMl : M.length = N := by
      have h1 := Iv.deal_count li
      rw [← hM] at h1
      omega
    have h64 := hok.1
    have hN64 : N ≤ 64 := by
      have := Iv.pk_len (Iv.lis li) (Iv.best (Iv.lis li)) 0
      rw [← hD, Iv.lis_length] at this; omega
    obtain ⟨m1, m2⟩ := Iv.deal_good li
    rw [← hM] at m1 m2
    have hne : ∀ p ∈ M, p ≠ [] := fun p hp => (m2 p hp).1
    have hfl : M.flatten.length ≤ 64 := by rw [m1.length_eq]; exact h64
    obtain ⟨J, hJ⟩ : ∃ J, J = M.flatten := ⟨_, rfl⟩
    have hJl : J.length ≤ 64 := by rw [hJ]; exact hfl
    have hsr : El.srt J = El.srt li := El.srt_uniq (El.srt_asc _) ((El.srt_perm _).trans (by rw [hJ]; exact m1))
    obtain ⟨U, hU⟩ : ∃ U, U = El.srt li := ⟨_, rfl⟩
    have hul : U.length ≤ 1048576 := by rw [hU, El.srt_length]; omega
    have HLI := Lib.hid (fun v W (h : FlatAt W v li.length (ints li)) => by have := (implLi_any v li W h hnRL).mono fun _ _ q => q.flat; rw [hLI] at this; exact this)
    have HPP := Lib.hid (fun v W (h : FlatAt W v li.length (ints li)) => by have := (implPp_any v li W h hnRL).mono fun _ _ q => q.flat; rw [hPP] at this; exact this)
    have HRJ := Lib.hid (fun v W (h : RowsAt W v (M.map ints)) => by have := rJoin_any v M W h (by omega) hne hfl; rw [← hJ] at this; exact this)
    have HVJ := Lib.hid (fun b o c W (h : FlatAt W (.slice (some ⟨b, o, none⟩) J.length c) J.length (ints J)) => by have := vOrdered_any b o c J W h hJl; rw [hsr, ← hU] at this; exact this)
    have HVL := Lib.hid (fun b o c W (h : FlatAt W (.slice (some ⟨b, o, none⟩) li.length c) li.length (ints li)) => by have := vOrdered_any b o c li W h h64; rw [← hU] at this; exact this)
    have HZI : Hid (∀ k, k < N → ∃ d : Nat, Z[k]? = some (d : Int) ∧ d < li.length) := Lib.hid (fun k hk => by
      have hk2 : k < D.length := by omega
      refine ⟨D[k], by rw [hZ]; unfold P.nats; rw [List.getElem?_map, List.getElem?_eq_getElem hk2]; rfl, ?_⟩
      have := g2 D[k] (List.getElem_mem hk2); omega)
    have HZP : Hid (∀ k (d e : Nat), Z[k]? = some (d : Int) → Z[k + 1]? = some (e : Int) → d < e ∧ li.getD d 0 < li.getD e 0) := Lib.hid (fun k d e h1 h2 => by
      rw [hZ] at h1 h2
      unfold P.nats at h1 h2
      rw [List.getElem?_map] at h1 h2
      obtain ⟨x, hx, hx2⟩ := Option.map_eq_some_iff.1 h1
      obtain ⟨y, hy, hy2⟩ := Option.map_eq_some_iff.1 h2
      obtain ⟨ha, rfl⟩ := List.getElem?_eq_some_iff.1 hx
      obtain ⟨hb, rfl⟩ := List.getElem?_eq_some_iff.1 hy
      have h3 := List.pairwise_iff_getElem.1 g3 k (k + 1) ha hb (by omega)
      have e1 : D[k] = d := by omega
      have e2 : D[k + 1] = e := by omega
      rw [e1, e2, Nat.sub_zero, Nat.sub_zero] at h3
      exact h3)
    have HPL : Hid (∀ k, k < N → ∃ p n1, M[k]? = some p ∧ p ≠ [] ∧ p.length = n1 + 1 ∧ p.length ≤ 64 ∧ ∀ j, j + 1 < p.length → p.getD (j + 1) 0 ≤ p.getD j 0) := Lib.hid (fun k hk => by
      have hk2 : k < M.length := by omega
      have hp := m2 M[k] (List.getElem_mem hk2)
      have hpos := List.length_pos_iff.2 hp.1
      have h2 := (flat_len (M := M) hne).2 M[k] (List.getElem_mem hk2)
      exact ⟨M[k], M[k].length - 1, List.getElem?_eq_getElem hk2, hp.1, by omega, by omega, hp.2⟩)
    have HZL := Lib.hid hZl
    have HML := Lib.hid hMl
    clear hD hM hN hLI hPP g1 g2 g3 hZl hMl m1 m2 hne hfl hJ hsr hU hZ
    go_wp2_with fail
    refine (HLI.out _ _ (RL.out.flat hcRL)).mono ?_
    rintro e w_2 ⟨aZ, cZ, rfl, hf, hb⟩
    simp only at hf ⊢
    rw [HZL.out] at hf ⊢
    have hyZ := Lib.hid hf
    have RLz := Lib.hid (RL.out.below hb RL.out.1)
    clear RL
    have RL := RLz
    clear RLz
    have BN := Lib.hid (B0.out.trans (hb.mono B0.out.size))
    clear B0
    have B0 := BN
    clear BN
    have RZ := hyZ
    clear hyZ hf hb HLI
    go_wp2_with fail
    refine (HPP.out _ _ (RL.out.flat hcRL)).mono ?_
    rintro e w_3 ⟨aM, cM, rfl, hf, hb⟩
    simp only at hf ⊢
    rw [HML.out] at hf ⊢
    have hyM := Lib.hid hf
    have RZz := Lib.hid (RZ.out.below hb)
    clear RZ
    have RZ := RZz
    clear RZz
    have RLz := Lib.hid (RL.out.below hb RL.out.1)
    clear RL
    have RL := RLz
    clear RLz
    have BN := Lib.hid (B0.out.trans (hb.mono B0.out.size))
    clear B0
    have B0 := BN
    clear BN
    have RM := hyM
    clear hyM hf hb HPP
    go_wp2_with fail
    refine (HRJ.out _ _ RM.out).mono ?_
    rintro e w_4 ⟨gRJ, cRJ, rfl, hcRJ, hg, hrow, hb⟩
    have hyRJ := Lib.hid hrow
    have RZz := Lib.hid (RZ.out.below hb)
    clear RZ
    have RZ := RZz
    clear RZz
    have RMz := Lib.hid (RM.out.below hb)
    clear RM
    have RM := RMz
    clear RMz
    have RLz := Lib.hid (RL.out.below hb RL.out.1)
    clear RL
    have RL := RLz
    clear RLz
    have BN := Lib.hid (B0.out.trans (hb.mono B0.out.size))
    clear B0
    have B0 := BN
    clear BN
    have RJ := hyRJ
    clear hyRJ hrow hb hg HRJ
    go_wp2_with fail
    refine (HVJ.out _ _ _ _ (RJ.out.flat hcRJ)).mono ?_
    rintro e w_5 ⟨gRU, cRU, rfl, hcRU, hg, hrow, hb⟩
    have hyRU := Lib.hid hrow
    have RZz := Lib.hid (RZ.out.below hb)
    clear RZ
    have RZ := RZz
    clear RZz
    have RMz := Lib.hid (RM.out.below hb)
    clear RM
    have RM := RMz
    clear RMz
    have RLz := Lib.hid (RL.out.below hb RL.out.1)
    clear RL
    have RL := RLz
    clear RLz
    have RJz := Lib.hid (RJ.out.below hb RJ.out.1)
    clear RJ
    have RJ := RJz
    clear RJz
    have BN := Lib.hid (B0.out.trans (hb.mono B0.out.size))
    clear B0
    have B0 := BN
    clear BN
    have RU := hyRU
    clear hyRU hrow hb hg HVJ
    go_wp2_with fail
    refine (HVL.out _ _ _ _ (RL.out.flat hcRL)).mono ?_
    rintro e w_6 ⟨gRV, cRV, rfl, hcRV, hg, hrow, hb⟩
    have hyRV := Lib.hid hrow
    have RZz := Lib.hid (RZ.out.below hb)
    clear RZ
    have RZ := RZz
    clear RZz
    have RMz := Lib.hid (RM.out.below hb)
    clear RM
    have RM := RMz
    clear RMz
    have RLz := Lib.hid (RL.out.below hb RL.out.1)
    clear RL
    have RL := RLz
    clear RLz
    have RJz := Lib.hid (RJ.out.below hb RJ.out.1)
    clear RJ
    have RJ := RJz
    clear RJz
    have RUz := Lib.hid (RU.out.below hb RU.out.1)
    clear RU
    have RU := RUz
    clear RUz
    have BN := Lib.hid (B0.out.trans (hb.mono B0.out.size))
    clear B0
    have B0 := BN
    clear BN
    have RV := hyRV
    clear hyRV hrow hb hg HVL
    go_wp2_with fail
    refine (vInts_yes _ _ U _ (RU.out.flat hcRU) (RV.out.flat hcRV) hul).mono ?_
    rintro e w_7 ⟨rfl, hb⟩
    have RZz := Lib.hid (RZ.out.below hb)
    clear RZ
    have RZ := RZz
    clear RZz
    have RMz := Lib.hid (RM.out.below hb)
    clear RM
    have RM := RMz
    clear RMz
    have RLz := Lib.hid (RL.out.below hb RL.out.1)
    clear RL
    have RL := RLz
    clear RLz
    have RJz := Lib.hid (RJ.out.below hb RJ.out.1)
    clear RJ
    have RJ := RJz
    clear RJz
    have RUz := Lib.hid (RU.out.below hb RU.out.1)
    clear RU
    have RU := RUz
    clear RUz
    have RVz := Lib.hid (RV.out.below hb RV.out.1)
    clear RV
    have RV := RVz
    clear RVz
    have BN := Lib.hid (B0.out.trans (hb.mono B0.out.size))
    clear B0
    have B0 := BN
    clear BN
    clear hb
    clear RJ RU RV
    go_wp2_with fail
    obtain ⟨W0, hW0⟩ : ∃ W0, W0 = w_7 := ⟨_, rfl⟩
    rw [← hW0] at RL RZ RM B0 ⊢
    clear hW0
    go_loopw [8] (fun iv wr => ∃ (k t : Nat), k ≤ N ∧ iv = .int .i64 (k : Int) ∧ wr = W0.drewN t) (fun iv _ => N - (intOf iv).toNat)
    case atStart => exact ⟨0, 0, Nat.zero_le _, rfl, rfl⟩
    case round =>
      obtain ⟨k, t, hk, rfl, rfl⟩ := hrel
      by_cases hlt : k < N
      · obtain ⟨d, hd1, hd2⟩ := HZI.out k hlt
        obtain ⟨x, hx⟩ : ∃ x, x = li.getD d 0 := ⟨_, rfl⟩
        have hcx := (RL.out.2 _ _ (ints_at (P.at_getD hd2))).1
        rw [← hx] at hcx
        have hrl := RL.out.1
        obtain ⟨a0, c0, he0, hNc, hZe⟩ := RZ.out
        simp at he0
        obtain ⟨rfl, rfl⟩ := he0
        obtain ⟨bz, oz, rfl, hbz, hcz⟩ := hZe k _ (ints_at hd1)
        have hdz : decide ((d : Int) < 0) = false := decide_eq_false (by omega)
        have hdn : ¬ (d : Int) < 0 := by omega
        have hdl3 : decide (li.length ≤ d) = false := decide_eq_false (by omega)
        have hdl4 : decide ((li.length : Int) ≤ (d : Int)) = false := decide_eq_false (by omega)
        have hkz : (k : Int) < N := by omega
        have hd64 : d ≤ 64 := by omega
        have HZK := Lib.hid hd1
        have HXD := Lib.hid hx
        clear hx hd1
        rcases Nat.eq_zero_or_pos k with hk0 | hk0
        · have hkd : decide ((0 : Int) < (k : Int)) = false := decide_eq_false (by omega)
          have hkd2 : decide (0 < k) = false := decide_eq_false (by omega)
          have hkn : ¬ (0 : Int) < (k : Int) := by omega
          clear hk0
          go_upto_region 11 with fail
          try dsimp only [List.append]
          go_quiet (fail)
          go_wp2_with fail
          go_roundw
          case rel => exact ⟨k + 1, t + nq, by omega, by go_num, by trivial⟩
          case measure => simp [intOf]; omega
        · obtain ⟨j, rfl⟩ : ∃ j, k = j + 1 := ⟨k - 1, by omega⟩
          obtain ⟨e0, he1, he2⟩ := HZI.out j (by omega)
          obtain ⟨hde, hxy⟩ := HZP.out j e0 d he1 HZK.out
          obtain ⟨y, hy⟩ : ∃ y, y = li.getD e0 0 := ⟨_, rfl⟩
          have hcy := (RL.out.2 _ _ (ints_at (P.at_getD he2))).1
          rw [← hy] at hcy hxy
          rw [← HXD.out] at hxy
          obtain ⟨bz', oz', hbe, _, hcj⟩ := hZe j _ (ints_at he1)
          simp at hbe
          obtain ⟨rfl, rfl⟩ := hbe
          obtain ⟨q, hq⟩ : ∃ q, q = j + 1 := ⟨_, rfl⟩
          have hqj : (q : Int) - 1 = (j : Int) := by omega
          rw [← hq] at hcz hkz hk0 hlt ⊢
          have hwq : IntKind.i64.wrap ((q : Int) - 1) = (j : Int) := by rw [IntKind.wrap_i64]; omega
          have hq0 : (0 : Int) < (q : Int) := by omega
          have hqd : decide ((0 : Int) < (q : Int)) = true := decide_eq_true hq0
          have hqd2 : decide (0 < q) = true := decide_eq_true hk0
          have hjz : j < N := by omega
          have hjzi : (j : Int) < N := by omega
          have hded : decide ((d : Int) ≤ (e0 : Int)) = false := decide_eq_false (by omega)
          have hded2 : decide (d ≤ e0) = false := decide_eq_false (by omega)
          have hxyd : decide (x ≤ y) = false := decide_eq_false (by omega)
          clear hq hde he1 hqj hy hxy
          go_upto_region 11 with fail
          try dsimp only [List.append]
          go_quiet (fail)
          go_wp2_with fail
          go_roundw
          case rel => exact ⟨q + 1, t + nq, by omega, by go_num, by trivial⟩
          case measure => simp [intOf]; omega
      · obtain rfl : N = k := by omega
        obtain ⟨W1, hW1⟩ : ∃ W1, W1 = W0.drewN t := ⟨_, rfl⟩
        have hb01 : Below W0.heap.size W0 W1 := by rw [hW1]; exact ⟨rfl, rfl, rfl, Nat.le_refl _, fun _ _ => rfl⟩
        rw [← hW1]
        have RM1 := Lib.hid (RM.out.below hb01)
        have B1 := Lib.hid (B0.out.trans (hb01.mono B0.out.size))
        clear hW1 hb01 RM B0 HZI HZP
        go_wp2_with fail
        go_loopw [9, 10] (fun iv _ wr => ∃ (i t : Nat), i ≤ N ∧ iv = .int .i64 (i : Int) ∧ wr = W1.drewN t) (fun iv _ _ => N - (intOf iv).toNat)
        case atStart => exact ⟨0, 0, Nat.zero_le _, rfl, rfl⟩
        case round =>
          obtain ⟨i, t2, hi, rfl, rfl⟩ := hrel
          by_cases hiN : i < N
          · obtain ⟨p, n1, hp, hpn, hpl, hp64, hdesc⟩ := HPL.out i hiN
            obtain ⟨b, o, b', o', c', rfl, hbb, hcs, hpc, hbb', hels⟩ := RM1.out.at hp hpn
            have HD := Lib.hid hdesc
            have HEL := Lib.hid hels
            obtain ⟨L, hL⟩ : ∃ L, L = p.length := ⟨_, rfl⟩
            rw [← hL] at hcs hpl hp64 hpc HD
            have HLP := Lib.hid hL
            have hL1 : 1 ≤ L := by omega
            have hLz : ¬ L = 0 := by omega
            have hLzi : ¬ (L : Int) = 0 := by omega
            have hLzd : decide (L = 0) = false := decide_eq_false hLz
            have hLb : ((L : Int) == 0) = false := by simpa using hLzi
            clear hp hpn hpl hdesc hels hL
            go_wp2_with fail
            go_loopw [10] (fun jv wr => ∃ (j t : Nat), 1 ≤ j ∧ j ≤ L ∧ jv = .int .i64 (j : Int) ∧ wr = W1.drewN t) (fun jv _ => L - (intOf jv).toNat)
            case atStart => exact ⟨1, t2, Nat.le_refl _, hL1, rfl, rfl⟩
            case round =>
              obtain ⟨j, t3, hj1, hj2, rfl, rfl⟩ := hrel
              by_cases hjl : j < L
              · obtain ⟨m, hm⟩ : ∃ m, j = m + 1 := ⟨j - 1, by omega⟩
                obtain ⟨x, hx⟩ : ∃ x, x = p.getD j 0 := ⟨_, rfl⟩
                obtain ⟨y, hy⟩ : ∃ y, y = p.getD m 0 := ⟨_, rfl⟩
                have hcx := HEL.out j x (by rw [hx]; exact P.at_getD (by rw [← HLP.out]; exact hjl))
                have hcy := HEL.out m y (by rw [hy]; exact P.at_getD (by rw [← HLP.out]; omega))
                have hxy : x ≤ y := by have := HD.out m (by omega); rw [← hm, ← hx, ← hy] at this; exact this
                have hxyd : decide (y < x) = false := decide_eq_false (by omega)
                have hwm : IntKind.i64.wrap ((j : Int) - 1) = (m : Int) := by rw [IntKind.wrap_i64]; omega
                have hmL : m < L := by omega
                have hjz : (j : Int) < L := by omega
                have hjd : decide ((j : Int) < (L : Int)) = true := decide_eq_true hjz
                clear hm hx hy hxy
                go_wp2_with fail
                go_quiet (fail)
                go_wp2_with fail
                go_roundw
                case rel => exact ⟨j + 1, t3 + nq, by omega, by omega, by go_num, by trivial⟩
                case measure => simp [intOf]; omega
              · have hjz : ¬ (j : Int) < L := by omega
                have hjd : decide ((j : Int) < (L : Int)) = false := decide_eq_false hjz
                go_wp2_with fail
                go_roundw
                case rel => exact ⟨i + 1, t3, by omega, by go_num, by trivial⟩
                case measure => simp [intOf]; omega
          · obtain rfl : N = i := by omega
            go_wp2_with fail
            go_ret
            exact ⟨rfl, B1.out.trans ⟨rfl, rfl, rfl, Nat.le_refl _, fun _ _ => rfl⟩⟩

set_option maxRecDepth 100000 in
theorem lifted (os : Os) (started : os.Started) (H : Type) (enc : TypeId × Value → H) :
    ReturnsInHanded {} Try.checked os 5 .any (Rows.fnIncreasingSpec.pre6 enc Try.prog Try.f5 Rows.fnIncreasingRow.domain false) (Rows.fnIncreasingSpec.post enc Try.prog Try.f5 false true false false) := by
  refine returnsInHanded_of_change (C := Try.checked) own started (by kernel_rfl) Try.func5
    (ChangeSpec.witness6 (enc := enc) (C := Try.checked) false ⟨#[], #[.slice none 0 0], []⟩ 8 (by kernel_rfl) (by kernel_rfl) (by kernel_rfl) (by kernel_rfl)) ?_
  intro W base args ds gs before hval0 hW hcnd _
  have hval : ∀ (j : Nat) t v, Try.f5.params[j]? = some t → args[j]? = some v → Value.okWide Try.prog W .any base t v := hval0
  have hW' := hW
  obtain ⟨p, q, hA0, hV, rfl, hfz, hnd⟩ := hW
  have hA : DataW.TrodAll enc Try.prog W 0 (fun _ => true) true Try.f5.params.toList args.toList ds p := hA0
  rw [Try.params5] at hA hval
  obtain ⟨v0, vs0, d0, ds0, p0, q0, hargs, rfl, rfl, h0, r0⟩ := trodAll_cons hA
  obtain ⟨rfl, rfl, rfl⟩ := trodAll_nil r0
  obtain rfl : args = #[v0] := by cases args; simp_all
  obtain ⟨rfl, rfl⟩ := trodVars_none hV
  obtain ⟨a0, len0, cap0, rfl⟩ := okWide_slice Try.underlying22 (hval 0 22 v0 rfl rfl)
  have k0 := h0
  have lt0 : ∀ x ∈ p0, x.block < W.heap.size := by obtain ⟨m, hm⟩ := k0; exact DataW.trod_lt m _ _ _ hm
  obtain ⟨z0, w0⟩ : ∃ zs, IsRow .u8 W a0 len0 cap0 zs := by
    obtain ⟨fuel, hf⟩ := h0
    rcases open_ints Try.underlying22 Try.underlying5 (by kernel_rfl) hf with ⟨hcs, _⟩ | ⟨x, l, c, zs, hcs, _, hl, hm, hz, _, hcell, hwz⟩
    · simp [Value.cells] at hcs
      obtain ⟨rfl, rfl, rfl⟩ := hcs
      exact ⟨[], .inl ⟨rfl, rfl, rfl, rfl⟩⟩
    · simp [Value.cells] at hcs
      obtain ⟨rfl, rfl, rfl⟩ := hcs
      exact ⟨zs, .inr ⟨_, rfl, hl, hm, by simpa using hz, hcell, hwz⟩⟩
  clear hA0 hval0
  refine (walk a0 len0 cap0 z0 W w0).mono fun e W' ⟨he, bel⟩ => ?_
  subst he
  exact ⟨_, rfl, _, _, _, [], _, [], hW', trodAll_mk1 (shut_bool Try.underlying4 _), (trodAll_cons_mk (Below.trod laidOut (by kernel_rfl) (of_decide_eq_true (by kernel_rfl)) k0 bel lt0) trodAll_mk0), rfl, bel.frame _, fun h => by cases h⟩

theorem closed : joinedFacts Try.prog 5 Try.f5 Rows.fnIncreasingSpec Rows.fnIncreasingRow = true := by
  unfold joinedFacts
  rw [head_enter, head_final, head_make]
  kernel_rfl

theorem over : Rows.fnIncreasingRow.holds Try.pinned (OpenSpec.ofChange Rows.fnIncreasingSpec) :=
  OpenClaim.holds_of_wide 5 Try.f5 rfl rfl rfl rfl rfl rfl rfl ⟨rfl, rfl, rfl, rfl, rfl⟩ rfl rfl rfl rfl rfl (by kernel_rfl) Try.func5 closed
    (of_decide_eq_true (by kernel_rfl)) (by unfold Func.isWrapper; first | (rw [if_pos (by decide +kernel)]; kernel_rfl) | (rw [if_neg (by decide +kernel)]; exact ⟨rfl, rfl⟩))
    (fun os started H enc _ => lifted os started H enc)

theorem proved : Rows.FnIncreasingSaid := over
#print axioms proved
end Go.Proofs.Ytjlldjekjnlcaaa.fnIncreasing
