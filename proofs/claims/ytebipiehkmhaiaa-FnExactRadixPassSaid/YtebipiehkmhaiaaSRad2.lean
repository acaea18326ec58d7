/- The model's RadixPass, PassesNeeded, RadixSort, CountingSort, by their contracts. -/
import Derived.Test.YtebipiehkmhaiaaSPass
import Derived.Test.YtebipiehkmhaiaaStable
namespace Go.Proofs.Ytebipiehkmhaiaa
open Go.RowKit Rx P
set_option linter.unusedVariables false

set_option maxRecDepth 100000 in
set_option maxHeartbeats 4000000 in
theorem specRp_any (b' o c : Nat) (l : List (Int × Int)) (b p : Int) (w : World) (hv : FlatAt w (.slice (some ⟨b', o, none⟩) l.length c) l.length (recs l)) (hn : l.length ≤ 1048576) :
    Calls Try.prog 50 #[.slice (some ⟨b', o, none⟩) l.length c, .int .i64 b, .int .i64 p] w (RetCE (rpAll l b p) w) := by
  have HV := Lib.hid (l2Records_any _ l w hv hn)
  have HB := Lib.hid (fun W => l8Place_any b p W)
  have HNONE := Lib.hid (fun (h : ¬ (OkR l ∧ OkBP b p)) => rpAll_no h)
  by_cases hok : OkR l
  · rw [decide_eq_true hok] at HV
    by_cases hbp : OkBP b p
    · rw [decide_eq_true hbp] at HB
      have HF := Lib.hid (rpAll_yes ⟨hok, hbp⟩)
      obtain ⟨⟨hb1, hb2⟩, hp1, hp2⟩ := hbp
      obtain ⟨b, rfl⟩ : ∃ n : Nat, b = n := ⟨b.toNat, by omega⟩
      obtain ⟨p, rfl⟩ : ∃ n : Nat, p = n := ⟨p.toNat, by omega⟩
      have HPS := Lib.hid (fun W (hW : Below w.heap.size w W) => l8Pass_any b' o c l b p W (hv.below hW) hok.1 (fun q hq => hok.key hq) (by omega) (by omega) (by omega))
      rw [HF.out]
      simp only [Int.toNat_natCast]
      clear hok hv hb1 hb2 hp1 hp2 HF HNONE
      generalize bk (dgR b p) l b = M at *
      go_enter Try.func50, Try.ntmps50
      go_wp2_with fail
      refine HV.out.mono ?_
      rintro e w1 ⟨rfl, hb1⟩
      have HB1 := Lib.hid hb1
      clear hb1 HV
      go_wp2_with fail
      refine (HB.out _).mono ?_
      rintro e w1' ⟨rfl, rfl⟩
      go_wp2_with fail
      refine (HPS.out _ HB1.out).mono ?_
      rintro e w3 ⟨g, cg, rfl, hcg, hg, hrow, hb3⟩
      have HRES : Hid (RetCE (M, true) w (.returned (.tuple #[.slice (some ⟨g, 0, none⟩) M.length cg, .bool true])) w3) := Lib.hid (.inl ⟨g, cg, rfl, hcg, Nat.le_trans HB1.out.size hg, hrow, HB1.out.trans (hb3.mono HB1.out.size)⟩)
      clear hcg hg hrow hb3 HPS HB1 HB
      go_wp2_with fail
      go_ret2
      exact HRES.out
    · rw [decide_eq_false hbp] at HB
      rw [HNONE.out fun h => hbp h.2]
      clear hok hbp hv HNONE
      go_enter Try.func50, Try.ntmps50
      go_wp2_with fail
      refine HV.out.mono ?_
      rintro e w1 ⟨rfl, hb1⟩
      have HRES := Lib.hid (RetCE.nil0 w w1 hb1)
      clear hb1 HV
      go_wp2_with fail
      refine (HB.out _).mono ?_
      rintro e w1' ⟨rfl, rfl⟩
      go_wp2_with fail
      go_ret2
      exact HRES.out
  · rw [decide_eq_false hok] at HV
    rw [HNONE.out fun h => hok h.1]
    clear hok hv HNONE
    go_enter Try.func50, Try.ntmps50
    go_wp2_with fail
    refine HV.out.mono ?_
    rintro e w1 ⟨rfl, hb1⟩
    have HRES := Lib.hid (RetCE.nil0 w w1 hb1)
    clear hb1 HV
    go_wp2_with fail
    go_ret2
    exact HRES.out

theorem l1Most2_any (x y : Nat) (W : World) (hx : x ≤ 1048576) (hy : y ≤ 1048576) :
    Calls Try.prog 92 #[.int .i64 (x : Int), .int .i64 (y : Int)] W fun e w' => e = .returned (.int .i64 ((max x y : Nat) : Int)) ∧ w' = W := by
  by_cases h : y < x
  · have hm : Hid (max x y = x) := Lib.hid (by omega)
    have hz : decide ((y : Int) < (x : Int)) = true := decide_eq_true (by omega)
    rw [hm.out]
    go_enter Try.func92, Try.ntmps92
    go_wp2_with fail
    go_ret
    exact ⟨rfl, rfl⟩
  · have hm : Hid (max x y = y) := Lib.hid (by omega)
    have hz : decide ((y : Int) < (x : Int)) = false := decide_eq_false (by omega)
    rw [hm.out]
    go_enter Try.func92, Try.ntmps92
    go_wp2_with fail
    go_ret
    exact ⟨rfl, rfl⟩

set_option maxRecDepth 100000 in
set_option maxHeartbeats 8000000 in
theorem l8Passes_any (b' o c : Nat) (l : List (Int × Int)) (b : Nat) (w : World) (hv : FlatAt w (.slice (some ⟨b', o, none⟩) l.length c) l.length (recs l)) (hok : OkR l) (hb : 2 ≤ b) (hb2 : b ≤ 256) :
    Calls Try.prog 110 #[.slice (some ⟨b', o, none⟩) l.length c, .int .i64 (b : Int)] w fun e w' => e = .returned (.int .i64 ((most b (sks l) : Nat) : Int)) ∧ w' = w := by
  have h64 := hok.1
  have HREAD : Hid (∀ (k : Nat) q, l[k]? = some q → w.cell? ⟨b', o + k * 2, none⟩ = some (.int .i64 q.1)) := Lib.hid (fun k q hq => by
    obtain ⟨a0, c0, e0, _, h⟩ := hv
    simp at e0
    obtain ⟨rfl, rfl⟩ := e0
    obtain ⟨b2, o2, e2, h1, h2, h3⟩ := recs_el h hq
    obtain rfl : b' = b2 := congrArg Addr.block (Option.some.inj e2)
    obtain rfl : o = o2 := congrArg Addr.off (Option.some.inj e2)
    exact h2)
  have HOK := Lib.hid hok
  have H18 : Hid (∀ k, most b (sks (l.take k)) ≤ 18) := Lib.hid (fun k => most_18 ⟨by rw [List.length_take]; omega, fun p hp => hok.2 p (List.mem_of_mem_take hp)⟩ hb)
  have hbz : ¬ (b : Int) = 0 := by omega
  have hbn : ¬ b = 0 := by omega
  have HMT : Hid (∀ k q, l[k]? = some q → most b (sks (l.take (k + 1))) = max (most b (sks (l.take k))) (dl b (sk q.1))) := Lib.hid (fun k q hq => by
    have e : sks (l.take (k + 1)) = sks (l.take k) ++ [sk q.1] := by rw [List.take_add_one, hq]; simp [sks]
    rw [e, most_snoc])
  clear hv hok
  go_enter Try.func110, Try.ntmps110
  go_wp2_with fail
  go_loopw [5, 6, 7, 8] (fun pv iv _ _ wr => ∃ (i m : Nat), i ≤ l.length ∧ iv = .int .i64 (i : Int) ∧ pv = .int .i64 (m : Int) ∧ m = most b (sks (l.take i)) ∧ wr = w) (fun _ iv _ _ _ => l.length - (intOf iv).toNat)
  case atStart => exact ⟨0, 0, Nat.zero_le _, rfl, rfl, rfl, rfl⟩
  case round =>
    obtain ⟨i, m, hi, rfl, rfl, hm, rfl⟩ := hrel
    have hm18 : m ≤ 18 := by rw [hm]; exact H18.out i
    have HM := Lib.hid hm
    clear hm
    by_cases hlt : i < l.length
    · have hltz : (i : Int) < (l.length : Int) := by omega
      obtain ⟨q, hq⟩ : ∃ q, l[i]? = some q := ⟨_, List.getElem?_eq_getElem hlt⟩
      have hc := HREAD.out i q hq
      have hkey := HOK.out.key (List.mem_of_getElem? hq)
      have HMX := Lib.hid (HMT.out i q hq)
      rw [← HM.out] at HMX
      obtain ⟨x, y⟩ := q
      simp only at hc hkey HMX
      obtain ⟨n, hn⟩ : ∃ n, n = sk x := ⟨_, rfl⟩
      have ek : IntKind.i64.wrap (x + 100000) = (n : Int) := by rw [hn, ← sk_eq hkey.1, IntKind.wrap_i64]; omega
      have ek2 : Hid (x + 100000 = (n : Int)) := Lib.hid (by rw [hn]; exact sk_eq hkey.1)
      have hn2 : n ≤ 200000 := by rw [hn]; exact sk_le hkey.2
      rw [← hn] at HMX
      clear hq hkey hn HM
      go_wp2_with fail
      go_loopw [7, 8] (fun kv dv ws => ∃ (j k : Nat), dv = .int .i64 (j : Int) ∧ kv = .int .i64 (k : Int) ∧ 1 ≤ j ∧ k = n / b ^ (j - 1) ∧ (j = 1 ∨ b ^ (j - 1) ≤ n) ∧ j ≤ 18 ∧ ws = wr) (fun kv _ _ => (intOf kv).toNat)
      case atStart => exact ⟨1, n, rfl, by first | rfl | rw [ek] | rw [ek2.out], Nat.le_refl _, by rw [Nat.sub_self, Nat.pow_zero, Nat.div_one], .inl rfl, by omega, rfl⟩
      case round =>
        obtain ⟨j, k, rfl, rfl, hj1, hk, hge, hj, rfl⟩ := hrel
        have HK := Lib.hid hk
        have HGE := Lib.hid hge
        have hk2 : k ≤ 200000 := by have := Nat.div_le_self n (b ^ (j - 1)); omega
        clear hk hge
        by_cases hlt2 : k < b
        · have hltz2 : decide ((b : Int) ≤ (k : Int)) = false := decide_eq_false (by omega)
          have hltn : ¬ b ≤ k := by omega
          have HD : Hid (dl b n = j) := Lib.hid (dl_eq hb (IsLen.made hb hj1 (by rw [← HK.out]; exact hlt2) HGE.out))
          rw [HD.out] at HMX
          obtain ⟨m2, hm2⟩ : ∃ m2, m2 = most b (sks (l.take (i + 1))) := ⟨_, rfl⟩
          have HM2 := Lib.hid hm2
          rw [← hm2] at HMX
          have HL := Lib.hid (fun W => l1Most2_any m j W (by omega) (by omega))
          rw [← HMX.out] at HL
          clear hj1 HD HMX hm2
          go_wp2_with fail
          refine (HL.out _).mono ?_
          rintro e w2 ⟨rfl, rfl⟩
          go_wp2_with fail
          go_roundw
          case rel => exact ⟨i + 1, m2, by omega, by go_num, rfl, HM2.out, by first | rfl | trivial⟩
          case measure => simp [intOf]; omega
        · have hltz2 : decide ((b : Int) ≤ (k : Int)) = true := decide_eq_true (by omega)
          have hltn : b ≤ k := by omega
          obtain ⟨d, hd⟩ : ∃ d, d = k / b := ⟨_, rfl⟩
          have hd2 : d < k := by rw [hd]; exact Nat.div_lt_self (by omega) (by omega)
          have hm1 : (k : Int) / (b : Int) = (d : Int) := by rw [hd, Int.natCast_ediv]
          have hm3 : Int.tdiv (k : Int) (b : Int) = (d : Int) := by rw [Int.tdiv_eq_ediv_of_nonneg (by omega)]; exact hm1
          have em : IntKind.i64.wrap (d : Int) = (d : Int) := by rw [IntKind.wrap_i64]; omega
          have hpow := IsLen.on (n := n) hb hj1 (by rw [← HK.out]; exact hlt2)
          have HD : Hid (d = n / b ^ (j + 1 - 1) ∧ (j + 1 = 1 ∨ b ^ (j + 1 - 1) ≤ n) ∧ j + 1 ≤ 18) := Lib.hid ⟨by rw [hd, HK.out, div_pow_succ]; congr 2; omega, .inr hpow, by
            rcases Nat.lt_or_ge j 18 with h | h
            · exact h
            · have h3 : 2 ^ 18 ≤ b ^ j := Nat.le_trans (Nat.pow_le_pow_left hb 18) (Nat.pow_le_pow_right (by omega) h)
              have h4 : (2 : Nat) ^ 18 = 262144 := by decide
              omega⟩
          clear hd hpow
          go_wp2_with fail
          go_roundw
          case rel => exact ⟨j + 1, d, by go_num, by first | rfl | rw [hm1] | rw [hm3], by omega, HD.out.1, HD.out.2.1, HD.out.2.2, by first | rfl | trivial⟩
          case measure => simp [intOf]; omega
    · have hltz : ¬ (i : Int) < (l.length : Int) := by omega
      obtain rfl : i = l.length := by omega
      rw [List.take_length] at HM
      go_wp2_with fail
      go_ret
      exact ⟨by rw [← HM.out]; rfl, rfl⟩

set_option maxRecDepth 100000 in
theorem specPn_any (b' o c : Nat) (l : List (Int × Int)) (b : Int) (w : World) (hv : FlatAt w (.slice (some ⟨b', o, none⟩) l.length c) l.length (recs l)) (hn : l.length ≤ 1048576) :
    Calls Try.prog 51 #[.slice (some ⟨b', o, none⟩) l.length c, .int .i64 b] w fun e w' => e = .returned (.tuple #[.int .i64 (pnAll l b).1, .bool (pnAll l b).2]) ∧ Below w.heap.size w w' := by
  have HV := Lib.hid (l2Records_any _ l w hv hn)
  have HB := Lib.hid (fun W => l1In_any b 2 256 W)
  have HNONE := Lib.hid (fun (h : ¬ (OkR l ∧ OkB b)) => pnAll_no h)
  by_cases hok : OkR l
  · rw [decide_eq_true hok] at HV
    by_cases hbp : 2 ≤ b ∧ b ≤ 256
    · rw [decide_eq_true hbp] at HB
      have HF := Lib.hid (pnAll_yes ⟨hok, hbp⟩)
      obtain ⟨hb1, hb2⟩ := hbp
      obtain ⟨b, rfl⟩ : ∃ n : Nat, b = n := ⟨b.toNat, by omega⟩
      have HPS := Lib.hid (fun W (hW : Below w.heap.size w W) => l8Passes_any b' o c l b W (hv.below hW) hok (by omega) (by omega))
      rw [HF.out]
      simp only [Int.toNat_natCast]
      clear hok hv hb1 hb2 HF HNONE
      generalize most b (sks l) = m at *
      go_enter Try.func51, Try.ntmps51
      go_wp2_with fail
      refine HV.out.mono ?_
      rintro e w1 ⟨rfl, hb1⟩
      have HB1 := Lib.hid hb1
      clear hb1 HV
      go_wp2_with fail
      refine (HB.out _).mono ?_
      rintro e w1' ⟨rfl, rfl⟩
      go_wp2_with fail
      refine (HPS.out _ HB1.out).mono ?_
      rintro e w3 ⟨rfl, rfl⟩
      go_wp2_with fail
      go_ret2
      exact ⟨rfl, HB1.out⟩
    · rw [decide_eq_false hbp] at HB
      rw [HNONE.out fun h => hbp h.2]
      clear hok hbp hv HNONE
      go_enter Try.func51, Try.ntmps51
      go_wp2_with fail
      refine HV.out.mono ?_
      rintro e w1 ⟨rfl, hb1⟩
      have HB1 := Lib.hid hb1
      clear hb1 HV
      go_wp2_with fail
      refine (HB.out _).mono ?_
      rintro e w1' ⟨rfl, rfl⟩
      go_wp2_with fail
      go_ret2
      exact ⟨rfl, HB1.out⟩
  · rw [decide_eq_false hok] at HV
    rw [HNONE.out fun h => hok h.1]
    clear hok hv HNONE
    go_enter Try.func51, Try.ntmps51
    go_wp2_with fail
    refine HV.out.mono ?_
    rintro e w1 ⟨rfl, hb1⟩
    have HB1 := Lib.hid hb1
    clear hb1 HV
    go_wp2_with fail
    go_ret2
    exact ⟨rfl, HB1.out⟩

set_option maxRecDepth 100000 in
theorem specRs_any (b' o c : Nat) (l : List (Int × Int)) (b : Int) (w : World) (hv : FlatAt w (.slice (some ⟨b', o, none⟩) l.length c) l.length (recs l)) (hn : l.length ≤ 1048576) :
    Calls Try.prog 52 #[.slice (some ⟨b', o, none⟩) l.length c, .int .i64 b] w (Ret1CE (rsAll l b) w) := by
  have HV := Lib.hid (l2Records_any _ l w hv hn)
  have HB := Lib.hid (fun W => l1In_any b 2 256 W)
  have HNONE := Lib.hid (fun (h : ¬ (OkR l ∧ OkB b)) => rsAll_no h)
  by_cases hok : OkR l
  · rw [decide_eq_true hok] at HV
    by_cases hbp : 2 ≤ b ∧ b ≤ 256
    · rw [decide_eq_true hbp] at HB
      have HF := Lib.hid (rsAll_yes ⟨hok, hbp⟩)
      obtain ⟨hb1, hb2⟩ := hbp
      obtain ⟨b, rfl⟩ : ∃ n : Nat, b = n := ⟨b.toNat, by omega⟩
      have HPS := Lib.hid (fun W (hW : Below w.heap.size w W) => l8Passes_any b' o c l b W (hv.below hW) hok (by omega) (by omega))
      have HST := Lib.hid (fun W (hW : Below w.heap.size w W) => l2Stable_any b' o c l W (hv.below hW) hn)
      have HEQ : Hid (∀ L, Stab.Of (·.1) l L → L = stb l) := Lib.hid (fun L h => stb_eq h)
      have HSL := Lib.hid (stb_len l)
      rw [HF.out]
      simp only [Int.toNat_natCast]
      clear hok hv hb1 hb2 HF HNONE
      generalize most b (sks l) = m at *
      generalize stb l = M at *
      go_enter Try.func52, Try.ntmps52
      go_wp2_with fail
      refine HV.out.mono ?_
      rintro e w1 ⟨rfl, hb1⟩
      have HB1 := Lib.hid hb1
      clear hb1 HV
      go_wp2_with fail
      refine (HB.out _).mono ?_
      rintro e w1' ⟨rfl, rfl⟩
      clear HB
      go_wp2_with fail
      refine (HST.out _ HB1.out).mono ?_
      rintro e w2 ⟨g, cap, L, rfl, hcap, hg, hrow, hof, hb2⟩
      obtain rfl := HEQ.out L hof
      have HRES : Hid (Ret1CE (L, (m : Int), true) w (.returned (.tuple #[.slice (some ⟨g, 0, none⟩) l.length cap, .int .i64 (m : Int), .bool true])) w2) := Lib.hid (.inl ⟨g, cap, by rw [HSL.out], by rw [HSL.out]; exact hcap, Nat.le_trans HB1.out.size hg, hrow, HB1.out.trans (hb2.mono HB1.out.size)⟩)
      have HB2 := Lib.hid (HB1.out.trans (hb2.mono HB1.out.size))
      clear hcap hg hrow hof hb2 HST HEQ HB1
      go_wp2_with fail
      refine (HPS.out _ HB2.out).mono ?_
      rintro e w3 ⟨rfl, rfl⟩
      go_wp2_with fail
      go_ret3
      exact HRES.out
    · rw [decide_eq_false hbp] at HB
      rw [HNONE.out fun h => hbp h.2]
      clear hok hbp hv HNONE
      go_enter Try.func52, Try.ntmps52
      go_wp2_with fail
      refine HV.out.mono ?_
      rintro e w1 ⟨rfl, hb1⟩
      have HRES := Lib.hid (Ret1CE.nil0 w w1 hb1)
      clear hb1 HV
      go_wp2_with fail
      refine (HB.out _).mono ?_
      rintro e w1' ⟨rfl, rfl⟩
      go_wp2_with fail
      go_ret3
      exact HRES.out
  · rw [decide_eq_false hok] at HV
    rw [HNONE.out fun h => hok h.1]
    clear hok hv HNONE
    go_enter Try.func52, Try.ntmps52
    go_wp2_with fail
    refine HV.out.mono ?_
    rintro e w1 ⟨rfl, hb1⟩
    have HRES := Lib.hid (Ret1CE.nil0 w w1 hb1)
    clear hb1 HV
    go_wp2_with fail
    go_ret3
    exact HRES.out

set_option maxRecDepth 100000 in
set_option maxHeartbeats 4000000 in
theorem specCs_any (b' o c : Nat) (l : List (Int × Int)) (a z : Int) (w : World) (hv : FlatAt w (.slice (some ⟨b', o, none⟩) l.length c) l.length (recs l)) (hn : l.length ≤ 1048576) :
    Calls Try.prog 34 #[.slice (some ⟨b', o, none⟩) l.length c, .int .i64 a, .int .i64 z] w (RetCE (csAll l a z) w) := by
  have HV := Lib.hid (l2Records_any _ l w hv hn)
  have HA := Lib.hid (fun W => l1In_any a (-100000) 100000 W)
  have HNONE : Hid (¬ OkC l a z → ∀ w1, Below w.heap.size w w1 → RetCE (csAll l a z) w (.returned (.tuple #[.slice none 0 0, .bool false])) w1) := Lib.hid (fun h w1 hb => by rw [csAll_no h]; exact RetCE.nil0 w w1 hb)
  by_cases hok : OkR l
  · rw [decide_eq_true hok] at HV
    by_cases ha : -100000 ≤ a ∧ a ≤ 100000
    · rw [decide_eq_true ha] at HA
      have HZ := Lib.hid (fun W => l1In_any z a (a + 1000) W)
      have ew : IntKind.i64.wrap (a + 1000) = a + 1000 := by rw [IntKind.wrap_i64]; omega
      by_cases hz : a ≤ z ∧ z ≤ a + 1000
      · rw [decide_eq_true hz] at HZ
        have HREAD : Hid (∀ (k : Nat) q, l[k]? = some q → b' < w.heap.size ∧ w.cell? ⟨b', o + k * 2, none⟩ = some (.int .i64 q.1)) := Lib.hid (fun k q hq => by
          obtain ⟨a0, c0, e0, _, h⟩ := hv
          simp at e0
          obtain ⟨rfl, rfl⟩ := e0
          obtain ⟨b2, o2, e2, h1, h2, h3⟩ := recs_el h hq
          obtain rfl : b' = b2 := congrArg Addr.block (Option.some.inj e2)
          obtain rfl : o = o2 := congrArg Addr.off (Option.some.inj e2)
          exact ⟨h1, h2⟩)
        have HST := Lib.hid (fun W (hW : Below w.heap.size w W) => l2Stable_any b' o c l W (hv.below hW) hn)
        have HYES : Hid ((∀ q ∈ l, a ≤ q.1 ∧ q.1 ≤ z) → csAll l a z = (stb l, true)) := Lib.hid (fun h => csAll_yes ⟨hok, ⟨ha, hz⟩, h⟩)
        have h64 := hok.1
        clear hok hv ha hz
        go_enter Try.func34, Try.ntmps34
        go_wp2_with fail
        refine HV.out.mono ?_
        rintro e w1 ⟨rfl, hb1⟩
        have HB1 := Lib.hid hb1
        clear hb1 HV
        go_wp2_with fail
        refine (HA.out _).mono ?_
        rintro e w1' ⟨rfl, rfl⟩
        clear HA
        go_wp2_with fail
        refine (HZ.out _).mono ?_
        rintro e w1 ⟨rfl, rfl⟩
        clear HZ
        go_wp2_with fail
        go_loopw [8] (fun iv wr => ∃ k : Nat, k ≤ l.length ∧ iv = .int .i64 (k : Int) ∧ (∀ q ∈ l.take k, a ≤ q.1 ∧ q.1 ≤ z) ∧ Below w.heap.size w wr) (fun iv _ => l.length - (intOf iv).toNat)
        case atStart => exact ⟨0, Nat.zero_le _, rfl, by simp, HB1.out⟩
        case round =>
          obtain ⟨k, hk, rfl, hall, hb⟩ := hrel
          have HB := Lib.hid hb
          have HALL := Lib.hid hall
          clear hb hall HB1
          by_cases hlt : k < l.length
          · have hltz : (k : Int) < (l.length : Int) := by omega
            obtain ⟨q, hq⟩ : ∃ q, l[k]? = some q := ⟨_, List.getElem?_eq_getElem hlt⟩
            obtain ⟨hbb, hc0⟩ := HREAD.out k q hq
            have hw0 : wr.cell? ⟨b', o + k * 2, none⟩ = some (.int .i64 q.1) := (HB.out.cell (p := ⟨b', o + k * 2, none⟩) hbb).trans hc0
            have HQ := Lib.hid (fun W => l1In_any q.1 a z W)
            have HP := Lib.hid hq
            clear hc0 hq
            by_cases hqr : a ≤ q.1 ∧ q.1 ≤ z
            · rw [decide_eq_true hqr] at HQ
              have HQR := Lib.hid hqr
              clear hqr
              go_wp2_with fail
              refine (HQ.out _).mono ?_
              rintro e w2 ⟨rfl, rfl⟩
              go_wp2_with fail
              go_roundw
              case rel =>
                refine ⟨k + 1, by omega, by go_num, fun r hr => ?_, HB.out⟩
                rw [List.take_add_one, HP.out] at hr
                rcases List.mem_append.1 hr with h | h
                · exact HALL.out r h
                · simp at h; subst h; exact HQR.out
              case measure => simp [intOf]; omega
            · rw [decide_eq_false hqr] at HQ
              have HRES := Lib.hid (HNONE.out (fun h => hqr (h.2.2 q (List.mem_of_getElem? HP.out))) wr HB.out)
              clear hqr HNONE HYES HST HALL
              go_wp2_with fail
              refine (HQ.out _).mono ?_
              rintro e w2 ⟨rfl, rfl⟩
              go_wp2_with fail
              go_ret2
              exact HRES.out
          · have hltz : ¬ (k : Int) < (l.length : Int) := by omega
            obtain rfl : k = l.length := by omega
            rw [List.take_length] at HALL
            have HY := Lib.hid (HYES.out HALL.out)
            have HSL := Lib.hid (stb_len l)
            have HEQ : Hid (∀ L, Stab.Of (·.1) l L → L = stb l) := Lib.hid (fun L h => stb_eq h)
            clear HNONE HYES HALL HREAD
            go_wp2_with fail
            refine (HST.out _ HB.out).mono ?_
            rintro e w2 ⟨g, cap, L, rfl, hcap, hg, hrow, hof, hb2⟩
            have HRES : Hid (RetCE (csAll l a z) w (.returned (.tuple #[.slice (some ⟨g, 0, none⟩) l.length cap, .bool true])) w2) := Lib.hid (by
              rw [HY.out]
              rw [HEQ.out L hof] at hrow
              exact .inl ⟨g, cap, by rw [HSL.out], by rw [HSL.out]; exact hcap, Nat.le_trans HB.out.size hg, hrow, HB.out.trans (hb2.mono HB.out.size)⟩)
            clear hcap hg hrow hof hb2 HST HEQ HB HY HSL
            go_wp2_with fail
            go_ret2
            exact HRES.out
      · rw [decide_eq_false hz] at HZ
        have HN := Lib.hid (HNONE.out fun h => hz h.2.1.2)
        clear hok hv ha hz HNONE
        go_enter Try.func34, Try.ntmps34
        go_wp2_with fail
        refine HV.out.mono ?_
        rintro e w1 ⟨rfl, hb1⟩
        have HRES := Lib.hid (HN.out w1 hb1)
        clear hb1 HV HN
        go_wp2_with fail
        refine (HA.out _).mono ?_
        rintro e w1' ⟨rfl, rfl⟩
        clear HA
        go_wp2_with fail
        refine (HZ.out _).mono ?_
        rintro e w1 ⟨rfl, rfl⟩
        go_wp2_with fail
        go_ret2
        exact HRES.out
    · rw [decide_eq_false ha] at HA
      have HN := Lib.hid (HNONE.out fun h => ha h.2.1.1)
      clear hok hv ha HNONE
      go_enter Try.func34, Try.ntmps34
      go_wp2_with fail
      refine HV.out.mono ?_
      rintro e w1 ⟨rfl, hb1⟩
      have HRES := Lib.hid (HN.out w1 hb1)
      clear hb1 HV HN
      go_wp2_with fail
      refine (HA.out _).mono ?_
      rintro e w1' ⟨rfl, rfl⟩
      go_wp2_with fail
      go_ret2
      exact HRES.out
  · rw [decide_eq_false hok] at HV
    have HN := Lib.hid (HNONE.out fun h => hok h.1)
    clear hok hv HNONE
    go_enter Try.func34, Try.ntmps34
    go_wp2_with fail
    refine HV.out.mono ?_
    rintro e w1 ⟨rfl, hb1⟩
    have HRES := Lib.hid (HN.out w1 hb1)
    clear hb1 HV HN
    go_wp2_with fail
    go_ret2
    exact HRES.out

end Go.Proofs.Ytebipiehkmhaiaa
