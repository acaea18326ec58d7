/- The program's PassesNeeded, RadixSort, by their contracts. -/
import Derived.Test.YtebipiehkmhaiaaIRad
import Derived.Test.YtebipiehkmhaiaaIMax
import Derived.Test.YtebipiehkmhaiaaISort
namespace Go.Proofs.Ytebipiehkmhaiaa
open Go.RowKit Rx P
set_option linter.unusedVariables false

theorem most_max {l : List (Int × Int)} {b : Nat} (hok : OkR l) (hb : 2 ≤ b) {p : Int × Int} (hp : p ∈ l) (h : ∀ q ∈ l, q.1 ≤ p.1) : most b (sks l) = dl b (sk p.1) :=
  most_of hb (List.mem_map_of_mem (f := fun p : Int × Int => sk p.1) hp) fun n hn => by
    obtain ⟨q, hq, rfl⟩ := List.mem_map.1 hn
    have h1 := h q hq
    simp only [sk]; omega

set_option maxRecDepth 100000 in
set_option maxHeartbeats 4000000 in
theorem implPn_any (b' o c : Nat) (l : List (Int × Int)) (b : Int) (w : World) (hv : FlatAt w (.slice (some ⟨b', o, none⟩) l.length c) l.length (recs l)) (hn : l.length ≤ 1048576) :
    Calls Try.prog 26 #[.slice (some ⟨b', o, none⟩) l.length c, .int .i64 b] w fun e w' => e = .returned (.tuple #[.int .i64 (pnAll l b).1, .bool (pnAll l b).2]) ∧ Below w.heap.size w w' := by
  have HV := Lib.hid (implValidRecs_any _ l w hv hn)
  have HB := Lib.hid (fun W => isBase_any b W)
  have HNONE := Lib.hid (fun (h : ¬ (OkR l ∧ OkB b)) => pnAll_no h)
  by_cases hok : OkR l
  · rw [decide_eq_true hok] at HV
    by_cases hbp : 2 ≤ b ∧ b ≤ 256
    · rw [decide_eq_true hbp] at HB
      have HF := Lib.hid (pnAll_yes ⟨hok, hbp⟩)
      obtain ⟨hb1, hb2⟩ := hbp
      obtain ⟨b, rfl⟩ : ∃ n : Nat, b = n := ⟨b.toNat, by omega⟩
      rw [HF.out]
      simp only [Int.toNat_natCast]
      by_cases h0 : l.length = 0
      · have HM : Hid (most b (sks l) = 0) := Lib.hid (by rw [List.eq_nil_of_length_eq_zero h0]; rfl)
        rw [HM.out]
        clear hok hv hb1 hb2 HF HNONE HM
        obtain rfl : l = [] := List.eq_nil_of_length_eq_zero h0
        simp only [List.length_nil] at HV ⊢
        clear h0 hn
        go_enter Try.func26, Try.ntmps26
        go_wp2_with fail
        refine HV.out.mono ?_
        rintro e w1 ⟨rfl, hb1⟩
        have HB1 := Lib.hid hb1
        clear hb1 HV
        go_wp2_with fail
        refine (HB.out _).mono ?_
        rintro e w1' ⟨rfl, rfl⟩
        clear HB
        go_wp2_with fail
        go_ret2
        exact ⟨rfl, HB1.out⟩
      · have h0z : ¬ (l.length : Int) = 0 := by omega
        have HMX := Lib.hid (fun W (h : Below w.heap.size w W) => maxFunc_any _ l W (hv.below h) hn (by omega))
        have HMM := Lib.hid (fun (p : Int × Int) hp h => most_max (b := b) (p := p) hok (by omega) hp h)
        have HSH := Lib.hid (fun (p : Int × Int) (hp : p ∈ l) W => shifted_any p.1 W (hok.key hp).1 (hok.key hp).2)
        have HLG := Lib.hid (fun (p : Int × Int) (hp : p ∈ l) W => length_any (sk p.1) b W (by omega) (by omega) (sk_le (hok.key hp).2))
        have HKE := Lib.hid (fun (p : Int × Int) (hp : p ∈ l) => sk_eq (hok.key hp).1)
        clear hok hv hb1 hb2 HF HNONE
        generalize most b (sks l) = M at *
        go_enter Try.func26, Try.ntmps26
        go_wp2_with fail
        refine HV.out.mono ?_
        rintro e w1 ⟨rfl, hb1⟩
        have HB1 := Lib.hid hb1
        clear hb1 HV
        go_wp2_with fail
        refine (HB.out _).mono ?_
        rintro e w1' ⟨rfl, rfl⟩
        clear HB
        go_wp2_with fail
        refine (HMX.out _ HB1.out).mono ?_
        rintro e w2 ⟨⟨x, y⟩, rfl, hpm, hpa, hb2⟩
        have HB2 := Lib.hid (HB1.out.trans (hb2.mono HB1.out.size))
        have HS := Lib.hid (HSH.out (x, y) hpm)
        have HL := Lib.hid (HLG.out (x, y) hpm)
        have HE := Lib.hid (HMM.out (x, y) hpm hpa)
        have HK := Lib.hid (HKE.out (x, y) hpm)
        have HB3 : Hid (Below w.heap.size w (w2.alloc (.cells #[.int .i64 x, .int .i64 y] 45))) := Lib.hid (HB2.out.alloc HB2.out.size _)
        simp only at HS HL HE HK
        rw [← HK.out] at HL
        rw [← HE.out] at HL
        clear hpm hpa hb2 HB1 HMX HSH HLG HMM HB2 HKE HE HK
        go_wp2_with fail
        refine (HS.out _).mono ?_
        rintro e w3 ⟨rfl, rfl⟩
        go_wp2_with fail
        refine (HL.out _).mono ?_
        rintro e w3 ⟨rfl, rfl⟩
        go_wp2_with fail
        go_ret2
        exact ⟨rfl, HB3.out⟩
    · rw [decide_eq_false hbp] at HB
      rw [HNONE.out fun h => hbp h.2]
      clear hok hbp hv HNONE
      go_enter Try.func26, Try.ntmps26
      go_wp2_with fail
      refine HV.out.mono ?_
      rintro e w1 ⟨rfl, hb1⟩
      have HRES := Lib.hid hb1
      clear hb1 HV
      go_wp2_with fail
      refine (HB.out _).mono ?_
      rintro e w1' ⟨rfl, rfl⟩
      go_wp2_with fail
      go_ret2
      exact ⟨rfl, HRES.out⟩
  · rw [decide_eq_false hok] at HV
    rw [HNONE.out fun h => hok h.1]
    clear hok hv HNONE
    go_enter Try.func26, Try.ntmps26
    go_wp2_with fail
    refine HV.out.mono ?_
    rintro e w1 ⟨rfl, hb1⟩
    have HRES := Lib.hid hb1
    clear hb1 HV
    go_wp2_with fail
    go_ret2
    exact ⟨rfl, HRES.out⟩

set_option maxRecDepth 100000 in
set_option maxHeartbeats 8000000 in
theorem implRs_any (b' o c : Nat) (l : List (Int × Int)) (b : Int) (w : World) (hv : FlatAt w (.slice (some ⟨b', o, none⟩) l.length c) l.length (recs l)) (hn : l.length ≤ 1048576) :
    Calls Try.prog 25 #[.slice (some ⟨b', o, none⟩) l.length c, .int .i64 b] w (Ret1CE (rsAll l b) w) := by
  have HPN := Lib.hid (implPn_any b' o c l b w hv hn)
  by_cases hall : OkR l ∧ OkB b
  · have HF := Lib.hid (rsAll_yes hall)
    rw [pnAll_yes hall] at HPN
    obtain ⟨hok, hb1, hb2⟩ := hall
    obtain ⟨b, rfl⟩ : ∃ n : Nat, b = n := ⟨b.toNat, by omega⟩
    rw [HF.out]
    simp only [Int.toNat_natCast] at HPN ⊢
    have HCL := Lib.hid (fun W (h : Below w.heap.size w W) => cloneRecs_any b' o c l W (hv.below h) hn)
    have HST := Lib.hid (passes_stb (b := b) hok (by omega))
    have hm18 := most_18 (b := b) hok (by omega)
    have hbn : 2 ≤ b := by omega
    have hbn2 : b ≤ 256 := by omega
    have HOK := Lib.hid hok
    have HLEN : Hid (∀ k, (passes (fun p : Int × Int => sk p.1) b l k).length = l.length) := Lib.hid (fun k => (passes_of (key := fun p : Int × Int => sk p.1) hbn l k).length)
    have HMEM : Hid (∀ k, ∀ q ∈ passes (fun p : Int × Int => sk p.1) b l k, -100000 ≤ q.1 ∧ q.1 ≤ 100000) := Lib.hid (fun k q hq => hok.key (((passes_of (key := fun p : Int × Int => sk p.1) hbn l k).mem q).1 hq))
    have HSL := Lib.hid (stb_len l)
    have HDA := Lib.hid (fun (p : Nat) W => digitAt_any (b : Int) (p : Int) W)
    have HBX := Lib.hid (fun (p : Nat) (W : World) => digit_boxes (b : Int) (p : Int) W)
    have HN := Lib.hid hn
    have HBB : Hid (2 ≤ b ∧ b ≤ 256) := Lib.hid ⟨hbn, hbn2⟩
    clear hok hv hb1 hb2 HF hbn hbn2
    generalize most b (sks l) = m at *
    go_enter Try.func25, Try.ntmps25
    go_wp2_with fail
    refine HPN.out.mono ?_
    rintro e w1 ⟨rfl, hb1⟩
    have HB1 := Lib.hid hb1
    clear hb1 HPN
    go_wp2_with fail
    refine (HCL.out _ HB1.out).mono ?_
    rintro e w2 ⟨g, cg, rfl, hcg, hg, hrow, hb2⟩
    have HR2 := Lib.hid hrow
    have HB2 := Lib.hid (HB1.out.trans (hb2.mono HB1.out.size))
    have HG2 : Hid (w.heap.size ≤ g) := Lib.hid (Nat.le_trans HB1.out.size hg)
    have HCG := Lib.hid hcg
    clear hcg hg hrow hb2 HB1 HCL
    go_wp2_with fail
    go_loopw [9, 10, 22] (fun sv _ iv wr => ∃ (k g cg : Nat) (S : List (Int × Int)), k ≤ m ∧ iv = .int .i64 (k : Int) ∧ sv = .slice (some ⟨g, 0, none⟩) l.length cg ∧ l.length ≤ cg ∧ w.heap.size ≤ g ∧ S = passes (fun p : Int × Int => sk p.1) b l k ∧ CellRow wr g (recs S) ∧ Below w.heap.size w wr) (fun _ _ iv _ => m - (intOf iv).toNat)
    case atStart => exact ⟨0, g, cg, l, Nat.zero_le _, rfl, rfl, HCG.out, HG2.out, rfl, HR2.out, HB2.out⟩
    case round =>
      obtain ⟨k, g', cg', S, hk, rfl, rfl, hcg, hg, hS, hrow, hb⟩ := hrel
      have HB := Lib.hid hb
      have HR := Lib.hid hrow
      have HG := Lib.hid hg
      have HC := Lib.hid hcg
      have HS := Lib.hid hS
      have HSLN : Hid (S.length = l.length) := Lib.hid (by rw [hS]; exact HLEN.out k)
      clear hb hrow hg hcg hS HCG HG2 HR2 HB2
      by_cases hlt : k < m
      · have hltz : (k : Int) < (m : Int) := by omega
        have HPS := Lib.hid (fun (W2 : World) (h2 : W2 = (wr.alloc (.cells #[.int .i64 (b : Int)] 3)).alloc (.cells #[.int .i64 (k : Int)] 3)) =>
          pass_any b k wr.heap.size (wr.heap.size + 1) (.slice (some ⟨g', 0, none⟩) l.length cg') S W2 (by rw [h2, ← HSLN.out]; exact (HR.out.below ((HBX.out k wr).1) HR.out.1).flat (by rw [HSLN.out]; exact HC.out)) (by rw [HSLN.out]; exact HN.out) (fun q hq => HMEM.out k q (by rw [← HS.out]; exact hq)) HBB.out.1 HBB.out.2 (by omega) (by rw [h2]; exact (HBX.out k wr).2))
        have HBK := Lib.hid (HBX.out k wr).1
        have HNX : Hid (bk (dgR b k) S b = passes (fun p : Int × Int => sk p.1) b l (k + 1) ∧ (bk (dgR b k) S b).length = l.length) := Lib.hid (by
          have e : bk (dgR b k) S b = passes (fun p : Int × Int => sk p.1) b l (k + 1) := by rw [HS.out]; rfl
          exact ⟨e, by rw [e]; exact HLEN.out (k + 1)⟩)
        generalize bk (dgR b k) S b = S2 at *
        clear HR HG HC HS HSLN HMEM HBX HN HBB HOK
        go_wp2_with fail
        refine (HDA.out k _).mono ?_
        rintro e w3 ⟨rfl, hw3⟩
        have HP := Lib.hid (HPS.out w3 hw3)
        have HB3 : Hid (Below w.heap.size w w3) := Lib.hid (by rw [hw3]; exact HB.out.trans (HBK.out.mono HB.out.size))
        clear hw3 HPS HB HBK
        go_wp2_with fail
        refine HP.out.mono ?_
        rintro e w4 ⟨g4, c4, rfl, hc4, hg4, hr4, hb4⟩
        rw [HNX.out.2] at hc4 ⊢
        have HR4 := Lib.hid hr4
        have HB4 := Lib.hid (HB3.out.trans (hb4.mono HB3.out.size))
        have HG4 : Hid (w.heap.size ≤ g4) := Lib.hid (Nat.le_trans HB3.out.size hg4)
        have HC4 := Lib.hid hc4
        clear hr4 hb4 hg4 hc4 HP HB3
        go_wp2_with fail
        go_roundw
        case rel => exact ⟨k + 1, g4, c4, S2, by omega, by go_num, rfl, HC4.out, HG4.out, HNX.out.1, HR4.out, HB4.out⟩
        case measure => simp [intOf]; omega
      · have hltz : ¬ (k : Int) < (m : Int) := by omega
        obtain rfl : k = m := by omega
        have HRES : Hid (Ret1CE (stb l, (k : Int), true) w (.returned (.tuple #[.slice (some ⟨g', 0, none⟩) l.length cg', .int .i64 (k : Int), .bool true])) wr) := Lib.hid (by
          have e : S = stb l := HS.out.trans HST.out
          have hr := HR.out
          rw [e] at hr
          exact .inl ⟨g', cg', by rw [HSL.out], by rw [HSL.out]; exact HC.out, HG.out, hr, HB.out⟩)
        clear HR HG HC HS HSLN HB HST HSL HLEN HMEM HOK
        go_wp2_with fail
        go_ret3
        exact HRES.out
  · rw [pnAll_no hall] at HPN
    rw [rsAll_no hall]
    clear hall hv
    go_enter Try.func25, Try.ntmps25
    go_wp2_with fail
    refine HPN.out.mono ?_
    rintro e w1 ⟨rfl, hb1⟩
    have HRES := Lib.hid (Ret1CE.none0 w w1 hb1)
    clear hb1 HPN
    go_wp2_with fail
    go_ret3
    exact HRES.out

end Go.Proofs.Ytebipiehkmhaiaa
