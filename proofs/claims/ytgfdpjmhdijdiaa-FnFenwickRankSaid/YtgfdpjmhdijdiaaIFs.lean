/- The program's FenwickSelect, by its contract. -/
import Derived.Test.YtgfdpjmhdijdiaaIFp
import Derived.Test.YtgfdpjmhdijdiaaShelf
import Derived.Lib.BitFns
import Derived.BigQuiet
import Derived.Deep.QuietTactic
import Derived.Deep.RegionWith
namespace Go.Proofs.Ytgfdpjmhdijdiaa
open Go.RowKit Fw
set_option linter.unusedVariables false

theorem pow_dec : ∀ L < 8, wrap64 ((2 : Int) ^ L) = ((2 ^ L : Nat) : Int) := by decide +kernel
theorem len_bits_dec : ∀ n < 65, Lib.bitLen n ≤ 7 ∧ n < 2 ^ Lib.bitLen n := by decide +kernel

set_option maxRecDepth 100000 in
set_option maxHeartbeats 1000000 in
theorem implFs_any (x o k : Nat) (l : List Int) (n : Int) (w : World) (hv : FlatAt w (.slice (some ⟨x, o, none⟩) l.length k) l.length (ints l)) (hn : l.length ≤ 1048576) (hi : IsW l) :
    Calls Try.prog 51 #[.agg #[.slice (some ⟨x, o, none⟩) l.length k], .int .i64 n] w fun e w' => e = .returned (.tuple #[.int .i64 (selF l n).1, .bool (selF l n).2]) ∧ Below w.heap.size w w' := by
  obtain ⟨W, hW, hx, hz, hb⟩ := box1 w 53 (.slice (some ⟨x, o, none⟩) l.length k)
  have HV := Lib.hid (hv.below hb)
  have HB := Lib.hid hb
  have HX := Lib.hid hx
  have hc0 := hx.cell
  clear hv hb hx
  have HF := Lib.hid (implFp_any x o k l l.length W HV.out hn hi)
  by_cases hok : OkF l
  · rw [preF_yes hok (by omega) (Int.le_refl _), Int.toNat_natCast] at HF
    have h64 := hok.len
    have htot := OkM.pre_le hok (t := l.length) (by rw [vl_len]; omega)
    obtain ⟨T, hT⟩ : ∃ T, T = pre (vl l) l.length := ⟨_, rfl⟩
    generalize cw l.length = C at *
    by_cases h0 : 0 ≤ n
    · have g0 : ¬ n < 0 := by omega
      by_cases h1 : n < T
      · have g1 : ¬ T ≤ n := by omega
        have HSEL : Hid (selF l n = ((sel (vl l) n : Int), true)) := Lib.hid (selF_yes ⟨hok, h0, by rw [← hT]; exact h1⟩)
        obtain ⟨hL7, hL2⟩ := len_bits_dec l.length (by omega)
        obtain ⟨L, hL⟩ : ∃ L, L = Lib.bitLen l.length := ⟨_, rfl⟩
        have HBL := Lib.hid (fun W => Try.bits_Len (l.length : Int) W (by omega) (by omega))
        rw [Int.toNat_natCast, ← hL] at HBL
        rw [← hL] at hL7 hL2
        have HDS : Hid (ds l (L + 1) 0 n = sel (vl l) n) := Lib.hid (by rw [ds, if_neg (fun h => by omega)]; exact ds_sel hok hi h0 (by rw [← hT]; exact h1) hL7 (by omega))
        have HNN : Hid (∀ j, j < l.length → 0 ≤ l.getD j 0) := Lib.hid (fun j hj => by
          rw [hok.at hi hj]
          have := OkM.mono hok (a := j + 1 - lo (j + 1)) (b := j + 1) (by omega) (by rw [vl_len]; omega)
          omega)
        rw [HSEL.out]
        rw [← hT] at HF htot
        have hnT : n ≤ 64000 := by omega
        obtain ⟨R, hR⟩ : ∃ R, R = sel (vl l) n := ⟨_, rfl⟩
        rw [← hR] at HDS ⊢
        have hd0 : decide (n < 0) = false := decide_eq_false g0
        have hd1 : decide (T ≤ n) = false := decide_eq_false g1
        obtain ⟨D, hD⟩ : ∃ D, D = 2 ^ L := ⟨_, rfl⟩
        have HD := Lib.hid hD
        have hwp : wrap64 ((2 : Int) ^ L) = (D : Int) := by rw [hD]; exact pow_dec L (by omega)
        have g0' : 0 ≤ n := h0
        clear hok h0 h1 HSEL hL hT hR hL2 hD
        go_enter Try.func51, Try.ntmps51
        go_wp2_with fail
        rw [← hW]
        refine HF.out.mono ?_
        rintro e w1 ⟨rfl, hb1⟩
        have HV1 := Lib.hid (HV.out.below hb1)
        have hc1 := (boxed_below HX.out hb1 (by omega)).cell
        have HB1 := Lib.hid (HB.out.trans (hb1.mono (by omega)))
        clear hb1 HF HX
        go_wp2_with fail
        refine (HBL.out _).mono ?_
        rintro e w2 ⟨rfl, rfl⟩
        go_wp2_with fail
        go_loopw [1, 9, 10] (fun kv iv lv wr => ∃ (s i d : Nat) (q : Int), s ≤ 8 ∧ d = 2 ^ s / 2 ∧ i ≤ l.length ∧ 0 ≤ q ∧ q ≤ 64000 ∧ kv = .int .i64 q ∧ iv = .int .i64 (i : Int) ∧ lv = .int .i64 (d : Int) ∧ ds l s i q = R ∧ ∃ nq : Nat, wr = w2.drewN nq) (fun _ _ lv _ => (intOf lv).toNat)
        case atStart => exact ⟨L + 1, 0, D, n, by omega, by rw [HD.out, Nat.pow_succ]; omega, Nat.zero_le _, g0', hnT, rfl, rfl, by rw [hwp], HDS.out, 0, rfl⟩
        case round =>
          obtain ⟨s, i, d, q, hs, hd, hil, hq0, hq1, rfl, rfl, rfl, hds, nq, rfl⟩ := hrel
          have HDQ := Lib.hid hds
          clear hds
          by_cases hs0 : s = 0
          · subst hs0
            have hd0z : d = 0 := by rw [hd]
            subst hd0z
            have HE : Hid (i = R) := Lib.hid HDQ.out
            clear HDQ hd
            go_wp2_with fail
            go_ret2
            exact ⟨by rw [← HE.out]; rfl, HB1.out.trans ⟨rfl, rfl, rfl, Nat.le_refl _, fun _ _ => rfl⟩⟩
          · obtain ⟨u, rfl⟩ : ∃ u, s = u + 1 := ⟨s - 1, by omega⟩
            have hdu : d = 2 ^ u := by rw [hd, Nat.pow_succ]; omega
            have hd1p : 1 ≤ d := by rw [hdu]; exact Nat.one_le_two_pow
            have hd128 : d ≤ 128 := by rw [hdu]; exact Nat.le_trans (Nat.pow_le_pow_right (by omega) (show u ≤ 7 by omega)) (by decide)
            have hdz : (0 : Int) < (d : Int) := by omega
            obtain ⟨e, he⟩ : ∃ e, e = d / 2 := ⟨_, rfl⟩
            have HE : Hid (e = 2 ^ u / 2 ∧ e < d) := Lib.hid ⟨by rw [he, hdu], by omega⟩
            have hsh : d / 2 = e := he.symm
            obtain ⟨nx, hnx⟩ : ∃ nx, nx = i + d := ⟨_, rfl⟩
            have hw1 : IntKind.i64.wrap ((i : Int) + (d : Int)) = (nx : Int) := by rw [IntKind.wrap_i64]; omega
            obtain ⟨nj, hnj⟩ : ∃ nj, nj = nx - 1 := ⟨_, rfl⟩
            have hw2 : IntKind.i64.wrap ((nx : Int) - 1) = (nj : Int) := by rw [IntKind.wrap_i64]; omega
            by_cases c1 : nx ≤ l.length
            · have c1z : (nx : Int) ≤ (l.length : Int) := by omega
              have hnjl : nj < l.length := by omega
              obtain ⟨p, hp⟩ : ∃ p, p = l.getD nj 0 := ⟨_, rfl⟩
              have hp0 : 0 ≤ p := by rw [hp]; exact HNN.out nj hnjl
              have hw4 : w2.cell? ⟨x, o + nj, none⟩ = some (.int .i64 p) := by rw [(flat_at HV1.out hnjl).2, hp]
              by_cases c2 : p ≤ q
              · have hw3 : IntKind.i64.wrap (q - p) = q - p := by rw [IntKind.wrap_i64]; omega
                have HD1 : Hid (ds l u nx (q - p) = R) := Lib.hid (by have := HDQ.out; rw [ds, if_pos ⟨by rw [← hdu, ← hnx]; exact c1, by rw [← hdu, ← hnx, ← hnj, ← hp]; exact c2⟩, ← hdu, ← hnx, ← hnj, ← hp] at this; exact this)
                have HQ : Hid (0 ≤ q - p ∧ q - p ≤ 64000) := Lib.hid (by omega)
                clear HDQ hd hdu hp hnx hnj he
                go_wp2_with fail
                go_quiet (fail)
                go_wp2_with fail
                go_roundw
                case rel => exact ⟨u, nx, e, q - p, by omega, HE.out.1, c1, HQ.out.1, HQ.out.2, rfl, rfl, by rw [show ((d : Int) / 2) = (e : Int) from by omega], HD1.out, _, rfl⟩
                case measure => have := HE.out.2; simp [intOf]; omega
              · have HD1 : Hid (ds l u i q = R) := Lib.hid (by have := HDQ.out; rw [ds, if_neg (fun h => c2 (by rw [← hdu, ← hnx, ← hnj, ← hp] at h; exact h.2))] at this; exact this)
                clear HDQ hd hdu hp hnx hnj he
                go_wp2_with fail
                go_roundw
                case rel => exact ⟨u, i, e, q, by omega, HE.out.1, hil, hq0, hq1, rfl, rfl, by rw [show ((d : Int) / 2) = (e : Int) from by omega], HD1.out, _, rfl⟩
                case measure => have := HE.out.2; simp [intOf]; omega
            · have c1z : ¬ (nx : Int) ≤ (l.length : Int) := by omega
              have HD1 : Hid (ds l u i q = R) := Lib.hid (by have := HDQ.out; rw [ds, if_neg (fun h => c1 (by rw [← hdu, ← hnx] at h; exact h.1))] at this; exact this)
              clear HDQ hd hdu hnx hnj he
              go_wp2_with fail
              go_roundw
              case rel => exact ⟨u, i, e, q, by omega, HE.out.1, hil, hq0, hq1, rfl, rfl, by rw [show ((d : Int) / 2) = (e : Int) from by omega], HD1.out, _, rfl⟩
              case measure => have := HE.out.2; simp [intOf]; omega
      · have g1 : T ≤ n := by omega
        have HR := Lib.hid (selF_no (S := l) (k := n) (fun h => h1 (by rw [hT]; exact h.2.2)))
        rw [HR.out]
        rw [← hT] at HF
        clear hok h0 h1
        go_enter Try.func51, Try.ntmps51
        go_wp2_with fail
        rw [← hW]
        refine HF.out.mono ?_
        rintro e w1 ⟨rfl, hb1⟩
        have HB1 := Lib.hid (HB.out.trans (hb1.mono (by omega)))
        clear hb1 HF HX
        go_wp2_with fail
        go_ret2
        exact ⟨rfl, HB1.out⟩
    · have g0 : n < 0 := by omega
      have HR := Lib.hid (selF_no (S := l) (k := n) (fun h => h0 h.2.1))
      rw [HR.out]
      rw [← hT] at HF
      clear hok h0
      go_enter Try.func51, Try.ntmps51
      go_wp2_with fail
      rw [← hW]
      refine HF.out.mono ?_
      rintro e w1 ⟨rfl, hb1⟩
      have HB1 := Lib.hid (HB.out.trans (hb1.mono (by omega)))
      clear hb1 HF HX
      go_wp2_with fail
      go_ret2
      exact ⟨rfl, HB1.out⟩
  · rw [preF_no (fun h => hok h.1)] at HF
    have HR := Lib.hid (selF_no (S := l) (k := n) (fun h => hok h.1))
    rw [HR.out]
    clear hok
    go_enter Try.func51, Try.ntmps51
    go_wp2_with fail
    rw [← hW]
    refine HF.out.mono ?_
    rintro e w1 ⟨rfl, hb1⟩
    have HB1 := Lib.hid (HB.out.trans (hb1.mono (by omega)))
    clear hb1 HF HX
    go_wp2_with fail
    go_ret2
    exact ⟨rfl, HB1.out⟩

end Go.Proofs.Ytgfdpjmhdijdiaa
