/- The program's WeightedMedian, by its contract. -/
import Derived.Test.YtagibgphegoagaaWmP
import Derived.Test.YtagibgphegoagaaISortQ
import Derived.Test.YtagibgphegoagaaIList
import Derived.BigQuiet
import Derived.Deep.QuietTactic
namespace Go.Proofs.Ytagibgphegoagaa
open Go.RowKit P El Qk Sl
set_option linter.unusedVariables false

def outW (x : Int) : Bool := !(decide (1 ≤ x ∧ x ≤ 1000))
theorem isInvalidWeight_any (x : Int) (W : World) :
    Calls Try.prog 119 #[.int .i64 x] W fun e w' => e = .returned (.bool (outW x)) ∧ w' = W := by
  by_cases h1 : x < 1
  · have hd : outW x = true := by unfold outW; rw [decide_eq_false (by omega)]; rfl
    go_enter Try.func119, Try.ntmps119
    go_wp2
    go_ret
    exact ⟨by first | rfl | (rw [hd]; rfl), rfl⟩
  · by_cases h2 : 1000 < x
    · have hd : outW x = true := by unfold outW; rw [decide_eq_false (by omega)]; rfl
      go_enter Try.func119, Try.ntmps119
      go_wp2
      go_ret
      exact ⟨by first | rfl | (rw [hd]; rfl), rfl⟩
    · have hd : outW x = false := by unfold outW; rw [decide_eq_true (by omega)]; rfl
      go_enter Try.func119, Try.ntmps119
      go_wp2
      go_ret
      exact ⟨by first | rfl | (rw [hd]; rfl), rfl⟩

set_option maxRecDepth 100000 in
set_option maxHeartbeats 8000000 in
theorem implWm_any (b o c : Nat) (l : List Int) (b2 o2 c2 : Nat) (ws : List Int) (w : World) (hv : FlatAt w (.slice (some ⟨b, o, none⟩) l.length c) l.length (ints l)) (hn : l.length ≤ 1048576)
    (hv2 : FlatAt w (.slice (some ⟨b2, o2, none⟩) ws.length c2) ws.length (ints ws)) (hn2 : ws.length ≤ 1048576) :
    Calls Try.prog 48 #[.slice (some ⟨b, o, none⟩) l.length c, .slice (some ⟨b2, o2, none⟩) ws.length c2] w fun e w' => e = .returned (.tuple #[.int .i64 (wmAll l ws).1, .bool (wmAll l ws).2]) ∧ Below w.heap.size w w' := by
  have HVL := Lib.hid (implValidList_any _ l w hv hn)
  have HV := Lib.hid (fun W (h : Below w.heap.size w W) => hv.below h)
  have HV2 := Lib.hid (fun W (h : Below w.heap.size w W) => hv2.below h)
  clear hv hv2
  by_cases hok : OkL l
  · rw [decide_eq_true hok] at HVL
    by_cases h0 : l.length = 0
    · have HF := Lib.hid (wmAll_no (l := l) (ws := ws) (fun h => by have := h.2.1; omega))
      obtain rfl := List.eq_nil_of_length_eq_zero h0
      clear hok h0
      rw [List.length_nil] at HVL ⊢
      go_enter Try.func48, Try.ntmps48
      go_wp2_with fail
      refine HVL.out.mono ?_
      rintro e w1 ⟨rfl, hb1⟩
      have HB1 := Lib.hid hb1
      clear hb1 HVL
      go_wp2_with fail
      go_ret2
      exact ⟨by rw [HF.out]; rfl, HB1.out⟩
    · have z0 : ((l.length : Int) == 0) = false := by rw [beq_eq_false_iff_ne]; omega
      have z1 : ¬ (l.length : Int) = 0 := by omega
      by_cases hl : ws.length = l.length
      · have n0 : ((ws.length : Int) != (l.length : Int)) = false := by rw [hl]; simp
        have eg : ∀ args w, (callFunc 119 args).run Try.prog w = .ok (.enter 119 args) w := enters_of Try.func119 (by kernel_rfl) rfl
        have HC := Lib.hid (fun W (h : FlatAt W (.slice (some ⟨b2, o2, none⟩) ws.length c2) ws.length (ints ws)) => containsFI outW 119 #[] eg _ ws W h (by omega) (fun W x _ _ => (isInvalidWeight_any x W).mono fun e w' h => ⟨h.1, h.2 ▸ Below.refl _ _⟩))
        have HLE := Lib.hid hl
        clear eg
        by_cases hw : ws.any outW = true
        · rw [hw] at HC
          have HF := Lib.hid (wmAll_no (l := l) (ws := ws) (fun h => by
            obtain ⟨x, hx, h2⟩ := List.any_eq_true.1 hw
            have := h.2.2.2 x hx
            unfold outW at h2
            rw [decide_eq_true this] at h2; cases h2))
          clear hok h0 hw hl
          go_enter Try.func48, Try.ntmps48
          go_wp2_with fail
          refine HVL.out.mono ?_
          rintro e w1 ⟨rfl, hb1⟩
          have HB1 := Lib.hid hb1
          have HC1 := Lib.hid (HC.out _ (HV2.out _ hb1))
          clear hb1 HVL HC
          go_wp2_with fail
          refine HC1.out.mono ?_
          rintro e w2 ⟨rfl, hb2⟩
          have HB2 := Lib.hid (HB1.out.trans (hb2.mono HB1.out.size))
          clear hb2 HC1 HB1
          go_wp2_with fail
          go_ret2
          exact ⟨by rw [HF.out]; rfl, HB2.out⟩
        · rw [show ws.any outW = false by simpa using hw] at HC
          have hwok : ∀ x ∈ ws, 1 ≤ x ∧ x ≤ 1000 := fun x hx => by
            have : outW x ≠ true := fun e => hw (List.any_eq_true.2 ⟨x, hx, e⟩)
            unfold outW at this
            by_cases h : 1 ≤ x ∧ x ≤ 1000
            · exact h
            · rw [decide_eq_false h] at this; exact absurd rfl this
          have HOK : Hid (OkW l ws) := Lib.hid ⟨hok, by omega, hl, hwok⟩
          have h64 := hok.1
          have HSP := Lib.hid (fun W (h : FlatAt W (.slice (some ⟨b, o, none⟩) l.length c) l.length (ints l)) => implSortP_any _ l W h hn)
          rw [sortF_yes hok] at HSP
          clear hok hw hwok hl
          go_enter Try.func48, Try.ntmps48
          go_wp2_with fail
          refine HVL.out.mono ?_
          rintro e w1 ⟨rfl, hb1⟩
          have HB1 := Lib.hid hb1
          have HC1 := Lib.hid (HC.out _ (HV2.out _ hb1))
          clear hb1 HVL HC
          go_wp2_with fail
          refine HC1.out.mono ?_
          rintro e w2 ⟨rfl, hb2⟩
          have HB2 := Lib.hid (HB1.out.trans (hb2.mono HB1.out.size))
          clear hb2 HC1 HB1
          go_wp2_with fail
          have HV3 := Lib.hid (HV.out w2 HB2.out)
          have HW3 := Lib.hid (HV2.out w2 HB2.out)
          have hw1000 := HOK.out.2.2.2
          have HWB := Lib.hid (wsum_b hw1000)
          have hwl : ws.length ≤ 64 := by rw [HLE.out]; exact h64
          clear hw1000 n0
          go_loopw [6, 8, 34] (fun tv _ iv wr => ∃ k : Nat, k ≤ ws.length ∧ tv = .int .i64 (wsum ws k) ∧ iv = .int .i64 (k : Int) ∧ wr = w2) (fun _ _ iv _ => ws.length - (intOf iv).toNat)
          case atStart => exact ⟨0, Nat.zero_le _, rfl, rfl, rfl⟩
          case round =>
            obtain ⟨k, hk, rfl, rfl, rfl⟩ := hrel
            have hsb := HWB.out k
            by_cases hlt : k < ws.length
            · have hkz : (k : Int) < (ws.length : Int) := by omega
              obtain ⟨x, hx⟩ : ∃ x, x = ws.getD k 0 := ⟨_, rfl⟩
              obtain ⟨a0, c0, e0, _, h0c⟩ := HW3.out
              simp at e0
              obtain ⟨rfl, rfl⟩ := e0
              obtain ⟨b3, o3, e3, _, hcx⟩ := h0c _ _ (ints_at (at_getD hlt))
              simp at e3
              obtain ⟨rfl, rfl⟩ := e3
              rw [← hx] at hcx
              have hsb2 := HWB.out (k + 1)
              have HS : Hid (wsum ws (k + 1) = wsum ws k + x) := Lib.hid (by rw [wsum, hx])
              rw [HS.out] at hsb2
              generalize wsum ws k = T at *
              have ewT : IntKind.i64.wrap (T + x) = T + x := by rw [IntKind.wrap_i64]; omega
              clear hx h0c
              go_wp2_with fail
              go_roundw
              case rel => exact ⟨k + 1, by omega, by rw [HS.out], by go_num, by first | rfl | trivial⟩
              case measure => simp [intOf]; omega
            · obtain rfl : k = ws.length := by omega
              have hkz : ¬ (ws.length : Int) < (ws.length : Int) := by omega
              have HWM := Lib.hid (fun k hk h1 h2 => wm_at HOK.out (k := k) hk h1 h2)
              have HWC := Lib.hid (wcum_b (sortTo l l.length) HOK.out.2.2.2)
              have HWA := Lib.hid (wcum_all l ws HLE.out)
              have HPK := Lib.hid (fun k hk => pick_at (l := l) (k := k) hk)
              have HPM := Lib.hid (sortTo_perm l l.length)
              have HPL := Lib.hid (sortTo_length l l.length)
              have HWN := Lib.hid (wmAll_yes HOK.out)
              have HWP : Hid (0 < wsum ws ws.length) := Lib.hid (by
                have h1 := HOK.out.2.2.2
                have hl0 := HOK.out.2.1
                have hle := HLE.out
                obtain ⟨j, hj⟩ : ∃ j, ws.length = j + 1 := ⟨ws.length - 1, by omega⟩
                rw [hj, wsum]
                have := wsum_b h1 j
                have := h1 _ (List.mem_of_getElem? (at_getD (l := ws) (k := j) (by omega)))
                omega)
              generalize wsum ws ws.length = T at *
              generalize sortTo l l.length = Pm at *
              clear HWB
              go_wp2_with fail
              refine (HSP.out _ HV3.out).mono ?_
              rintro e w3 ⟨g, cap, rfl, hcap, hg, hrow, hb3⟩
              simp only at hcap hrow
              have HV4 := Lib.hid (HV3.out.below hb3)
              have HW4 := Lib.hid (HW3.out.below hb3)
              have HB3 := Lib.hid (HB2.out.trans (hb3.mono HB2.out.size))
              have HROW := Lib.hid hrow
              simp only
              rw [HPL.out] at hcap ⊢
              clear hb3 hg hrow HV3 HW3 HSP HB2 HV HV2
              have HCELL : Hid (∀ k, k < l.length → ∃ p : Nat, Pm.getD k 0 = (p : Int) ∧ p < l.length ∧ w3.cell? ⟨g, k, none⟩ = some (.int .i64 (p : Int)) ∧ w3.cell? ⟨b2, o2 + p, none⟩ = some (.int .i64 (ws.getD p 0)) ∧ w3.cell? ⟨b, o + p, none⟩ = some (.int .i64 (l.getD p 0))) := Lib.hid (fun k hk => by
                have hat := at_getD (l := Pm) (k := k) (by rw [HPL.out]; exact hk)
                have hm := iota_mem.1 (HPM.out.mem_iff.1 (List.mem_of_getElem? hat))
                obtain ⟨p, hp⟩ : ∃ p : Nat, Pm.getD k 0 = (p : Int) := ⟨(Pm.getD k 0).toNat, by omega⟩
                rw [hp] at hat hm
                have hpl : p < l.length := by omega
                refine ⟨p, hp, hpl, (HROW.out.2 _ _ (ints_at hat)).1, ?_, ?_⟩
                · obtain ⟨a0, c0, e0, _, h0c⟩ := HW4.out
                  simp at e0
                  obtain ⟨rfl, rfl⟩ := e0
                  obtain ⟨b3, o3, e3, _, hcx⟩ := h0c p _ (ints_at (at_getD (by rw [HLE.out]; exact hpl)))
                  simp at e3
                  obtain ⟨rfl, rfl⟩ := e3
                  exact hcx
                · obtain ⟨a0, c0, e0, _, h0c⟩ := HV4.out
                  simp at e0
                  obtain ⟨rfl, rfl⟩ := e0
                  obtain ⟨b3, o3, e3, _, hcx⟩ := h0c p _ (ints_at (at_getD hpl))
                  simp at e3
                  obtain ⟨rfl, rfl⟩ := e3
                  exact hcx)
              have hl0 : 0 < l.length := Nat.pos_of_ne_zero h0
              have HWS : Hid (∀ k, wcum ws Pm (k + 1) = wcum ws Pm k + ws.getD (Pm.getD k 0).toNat 0) := Lib.hid (fun k => rfl)
              have HWL := Lib.hid hwl
              clear HROW HW4 HV4 hcap HPM HPL hwl hsb z0 z1 h0 hlt hkz hk
              obtain ⟨p0, hp0, hpl0, hc0, hc1, _⟩ := HCELL.out 0 hl0
              have HR1 : Hid (wcum ws Pm (0 + 1) = ws.getD p0 0) := Lib.hid (by
                rw [HWS.out, hp0, Int.toNat_natCast]
                show 0 + _ = _
                omega)
              generalize ws.getD p0 0 = R0 at *
              have hz0 : (0 : Int) < (l.length : Int) := by omega
              have hzp : (p0 : Int) < (ws.length : Int) := by have := HLE.out; omega
              clear hp0
              go_wp2_with fail
              go_quiet (fail)
              go_wp2_with fail
              go_loopw [11, 12] (fun av rv wr => ∃ k m : Nat, k < l.length ∧ av = .int .i64 (k : Int) ∧ rv = .int .i64 (wcum ws Pm (k + 1)) ∧ (∀ j, j < k → 2 * wcum ws Pm (j + 1) < T) ∧ wr = w3.drewN m) (fun av _ _ => l.length - (intOf av).toNat)
              case atStart => exact ⟨0, _, hl0, rfl, by rw [HR1.out], fun j hj => absurd hj (Nat.not_lt_zero _), rfl⟩
              case round =>
                obtain ⟨k, m, hk, rfl, rfl, hlo, rfl⟩ := hrel
                clear hc0 hc1 hzp
                have HLO := Lib.hid hlo
                have hcb := HWC.out (k + 1)
                clear hlo HR1
                by_cases hlt : 2 * wcum ws Pm (k + 1) < T
                · have hk1 : k + 1 < l.length := by
                    rcases Nat.lt_or_ge (k + 1) l.length with h | h
                    · exact h
                    · have e : k + 1 = l.length := by omega
                      have := HWA.out
                      rw [← e] at this
                      have := HWP.out
                      omega
                  obtain ⟨p, hp, hpl, hc0, hc1, _⟩ := HCELL.out (k + 1) hk1
                  have HS : Hid (wcum ws Pm (k + 1 + 1) = wcum ws Pm (k + 1) + ws.getD p 0) := Lib.hid (by rw [HWS.out, hp, Int.toNat_natCast])
                  have HLO2 : Hid (∀ j, j < k + 1 → 2 * wcum ws Pm (j + 1) < T) := Lib.hid (fun j hj => by
                    rcases Nat.lt_or_ge j k with h | h
                    · exact HLO.out j h
                    · rw [show j = k by omega]; exact hlt)
                  have hcb2 := HWC.out (k + 1 + 1)
                  rw [HS.out] at hcb2
                  generalize wcum ws Pm (k + 1) = R at *
                  generalize ws.getD p 0 = y at *
                  obtain ⟨k1, hk1e⟩ : ∃ k1, k1 = k + 1 := ⟨_, rfl⟩
                  rw [← hk1e] at hc0 hk1 HS HLO2
                  have ew1 : IntKind.i64.wrap ((k : Int) + 1) = (k1 : Int) := by rw [IntKind.wrap_i64]; omega
                  have ew2 : IntKind.i64.wrap (2 * R) = 2 * R := by rw [IntKind.wrap_i64]; omega
                  have ew3 : IntKind.i64.wrap (R + y) = R + y := by rw [IntKind.wrap_i64]; omega
                  have hld : decide (2 * R < T) = true := decide_eq_true hlt
                  have hk1z : (k1 : Int) < (l.length : Int) := by omega
                  have hpz : (p : Int) < (ws.length : Int) := by have := HLE.out; omega
                  have HK1 := Lib.hid hk1e
                  clear hp hcb hcb2 hk1e
                  go_wp2_with fail
                  go_roundw
                  case rel => exact ⟨k1, _, hk1, rfl, by rw [HS.out], HLO2.out, rfl⟩
                  case measure => have := HK1.out; simp [intOf]; omega
                · obtain ⟨p, hp, hpl, hc0, _, hc2⟩ := HCELL.out k hk
                  have HRES : Hid ((wmAll l ws).1 = l.getD p 0 ∧ (wmAll l ws).2 = true) := Lib.hid ⟨by
                    rw [HWM.out k hk (by omega) HLO.out, ← HPK.out k hk, hp, Int.toNat_natCast], by rw [HWN.out]⟩
                  have hld : decide (2 * wcum ws Pm (k + 1) < T) = false := decide_eq_false hlt
                  generalize wcum ws Pm (k + 1) = R at *
                  generalize l.getD p 0 = y at *
                  have ew2 : IntKind.i64.wrap (2 * R) = 2 * R := by rw [IntKind.wrap_i64]; omega
                  have hkz2 : (k : Int) < (l.length : Int) := by omega
                  have hpz : (p : Int) < (l.length : Int) := by omega
                  have HBE : Hid (∀ n, Below w.heap.size w (w3.drewN n)) := Lib.hid (fun n => HB3.out.trans ⟨rfl, rfl, rfl, Nat.le_refl _, fun _ _ => rfl⟩)
                  clear hp hcb
                  go_wp2_with fail
                  first | (go_ret2; exact ⟨by rw [HRES.out.1, HRES.out.2]; rfl, HBE.out _⟩) | (go_quiet (fail); go_wp2_with fail; go_ret2; exact ⟨by rw [HRES.out.1, HRES.out.2]; rfl, HBE.out _⟩)
      · have n0 : ((ws.length : Int) != (l.length : Int)) = true := by simp; omega
        have n1 : ¬ (ws.length : Int) = (l.length : Int) := by omega
        have HF := Lib.hid (wmAll_no (l := l) (ws := ws) (fun h => hl h.2.2.1))
        clear hok h0 hl
        go_enter Try.func48, Try.ntmps48
        go_wp2_with fail
        refine HVL.out.mono ?_
        rintro e w1 ⟨rfl, hb1⟩
        have HB1 := Lib.hid hb1
        clear hb1 HVL
        go_wp2_with fail
        go_ret2
        exact ⟨by rw [HF.out]; rfl, HB1.out⟩
  · rw [decide_eq_false hok] at HVL
    have HF := Lib.hid (wmAll_no (l := l) (ws := ws) (fun h => hok h.1))
    clear hok
    go_enter Try.func48, Try.ntmps48
    go_wp2_with fail
    refine HVL.out.mono ?_
    rintro e w1 ⟨rfl, hb1⟩
    have HB1 := Lib.hid hb1
    clear hb1 HVL
    go_wp2_with fail
    go_ret2
    exact ⟨by rw [HF.out]; rfl, HB1.out⟩

end Go.Proofs.Ytagibgphegoagaa
