/- The model's WeightedMedian, by its contract. -/
import Derived.Test.YtagibgphegoagaaWmP
import Derived.Test.YtagibgphegoagaaSrt
import Derived.BigQuiet
import Derived.Deep.QuietTactic
namespace Go.Proofs.Ytagibgphegoagaa
open Go.RowKit P El Qk Sl
set_option linter.unusedVariables false

theorem wm_first {l ws : List Int} (h : OkW l ws) {i : Nat} (hi : i < l.length) (h1 : wsum ws ws.length ≤ 2 * wle l ws ((srt l).getD i 0) l.length) (h2 : ∀ m, m < i → ¬ wsum ws ws.length ≤ 2 * wle l ws ((srt l).getD m 0) l.length) : wmAll l ws = ((srt l).getD i 0, true) := by
  rw [wmAll_yes h]
  obtain ⟨j, a1, a2, a3, a4, a5⟩ := wm_spec (l := l) (ws := ws) (T := wsum ws ws.length) l.length 0 (by omega) ⟨i, by omega, hi, h1⟩
  rw [a3]
  have : j = i := by
    rcases Nat.lt_trichotomy j i with h3 | h3 | h3
    · exact absurd a4 (h2 j h3)
    · exact h3
    · exact absurd h1 (a5 i (by omega) h3)
  rw [this]
theorem wm_last {l ws : List Int} (h : OkW l ws) : wsum ws ws.length ≤ 2 * wle l ws ((srt l).getD (l.length - 1) 0) l.length := by
  have h0 := h.2.1
  have := wle_ge (l := l) h.2.2.2 (k := l.length) (x := (srt l).getD (l.length - 1) 0) (Nat.le_refl _) (fun j hj => by
    rcases Nat.lt_or_ge j (l.length - 1) with h3 | h3
    · exact asc_at (srt_asc l) h3 (by rw [srt_length]; omega)
    · rw [show j = l.length - 1 by omega]; exact Int.le_refl _)
  rw [wcum_all l ws h.2.2.1] at this
  have := wsum_b h.2.2.2 ws.length
  omega

set_option maxRecDepth 100000 in
set_option maxHeartbeats 8000000 in
theorem specWm_any (b o c : Nat) (l : List Int) (b2 o2 c2 : Nat) (ws : List Int) (w : World) (hv : FlatAt w (.slice (some ⟨b, o, none⟩) l.length c) l.length (ints l)) (hn : l.length ≤ 1048576)
    (hv2 : FlatAt w (.slice (some ⟨b2, o2, none⟩) ws.length c2) ws.length (ints ws)) (hn2 : ws.length ≤ 1048576) :
    Calls Try.prog 49 #[.slice (some ⟨b, o, none⟩) l.length c, .slice (some ⟨b2, o2, none⟩) ws.length c2] w fun e w' => e = .returned (.tuple #[.int .i64 (wmAll l ws).1, .bool (wmAll l ws).2]) ∧ Below w.heap.size w w' := by
  have HVL := Lib.hid (l2List_any _ l w hv hn)
  have HCL : Hid (∀ W, Below w.heap.size w W → ∀ k, k < l.length → W.cell? ⟨b, o + k, none⟩ = some (.int .i64 (l.getD k 0))) := Lib.hid (fun W hW k hk => by
    obtain ⟨a0, c0, e0, _, h0c⟩ := hv.below hW
    simp at e0
    obtain ⟨rfl, rfl⟩ := e0
    obtain ⟨b3, o3, e3, _, hcx⟩ := h0c k _ (ints_at (at_getD hk))
    simp at e3
    obtain ⟨rfl, rfl⟩ := e3
    exact hcx)
  have HCW : Hid (∀ W, Below w.heap.size w W → ∀ k, k < ws.length → W.cell? ⟨b2, o2 + k, none⟩ = some (.int .i64 (ws.getD k 0))) := Lib.hid (fun W hW k hk => by
    obtain ⟨a0, c0, e0, _, h0c⟩ := hv2.below hW
    simp at e0
    obtain ⟨rfl, rfl⟩ := e0
    obtain ⟨b3, o3, e3, _, hcx⟩ := h0c k _ (ints_at (at_getD hk))
    simp at e3
    obtain ⟨rfl, rfl⟩ := e3
    exact hcx)
  have HV := Lib.hid (fun W (h : Below w.heap.size w W) => hv.below h)
  clear hv hv2
  by_cases hok : OkL l
  · rw [decide_eq_true hok] at HVL
    by_cases h0 : l.length = 0
    · have HF := Lib.hid (wmAll_no (l := l) (ws := ws) (fun h => by have := h.2.1; omega))
      obtain rfl := List.eq_nil_of_length_eq_zero h0
      clear hok h0
      rw [List.length_nil] at HVL ⊢
      go_enter Try.func49, Try.ntmps49
      go_wp2_with fail
      refine HVL.out.mono ?_
      rintro e w1 ⟨rfl, hb1⟩
      have HB1 := Lib.hid hb1
      clear hb1 HVL
      go_wp2_with fail
      go_ret2
      exact ⟨by rw [HF.out]; rfl, HB1.out⟩
    · have z0 : ((l.length : Int) == 0) = false := by rw [beq_eq_false_iff_ne]; omega
      have z1 : ¬ (l.length : Int) = 0 := by omega
      by_cases hl : ws.length = l.length
      · have n0 : ((ws.length : Int) != (l.length : Int)) = false := by rw [hl]; simp
        have HLE := Lib.hid hl
        have h64 := hok.1
        have HOK : Hid ((∀ x ∈ ws, 1 ≤ x ∧ x ≤ 1000) → OkW l ws) := Lib.hid (fun hw => ⟨hok, by omega, hl, hw⟩)
        have hwl : ws.length ≤ 64 := by omega
        have HSR := Lib.hid (fun W (h : FlatAt W (.slice (some ⟨b, o, none⟩) l.length c) l.length (ints l)) => l2Sorted_any b o c l W h h64)
        have hl0 : 0 < l.length := Nat.pos_of_ne_zero h0
        clear hok hl h0
        go_enter Try.func49, Try.ntmps49
        go_wp2_with fail
        refine HVL.out.mono ?_
        rintro e w1 ⟨rfl, hb1⟩
        have HB1 := Lib.hid hb1
        clear hb1 HVL
        go_wp2_with fail
        clear n0 z0 z1
        go_loopw [6, 7] (fun tv iv wr => ∃ k : Nat, k ≤ ws.length ∧ tv = .int .i64 (wsum ws k) ∧ iv = .int .i64 (k : Int) ∧ (∀ x ∈ ws.take k, 1 ≤ x ∧ x ≤ 1000) ∧ (0 ≤ wsum ws k ∧ wsum ws k ≤ 1000 * k) ∧ wr = w1) (fun _ iv _ => ws.length - (intOf iv).toNat)
        case atStart => exact ⟨0, Nat.zero_le _, rfl, rfl, by simp, ⟨Int.le_refl _, by simp [wsum]⟩, rfl⟩
        case round =>
          obtain ⟨k, hk, rfl, rfl, hall, hsb, rfl⟩ := hrel
          have HALL := Lib.hid hall
          clear hall
          by_cases hlt : k < ws.length
          · have hkz : (k : Int) < (ws.length : Int) := by omega
            have hkd : decide ((k : Int) < (ws.length : Int)) = true := decide_eq_true hkz
            obtain ⟨x, hx⟩ : ∃ x, x = ws.getD k 0 := ⟨_, rfl⟩
            have hcx := HCW.out _ HB1.out k hlt
            rw [← hx] at hcx
            have hin : x ∈ ws := by rw [hx]; exact List.mem_of_getElem? (at_getD hlt)
            have HIN := Lib.hid (fun W => l1In_any x 1 1000 W)
            have HTK : Hid (ws.take (k + 1) = ws.take k ++ [x]) := Lib.hid (by rw [List.take_add_one, at_getD hlt, ← hx]; rfl)
            by_cases hxo : 1 ≤ x ∧ x ≤ 1000
            · rw [decide_eq_true hxo] at HIN
              have HS : Hid (wsum ws (k + 1) = wsum ws k + x) := Lib.hid (by rw [wsum, hx])
              generalize wsum ws k = T at *
              have ewT : IntKind.i64.wrap (T + x) = T + x := by rw [IntKind.wrap_i64]; omega
              have HN : Hid (∀ y ∈ ws.take (k + 1), 1 ≤ y ∧ y ≤ 1000) := Lib.hid (by
                rw [HTK.out]; intro y hy
                rcases List.mem_append.1 hy with h | h
                · exact HALL.out y h
                · rw [List.mem_singleton.1 h]; exact hxo)
              clear hx hin
              go_wp2_with fail
              refine (HIN.out _).mono ?_
              rintro e w2 ⟨rfl, rfl⟩
              go_wp2_with fail
              go_roundw
              case rel => exact ⟨k + 1, by omega, by rw [HS.out], by go_num, HN.out, by rw [HS.out]; omega, by first | rfl | trivial⟩
              case measure => simp [intOf]; omega
            · rw [decide_eq_false hxo] at HIN
              have HF := Lib.hid (wmAll_no (l := l) (ws := ws) (fun h => hxo (h.2.2.2 x hin)))
              clear hx hin hxo
              go_wp2_with fail
              refine (HIN.out _).mono ?_
              rintro e w2 ⟨rfl, rfl⟩
              go_wp2_with fail
              go_ret2
              exact ⟨by rw [HF.out]; rfl, HB1.out⟩
          · obtain rfl : k = ws.length := by omega
            have hkz : ¬ (ws.length : Int) < (ws.length : Int) := by omega
            have hkd : decide ((ws.length : Int) < (ws.length : Int)) = false := decide_eq_false hkz
            have hOK : OkW l ws := HOK.out (fun x hx => HALL.out x (by rw [List.take_length]; exact hx))
            have HFI := Lib.hid (fun i hi h1 h2 => wm_first hOK (i := i) hi h1 h2)
            have HLA := Lib.hid (wm_last hOK)
            have HWB := Lib.hid (fun x k => wle_b (l := l) hOK.2.2.2 x k)
            have HWG := Lib.hid (fun k => wget hOK.2.2.2 k)
            have hsl := srt_length l
            have HSL := Lib.hid hsl
            have HV1 := Lib.hid (HV.out _ HB1.out)
            generalize wsum ws ws.length = T at *
            clear HALL hOK HOK hsl HV hlt hk
            go_wp2_with fail
            refine (HSR.out _ HV1.out).mono ?_
            rintro e w2 ⟨g, cap, rfl, hcap, hg, hrow, hb2⟩
            have HB2 := Lib.hid (HB1.out.trans (hb2.mono HB1.out.size))
            have HROW := Lib.hid hrow
            rw [HSL.out] at hcap ⊢
            clear hb2 hrow hg HV1 HSR
            go_wp2_with fail
            go_loopw [9, 10, 11] (fun iv _ _ wr => ∃ i m : Nat, i ≤ l.length ∧ iv = .int .i64 (i : Int) ∧ (∀ m, m < i → ¬ T ≤ 2 * wle l ws ((srt l).getD m 0) l.length) ∧ wr = w2.drewN m) (fun iv _ _ _ => l.length - (intOf iv).toNat)
            case atStart => exact ⟨0, 0, Nat.zero_le _, rfl, fun m hm => absurd hm (Nat.not_lt_zero _), rfl⟩
            case round =>
              obtain ⟨i, m, hi, rfl, hno, rfl⟩ := hrel
              have HNO := Lib.hid hno
              clear hno
              by_cases hil : i < l.length
              · have hiz : (i : Int) < (l.length : Int) := by omega
                have hid : decide ((i : Int) < (l.length : Int)) = true := decide_eq_true hiz
                obtain ⟨x, hx⟩ : ∃ x, x = (srt l).getD i 0 := ⟨_, rfl⟩
                have hcx := (HROW.out.2 _ _ (ints_at (at_getD (l := srt l) (k := i) (by rw [HSL.out]; exact hil)))).1
                rw [← hx] at hcx
                have HX := Lib.hid hx
                clear hx
                go_wp2_with fail
                go_loopw [10, 11] (fun bv kv ws2 => ∃ k m : Nat, k ≤ l.length ∧ bv = .int .i64 (wle l ws x k) ∧ kv = .int .i64 (k : Int) ∧ ws2 = w2.drewN m) (fun _ kv _ => l.length - (intOf kv).toNat)
                case atStart => exact ⟨0, m, Nat.zero_le _, rfl, rfl, rfl⟩
                case round =>
                  obtain ⟨k, m2, hk, rfl, rfl, rfl⟩ := hrel
                  have hwb := HWB.out x k
                  by_cases hkl : k < l.length
                  · have hkz : (k : Int) < (l.length : Int) := by omega
                    have hkd : decide ((k : Int) < (l.length : Int)) = true := decide_eq_true hkz
                    have hkz2 : (k : Int) < (ws.length : Int) := by have := HLE.out; omega
                    obtain ⟨y, hy⟩ : ∃ y, y = l.getD k 0 := ⟨_, rfl⟩
                    have hcy := HCL.out _ HB2.out k hkl
                    rw [← hy] at hcy
                    obtain ⟨u, hu⟩ : ∃ u, u = ws.getD k 0 := ⟨_, rfl⟩
                    have hcu := HCW.out _ HB2.out k (by rw [HLE.out]; exact hkl)
                    rw [← hu] at hcu
                    have hug := HWG.out k
                    rw [← hu] at hug
                    have hws : wle l ws x (k + 1) = wle l ws x k + if y ≤ x then u else 0 := by rw [wle, hy, hu]
                    have HWS := Lib.hid hws
                    clear hy hu hws
                    by_cases hyx : y ≤ x
                    · have hyd : decide (y ≤ x) = true := decide_eq_true hyx
                      have HS : Hid (wle l ws x (k + 1) = wle l ws x k + u) := Lib.hid (by rw [HWS.out, if_pos hyx])
                      generalize wle l ws x k = B at *
                      have ewB : IntKind.i64.wrap (B + u) = B + u := by rw [IntKind.wrap_i64]; omega
                      clear HWS
                      go_wp2_with fail
                      go_quiet (fail)
                      go_wp2_with fail
                      go_roundw
                      case rel => exact ⟨k + 1, _, by omega, by rw [HS.out], by go_num, rfl⟩
                      case measure => simp [intOf]; omega
                    · have hyd : decide (y ≤ x) = false := decide_eq_false hyx
                      have HS : Hid (wle l ws x (k + 1) = wle l ws x k) := Lib.hid (by rw [HWS.out, if_neg hyx]; omega)
                      generalize wle l ws x k = B at *
                      clear HWS
                      go_wp2_with fail
                      go_quiet (fail)
                      go_wp2_with fail
                      go_roundw
                      case rel => exact ⟨k + 1, _, by omega, by rw [HS.out], by go_num, rfl⟩
                      case measure => simp [intOf]; omega
                  · obtain rfl : k = l.length := by omega
                    have hkz : ¬ (l.length : Int) < (l.length : Int) := by omega
                    have hkd : decide ((l.length : Int) < (l.length : Int)) = false := decide_eq_false hkz
                    have HBE : Hid (∀ n, Below w.heap.size w (w2.drewN n)) := Lib.hid (fun n => HB2.out.trans ⟨rfl, rfl, rfl, Nat.le_refl _, fun _ _ => rfl⟩)
                    by_cases ht : T ≤ 2 * wle l ws x l.length
                    · have HRES : Hid (wmAll l ws = (x, true)) := Lib.hid (by
                        rw [HX.out]; exact HFI.out i hil (by rw [← HX.out]; exact ht) HNO.out)
                      have htd : decide (T ≤ 2 * wle l ws x l.length) = true := decide_eq_true ht
                      generalize wle l ws x l.length = B at *
                      have ewB : IntKind.i64.wrap (2 * B) = 2 * B := by rw [IntKind.wrap_i64]; omega
                      go_wp2_with fail
                      go_ret2
                      exact ⟨by rw [HRES.out]; rfl, HBE.out _⟩
                    · have htd : decide (T ≤ 2 * wle l ws x l.length) = false := decide_eq_false ht
                      have HN : Hid (∀ m, m < i + 1 → ¬ T ≤ 2 * wle l ws ((srt l).getD m 0) l.length) := Lib.hid (fun m hm => by
                        rcases Nat.lt_or_ge m i with h | h
                        · have := HNO.out m h; omega
                        · rw [show m = i by omega, ← HX.out]; exact ht)
                      generalize wle l ws x l.length = B at *
                      have ewB : IntKind.i64.wrap (2 * B) = 2 * B := by rw [IntKind.wrap_i64]; omega
                      go_wp2_with fail
                      go_roundw
                      case rel => exact ⟨i + 1, _, by omega, by go_num, HN.out, rfl⟩
                      case measure => simp [intOf]; omega
              · exfalso
                exact HNO.out (l.length - 1) (by omega) HLA.out
      · have n0 : ((ws.length : Int) != (l.length : Int)) = true := by simp; omega
        have n1 : ¬ (ws.length : Int) = (l.length : Int) := by omega
        have HF := Lib.hid (wmAll_no (l := l) (ws := ws) (fun h => hl h.2.2.1))
        clear hok h0 hl
        go_enter Try.func49, Try.ntmps49
        go_wp2_with fail
        refine HVL.out.mono ?_
        rintro e w1 ⟨rfl, hb1⟩
        have HB1 := Lib.hid hb1
        clear hb1 HVL
        go_wp2_with fail
        go_ret2
        exact ⟨by rw [HF.out]; rfl, HB1.out⟩
  · rw [decide_eq_false hok] at HVL
    have HF := Lib.hid (wmAll_no (l := l) (ws := ws) (fun h => hok h.1))
    clear hok
    go_enter Try.func49, Try.ntmps49
    go_wp2_with fail
    refine HVL.out.mono ?_
    rintro e w1 ⟨rfl, hb1⟩
    have HB1 := Lib.hid hb1
    clear hb1 HVL
    go_wp2_with fail
    go_ret2
    exact ⟨by rw [HF.out]; rfl, HB1.out⟩

end Go.Proofs.Ytagibgphegoagaa
