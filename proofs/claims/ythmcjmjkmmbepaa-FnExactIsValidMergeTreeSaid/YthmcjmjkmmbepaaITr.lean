/- The program's IsValidMergeTree: slices.EqualFunc over the levels, by its contract. -/
import Derived.Test.YthmcjmjkmmbepaaSTr
import Derived.Test.YthmcjmjkmmbepaaIBm
import Derived.Test.YthmcjmjkmmbepaaISrt
namespace Go.Proofs.Ythmcjmjkmmbepaa
open Go.RowKit P El Mt
set_option linter.unusedVariables false

/-- Two rows of rows, read alone. -/
structure TwoR (g lo hi c g2 lo2 hi2 c2 : Nat) (T M : List (List Int)) (G C G2 C2 : Nat → Nat) (w W : World) : Prop where
  nt : Nest W g lo hi (T.map ints) G C
  nw : Nest W g2 lo2 hi2 (M.map ints) G2 C2
  b : Below w.heap.size w W
theorem TwoR.below {g lo hi c g2 lo2 hi2 c2 : Nat} {T M : List (List Int)} {G C G2 C2 : Nat → Nat} {w W W' : World} (h : TwoR g lo hi c g2 lo2 hi2 c2 T M G C G2 C2 w W) (hb : Below W.heap.size W W') : TwoR g lo hi c g2 lo2 hi2 c2 T M G C G2 C2 w W' :=
  ⟨h.nt.below hb h.nt.top, h.nw.below hb h.nw.top, h.b.trans (hb.mono h.b.size)⟩

set_option maxRecDepth 100000 in
set_option maxHeartbeats 2000000 in
theorem equalFunc_any (g lo hi c g2 lo2 hi2 c2 : Nat) (T M : List (List Int)) (G C G2 C2 : Nat → Nat) (w : World) (h : Nest w g lo hi (T.map ints) G C) (h2 : Nest w g2 lo2 hi2 (M.map ints) G2 C2) (hn : T.length ≤ 1048576) (hm : M.length ≤ 1048576)
    (hx : ∀ (j : Nat) x, T[j]? = some x → x.length ≤ 1048576) (hy : ∀ (j : Nat) x, M[j]? = some x → x.length ≤ 1048576) (hgc : T.length ≤ c) (hgc2 : M.length ≤ c2) :
    Calls Try.prog 72 #[.slice (some ⟨g, 0, none⟩) T.length c, .slice (some ⟨g2, 0, none⟩) M.length c2, .func (.func 73) #[] #[]] w fun e w' => e = .returned (.bool (decide (T = M))) ∧ Below w.heap.size w w' := by
  have HT : Hid (TwoR g lo hi c g2 lo2 hi2 c2 T M G C G2 C2 w w) := Lib.hid ⟨h, h2, Below.refl _ _⟩
  have HX := Lib.hid hx
  have HY := Lib.hid hy
  clear h h2 hx hy
  by_cases hl : T.length = M.length
  · have HL := Lib.hid hl
    rw [← hl]
    clear hl
    go_enter Try.func72, Try.ntmps72
    go_wp2_with fail
    go_loopw [17] (fun i wr => ∃ d : Nat, d ≤ T.length ∧ i = .int .i64 d ∧ T.take d = M.take d ∧ TwoR g lo hi c g2 lo2 hi2 c2 T M G C G2 C2 w wr) (fun i _ => T.length - (intOf i).toNat)
    case atStart => exact ⟨0, Nat.zero_le _, rfl, rfl, HT.out⟩
    case round =>
      obtain ⟨d, hd, rfl, htk, htw⟩ := hrel
      have HTW := Lib.hid htw
      have HTK := Lib.hid htk
      clear htw htk HT
      by_cases hlt : d < T.length
      · obtain ⟨p, hp⟩ : ∃ p, T[d]? = some p := ⟨_, List.getElem?_eq_getElem hlt⟩
        obtain ⟨q, hq⟩ : ∃ q, M[d]? = some q := ⟨_, List.getElem?_eq_getElem (by have := HL.out; omega)⟩
        obtain ⟨hcp, _⟩ := nest_at HTW.out.nt hp
        obtain ⟨hcq, _⟩ := nest_at HTW.out.nw hq
        have hdz : (d : Int) < (T.length : Int) := by omega
        have HP := Lib.hid hp
        have HQ := Lib.hid hq
        clear hp hq
        have HC : Hid (∀ W0, Below wr.heap.size wr W0 → Calls Try.prog 73 #[.slice (some ⟨G d, 0, none⟩) p.length (C d), .slice (some ⟨G2 d, 0, none⟩) q.length (C2 d)] W0 fun e w' => e = .returned (.bool (decide (p = q))) ∧ Hid (TwoR g lo hi c g2 lo2 hi2 c2 T M G C G2 C2 w w')) := Lib.hid (fun W0 h0 => (slEqual_any _ _ p q W0 (nest_at (HTW.out.below h0).nt HP.out).2 (nest_at (HTW.out.below h0).nw HQ.out).2 (HX.out d p HP.out) (HY.out d q HQ.out)).mono (by
          rintro e w' ⟨rfl, hb⟩
          exact ⟨rfl, Lib.hid ((HTW.out.below h0).below hb)⟩))
        have HC0 := Lib.hid (HC.out wr (Below.refl _ _))
        clear HC
        by_cases hqp : p = q
        · rw [decide_eq_true hqp] at HC0
          have HTN := Lib.hid (show T.take (d + 1) = M.take (d + 1) by rw [List.take_add_one, List.take_add_one, HTK.out, HP.out, HQ.out, hqp])
          clear HTW HTK HP HQ hqp
          go_wp2_with fail
          refine HC0.out.mono ?_
          rintro e w5 ⟨rfl, HT5⟩
          go_wp2_with fail
          go_roundw
          case rel => exact ⟨d + 1, by omega, by go_num, HTN.out, HT5.out⟩
          case measure => simp [intOf]; omega
        · rw [decide_eq_false hqp] at HC0
          have HD : Hid (decide (T = M) = false) := Lib.hid (decide_eq_false (fun e => by
            have h4 := HP.out
            rw [e, HQ.out] at h4
            exact hqp (Option.some.inj h4).symm))
          clear HTW HTK HP HQ hqp
          go_wp2_with fail
          refine HC0.out.mono ?_
          rintro e w5 ⟨rfl, HT5⟩
          go_wp2_with fail
          go_ret
          exact ⟨by rw [HD.out]; rfl, HT5.out.b⟩
      · obtain rfl : d = T.length := by omega
        have HD : Hid (decide (T = M) = true) := Lib.hid (decide_eq_true (by have h1 := HTK.out; rw [List.take_length, HL.out, List.take_length] at h1; exact h1))
        go_wp2_with fail
        go_ret
        exact ⟨by rw [HD.out]; rfl, HTW.out.b⟩
  · have HD := Lib.hid (decide_eq_false (fun e : T = M => hl (by rw [e])))
    have hlz : ¬ (T.length : Int) = (M.length : Int) := by omega
    have hlb : ((T.length : Int) != (M.length : Int)) = true := by simpa using hlz
    go_enter Try.func72, Try.ntmps72
    go_wp2_with fail
    go_ret
    exact ⟨by rw [HD.out]; rfl, Below.refl _ _⟩

set_option maxRecDepth 100000 in
set_option maxHeartbeats 2000000 in
theorem implVt_any (g lo hi c : Nat) (T : List (List Int)) (G C : Nat → Nat) (w : World) (h : Nest w g lo hi (T.map ints) G C) (hc : T.length ≤ c) (hn : T.length ≤ 1048576) (hx : ∀ (j : Nat) x, T[j]? = some x → x.length ≤ 1048576) :
    Calls Try.prog 26 #[.agg #[.slice (some ⟨g, 0, none⟩) T.length c]] w fun e w' => e = .returned (.bool (okT T)) ∧ Below w.heap.size w w' := by
  obtain ⟨W, hW, hxb, hz, hbW⟩ := box1 w 50 (.slice (some ⟨g, 0, none⟩) T.length c)
  have HN := Lib.hid (h.below (hbW.mono (Nat.le_refl _)) h.top)
  have HX := Lib.hid hxb
  have HB := Lib.hid hbW
  have hc0 := hxb.cell
  have HXX := Lib.hid hx
  clear h hbW hxb hx
  by_cases h0 : T.length = 0
  · have HD : Hid (okT T = false) := Lib.hid (okT_no (fun x hx => by rw [List.eq_nil_of_length_eq_zero h0] at hx; simp at hx))
    rw [h0] at hc0 hW ⊢
    go_enter Try.func26, Try.ntmps26
    go_wp2_with fail
    go_ret
    refine ⟨by rw [HD.out]; rfl, ?_⟩
    rw [← hW]
    first | exact HB.out | exact HB.out.trans ⟨rfl, rfl, rfl, Nat.le_refl _, fun _ _ => rfl⟩
  · have h0z : ((T.length : Int) == 0) = false := by rw [beq_eq_false_iff_ne]; omega
    have h0p : (0 : Int) < (T.length : Int) := by omega
    obtain ⟨x, hx0⟩ : ∃ x, T[0]? = some x := ⟨_, List.getElem?_eq_getElem (by omega)⟩
    have HX0 := Lib.hid hx0
    obtain ⟨hr0, hf0⟩ := nest_at HN.out hx0
    have hxl := HXX.out 0 x hx0
    have HBL := Lib.hid (implBm_any sortPart (G 0) 0 (C 0) x W hf0 hxl)
    rw [hW] at hr0
    clear hx0 hf0
    by_cases hok : OkL x
    · have HOK := Lib.hid hok
      rw [bmF_yes hok] at HBL
      clear hok
      go_enter Try.func26, Try.ntmps26
      go_wp2_with fail
      rw [← hW]
      refine HBL.out.mono ?_
      rintro e w2 ⟨v, X, rfl, hh, hm, hb2⟩
      simp only at hm ⊢
      obtain ⟨M, hM⟩ : ∃ M, M = lvs x := ⟨_, rfl⟩
      rw [← hM] at hm
      have hMp : 0 < M.length := by rw [hM]; exact lvs_pos x
      have hM64 : M.length ≤ 64 := by rw [hM, lvs_len]; have := (lc_dec x.length (by have := HOK.out.1; omega)).2.1; omega
      have hMx : ∀ (j : Nat) y, M[j]? = some y → y.length ≤ 1048576 := fun j y hy => by
        rw [hM] at hy
        unfold lvs at hy
        rw [List.getElem?_map] at hy
        obtain ⟨k, _, rfl⟩ := Option.map_eq_some_iff.1 hy
        rw [lv_len (Nat.two_pow_pos k)]; exact hxl
      have hXl : X.length = M.length := by rw [← hm]; simp
      obtain ⟨g2, c2, rfl⟩ : ∃ g2 c2, v = .slice (some ⟨g2, 0, none⟩) M.length c2 := by
        rcases hh.nn with ⟨_, e⟩ | ⟨g2, c2, e, _⟩
        · rw [e] at hXl; simp at hXl; omega
        · exact ⟨g2, c2, by rw [e, hXl]⟩
      obtain ⟨hnx, hcl, hnw⟩ := hh.nest
      rw [show (X.map fun x => x.L) = M from hm] at hnw
      have hcM : M.length ≤ c2 := by omega
      obtain ⟨G2, hG2⟩ : ∃ G2 : Nat → Nat, G2 = (fun i => ((X[i]?).map ZRow.g).getD 0) := ⟨_, rfl⟩
      obtain ⟨C2, hC2⟩ : ∃ C2 : Nat → Nat, C2 = (fun i => ((X[i]?).map ZRow.c).getD 0) := ⟨_, rfl⟩
      rw [← hG2, ← hC2] at hnw
      have hX2 := boxed_below HX.out hb2 (Boxed.lt HX.out)
      have hN2 := HN.out.below hb2 HN.out.top
      have HB2 := Lib.hid (HB.out.trans (hb2.mono HB.out.size))
      obtain ⟨w3, hW3, hx3, hz3, hb3⟩ := box1 w2 50 (.slice (some ⟨g2, 0, none⟩) M.length c2)
      have hX3 := boxed_below hX2 hb3 (Boxed.lt hX2)
      have hct := hX3.cell
      have hcw := hx3.cell
      have HEQ : Hid (∀ W0, Below w3.heap.size w3 W0 → Calls Try.prog 72 #[.slice (some ⟨g, 0, none⟩) T.length c, .slice (some ⟨g2, 0, none⟩) M.length c2, .func (.func 73) #[] #[]] W0 fun e w' => e = .returned (.bool (okT T)) ∧ Below w.heap.size w w') := Lib.hid (fun W0 h0 => by
        have hNT := (hN2.below hb3 hN2.top).below h0 (Nat.le_trans hN2.top hb3.size)
        have hNM := (hnw.below hb3 (Nat.le_refl _)).below h0 hb3.size
        have hd : decide (T = M) = okT T := by
          by_cases e : T = M
          · rw [decide_eq_true e, okT_yes HX0.out HOK.out (by rw [e, hM])]
          · rw [decide_eq_false e, okT_no (fun y hy _ h3 => by rw [HX0.out] at hy; obtain rfl := Option.some.inj hy; exact e (by rw [hM]; exact h3))]
        refine (equalFunc_any g lo hi c g2 _ _ c2 T M G C G2 C2 W0 hNT hNM hn (by omega) HXX.out hMx hc hcM).mono ?_
        rintro e w4 ⟨rfl, hb4⟩
        exact ⟨by rw [hd], HB2.out.trans ((hb3.mono HB2.out.size).trans ((h0.mono (Nat.le_trans HB2.out.size hb3.size)).trans (hb4.mono (Nat.le_trans HB2.out.size (Nat.le_trans hb3.size h0.size)))))⟩)
      have hWr := hW3.symm
      clear hnx hh hb2 hnw hcl hG2 hC2 hx3 hb3 hMx hM hm hXl HBL HX HN hz3 hW3 hX2 hN2 hX3 hr0 hc0 hW hz
      go_wp2_with fail
      refine (HEQ.out w3 (Below.refl _ _)).mono ?_
      rintro e w4 ⟨rfl, hb4⟩
      have HB4 := Lib.hid hb4
      clear hb4 HEQ
      go_wp2_with fail
      go_ret
      exact ⟨rfl, HB4.out⟩
    · have HD : Hid (okT T = false) := Lib.hid (okT_no (fun y hy hy2 _ => by rw [HX0.out] at hy; obtain rfl := Option.some.inj hy; exact hok hy2))
      rw [bmF_no hok] at HBL
      clear hok
      go_enter Try.func26, Try.ntmps26
      go_wp2_with fail
      rw [← hW]
      refine HBL.out.mono ?_
      rintro e w2 ⟨v, X, rfl, hh, hm, hb2⟩
      simp only at hm ⊢
      obtain ⟨a2, n2, c2, rfl⟩ := hh.form
      have HB2 := Lib.hid (HB.out.trans (hb2.mono HB.out.size))
      have HB3 := Lib.hid (fun o => HB2.out.alloc HB2.out.size o)
      clear hh hm hb2 HBL HX HN hr0 hc0 hW hz
      go_wp2_with fail
      go_ret
      refine ⟨by rw [HD.out]; rfl, ?_⟩
      first | exact HB3.out _ | exact (HB3.out _).trans ⟨rfl, rfl, rfl, Nat.le_refl _, fun _ _ => rfl⟩

end Go.Proofs.Ythmcjmjkmmbepaa
