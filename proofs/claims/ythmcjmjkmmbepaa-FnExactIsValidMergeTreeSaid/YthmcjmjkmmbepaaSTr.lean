/- The model's l10Tree (is this tree of levels the one that its first level has?), by its contract. -/
import Derived.Test.YthmcjmjkmmbepaaBmR
import Derived.Test.YthmcjmjkmmbepaaSameI
import Derived.Test.YthmcjmjkmmbepaaList
namespace Go.Proofs.Ythmcjmjkmmbepaa
open Go.RowKit P El Mt
set_option linter.unusedVariables false

noncomputable def okT (T : List (List Int)) : Bool := open Classical in decide (OkT T)
theorem okT_yes {x : List Int} {T : List (List Int)} (h : T[0]? = some x) (hx : OkL x) (h2 : T = lvs x) : okT T = true := by
  unfold okT
  exact @decide_eq_true _ (Classical.propDecidable _) ⟨x, by rw [List.head?_eq_getElem?]; exact h, hx, h2⟩
theorem okT_no {T : List (List Int)} (h : ∀ x, T[0]? = some x → OkL x → T = lvs x → False) : okT T = false := by
  unfold okT
  refine @decide_eq_false _ (Classical.propDecidable _) ?_
  rintro ⟨x, h1, h2, h3⟩
  exact h x (by rw [← List.head?_eq_getElem?]; exact h1) h2 h3
theorem lvs_pos (x : List Int) : 0 < (lvs x).length := by rw [lvs_len]; unfold lc; omega

/-- The tree that came in, the tree that is wanted, in their boxes. -/
structure TrW (g lo hi c g2 lo2 hi2 c2 BT BW : Nat) (tT tW : TypeId) (T M : List (List Int)) (G C G2 C2 : Nat → Nat) (w W : World) : Prop where
  bt : Boxed W BT tT (.slice (some ⟨g, 0, none⟩) T.length c)
  bw : Boxed W BW tW (.slice (some ⟨g2, 0, none⟩) M.length c2)
  nt : Nest W g lo hi (T.map ints) G C
  nw : Nest W g2 lo2 hi2 (M.map ints) G2 C2
  b : Below w.heap.size w W
theorem TrW.below {g lo hi c g2 lo2 hi2 c2 BT BW : Nat} {tT tW : TypeId} {T M : List (List Int)} {G C G2 C2 : Nat → Nat} {w W W' : World} (h : TrW g lo hi c g2 lo2 hi2 c2 BT BW tT tW T M G C G2 C2 w W) (hb : Below W.heap.size W W') : TrW g lo hi c g2 lo2 hi2 c2 BT BW tT tW T M G C G2 C2 w W' :=
  ⟨boxed_below h.bt hb (Boxed.lt h.bt), boxed_below h.bw hb (Boxed.lt h.bw), h.nt.below hb h.nt.top, h.nw.below hb h.nw.top, h.b.trans (hb.mono h.b.size)⟩
theorem nest_at {W : World} {g lo hi : Nat} {T : List (List Int)} {G C : Nat → Nat} (h : Nest W g lo hi (T.map ints) G C) {j : Nat} {x : List Int} (hx : T[j]? = some x) :
    W.cell? ⟨g, j, none⟩ = some (.slice (some ⟨G j, 0, none⟩) x.length (C j)) ∧ FlatAt W (.slice (some ⟨G j, 0, none⟩) x.length (C j)) x.length (ints x) := by
  have hm : (T.map ints)[j]? = some (ints x) := by rw [List.getElem?_map, hx]; rfl
  have h1 := (h.row.2 j _ (sliceRow_at hm)).1
  obtain ⟨_, _, _, h4, h5⟩ := h.inner j _ hm
  rw [ints_length] at h1 h4
  refine ⟨h1, ?_⟩
  have h6 : FlatAt W (.slice (some ⟨G j, 0, none⟩) (ints x).length (C j)) (ints x).length (ints x) := h5.flat (by rw [ints_length]; exact h4)
  rw [ints_length] at h6
  exact h6

set_option maxRecDepth 100000 in
set_option maxHeartbeats 2000000 in
theorem l10Tree_any (g lo hi c : Nat) (T : List (List Int)) (G C : Nat → Nat) (w : World) (h : Nest w g lo hi (T.map ints) G C) (hc : T.length ≤ c) (hn : T.length ≤ 1048576) (hx : ∀ (j : Nat) x, T[j]? = some x → x.length ≤ 1048576) :
    Calls Try.prog 69 #[.agg #[.slice (some ⟨g, 0, none⟩) T.length c]] w fun e w' => e = .returned (.bool (okT T)) ∧ Below w.heap.size w w' := by
  obtain ⟨W, hW, hxb, hz, hbW⟩ := box1 w 50 (.slice (some ⟨g, 0, none⟩) T.length c)
  have HN := Lib.hid (h.below (hbW.mono (Nat.le_refl _)) h.top)
  have HX := Lib.hid hxb
  have HB := Lib.hid hbW
  have hc0 := hxb.cell
  have HXX := Lib.hid hx
  clear h hbW hxb hx
  by_cases h0 : T.length = 0
  · have HD : Hid (okT T = false) := Lib.hid (okT_no (fun x hx => by rw [List.eq_nil_of_length_eq_zero h0] at hx; simp at hx))
    rw [h0] at hc0 hW ⊢
    go_enter Try.func69, Try.ntmps69
    go_wp2_with fail
    go_ret
    refine ⟨by rw [HD.out]; rfl, ?_⟩
    rw [← hW]
    first | exact HB.out | exact HB.out.trans ⟨rfl, rfl, rfl, Nat.le_refl _, fun _ _ => rfl⟩
  · have h0z : ((T.length : Int) == 0) = false := by rw [beq_eq_false_iff_ne]; omega
    have h0p : (0 : Int) < (T.length : Int) := by omega
    obtain ⟨x, hx0⟩ : ∃ x, T[0]? = some x := ⟨_, List.getElem?_eq_getElem (by omega)⟩
    have HX0 := Lib.hid hx0
    obtain ⟨hr0, hf0⟩ := nest_at HN.out hx0
    have hxl := HXX.out 0 x hx0
    have HL := Lib.hid (l2List_any _ x W hf0 hxl)
    have HF0 := Lib.hid hf0
    rw [hW] at hr0
    clear hx0 hf0
    by_cases hok : OkL x
    · rw [decide_eq_true hok] at HL
      have HOK := Lib.hid hok
      have HBL := Lib.hid (fun W1 (h1 : Below W.heap.size W W1) => l10Build_any (G 0) 0 (C 0) x W1 (HF0.out.below h1) hok.1)
      clear hok
      go_enter Try.func69, Try.ntmps69
      go_wp2_with fail
      rw [← hW]
      refine HL.out.mono ?_
      rintro e w1 ⟨rfl, hb1⟩
      have HN1 := Lib.hid (HN.out.below hb1 HN.out.top)
      have HX1 := Lib.hid (boxed_below HX.out hb1 (Boxed.lt HX.out))
      have HB1 := Lib.hid (HB.out.trans (hb1.mono HB.out.size))
      have hc1 := HX1.out.cell
      have hr1 := (nest_at HN1.out HX0.out).1
      have HBL1 := Lib.hid (HBL.out w1 hb1)
      clear hb1 HL HBL hr0 hc0 HX HN HF0 hW hz
      go_wp2_with fail
      refine HBL1.out.mono ?_
      rintro e w2 ⟨v, X, rfl, hh, hm, hb2⟩
      obtain ⟨M, hM⟩ : ∃ M, M = lvs x := ⟨_, rfl⟩
      rw [← hM] at hm
      have hMp : 0 < M.length := by rw [hM]; exact lvs_pos x
      have hM64 : M.length ≤ 64 := by rw [hM, lvs_len]; have := (lc_dec x.length (by have := HOK.out.1; omega)).2.1; omega
      have hMx : ∀ (j : Nat) y, M[j]? = some y → y.length ≤ 1048576 := fun j y hy => by
        rw [hM] at hy
        unfold lvs at hy
        rw [List.getElem?_map] at hy
        obtain ⟨k, _, rfl⟩ := Option.map_eq_some_iff.1 hy
        rw [lv_len (Nat.two_pow_pos k)]; exact hxl
      have hXl : X.length = M.length := by rw [← hm]; simp
      obtain ⟨g2, c2, rfl⟩ : ∃ g2 c2, v = .slice (some ⟨g2, 0, none⟩) M.length c2 := by
        rcases hh.nn with ⟨_, e⟩ | ⟨g2, c2, e, _⟩
        · rw [e] at hXl; simp at hXl; omega
        · exact ⟨g2, c2, by rw [e, hXl]⟩
      obtain ⟨hnx, hcl, hnw⟩ := hh.nest
      rw [show (X.map fun x => x.L) = M from hm] at hnw
      obtain ⟨G2, hG2⟩ : ∃ G2 : Nat → Nat, G2 = (fun i => ((X[i]?).map ZRow.g).getD 0) := ⟨_, rfl⟩
      obtain ⟨C2, hC2⟩ : ∃ C2 : Nat → Nat, C2 = (fun i => ((X[i]?).map ZRow.c).getD 0) := ⟨_, rfl⟩
      rw [← hG2, ← hC2] at hnw
      obtain ⟨w3, hW3, hx3, hz3, hb3⟩ := box1 w2 50 (.slice (some ⟨g2, 0, none⟩) M.length c2)
      have hb13 : Below w1.heap.size w1 w3 := hb2.trans (hb3.mono hb2.size)
      have HT : Hid (TrW g lo hi c g2 w1.heap.size w2.heap.size c2 w.heap.size w2.heap.size 50 50 T M G C G2 C2 w w3) := Lib.hid
        ⟨boxed_below HX1.out hb13 (Boxed.lt HX1.out), hx3, HN1.out.below hb13 HN1.out.top, hnw.below hb3 (Nat.le_refl _), HB1.out.trans (hb13.mono HB1.out.size)⟩
      have hct := HT.out.bt.cell
      have hcw := HT.out.bw.cell
      have HMX := Lib.hid hMx
      have HM := Lib.hid hM
      have hWr := hW3.symm
      clear hnx hh hb2 hnw hcl hG2 hC2 hx3 hb3 hb13 hMx hM hm hXl HBL1 HX1 HN1 HB1 hc1 hr1 hz3 hW3
      by_cases hl : M.length = T.length
      · have hlz : ((M.length : Int) != (T.length : Int)) = false := by rw [hl]; simp
        have hMz : (M.length : Int) = (T.length : Int) := by rw [hl]
        have HML := Lib.hid hl
        rw [hl] at hcw hWr ⊢
        clear hl hMz hlz
        go_wp2_with fail
        clear hWr hct hcw HB
        go_loopw [4] (fun i wr => ∃ d : Nat, d ≤ T.length ∧ i = .int .i64 d ∧ T.take d = M.take d ∧ TrW g lo hi c g2 w1.heap.size w2.heap.size c2 w.heap.size w2.heap.size 50 50 T M G C G2 C2 w wr) (fun i _ => T.length - (intOf i).toNat)
        case atStart => exact ⟨0, Nat.zero_le _, rfl, rfl, HT.out⟩
        case round =>
          obtain ⟨d, hd, rfl, htk, htw⟩ := hrel
          have HTW := Lib.hid htw
          have HTK := Lib.hid htk
          have hct := htw.bt.cell
          have hcw := htw.bw.cell
          rw [HML.out] at hcw
          clear htw htk HT
          by_cases hlt : d < T.length
          · obtain ⟨p, hp⟩ : ∃ p, T[d]? = some p := ⟨_, List.getElem?_eq_getElem hlt⟩
            obtain ⟨q, hq⟩ : ∃ q, M[d]? = some q := ⟨_, List.getElem?_eq_getElem (by have := HML.out; omega)⟩
            obtain ⟨hcp, _⟩ := nest_at HTW.out.nt hp
            obtain ⟨hcq, _⟩ := nest_at HTW.out.nw hq
            have hdz : (d : Int) < (T.length : Int) := by omega
            have HP := Lib.hid hp
            have HQ := Lib.hid hq
            clear hp hq
            have HC : Hid (∀ W0, Below wr.heap.size wr W0 → Calls Try.prog 107 #[.slice (some ⟨G2 d, 0, none⟩) q.length (C2 d), .slice (some ⟨G d, 0, none⟩) p.length (C d)] W0 fun e w' => e = .returned (.bool (decide (q = p))) ∧ Hid (TrW g lo hi c g2 w1.heap.size w2.heap.size c2 w.heap.size w2.heap.size 50 50 T M G C G2 C2 w w')) := Lib.hid (fun W0 h0 => (l1Same_any _ _ q p W0 (nest_at (HTW.out.below h0).nw HQ.out).2 (nest_at (HTW.out.below h0).nt HP.out).2 (HMX.out d q HQ.out) (HXX.out d p HP.out)).mono (by
              rintro e w' ⟨rfl, hb⟩
              exact ⟨rfl, Lib.hid ((HTW.out.below h0).below hb)⟩))
            have HC0 := Lib.hid (HC.out wr.drew ⟨rfl, rfl, rfl, Nat.le_refl _, fun _ _ => rfl⟩)
            clear HC
            by_cases hqp : q = p
            · rw [decide_eq_true hqp] at HC0
              have HTN := Lib.hid (show T.take (d + 1) = M.take (d + 1) by rw [List.take_add_one, List.take_add_one, HTK.out, HP.out, HQ.out, hqp])
              clear HTW HTK HP HQ hqp
              go_wp2_with fail
              go_region_with (go_at_call 107; refine HC0.out.mono ?_; rintro e w5 ⟨rfl, HT5⟩)
              all_goals (
                go_wp2_with fail
                go_roundw
                case rel => exact ⟨d + 1, by omega, by go_num, HTN.out, HT5.out⟩
                case measure => simp [intOf]; omega)
            · rw [decide_eq_false hqp] at HC0
              have HD : Hid (okT T = false) := Lib.hid (okT_no (fun y hy hy2 h3 => by
                rw [HX0.out] at hy
                obtain rfl := Option.some.inj hy
                rw [← HM.out] at h3
                have h4 := HP.out
                rw [h3, HQ.out] at h4
                exact hqp (Option.some.inj h4)))
              clear HTW HTK HP HQ hqp
              go_wp2_with fail
              go_region_with (go_at_call 107; refine HC0.out.mono ?_; rintro e w5 ⟨rfl, HT5⟩)
              all_goals go_wp2_with fail
              all_goals go_ret
              all_goals exact ⟨by rw [HD.out]; rfl, HT5.out.b⟩
          · obtain rfl : d = T.length := by omega
            have HD : Hid (okT T = true) := Lib.hid (okT_yes HX0.out HOK.out (by have h1 := HTK.out; rw [List.take_length, ← HML.out, List.take_length] at h1; rw [h1, HM.out]))
            go_wp2_with fail
            go_ret
            exact ⟨by rw [HD.out]; rfl, HTW.out.b⟩
      · have HD : Hid (okT T = false) := Lib.hid (okT_no (fun y hy hy2 h3 => by rw [HX0.out] at hy; obtain rfl := Option.some.inj hy; exact hl (by rw [HM.out, ← h3])))
        have hlz : ((M.length : Int) != (T.length : Int)) = true := by simp; omega
        have hlq : ¬ (M.length : Int) = (T.length : Int) := by omega
        go_wp2_with fail
        go_ret
        refine ⟨by rw [HD.out]; rfl, ?_⟩
        first | exact HT.out.b | exact HT.out.b.trans ⟨rfl, rfl, rfl, Nat.le_refl _, fun _ _ => rfl⟩
    · rw [decide_eq_false hok] at HL
      have HD : Hid (okT T = false) := Lib.hid (okT_no (fun y hy hy2 _ => by rw [HX0.out] at hy; obtain rfl := Option.some.inj hy; exact hok hy2))
      clear hok
      go_enter Try.func69, Try.ntmps69
      go_wp2_with fail
      rw [← hW]
      refine HL.out.mono ?_
      rintro e w1 ⟨rfl, hb1⟩
      have HB1 := Lib.hid (HB.out.trans (hb1.mono HB.out.size))
      clear hb1 HL
      go_wp2_with fail
      go_ret
      exact ⟨by rw [HD.out]; rfl, HB1.out⟩

set_option maxRecDepth 100000 in
theorem specVt_any (g lo hi c : Nat) (T : List (List Int)) (G C : Nat → Nat) (w : World) (h : Nest w g lo hi (T.map ints) G C) (hc : T.length ≤ c) (hn : T.length ≤ 1048576) (hx : ∀ (j : Nat) x, T[j]? = some x → x.length ≤ 1048576) :
    Calls Try.prog 24 #[.agg #[.slice (some ⟨g, 0, none⟩) T.length c]] w fun e w' => e = .returned (.bool (okT T)) ∧ Below w.heap.size w w' := by
  obtain ⟨W, hW, hxb, hz, hbW⟩ := box1 w 50 (.slice (some ⟨g, 0, none⟩) T.length c)
  have HT := Lib.hid (l10Tree_any g lo hi c T G C W (h.below (hbW.mono (Nat.le_refl _)) h.top) hc hn hx)
  have HB := Lib.hid hbW
  have hc0 := hxb.cell
  clear h hbW hxb hx
  go_enter Try.func24, Try.ntmps24
  go_wp2_with fail
  rw [← hW]
  refine HT.out.mono ?_
  rintro e w1 ⟨rfl, hb1⟩
  have HB1 := Lib.hid (HB.out.trans (hb1.mono HB.out.size))
  clear hb1 HT
  go_wp2_with fail
  go_ret
  exact ⟨rfl, HB1.out⟩

end Go.Proofs.Ythmcjmjkmmbepaa
