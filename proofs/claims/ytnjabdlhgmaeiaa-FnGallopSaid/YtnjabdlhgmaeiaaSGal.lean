/- The model's GallopSearch, by its contract. -/
import Derived.Test.YtnjabdlhgmaeiaaDescA
import Derived.Test.YtnjabdlhgmaeiaaList
import Derived.Test.YtnjabdlhgmaeiaaGalP
import Derived.BigRegion
namespace Go.Proofs.Ytnjabdlhgmaeiaa
open Go.RowKit P El Ga
set_option linter.unusedVariables false

set_option maxRecDepth 100000 in
set_option maxHeartbeats 16000000 in
theorem specGal_any (b o c : Nat) (l : List Int) (x h : Int) (w : World) (hv : FlatAt w (.slice (some ⟨b, o, none⟩) l.length c) l.length (ints l)) (hn : l.length ≤ 1048576) (hx : (Lit.int .i64 x).wf = true) (hh : (Lit.int .i64 h).wf = true) :
    Calls Try.prog 42 #[.slice (some ⟨b, o, none⟩) l.length c, .int .i64 x, .int .i64 h] w fun e w' =>
      e = .returned (.tuple #[.int .i64 (galAll l x h).1, .int .i64 (galAll l x h).2.1, .bool (galAll l x h).2.2]) ∧ Below w.heap.size w w' := by
  have HV := Lib.hid hv
  clear hv hx hh
  have HIV := Lib.hid (fun W (h : FlatAt W (.slice (some ⟨b, o, none⟩) l.length c) l.length (ints l)) => l2List_any _ l W h hn)
  have HIS := Lib.hid (fun W (h : FlatAt W (.slice (some ⟨b, o, none⟩) l.length c) l.length (ints l)) => l4Descent_any _ l W h hn)
  have hln : IntKind.i64.wrap ((l.length : Int) - 1) = (l.length : Int) - 1 := by rw [IntKind.wrap_i64]; omega
  by_cases h1 : OkL l
  · rw [decide_eq_true h1] at HIV
    by_cases h2 : descF l = -1
    · rw [h2] at HIS
      by_cases h3 : -100000 ≤ x ∧ x ≤ 100000
      · have HIX := Lib.hid (fun W => l1In_yes x (-100000) 100000 W h3.1 h3.2)
        by_cases h4 : 0 ≤ h ∧ h < l.length
        · have HIH := Lib.hid (fun W => l1In_yes h 0 ((l.length : Int) - 1) W h4.1 (by omega))
          have HF := Lib.hid (galAll_yes (x := x) (h := h) ⟨h1, h2, h3, h4.1, h4.2⟩)
          obtain ⟨n, rfl⟩ : ∃ n : Nat, h = n := ⟨h.toNat, by omega⟩
          rw [Int.toNat_natCast] at HF
          have hnl : n < l.length := by omega
          have h64 := h1.1
          have hnz : (n : Int) < l.length := by omega
          clear h1 h2 h3 h4
          go_enter Try.func42, Try.ntmps42
          go_wp2_with fail
          refine (HIV.out _ HV.out).mono ?_
          rintro e w1 ⟨rfl, hb⟩
          have HV1 := Lib.hid (HV.out.below hb)
          have HB1 := Lib.hid hb
          clear hb HIV
          go_wp2_with fail
          refine (HIS.out _ HV1.out).mono ?_
          rintro e w2 ⟨rfl, hb⟩
          have HV2 := Lib.hid (HV1.out.below hb)
          have HB2 := Lib.hid (HB1.out.trans (hb.mono HB1.out.size))
          clear hb HIS HB1 HV1
          go_wp2_with fail
          refine (HIX.out _).mono ?_
          rintro e w3 ⟨rfl, rfl⟩
          go_wp2_with fail
          refine (HIH.out _).mono ?_
          rintro e w4 ⟨rfl, rfl⟩
          have HCELL : Hid (∀ i, i < l.length → b < w4.heap.size ∧ w4.cell? ⟨b, o + i, none⟩ = some (.int .i64 (l.getD i 0))) := Lib.hid (fun i hi => by
            obtain ⟨a0, c0, e0, _, h⟩ := HV2.out
            simp at e0
            obtain ⟨rfl, rfl⟩ := e0
            obtain ⟨b', o', e', h1, h2⟩ := h _ _ (ints_at (at_getD hi))
            simp at e'
            obtain ⟨rfl, rfl⟩ := e'
            exact ⟨h1, h2⟩)
          have hcn := (HCELL.out n hnl).2
          clear HIX HIH HV HV2
          have HBD := Lib.hid (bnd_bd (x := x) hnl)
          obtain ⟨R, hR⟩ : ∃ R, R = galF x l n := ⟨_, rfl⟩
          rw [← hR] at HF
          have HR := Lib.hid hR
          clear hR hln
          by_cases hxn : l.getD n 0 < x
          · have HG0 : Hid (bnd x l n = gup x l n 1 (n + 1) 1) := Lib.hid (by unfold bnd; rw [if_pos hxn])
            have hdecn : decide (l.getD n 0 < x) = true := decide_eq_true hxn
            generalize l.getD n 0 = y0 at hcn hdecn hxn
            go_wp2_with fail
            go_loopw [9, 10, 11, 12] (fun lv hv cv sv wr => ∃ (lo hi c' st : Nat), 1 ≤ st ∧ st ≤ 260 ∧ lo ≤ 64 ∧ hi ≤ 64 ∧ c' + (l.length - (n + st)) ≤ 65 ∧ lv = .int .i64 lo ∧ hv = .int .i64 hi ∧ cv = .int .i64 c' ∧ sv = .int .i64 ((st + 1 : Nat) : Int) ∧
                ((hi = l.length ∧ gup x l n st lo c' = bnd x l n) ∨ (hi < l.length ∧ (lo, hi, c') = bnd x l n)) ∧ Below w.heap.size w wr ∧ Below w4.heap.size w4 wr) (fun _ _ _ sv _ => l.length + 1 - (intOf sv).toNat)
            case atStart => exact ⟨n + 1, l.length, 1, 1, by omega, by omega, by omega, by omega, by omega, by go_num, rfl, rfl, rfl, .inl ⟨rfl, HG0.out.symm⟩, HB2.out, Below.refl _ _⟩
            case round =>
              obtain ⟨lo, hi, c', st, hs1, hs2, hlo, hhi, hcb, rfl, rfl, rfl, rfl, hor, hb, hb4⟩ := hrel
              have HB := Lib.hid hb
              have HB4 := Lib.hid hb4
              clear hb hb4 HG0 hcn hdecn hxn HB2
              obtain ⟨st1, hst1⟩ : ∃ st1, st1 = st + 1 := ⟨_, rfl⟩
              rw [← hst1]
              obtain ⟨i, hi0⟩ : ∃ i, i = n + st := ⟨_, rfl⟩
              have hw1 : IntKind.i64.wrap ((n : Int) + (st1 : Int)) = ((i : Int) + 1) := by rw [IntKind.wrap_i64]; omega
              have hw2 : IntKind.i64.wrap ((i : Int) + 1 - 1) = (i : Int) := by rw [IntKind.wrap_i64]; omega
              have hst260 : st1 ≤ 261 := by omega
              have HI := Lib.hid hi0
              have HST := Lib.hid hst1
              have hi400 : i ≤ 400 := by omega
              clear hi0 hst1
              by_cases hrun : i < l.length ∧ hi = l.length
              · obtain ⟨hlt2, rfl⟩ := hrun
                have hgp : Hid (gup x l n st lo c' = bnd x l n) := Lib.hid (by rcases hor with ⟨_, h⟩ | ⟨h, _⟩; exact h; omega)
                have hltz : (i : Int) < l.length := by omega
                clear hor
                obtain ⟨hbb, hc0⟩ := HCELL.out i hlt2
                have hcm : wr.cell? ⟨b, o + i, none⟩ = some (.int .i64 (l.getD i 0)) := (HB4.out.cell (p := ⟨b, o + i, none⟩) hbb).trans hc0
                clear hc0
                by_cases hxy : l.getD i 0 < x
                · have HE : Hid (gup x l n (2 * st + 1) (i + 1) (c' + 1) = bnd x l n) := Lib.hid (by have := HI.out; rw [← hgp.out, gup_lt lo c' (by omega) (by rw [← HI.out]; exact hxy), ← HI.out])
                  have hdec : decide (l.getD i 0 < x) = true := decide_eq_true hxy
                  generalize l.getD i 0 = y at hcm hdec hxy
                  go_wp2_with fail
                  go_roundw
                  case rel => have h1 := HI.out; have h2 := HST.out; exact ⟨i + 1, l.length, c' + 1, 2 * st + 1, by omega, by omega, by omega, by omega, by omega, by go_num, rfl, by go_num, by go_num, .inl ⟨rfl, HE.out⟩, HB.out, HB4.out⟩
                  case measure => have h1 := HI.out; have h2 := HST.out; simp [intOf]; omega
                · have HE : Hid ((lo, i, c' + 1) = bnd x l n) := Lib.hid (by have := HI.out; rw [← hgp.out, gup_ge lo c' (by omega) (by rw [← HI.out]; exact hxy), ← HI.out])
                  have hdec : decide (l.getD i 0 < x) = false := decide_eq_false hxy
                  generalize l.getD i 0 = y at hcm hdec hxy
                  go_wp2_with fail
                  go_roundw
                  case rel => have h1 := HI.out; have h2 := HST.out; exact ⟨lo, i, c' + 1, 2 * st + 1, by omega, by omega, by omega, by omega, by omega, rfl, by first | rfl | go_num, by go_num, by go_num, .inr ⟨hlt2, HE.out⟩, HB.out, HB4.out⟩
                  case measure => have h1 := HI.out; have h2 := HST.out; simp [intOf]; omega
              · have HE : Hid ((lo, hi, c') = bnd x l n) := Lib.hid (by
                  rcases hor with ⟨h1, h2⟩ | ⟨_, h⟩
                  · have := HI.out
                    rw [← h2, gup_end lo c' (by omega), h1]
                  · exact h)
                have hbd := HBD.out
                rw [← HE.out] at hbd
                simp only at hbd
                have hlh := hbd.1
                have hhl := hbd.2.1
                obtain ⟨k, hk⟩ : ∃ k, k = c' := ⟨_, rfl⟩
                have hk65 : k ≤ 65 := by omega
                have HGS : Hid (gs x l lo hi k = R) := Lib.hid (by rw [HR.out]; unfold galF; rw [← HE.out, hk])
                rw [← hk]
                clear hor hbd hk HE hcb
                by_cases hil : i < l.length
                · have hhn : ¬ hi = l.length := fun h => hrun ⟨hil, h⟩
                  have hhz : ((hi : Int) == (l.length : Int)) = false := by simp; omega
                  have hilz : (i : Int) < l.length := by omega
                  clear hrun
                  go_wp2_with fail
                  go_loopw [9, 10, 11, 14] (fun lv hv cv _ wr => ∃ (lo hi c' : Nat), lo ≤ hi ∧ hi ≤ l.length ∧ c' + (hi - lo) ≤ 1064 ∧ lv = .int .i64 lo ∧ hv = .int .i64 hi ∧ cv = .int .i64 c' ∧ gs x l lo hi c' = R ∧ Below w.heap.size w wr ∧ Below w4.heap.size w4 wr) (fun lv hv _ _ _ => (intOf hv).toNat - (intOf lv).toNat)
                  case atStart => exact ⟨lo, hi, k, hlh, hhl, by omega, rfl, rfl, rfl, HGS.out, HB.out, HB4.out⟩
                  case round =>
                    clear hlh hhl HGS HB HB4
                    obtain ⟨lo, hi, c', hlh, hhi, hcb, rfl, rfl, rfl, hr, hb, hb4⟩ := hrel
                    have HRR := Lib.hid hr
                    have HB := Lib.hid hb
                    have HB4 := Lib.hid hb4
                    clear hr hb hb4
                    by_cases hlt2 : lo < hi
                    · obtain ⟨mid, hm0⟩ : ∃ mid, mid = (lo + hi) / 2 := ⟨_, rfl⟩
                      have hmid : ((lo : Int) + (hi : Int)) / 2 = (mid : Int) := by omega
                      have hmL : mid < l.length := by omega
                      have hmz : (mid : Int) < l.length := by omega
                      have HM := Lib.hid hm0
                      have hlo64 : lo ≤ 64 := by omega
                      have hhi64 : hi ≤ 64 := by omega
                      have hm1 : lo ≤ mid := by omega
                      have hm2 : mid < hi := by omega
                      obtain ⟨hbb, hc0⟩ := HCELL.out mid hmL
                      have hcm : wr.cell? ⟨b, o + mid, none⟩ = some (.int .i64 (l.getD mid 0)) := (HB4.out.cell (p := ⟨b, o + mid, none⟩) hbb).trans hc0
                      clear hc0 hm0
                      by_cases hxy : l.getD mid 0 < x
                      · have HE : Hid (gs x l (mid + 1) hi (c' + 1) = R) := Lib.hid (by rw [← HRR.out, gs_lt c' hlt2 (by rw [← HM.out]; exact hxy), ← HM.out])
                        have hdec : decide (l.getD mid 0 < x) = true := decide_eq_true hxy
                        generalize l.getD mid 0 = y at hcm hdec hxy
                        go_wp2_with fail
                        go_roundw
                        case rel => exact ⟨mid + 1, hi, c' + 1, by omega, by omega, by omega, by go_num, rfl, by go_num, HE.out, HB.out, HB4.out⟩
                        case measure => simp [intOf]; omega
                      · have HE : Hid (gs x l lo mid (c' + 1) = R) := Lib.hid (by rw [← HRR.out, gs_ge c' hlt2 (by rw [← HM.out]; exact hxy), ← HM.out])
                        have hdec : decide (l.getD mid 0 < x) = false := decide_eq_false hxy
                        generalize l.getD mid 0 = y at hcm hdec hxy
                        go_wp2_with fail
                        go_roundw
                        case rel => exact ⟨lo, mid, c' + 1, by omega, by omega, by omega, rfl, by first | rfl | rw [hmid], by go_num, HE.out, HB.out, HB4.out⟩
                        case measure => simp [intOf]; omega
                    · have HE : Hid ((lo, c') = R) := Lib.hid (by rw [← HRR.out, gs_end c' hlt2])
                      have hnlt : ¬ (lo : Int) < hi := by omega
                      go_wp2_with fail
                      go_ret3
                      exact ⟨by rw [HF.out, ← HE.out]; rfl, HB.out⟩
                · have hilz : decide ((i : Int) < (l.length : Int)) = false := decide_eq_false (by omega)
                  clear hrun
                  go_wp2_with fail
                  go_loopw [9, 10, 11, 14] (fun lv hv cv _ wr => ∃ (lo hi c' : Nat), lo ≤ hi ∧ hi ≤ l.length ∧ c' + (hi - lo) ≤ 1064 ∧ lv = .int .i64 lo ∧ hv = .int .i64 hi ∧ cv = .int .i64 c' ∧ gs x l lo hi c' = R ∧ Below w.heap.size w wr ∧ Below w4.heap.size w4 wr) (fun lv hv _ _ _ => (intOf hv).toNat - (intOf lv).toNat)
                  case atStart => exact ⟨lo, hi, k, hlh, hhl, by omega, rfl, rfl, rfl, HGS.out, HB.out, HB4.out⟩
                  case round =>
                    clear hlh hhl HGS HB HB4
                    obtain ⟨lo, hi, c', hlh, hhi, hcb, rfl, rfl, rfl, hr, hb, hb4⟩ := hrel
                    have HRR := Lib.hid hr
                    have HB := Lib.hid hb
                    have HB4 := Lib.hid hb4
                    clear hr hb hb4
                    by_cases hlt2 : lo < hi
                    · obtain ⟨mid, hm0⟩ : ∃ mid, mid = (lo + hi) / 2 := ⟨_, rfl⟩
                      have hmid : ((lo : Int) + (hi : Int)) / 2 = (mid : Int) := by omega
                      have hmL : mid < l.length := by omega
                      have hmz : (mid : Int) < l.length := by omega
                      have HM := Lib.hid hm0
                      have hlo64 : lo ≤ 64 := by omega
                      have hhi64 : hi ≤ 64 := by omega
                      have hm1 : lo ≤ mid := by omega
                      have hm2 : mid < hi := by omega
                      obtain ⟨hbb, hc0⟩ := HCELL.out mid hmL
                      have hcm : wr.cell? ⟨b, o + mid, none⟩ = some (.int .i64 (l.getD mid 0)) := (HB4.out.cell (p := ⟨b, o + mid, none⟩) hbb).trans hc0
                      clear hc0 hm0
                      by_cases hxy : l.getD mid 0 < x
                      · have HE : Hid (gs x l (mid + 1) hi (c' + 1) = R) := Lib.hid (by rw [← HRR.out, gs_lt c' hlt2 (by rw [← HM.out]; exact hxy), ← HM.out])
                        have hdec : decide (l.getD mid 0 < x) = true := decide_eq_true hxy
                        generalize l.getD mid 0 = y at hcm hdec hxy
                        go_wp2_with fail
                        go_roundw
                        case rel => exact ⟨mid + 1, hi, c' + 1, by omega, by omega, by omega, by go_num, rfl, by go_num, HE.out, HB.out, HB4.out⟩
                        case measure => simp [intOf]; omega
                      · have HE : Hid (gs x l lo mid (c' + 1) = R) := Lib.hid (by rw [← HRR.out, gs_ge c' hlt2 (by rw [← HM.out]; exact hxy), ← HM.out])
                        have hdec : decide (l.getD mid 0 < x) = false := decide_eq_false hxy
                        generalize l.getD mid 0 = y at hcm hdec hxy
                        go_wp2_with fail
                        go_roundw
                        case rel => exact ⟨lo, mid, c' + 1, by omega, by omega, by omega, rfl, by first | rfl | rw [hmid], by go_num, HE.out, HB.out, HB4.out⟩
                        case measure => simp [intOf]; omega
                    · have HE : Hid ((lo, c') = R) := Lib.hid (by rw [← HRR.out, gs_end c' hlt2])
                      have hnlt : ¬ (lo : Int) < hi := by omega
                      go_wp2_with fail
                      go_ret3
                      exact ⟨by rw [HF.out, ← HE.out]; rfl, HB.out⟩
          · have HG0 : Hid (bnd x l n = gdn x l n 1 n 1) := Lib.hid (by unfold bnd; rw [if_neg hxn])
            have hdecn : decide (l.getD n 0 < x) = false := decide_eq_false hxn
            generalize l.getD n 0 = y0 at hcn hdecn hxn
            go_wp2_with fail
            go_loopw [9, 10, 11, 13] (fun lv hv cv sv wr => ∃ (lo hi c' st : Nat), 1 ≤ st ∧ st ≤ 260 ∧ lo ≤ 64 ∧ hi ≤ 64 ∧ c' + (n + 1 - st) ≤ 65 ∧ lv = .int .i64 lo ∧ hv = .int .i64 hi ∧ cv = .int .i64 c' ∧ sv = .int .i64 ((st + 1 : Nat) : Int) ∧
                ((lo = 0 ∧ gdn x l n st hi c' = bnd x l n) ∨ (0 < lo ∧ (lo, hi, c') = bnd x l n)) ∧ Below w.heap.size w wr ∧ Below w4.heap.size w4 wr) (fun _ _ _ sv _ => n + 2 - (intOf sv).toNat)
            case atStart => exact ⟨0, n, 1, 1, by omega, by omega, by omega, by omega, by omega, rfl, rfl, rfl, rfl, .inl ⟨rfl, HG0.out.symm⟩, HB2.out, Below.refl _ _⟩
            case round =>
              obtain ⟨lo, hi, c', st, hs1, hs2, hlo, hhi, hcb, rfl, rfl, rfl, rfl, hor, hb, hb4⟩ := hrel
              have HB := Lib.hid hb
              have HB4 := Lib.hid hb4
              clear hb hb4 HG0 hcn hdecn hxn HB2
              obtain ⟨st1, hst1⟩ : ∃ st1, st1 = st + 1 := ⟨_, rfl⟩
              rw [← hst1]
              have hst260 : st1 ≤ 261 := by omega
              have HST := Lib.hid hst1
              have hi400 : True := trivial
              by_cases hrun : st ≤ n ∧ lo = 0
              · obtain ⟨hlt2, rfl⟩ := hrun
                obtain ⟨i, hi0⟩ : ∃ i, i = n - st := ⟨_, rfl⟩
                have hw1 : IntKind.i64.wrap ((n : Int) - (st1 : Int)) = ((i : Int) - 1) := by rw [IntKind.wrap_i64]; omega
                have hw2 : IntKind.i64.wrap ((i : Int) - 1 + 1) = (i : Int) := by rw [IntKind.wrap_i64]; omega
                have hw3 : IntKind.i64.wrap ((i : Int) - 1 + 2) = (i : Int) + 1 := by rw [IntKind.wrap_i64]; omega
                have HI := Lib.hid hi0
                have hgp : Hid (gdn x l n st hi c' = bnd x l n) := Lib.hid (by rcases hor with ⟨_, h⟩ | ⟨h, _⟩; exact h; omega)
                have hil : i < l.length := by omega
                have hltz : (i : Int) < l.length := by omega
                clear hor hi0 hst1
                obtain ⟨hbb, hc0⟩ := HCELL.out i hil
                have hcm : wr.cell? ⟨b, o + i, none⟩ = some (.int .i64 (l.getD i 0)) := (HB4.out.cell (p := ⟨b, o + i, none⟩) hbb).trans hc0
                clear hc0
                by_cases hxy : l.getD i 0 < x
                · have HE : Hid ((i + 1, hi, c' + 1) = bnd x l n) := Lib.hid (by rw [← hgp.out, gdn_lt hi c' hlt2 (by rw [← HI.out]; exact hxy), ← HI.out])
                  have hdec : decide (l.getD i 0 < x) = true := decide_eq_true hxy
                  generalize l.getD i 0 = y at hcm hdec hxy
                  go_wp2_with fail
                  go_roundw
                  case rel => have h1 := HI.out; have h2 := HST.out; exact ⟨i + 1, hi, c' + 1, 2 * st + 1, by omega, by omega, by omega, by omega, by omega, by first | rfl | go_num, rfl, by go_num, by go_num, .inr ⟨by omega, HE.out⟩, HB.out, HB4.out⟩
                  case measure => have h1 := HI.out; have h2 := HST.out; simp [intOf]; omega
                · have HE : Hid (gdn x l n (2 * st + 1) i (c' + 1) = bnd x l n) := Lib.hid (by rw [← hgp.out, gdn_ge hi c' hlt2 (by rw [← HI.out]; exact hxy), ← HI.out])
                  have hdec : decide (l.getD i 0 < x) = false := decide_eq_false hxy
                  generalize l.getD i 0 = y at hcm hdec hxy
                  go_wp2_with fail
                  go_roundw
                  case rel => have h1 := HI.out; have h2 := HST.out; exact ⟨0, i, c' + 1, 2 * st + 1, by omega, by omega, by omega, by omega, by omega, rfl, by first | rfl | go_num, by go_num, by go_num, .inl ⟨rfl, HE.out⟩, HB.out, HB4.out⟩
                  case measure => have h1 := HI.out; have h2 := HST.out; simp [intOf]; omega
              · have HE : Hid ((lo, hi, c') = bnd x l n) := Lib.hid (by
                  rcases hor with ⟨h1, h2⟩ | ⟨_, h⟩
                  · rw [← h2, gdn_end hi c' (fun h => hrun ⟨h, h1⟩), h1]
                  · exact h)
                have hbd := HBD.out
                rw [← HE.out] at hbd
                simp only at hbd
                have hlh := hbd.1
                have hhl := hbd.2.1
                obtain ⟨k, hk⟩ : ∃ k, k = c' := ⟨_, rfl⟩
                have hk65 : k ≤ 65 := by omega
                have HGS : Hid (gs x l lo hi k = R) := Lib.hid (by rw [HR.out]; unfold galF; rw [← HE.out, hk])
                rw [← hk]
                obtain ⟨iz, hiz⟩ : ∃ iz : Int, iz = (n : Int) - (st : Int) := ⟨_, rfl⟩
                have hz400 : -400 ≤ iz := by omega
                have hz401 : iz ≤ 400 := by omega
                have hw1 : IntKind.i64.wrap ((n : Int) - (st1 : Int)) = iz - 1 := by rw [IntKind.wrap_i64]; omega
                have hw2 : IntKind.i64.wrap (iz - 1 + 1) = iz := by rw [IntKind.wrap_i64]; omega
                clear hor hbd hk HE hcb
                by_cases hil : st ≤ n
                · have hln0 : ¬ lo = 0 := fun h => hrun ⟨hil, h⟩
                  have hlz : ((lo : Int) == 0) = false := by simp; omega
                  have hilz : 0 ≤ iz := by omega
                  clear hrun hiz hst1
                  go_wp2_with fail
                  go_loopw [9, 10, 11, 14] (fun lv hv cv _ wr => ∃ (lo hi c' : Nat), lo ≤ hi ∧ hi ≤ l.length ∧ c' + (hi - lo) ≤ 1064 ∧ lv = .int .i64 lo ∧ hv = .int .i64 hi ∧ cv = .int .i64 c' ∧ gs x l lo hi c' = R ∧ Below w.heap.size w wr ∧ Below w4.heap.size w4 wr) (fun lv hv _ _ _ => (intOf hv).toNat - (intOf lv).toNat)
                  case atStart => exact ⟨lo, hi, k, hlh, hhl, by omega, rfl, rfl, rfl, HGS.out, HB.out, HB4.out⟩
                  case round =>
                    clear hlh hhl HGS HB HB4
                    obtain ⟨lo, hi, c', hlh, hhi, hcb, rfl, rfl, rfl, hr, hb, hb4⟩ := hrel
                    have HRR := Lib.hid hr
                    have HB := Lib.hid hb
                    have HB4 := Lib.hid hb4
                    clear hr hb hb4
                    by_cases hlt2 : lo < hi
                    · obtain ⟨mid, hm0⟩ : ∃ mid, mid = (lo + hi) / 2 := ⟨_, rfl⟩
                      have hmid : ((lo : Int) + (hi : Int)) / 2 = (mid : Int) := by omega
                      have hmL : mid < l.length := by omega
                      have hmz : (mid : Int) < l.length := by omega
                      have HM := Lib.hid hm0
                      have hlo64 : lo ≤ 64 := by omega
                      have hhi64 : hi ≤ 64 := by omega
                      have hm1 : lo ≤ mid := by omega
                      have hm2 : mid < hi := by omega
                      obtain ⟨hbb, hc0⟩ := HCELL.out mid hmL
                      have hcm : wr.cell? ⟨b, o + mid, none⟩ = some (.int .i64 (l.getD mid 0)) := (HB4.out.cell (p := ⟨b, o + mid, none⟩) hbb).trans hc0
                      clear hc0 hm0
                      by_cases hxy : l.getD mid 0 < x
                      · have HE : Hid (gs x l (mid + 1) hi (c' + 1) = R) := Lib.hid (by rw [← HRR.out, gs_lt c' hlt2 (by rw [← HM.out]; exact hxy), ← HM.out])
                        have hdec : decide (l.getD mid 0 < x) = true := decide_eq_true hxy
                        generalize l.getD mid 0 = y at hcm hdec hxy
                        go_wp2_with fail
                        go_roundw
                        case rel => exact ⟨mid + 1, hi, c' + 1, by omega, by omega, by omega, by go_num, rfl, by go_num, HE.out, HB.out, HB4.out⟩
                        case measure => simp [intOf]; omega
                      · have HE : Hid (gs x l lo mid (c' + 1) = R) := Lib.hid (by rw [← HRR.out, gs_ge c' hlt2 (by rw [← HM.out]; exact hxy), ← HM.out])
                        have hdec : decide (l.getD mid 0 < x) = false := decide_eq_false hxy
                        generalize l.getD mid 0 = y at hcm hdec hxy
                        go_wp2_with fail
                        go_roundw
                        case rel => exact ⟨lo, mid, c' + 1, by omega, by omega, by omega, rfl, by first | rfl | rw [hmid], by go_num, HE.out, HB.out, HB4.out⟩
                        case measure => simp [intOf]; omega
                    · have HE : Hid ((lo, c') = R) := Lib.hid (by rw [← HRR.out, gs_end c' hlt2])
                      have hnlt : ¬ (lo : Int) < hi := by omega
                      go_wp2_with fail
                      go_ret3
                      exact ⟨by rw [HF.out, ← HE.out]; rfl, HB.out⟩
                · have hilz : decide ((0 : Int) ≤ iz) = false := decide_eq_false (by omega)
                  clear hrun hiz hst1
                  go_wp2_with fail
                  go_loopw [9, 10, 11, 14] (fun lv hv cv _ wr => ∃ (lo hi c' : Nat), lo ≤ hi ∧ hi ≤ l.length ∧ c' + (hi - lo) ≤ 1064 ∧ lv = .int .i64 lo ∧ hv = .int .i64 hi ∧ cv = .int .i64 c' ∧ gs x l lo hi c' = R ∧ Below w.heap.size w wr ∧ Below w4.heap.size w4 wr) (fun lv hv _ _ _ => (intOf hv).toNat - (intOf lv).toNat)
                  case atStart => exact ⟨lo, hi, k, hlh, hhl, by omega, rfl, rfl, rfl, HGS.out, HB.out, HB4.out⟩
                  case round =>
                    clear hlh hhl HGS HB HB4
                    obtain ⟨lo, hi, c', hlh, hhi, hcb, rfl, rfl, rfl, hr, hb, hb4⟩ := hrel
                    have HRR := Lib.hid hr
                    have HB := Lib.hid hb
                    have HB4 := Lib.hid hb4
                    clear hr hb hb4
                    by_cases hlt2 : lo < hi
                    · obtain ⟨mid, hm0⟩ : ∃ mid, mid = (lo + hi) / 2 := ⟨_, rfl⟩
                      have hmid : ((lo : Int) + (hi : Int)) / 2 = (mid : Int) := by omega
                      have hmL : mid < l.length := by omega
                      have hmz : (mid : Int) < l.length := by omega
                      have HM := Lib.hid hm0
                      have hlo64 : lo ≤ 64 := by omega
                      have hhi64 : hi ≤ 64 := by omega
                      have hm1 : lo ≤ mid := by omega
                      have hm2 : mid < hi := by omega
                      obtain ⟨hbb, hc0⟩ := HCELL.out mid hmL
                      have hcm : wr.cell? ⟨b, o + mid, none⟩ = some (.int .i64 (l.getD mid 0)) := (HB4.out.cell (p := ⟨b, o + mid, none⟩) hbb).trans hc0
                      clear hc0 hm0
                      by_cases hxy : l.getD mid 0 < x
                      · have HE : Hid (gs x l (mid + 1) hi (c' + 1) = R) := Lib.hid (by rw [← HRR.out, gs_lt c' hlt2 (by rw [← HM.out]; exact hxy), ← HM.out])
                        have hdec : decide (l.getD mid 0 < x) = true := decide_eq_true hxy
                        generalize l.getD mid 0 = y at hcm hdec hxy
                        go_wp2_with fail
                        go_roundw
                        case rel => exact ⟨mid + 1, hi, c' + 1, by omega, by omega, by omega, by go_num, rfl, by go_num, HE.out, HB.out, HB4.out⟩
                        case measure => simp [intOf]; omega
                      · have HE : Hid (gs x l lo mid (c' + 1) = R) := Lib.hid (by rw [← HRR.out, gs_ge c' hlt2 (by rw [← HM.out]; exact hxy), ← HM.out])
                        have hdec : decide (l.getD mid 0 < x) = false := decide_eq_false hxy
                        generalize l.getD mid 0 = y at hcm hdec hxy
                        go_wp2_with fail
                        go_roundw
                        case rel => exact ⟨lo, mid, c' + 1, by omega, by omega, by omega, rfl, by first | rfl | rw [hmid], by go_num, HE.out, HB.out, HB4.out⟩
                        case measure => simp [intOf]; omega
                    · have HE : Hid ((lo, c') = R) := Lib.hid (by rw [← HRR.out, gs_end c' hlt2])
                      have hnlt : ¬ (lo : Int) < hi := by omega
                      go_wp2_with fail
                      go_ret3
                      exact ⟨by rw [HF.out, ← HE.out]; rfl, HB.out⟩
        · have HIH := Lib.hid (fun W => l1In_no h 0 ((l.length : Int) - 1) W (by omega))
          have HF := Lib.hid (galAll_no (l := l) (x := x) (h := h) (fun hc => h4 ⟨hc.2.2.2.1, hc.2.2.2.2⟩))
          clear h1 h2 h3 h4
          go_enter Try.func42, Try.ntmps42
          go_wp2_with fail
          refine (HIV.out _ HV.out).mono ?_
          rintro e w1 ⟨rfl, hb⟩
          have HV1 := Lib.hid (HV.out.below hb)
          have HB1 := Lib.hid hb
          clear hb HIV
          go_wp2_with fail
          refine (HIS.out _ HV1.out).mono ?_
          rintro e w2 ⟨rfl, hb⟩
          have HV2 := Lib.hid (HV1.out.below hb)
          have HB2 := Lib.hid (HB1.out.trans (hb.mono HB1.out.size))
          clear hb HIS HB1 HV1
          go_wp2_with fail
          refine (HIX.out _).mono ?_
          rintro e w3 ⟨rfl, rfl⟩
          go_wp2_with fail
          refine (HIH.out _).mono ?_
          rintro e w4 ⟨rfl, rfl⟩
          go_wp2_with fail
          go_ret3
          exact ⟨by rw [HF.out]; rfl, HB2.out⟩
      · have HIX := Lib.hid (fun W => l1In_no x (-100000) 100000 W (by omega))
        have HF := Lib.hid (galAll_no (l := l) (x := x) (h := h) (fun hc => h3 hc.2.2.1))
        clear h1 h2 h3
        go_enter Try.func42, Try.ntmps42
        go_wp2_with fail
        refine (HIV.out _ HV.out).mono ?_
        rintro e w1 ⟨rfl, hb⟩
        have HV1 := Lib.hid (HV.out.below hb)
        have HB1 := Lib.hid hb
        clear hb HIV
        go_wp2_with fail
        refine (HIS.out _ HV1.out).mono ?_
        rintro e w2 ⟨rfl, hb⟩
        have HV2 := Lib.hid (HV1.out.below hb)
        have HB2 := Lib.hid (HB1.out.trans (hb.mono HB1.out.size))
        clear hb HIS HB1 HV1
        go_wp2_with fail
        refine (HIX.out _).mono ?_
        rintro e w3 ⟨rfl, rfl⟩
        go_wp2_with fail
        go_ret3
        exact ⟨by rw [HF.out]; rfl, HB2.out⟩
    · obtain ⟨d, hd⟩ : ∃ d : Nat, descF l = d := by
        rcases descF_spec l with ⟨h, _⟩ | ⟨a, h, _⟩
        · exact absurd h h2
        · exact ⟨a, h⟩
      rw [hd] at HIS
      have hd0 : (0 : Int) ≤ (d : Int) := by omega
      have HF := Lib.hid (galAll_no (l := l) (x := x) (h := h) (fun hc => h2 hc.2.1))
      clear h1 h2 hd
      go_enter Try.func42, Try.ntmps42
      go_wp2_with fail
      refine (HIV.out _ HV.out).mono ?_
      rintro e w1 ⟨rfl, hb⟩
      have HV1 := Lib.hid (HV.out.below hb)
      have HB1 := Lib.hid hb
      clear hb HIV
      go_wp2_with fail
      refine (HIS.out _ HV1.out).mono ?_
      rintro e w2 ⟨rfl, hb⟩
      have HV2 := Lib.hid (HV1.out.below hb)
      have HB2 := Lib.hid (HB1.out.trans (hb.mono HB1.out.size))
      clear hb HIS HB1 HV1
      go_wp2_with fail
      go_ret3
      exact ⟨by rw [HF.out]; rfl, HB2.out⟩
  · rw [decide_eq_false h1] at HIV
    have HF := Lib.hid (galAll_no (l := l) (x := x) (h := h) (fun hc => h1 hc.1))
    clear h1 HIS
    go_enter Try.func42, Try.ntmps42
    go_wp2_with fail
    refine (HIV.out _ HV.out).mono ?_
    rintro e w1 ⟨rfl, hb⟩
    have HV1 := Lib.hid (HV.out.below hb)
    have HB1 := Lib.hid hb
    clear hb HIV
    go_wp2_with fail
    go_ret3
    exact ⟨by rw [HF.out]; rfl, HB1.out⟩

end Go.Proofs.Ytnjabdlhgmaeiaa
