/- The program's GallopSearch, by its contract. -/
import Derived.Test.YtnjabdlhgmaeiaaIsSrt
import Derived.Test.YtnjabdlhgmaeiaaIList
import Derived.Test.YtnjabdlhgmaeiaaGalP
import Derived.BigRegion
namespace Go.Proofs.Ytnjabdlhgmaeiaa
open Go.RowKit P El Ga
set_option linter.unusedVariables false

/-- The three cells of a search. -/
def gst (b o n c : Nat) (x : Int) (k : Nat) : List Value := [.slice (some ⟨b, o, none⟩) n c, .int .i64 x, .int .i64 (k : Int)]

structure GalW (base s b o c : Nat) (l : List Int) (x : Int) (k : Nat) (w0 w : World) : Prop where
  st : CellRow w s (gst b o l.length c x k)
  bs : base ≤ s
  el : ∀ i, i < l.length → b < base ∧ w0.cell? ⟨b, o + i, none⟩ = some (.int .i64 (l.getD i 0))
  bel : Below base w0 w

theorem GalW.c0 {base s b o c : Nat} {l : List Int} {x : Int} {k : Nat} {w0 w : World} (h : GalW base s b o c l x k w0 w) :
    w.cell? ⟨s, 0, none⟩ = some (.slice (some ⟨b, o, none⟩) l.length c) ∧ w.cell? ⟨s, 1, none⟩ = some (.int .i64 x) ∧ w.cell? ⟨s, 2, none⟩ = some (.int .i64 (k : Int)) ∧ w.frozen? ⟨s, 2, none⟩ = false :=
  ⟨(h.st.2 0 _ rfl).1, (h.st.2 1 _ rfl).1, (h.st.2 2 _ rfl).1, (h.st.2 2 _ rfl).2⟩
theorem GalW.at {base s b o c : Nat} {l : List Int} {x : Int} {k : Nat} {w0 w : World} (h : GalW base s b o c l x k w0 w) {i : Nat} (hi : i < l.length) : w.cell? ⟨b, o + i, none⟩ = some (.int .i64 (l.getD i 0)) :=
  (h.bel.cell (p := ⟨b, o + i, none⟩) (h.el i hi).1).trans (h.el i hi).2
theorem GalW.more {base s b o c : Nat} {l : List Int} {x : Int} {k : Nat} {w0 w : World} (h : GalW base s b o c l x k w0 w) : GalW base s b o c l x (k + 1) w0 (w.setCell ⟨s, 2, none⟩ (.int .i64 ((k : Int) + 1))) :=
  ⟨h.st.set 2 _ (by simp [gst]), h.bs, h.el, h.bel.setCell (p := ⟨s, 2, none⟩) h.bs _⟩
theorem GalW.drewN {base s b o c : Nat} {l : List Int} {x : Int} {k : Nat} {w0 w : World} (h : GalW base s b o c l x k w0 w) (n : Nat) : GalW base s b o c l x k w0 (w.drewN n) :=
  ⟨h.st.same rfl (Nat.le_refl _), h.bs, h.el, h.bel.trans ⟨rfl, rfl, rfl, Nat.le_refl _, fun _ _ => rfl⟩⟩

set_option maxRecDepth 100000 in
set_option maxHeartbeats 4000000 in
theorem isLessG_any {base s b o c : Nat} {l : List Int} {x : Int} {k : Nat} {w0 : World} (i : Nat) (w : World) (h : GalW base s b o c l x k w0 w) (hi : i < l.length) (hk : k ≤ 1048576) :
    Calls Try.prog 132 #[.pointer (some ⟨s, 0, none⟩), .int .i64 (i : Int)] w fun e w' => e = .returned (.bool (decide (l.getD i 0 < x))) ∧ GalW base s b o c l x (k + 1) w0 w' := by
  obtain ⟨_, _, h2, f2⟩ := h.c0
  have h' := h.more
  have HRES : Hid (∀ n, GalW base s b o c l x (k + 1) w0 ((w.setCell ⟨s, 2, none⟩ (.int .i64 ((k : Int) + 1))).drewN n)) := Lib.hid (fun n => h'.drewN n)
  obtain ⟨g0, g1, _, _⟩ := h'.c0
  have ge := h'.at hi
  have hiz : (i : Int) < l.length := by omega
  clear h h'
  generalize l.getD i 0 = y at *
  go_enter Try.func132, Try.ntmps132
  go_wp2_with fail
  generalize w.setCell ⟨s, 2, none⟩ (.int .i64 ((k : Int) + 1)) = W at *
  go_quiet (fail)
  go_wp2_with fail
  go_ret
  exact ⟨rfl, HRES.out _⟩

set_option maxRecDepth 100000 in
set_option maxHeartbeats 4000000 in
theorem countBetween_any {base s b o c : Nat} {l : List Int} {x : Int} {k : Nat} {w0 : World} (lo hi : Nat) (w : World) (h : GalW base s b o c l x k w0 w) (hlo : lo ≤ hi) (hhi : hi ≤ l.length) (h64 : l.length ≤ 64) (hk : k ≤ 1000) :
    Calls Try.prog 102 #[.pointer (some ⟨s, 0, none⟩), .int .i64 (lo : Int), .int .i64 (hi : Int)] w fun e w' =>
      e = .returned (.int .i64 ((gs x l lo hi k).1 : Nat)) ∧ GalW base s b o c l x (gs x l lo hi k).2 w0 w' := by
  have H0 := Lib.hid h
  clear h
  generalize hR : gs x l lo hi k = R at *
  have HR := Lib.hid hR
  clear hR
  go_enter Try.func102, Try.ntmps102
  go_wp2_with fail
  go_loopw [1, 2, 7] (fun lv hv _ wr => ∃ (lo hi c' : Nat), lo ≤ hi ∧ hi ≤ l.length ∧ c' + (hi - lo) ≤ 1064 ∧ lv = .int .i64 lo ∧ hv = .int .i64 hi ∧ gs x l lo hi c' = R ∧ GalW base s b o c l x c' w0 wr) (fun lv hv _ _ => (intOf hv).toNat - (intOf lv).toNat)
  case atStart => exact ⟨lo, hi, k, hlo, hhi, by omega, rfl, rfl, HR.out, H0.out⟩
  case round =>
    clear hlo hhi HR H0
    obtain ⟨lo, hi, c', hlh, hhi, hcb, rfl, rfl, hr, hcn⟩ := hrel
    have HRR := Lib.hid hr
    have HC := Lib.hid hcn
    clear hr hcn
    by_cases hlt2 : lo < hi
    · obtain ⟨mid, hm0⟩ : ∃ mid, mid = (lo + hi) / 2 := ⟨_, rfl⟩
      have hmid : ((lo : Int) + (hi : Int)) / 2 = (mid : Int) := by omega
      have hmL : mid < l.length := by omega
      have HM := Lib.hid hm0
      have hlo64 : lo ≤ 64 := by omega
      have hhi64 : hi ≤ 64 := by omega
      have hm1 : lo ≤ mid := by omega
      have hm2 : mid < hi := by omega
      have HL := Lib.hid (isLessG_any mid wr HC.out hmL (by omega))
      clear hm0 HC
      by_cases hxy : l.getD mid 0 < x
      · rw [decide_eq_true hxy] at HL
        have HE : Hid (gs x l (mid + 1) hi (c' + 1) = R) := Lib.hid (by rw [← HRR.out, gs_lt c' hlt2 (by rw [← HM.out]; exact hxy), ← HM.out])
        clear hxy
        go_wp2_with fail
        refine (HL.out).mono ?_
        rintro e w1 ⟨rfl, hcn⟩
        have HN := Lib.hid hcn
        clear hcn HL
        go_wp2_with fail
        go_roundw
        case rel => exact ⟨mid + 1, hi, c' + 1, by omega, by omega, by omega, by go_num, rfl, HE.out, HN.out⟩
        case measure => simp [intOf]; omega
      · rw [decide_eq_false hxy] at HL
        have HE : Hid (gs x l lo mid (c' + 1) = R) := Lib.hid (by rw [← HRR.out, gs_ge c' hlt2 (by rw [← HM.out]; exact hxy), ← HM.out])
        clear hxy
        go_wp2_with fail
        refine (HL.out).mono ?_
        rintro e w1 ⟨rfl, hcn⟩
        have HN := Lib.hid hcn
        clear hcn HL
        go_wp2_with fail
        go_roundw
        case rel => exact ⟨lo, mid, c' + 1, by omega, by omega, by omega, rfl, by first | rfl | rw [hmid], HE.out, HN.out⟩
        case measure => simp [intOf]; omega
    · have HE : Hid ((lo, c') = R) := Lib.hid (by rw [← HRR.out, gs_end c' hlt2])
      have hnlt : ¬ (lo : Int) < hi := by omega
      go_wp2_with fail
      go_ret
      exact ⟨by rw [← HE.out]; rfl, by rw [← HE.out]; exact HC.out⟩

set_option maxRecDepth 100000 in
set_option maxHeartbeats 4000000 in
theorem boundsAbove_any {base s b o c : Nat} {l : List Int} {x : Int} {k : Nat} {w0 : World} (h : Nat) (w : World) (hG : GalW base s b o c l x k w0 w) (hh : h < l.length) (h64 : l.length ≤ 64) (hk : k ≤ 100) :
    Calls Try.prog 133 #[.pointer (some ⟨s, 0, none⟩), .int .i64 (h : Int)] w fun e w' =>
      e = .returned (.tuple #[.int .i64 ((gup x l h 1 (h + 1) k).1 : Nat), .int .i64 ((gup x l h 1 (h + 1) k).2.1 : Nat)]) ∧ GalW base s b o c l x (gup x l h 1 (h + 1) k).2.2 w0 w' := by
  have H0 := Lib.hid hG
  clear hG
  generalize hR : gup x l h 1 (h + 1) k = R at *
  have HR := Lib.hid hR
  clear hR
  go_enter Try.func133, Try.ntmps133
  go_wp2_with fail
  go_loopw [6, 7] (fun lv sv wr => ∃ (lo st c' : Nat), 1 ≤ st ∧ st ≤ 129 ∧ lo ≤ 64 ∧ c' + (l.length - (h + st)) ≤ 164 ∧ lv = .int .i64 lo ∧ sv = .int .i64 st ∧ gup x l h st lo c' = R ∧ GalW base s b o c l x c' w0 wr) (fun _ sv _ => l.length - (intOf sv).toNat)
  case atStart => exact ⟨h + 1, 1, k, by omega, by omega, by omega, by omega, by go_num, rfl, HR.out, H0.out⟩
  case round =>
    clear HR H0
    obtain ⟨lo, st, c', hs1, hs2, hlo, hcb, rfl, rfl, hr, hcn⟩ := hrel
    have HRR := Lib.hid hr
    have HC := Lib.hid hcn
    obtain ⟨g0, _⟩ := hcn.c0
    obtain ⟨i, hi0⟩ : ∃ i, i = h + st := ⟨_, rfl⟩
    have hiz : (h : Int) + (st : Int) = (i : Int) := by omega
    have HI := Lib.hid hi0
    have hi200 : i ≤ 200 := by omega
    clear hr hcn
    by_cases hlt2 : i < l.length
    · have hltz : (i : Int) < l.length := by omega
      have HL := Lib.hid (isLessG_any i wr HC.out hlt2 (by omega))
      by_cases hxy : l.getD i 0 < x
      · rw [decide_eq_true hxy] at HL
        have HE : Hid (gup x l h (2 * st + 1) (i + 1) (c' + 1) = R) := Lib.hid (by rw [← HRR.out, gup_lt lo c' (by omega) (by rw [← HI.out]; exact hxy), ← HI.out])
        clear hxy hi0 HC
        go_wp2_with fail
        refine (HL.out).mono ?_
        rintro e w1 ⟨rfl, hcn⟩
        have HN := Lib.hid hcn
        clear hcn HL g0
        go_wp2_with fail
        go_roundw
        case rel => have := HI.out; exact ⟨i + 1, 2 * st + 1, c' + 1, by omega, by omega, by omega, by omega, by go_num, by go_num, HE.out, HN.out⟩
        case measure => have := HI.out; simp [intOf]; omega
      · rw [decide_eq_false hxy] at HL
        have HE : Hid ((lo, i, c' + 1) = R) := Lib.hid (by rw [← HRR.out, gup_ge lo c' (by omega) (by rw [← HI.out]; exact hxy), ← HI.out])
        clear hxy hi0 HC
        go_wp2_with fail
        refine (HL.out).mono ?_
        rintro e w1 ⟨rfl, hcn⟩
        have HN := Lib.hid hcn
        clear hcn HL g0
        go_wp2_with fail
        go_ret2
        exact ⟨by rw [← HE.out]; first | rfl | simp [hiz], by rw [← HE.out]; exact HN.out⟩
    · have hltz : ¬ (i : Int) < l.length := by omega
      have HE : Hid ((lo, l.length, c') = R) := Lib.hid (by rw [← HRR.out, gup_end lo c' (by omega)])
      clear hi0
      go_wp2_with fail
      go_quiet (fail)
      go_wp2_with fail
      go_ret2
      exact ⟨by rw [← HE.out]; rfl, by rw [← HE.out]; exact HC.out.drewN _⟩

set_option maxRecDepth 100000 in
set_option maxHeartbeats 4000000 in
theorem boundsBelow_any {base s b o c : Nat} {l : List Int} {x : Int} {k : Nat} {w0 : World} (h : Nat) (w : World) (hG : GalW base s b o c l x k w0 w) (hh : h < l.length) (h64 : l.length ≤ 64) (hk : k ≤ 100) :
    Calls Try.prog 134 #[.pointer (some ⟨s, 0, none⟩), .int .i64 (h : Int)] w fun e w' =>
      e = .returned (.tuple #[.int .i64 ((gdn x l h 1 h k).1 : Nat), .int .i64 ((gdn x l h 1 h k).2.1 : Nat)]) ∧ GalW base s b o c l x (gdn x l h 1 h k).2.2 w0 w' := by
  have H0 := Lib.hid hG
  clear hG
  generalize hR : gdn x l h 1 h k = R at *
  have HR := Lib.hid hR
  clear hR
  go_enter Try.func134, Try.ntmps134
  go_wp2_with fail
  go_loopw [6, 7] (fun hv sv wr => ∃ (hi st c' : Nat), 1 ≤ st ∧ st ≤ 129 ∧ hi ≤ 64 ∧ c' + (h + 1 - st) ≤ 164 ∧ hv = .int .i64 hi ∧ sv = .int .i64 st ∧ gdn x l h st hi c' = R ∧ GalW base s b o c l x c' w0 wr) (fun _ sv _ => h + 1 - (intOf sv).toNat)
  case atStart => exact ⟨h, 1, k, by omega, by omega, by omega, by omega, rfl, rfl, HR.out, H0.out⟩
  case round =>
    clear HR H0
    obtain ⟨hi, st, c', hs1, hs2, hhi, hcb, rfl, rfl, hr, hcn⟩ := hrel
    have HRR := Lib.hid hr
    have HC := Lib.hid hcn
    clear hr hcn
    by_cases hlt2 : st ≤ h
    · obtain ⟨i, hi0⟩ : ∃ i, i = h - st := ⟨_, rfl⟩
      have hiz : (h : Int) - (st : Int) = (i : Int) := by omega
      have HI := Lib.hid hi0
      have hi64 : i ≤ 64 := by omega
      have HL := Lib.hid (isLessG_any i wr HC.out (by omega) (by omega))
      by_cases hxy : l.getD i 0 < x
      · rw [decide_eq_true hxy] at HL
        have HE : Hid ((i + 1, hi, c' + 1) = R) := Lib.hid (by rw [← HRR.out, gdn_lt hi c' hlt2 (by rw [← HI.out]; exact hxy), ← HI.out])
        clear hxy hi0 HC
        go_wp2_with fail
        refine (HL.out).mono ?_
        rintro e w1 ⟨rfl, hcn⟩
        have HN := Lib.hid hcn
        clear hcn HL
        go_wp2_with fail
        go_ret2
        exact ⟨by rw [← HE.out]; first | rfl | simp [hiz], by rw [← HE.out]; exact HN.out⟩
      · rw [decide_eq_false hxy] at HL
        have HE : Hid (gdn x l h (2 * st + 1) i (c' + 1) = R) := Lib.hid (by rw [← HRR.out, gdn_ge hi c' hlt2 (by rw [← HI.out]; exact hxy), ← HI.out])
        clear hxy hi0 HC
        go_wp2_with fail
        refine (HL.out).mono ?_
        rintro e w1 ⟨rfl, hcn⟩
        have HN := Lib.hid hcn
        clear hcn HL
        go_wp2_with fail
        go_roundw
        case rel => have := HI.out; exact ⟨i, 2 * st + 1, c' + 1, by omega, by omega, by omega, by omega, by first | rfl | rw [hiz], by go_num, HE.out, HN.out⟩
        case measure => have := HI.out; simp [intOf]; omega
    · have hltz : (h : Int) - (st : Int) < 0 := by omega
      have HE : Hid ((0, hi, c') = R) := Lib.hid (by rw [← HRR.out, gdn_end hi c' hlt2])
      go_wp2_with fail
      go_ret2
      exact ⟨by rw [← HE.out]; rfl, by rw [← HE.out]; exact HC.out⟩

set_option maxRecDepth 100000 in
set_option maxHeartbeats 4000000 in
theorem boundsFrom_any {base s b o c : Nat} {l : List Int} {x : Int} {w0 : World} (h : Nat) (w : World) (hG : GalW base s b o c l x 0 w0 w) (hh : h < l.length) (h64 : l.length ≤ 64) :
    Calls Try.prog 103 #[.pointer (some ⟨s, 0, none⟩), .int .i64 (h : Int)] w fun e w' =>
      e = .returned (.tuple #[.int .i64 ((bnd x l h).1 : Nat), .int .i64 ((bnd x l h).2.1 : Nat)]) ∧ GalW base s b o c l x (bnd x l h).2.2 w0 w' := by
  have HL := Lib.hid (isLessG_any h w hG hh (by omega))
  clear hG
  unfold bnd
  by_cases hxy : l.getD h 0 < x
  · rw [decide_eq_true hxy] at HL
    rw [if_pos hxy]
    clear hxy
    have HA0 := Lib.hid (fun (W : World) (hW : GalW base s b o c l x 1 w0 W) => boundsAbove_any h W hW hh h64 (by omega))
    generalize gup x l h 1 (h + 1) 1 = R at *
    go_enter Try.func103, Try.ntmps103
    go_wp2_with fail
    refine (HL.out).mono ?_
    rintro e w1 ⟨rfl, hcn⟩
    have HA := Lib.hid (HA0.out w1 hcn)
    clear HL hcn HA0
    go_wp2_with fail
    refine (HA.out).mono ?_
    rintro e w2 ⟨rfl, hcn⟩
    have HN := Lib.hid hcn
    clear HA hcn
    go_wp2_with fail
    go_ret2
    exact ⟨rfl, HN.out⟩
  · rw [decide_eq_false hxy] at HL
    rw [if_neg hxy]
    clear hxy
    have HA0 := Lib.hid (fun (W : World) (hW : GalW base s b o c l x 1 w0 W) => boundsBelow_any h W hW hh h64 (by omega))
    generalize gdn x l h 1 h 1 = R at *
    go_enter Try.func103, Try.ntmps103
    go_wp2_with fail
    refine (HL.out).mono ?_
    rintro e w1 ⟨rfl, hcn⟩
    have HA := Lib.hid (HA0.out w1 hcn)
    clear HL hcn HA0
    go_wp2_with fail
    refine (HA.out).mono ?_
    rintro e w2 ⟨rfl, hcn⟩
    have HN := Lib.hid hcn
    clear HA hcn
    go_wp2_with fail
    go_ret2
    exact ⟨rfl, HN.out⟩

theorem outK_eq (x : Int) : outK x = !(decide (-100000 ≤ x ∧ x ≤ 100000)) := rfl

set_option maxRecDepth 100000 in
set_option maxHeartbeats 8000000 in
theorem implGal_any (b o c : Nat) (l : List Int) (x h : Int) (w : World) (hv : FlatAt w (.slice (some ⟨b, o, none⟩) l.length c) l.length (ints l)) (hn : l.length ≤ 1048576) (hx : (Lit.int .i64 x).wf = true) (hh : (Lit.int .i64 h).wf = true) :
    Calls Try.prog 41 #[.slice (some ⟨b, o, none⟩) l.length c, .int .i64 x, .int .i64 h] w fun e w' =>
      e = .returned (.tuple #[.int .i64 (galAll l x h).1, .int .i64 (galAll l x h).2.1, .bool (galAll l x h).2.2]) ∧ Below w.heap.size w w' := by
  have HV := Lib.hid hv
  clear hv hx hh
  have HIV := Lib.hid (fun W (h : FlatAt W (.slice (some ⟨b, o, none⟩) l.length c) l.length (ints l)) => implValidList_any _ l W h hn)
  have HIS := Lib.hid (fun W (h : FlatAt W (.slice (some ⟨b, o, none⟩) l.length c) l.length (ints l)) => isSorted_any _ l W h hn)
  have HIO := Lib.hid (fun W => isOutside_any x W)
  by_cases h1 : OkL l
  · rw [decide_eq_true h1] at HIV
    by_cases h2 : descF l = -1
    · rw [decide_eq_true h2] at HIS
      by_cases h3 : -100000 ≤ x ∧ x ≤ 100000
      · rw [show outK x = false by rw [outK_eq, decide_eq_true h3]; rfl] at HIO
        by_cases h4 : 0 ≤ h ∧ h < l.length
        · have HF := Lib.hid (galAll_yes (x := x) (h := h) ⟨h1, h2, h3, h4.1, h4.2⟩)
          obtain ⟨n, rfl⟩ : ∃ n : Nat, h = n := ⟨h.toNat, by omega⟩
          rw [Int.toNat_natCast] at HF
          have hnl : n < l.length := by omega
          have hb := bnd_bd (x := x) hnl
          have h64 := h1.1
          have HBD := Lib.hid hb
          have hz0 : ¬ (n : Int) < 0 := by omega
          have hz1 : ¬ (l.length : Int) ≤ n := by omega
          clear h1 h2 h3 h4 hb
          go_enter Try.func41, Try.ntmps41
          go_wp2_with fail
          refine (HIV.out _ HV.out).mono ?_
          rintro e w1 ⟨rfl, hb⟩
          have HV1 := Lib.hid (HV.out.below hb)
          have HB1 := Lib.hid hb
          clear hb HIV
          go_wp2_with fail
          refine (HIS.out _ HV1.out).mono ?_
          rintro e w2 ⟨rfl, hb⟩
          have HV2 := Lib.hid (HV1.out.below hb)
          have HB2 := Lib.hid (HB1.out.trans (hb.mono HB1.out.size))
          clear hb HIS HB1 HV1
          go_wp2_with fail
          refine (HIO.out _).mono ?_
          rintro e w3 ⟨rfl, rfl⟩
          obtain ⟨W, hW⟩ : ∃ W, W = w3.alloc (.cells #[.slice (some ⟨b, o, none⟩) l.length c, .int .i64 x, .int .i64 0] 116) := ⟨_, rfl⟩
          have HG : Hid (GalW w3.heap.size w3.heap.size b o c l x 0 w3 W) := Lib.hid (by
            have hA : RowIs W w3.heap.size 116 (gst b o l.length c x 0) := by rw [hW]; exact heap_alloc_new w3 _
            refine ⟨CellRow.of_row hA, Nat.le_refl _, fun i hi => ?_, by rw [hW]; exact (Below.refl _ _).alloc (Nat.le_refl _) _⟩
            obtain ⟨a0, c0, e0, _, h⟩ := HV2.out
            simp at e0
            obtain ⟨rfl, rfl⟩ := e0
            obtain ⟨b', o', e', h1, h2⟩ := h _ _ (ints_at (at_getD hi))
            simp at e'
            obtain ⟨rfl, rfl⟩ := e'
            exact ⟨h1, h2⟩)
          clear HIO HV2 HV
          go_wp2_with fail
          rw [← hW]
          clear hW
          refine (boundsFrom_any n W HG.out hnl h64).mono ?_
          rintro e w4 ⟨rfl, hg⟩
          obtain ⟨lo, hi, k, hbn⟩ : ∃ lo hi k, bnd x l n = (lo, hi, k) := ⟨_, _, _, rfl⟩
          rw [hbn] at hg HBD ⊢
          have HF2 : Hid (galF x l n = gs x l lo hi k) := Lib.hid (by unfold galF; rw [hbn])
          simp only at hg HBD ⊢
          have hbd := HBD.out
          have HC := Lib.hid (countBetween_any lo hi w4 hg hbd.1 hbd.2.1 h64 (by omega))
          clear hbn hg HBD hbd HG
          go_wp2_with fail
          refine (HC.out).mono ?_
          rintro e w5 ⟨rfl, hg⟩
          obtain ⟨_, _, g2, _⟩ := hg.c0
          have HRES : Hid (∀ n, Below w.heap.size w (w5.drewN n)) := Lib.hid (fun n => (HB2.out.trans (hg.bel.mono HB2.out.size)).trans ⟨rfl, rfl, rfl, Nat.le_refl _, fun _ _ => rfl⟩)
          rw [HF2.out] at HF
          clear HC hg HF2
          generalize gs x l lo hi k = R at *
          go_wp2_with fail
          go_quiet (fail)
          go_wp2_with fail
          go_ret3
          exact ⟨by rw [HF.out]; rfl, HRES.out _⟩
        · have HF := Lib.hid (galAll_no (l := l) (x := x) (h := h) (fun hc => h4 ⟨hc.2.2.2.1, hc.2.2.2.2⟩))
          clear h1 h2 h3
          by_cases h5 : h < 0
          · clear h4
            go_enter Try.func41, Try.ntmps41
            go_wp2_with fail
            refine (HIV.out _ HV.out).mono ?_
            rintro e w1 ⟨rfl, hb⟩
            have HV1 := Lib.hid (HV.out.below hb)
            have HB1 := Lib.hid hb
            clear hb HIV
            go_wp2_with fail
            refine (HIS.out _ HV1.out).mono ?_
            rintro e w2 ⟨rfl, hb⟩
            have HB2 := Lib.hid (HB1.out.trans (hb.mono HB1.out.size))
            clear hb HIS HB1 HV1
            go_wp2_with fail
            refine (HIO.out _).mono ?_
            rintro e w3 ⟨rfl, rfl⟩
            go_wp2_with fail
            go_ret3
            exact ⟨by rw [HF.out]; rfl, HB2.out⟩
          · have h6 : (l.length : Int) ≤ h := by omega
            clear h4
            go_enter Try.func41, Try.ntmps41
            go_wp2_with fail
            refine (HIV.out _ HV.out).mono ?_
            rintro e w1 ⟨rfl, hb⟩
            have HV1 := Lib.hid (HV.out.below hb)
            have HB1 := Lib.hid hb
            clear hb HIV
            go_wp2_with fail
            refine (HIS.out _ HV1.out).mono ?_
            rintro e w2 ⟨rfl, hb⟩
            have HB2 := Lib.hid (HB1.out.trans (hb.mono HB1.out.size))
            clear hb HIS HB1 HV1
            go_wp2_with fail
            refine (HIO.out _).mono ?_
            rintro e w3 ⟨rfl, rfl⟩
            go_wp2_with fail
            go_ret3
            exact ⟨by rw [HF.out]; rfl, HB2.out⟩
      · rw [show outK x = true by rw [outK_eq, decide_eq_false h3]; rfl] at HIO
        have HF := Lib.hid (galAll_no (l := l) (x := x) (h := h) (fun hc => h3 hc.2.2.1))
        clear h1 h2 h3
        go_enter Try.func41, Try.ntmps41
        go_wp2_with fail
        refine (HIV.out _ HV.out).mono ?_
        rintro e w1 ⟨rfl, hb⟩
        have HV1 := Lib.hid (HV.out.below hb)
        have HB1 := Lib.hid hb
        clear hb HIV
        go_wp2_with fail
        refine (HIS.out _ HV1.out).mono ?_
        rintro e w2 ⟨rfl, hb⟩
        have HB2 := Lib.hid (HB1.out.trans (hb.mono HB1.out.size))
        clear hb HIS HB1 HV1
        go_wp2_with fail
        refine (HIO.out _).mono ?_
        rintro e w3 ⟨rfl, rfl⟩
        go_wp2_with fail
        go_ret3
        exact ⟨by rw [HF.out]; rfl, HB2.out⟩
    · rw [decide_eq_false h2] at HIS
      have HF := Lib.hid (galAll_no (l := l) (x := x) (h := h) (fun hc => h2 hc.2.1))
      clear h1 h2 HIO
      go_enter Try.func41, Try.ntmps41
      go_wp2_with fail
      refine (HIV.out _ HV.out).mono ?_
      rintro e w1 ⟨rfl, hb⟩
      have HV1 := Lib.hid (HV.out.below hb)
      have HB1 := Lib.hid hb
      clear hb HIV
      go_wp2_with fail
      refine (HIS.out _ HV1.out).mono ?_
      rintro e w2 ⟨rfl, hb⟩
      have HB2 := Lib.hid (HB1.out.trans (hb.mono HB1.out.size))
      clear hb HIS HB1 HV1
      go_wp2_with fail
      go_ret3
      exact ⟨by rw [HF.out]; rfl, HB2.out⟩
  · rw [decide_eq_false h1] at HIV
    have HF := Lib.hid (galAll_no (l := l) (x := x) (h := h) (fun hc => h1 hc.1))
    clear h1 HIO HIS
    go_enter Try.func41, Try.ntmps41
    go_wp2_with fail
    refine (HIV.out _ HV.out).mono ?_
    rintro e w1 ⟨rfl, hb⟩
    have HB1 := Lib.hid hb
    clear hb HIV
    go_wp2_with fail
    go_ret3
    exact ⟨by rw [HF.out]; rfl, HB1.out⟩

end Go.Proofs.Ytnjabdlhgmaeiaa
