/- The model's quicksort, in place, by its contract. -/
import Derived.Test.YtipdfmedbcafpaaSMed
import Derived.Test.YtipdfmedbcafpaaSThr
import Derived.Test.YtipdfmedbcafpaaSegT
import Derived.Deep.RegionWith
namespace Go.Proofs.Ytipdfmedbcafpaa
open Go.RowKit P El Qk
set_option linter.unusedVariables false

set_option maxRecDepth 100000 in
set_option maxHeartbeats 4000000 in
theorem sqs_small {n c : Nat} (a : Option Addr) (w : World) (h : n < 2) :
    Calls Try.prog 106 #[.slice a n c] w fun e w' => e = .returned (.int .i64 0) ∧ w' = w := by
  have hz : (n : Int) < 2 := by omega
  go_enter Try.func106, Try.ntmps106
  go_wp2_with fail
  go_ret
  exact ⟨rfl, rfl⟩

/-- What the sort of a part leaves. -/
def QsP (g o n : Nat) (R : List Int × Nat) (w : World) (e : Ending) (w' : World) : Prop := e = .returned (.int .i64 ((R.2 : Nat) : Int)) ∧ SegP g o n R.1 w w'

set_option maxRecDepth 100000 in
set_option maxHeartbeats 16000000 in
theorem sqs_any (f : Nat) : ∀ (g o c n : Nat) (L : List Int) (w : World), Seg w g o (ints L) → L.length = n → n ≤ f → n ≤ 64 → n ≤ c →
    Calls Try.prog 106 #[.slice (some ⟨g, o, none⟩) n c] w (QsP g o n (qs f L) w) := by
  induction f with
  | zero =>
    intro g o c n L w h hL hf h64 hc
    refine (sqs_small _ w (by omega)).mono ?_
    rintro e w' ⟨rfl, rfl⟩
    rw [qs_small (by omega)]
    exact ⟨rfl, h, ButS.refl _ _ _ _⟩
  | succ f ih =>
    intro g o c n L w h hL hf h64 hc
    by_cases h2 : n < 2
    · refine (sqs_small _ w h2).mono ?_
      rintro e w' ⟨rfl, rfl⟩
      rw [qs_small (by omega)]
      exact ⟨rfl, h, ButS.refl _ _ _ _⟩
    · have h2z : ¬ (n : Int) < 2 := by omega
      have h2d : decide ((n : Int) < 2) = false := decide_eq_false h2z
      have hm := medF_lt (L := L) (by omega)
      have hmm := getD_mem hm
      have ht := thF_spec L (L.getD (medF L) 0)
      have hx := thF_some hmm
      obtain ⟨⟨M, lt, gt⟩, he⟩ : ∃ T, thF L (L.getD (medF L) 0) = T := ⟨_, rfl⟩
      have HMED := Lib.hid (smedR_any (c := c) w h.rd hL (by omega) (by omega))
      obtain ⟨x, hxe⟩ : ∃ x, x = L.getD (medF L) 0 := ⟨_, rfl⟩
      obtain ⟨hcx, _⟩ := h.at hm
      rw [← hxe] at he hcx ht hx
      have HTH := Lib.hid (fun (W : World) (h : Seg W g o (ints L)) => sthree_any (c := c) x W h hL (by omega))
      rw [he] at ht hx HTH
      simp only at ht hx HTH
      have hq := qs_big (f := f) (M := M) (lt := lt) (gt := gt) (by omega : ¬ L.length < 2) (by rw [← hxe]; exact he)
      obtain ⟨p1, p2⟩ := part_lens ht
      have hgn : gt ≤ n := by have := ht.h3; omega
      have hlg : lt ≤ gt := ht.h1
      have hML : M.length = n := by have := ht.perm.length_eq; omega
      obtain ⟨s1, s2⟩ := qs_spec f (M.take lt) (by omega)
      obtain ⟨s3, s4⟩ := qs_spec f (M.drop gt) (by omega)
      have l1 : (qs f (M.take lt)).1.length = lt := by rw [s1, srt_length]; exact p1
      have l3 : (qs f (M.drop gt)).1.length = n - gt := by rw [s3, srt_length]; omega
      have HI1 := Lib.hid (fun (W : World) (h : Seg W g o (ints (M.take lt))) => ih g o c lt (M.take lt) W h p1 (by omega) (by omega) (by omega))
      have HI2 : Hid (gt < n → ∀ (W : World), Seg W g (o + gt) (ints (M.drop gt)) → Calls Try.prog 106 #[.slice (some ⟨g, o + gt, none⟩) (n - gt) (c - gt)] W (QsP g (o + gt) (n - gt) (qs f (M.drop gt)) W)) := Lib.hid (fun _ W h => ih g (o + gt) (c - gt) (n - gt) (M.drop gt) W h (by omega) (by omega) (by omega) (by omega))
      have HQ0 : Hid (gt = n → qs f (M.drop gt) = ([], 0)) := Lib.hid (fun e => by
        have e2 : M.drop gt = [] := List.eq_nil_of_length_eq_zero (by omega)
        rw [e2]; exact qs_small (by simp))
      have HHS : Hid (Seg w g o (ints L) ∧ g < w.heap.size) := Lib.hid ⟨h, h.1⟩
      have HTR : Hid (∀ w2 w3 w4, Seg w2 g o (ints M) → SegP g o lt (qs f (M.take lt)).1 w2 w3 → SegP g (o + gt) (n - gt) (qs f (M.drop gt)).1 w3 w4 → SegP g o n (qs (f + 1) L).1 w2 w4) := Lib.hid (fun w2 w3 w4 a b c => by
        rw [hq]; exact a.three hML hlg hgn l1 l3 b c)
      have HPA : Hid (∀ W, Seg W g o (ints M) → Seg W g o (ints (M.take lt)) ∧ Seg W g (o + gt) (ints (M.drop gt))) := Lib.hid (fun W hh => by
        obtain ⟨e1, _, e3⟩ := hh.parts hlg (by omega); exact ⟨e1, e3⟩)
      have HDL : Hid ((ints (M.drop gt)).length = n - gt) := Lib.hid (by rw [ints_length]; omega)
      have hQ2 : (qs (f + 1) L).2 = 1 + (qs f (M.take lt)).2 + (qs f (M.drop gt)).2 := by rw [hq]
      have HQ2 := Lib.hid hQ2
      have hb1 : (qs f (M.take lt)).2 ≤ 64 := by omega
      have hb3 : (qs f (M.drop gt)).2 ≤ 64 := by omega
      clear hq s1 s2 s3 s4 l1 l3 p1 p2 ht hx hmm h hQ2 ih
      generalize qs (f + 1) L = R at *
      generalize qs f (M.take lt) = RA at *
      generalize qs f (M.drop gt) = RB at *
      obtain ⟨R1, R2⟩ := R
      obtain ⟨A, a⟩ := RA
      obtain ⟨B, b⟩ := RB
      simp only at *
      generalize hmd : medF L = md at *
      have HMD := Lib.hid hmd
      have hmz : (md : Int) < n := by omega
      have hltz : (lt : Int) ≤ n := by omega
      have hgtz : (gt : Int) ≤ n := by omega
      have hltc : (lt : Int) ≤ c := by omega
      have hcz : (n : Int) ≤ c := by omega
      have HLL := Lib.hid hL
      have HE := Lib.hid he
      have HXE := Lib.hid hxe
      have HML := Lib.hid hML
      clear hmd he hxe hL hML
      rcases (show gt < n ∨ (gt = n ∧ n = c) ∨ (gt = n ∧ n < c) by omega) with hg | ⟨hg, hg2⟩ | ⟨hg, hg2⟩
      · have HI3 := Lib.hid (HI2.out hg)
        have hgc : (gt : Int) < c := by omega
        have hgc2 : ¬ gt = c := by omega
        have hgc3 : gt < c := by omega
        clear HI2 HQ0
        go_enter Try.func106, Try.ntmps106
        go_wp2_with fail
        refine HMED.out.mono ?_
        rintro e w1 ⟨rfl, hb1'⟩
        have hcx1 : w1.cell? ⟨g, o + md, none⟩ = some (.int .i64 x) := (hb1'.cell (p := ⟨g, o + md, none⟩) HHS.out.2).trans hcx
        have HS1 := Lib.hid (HHS.out.1.below hb1' HHS.out.2)
        have HB1 : Hid (ButS g o n w w1) := Lib.hid (ButS.ofBelow hb1' HHS.out.2)
        clear hb1' HMED hcx
        go_wp2_with fail
        refine (HTH.out _ HS1.out).mono ?_
        rintro e w2 ⟨rfl, hs2, hb2⟩
        have HS2 := Lib.hid hs2
        have HB2 := Lib.hid (HB1.out.trans hb2)
        obtain ⟨hp1, hp2⟩ := HPA.out _ hs2
        have HP1 : Hid (∀ t, Seg (w2.drewN t) g o (ints (M.take lt))) := Lib.hid (fun t => hp1.drewN t)
        have HP2 : Hid (∀ t, Seg (w2.drewN t) g (o + gt) (ints (M.drop gt))) := Lib.hid (fun t => hp2.drewN t)
        clear hs2 hb2 hp1 hp2 HTH HS1 HB1 hcx1
        go_wp2_with fail
        have hwa : IntKind.i64.wrap (1 + (a : Int)) = 1 + (a : Int) := by rw [IntKind.wrap_i64]; omega
        have hwb : IntKind.i64.wrap (1 + (a : Int) + (b : Int)) = 1 + (a : Int) + (b : Int) := by rw [IntKind.wrap_i64]; omega
        go_region_with (first
          | (go_at_call_of 106 (Value.slice (some ⟨g, o, none⟩) lt c); refine (HI1.out _ (HP1.out 1)).mono ?_; rintro e w3 ⟨rfl, hs3, hb3'⟩)
          | (go_at_call_of 106 (Value.slice (some ⟨g, o + gt, none⟩) (n - gt) (c - gt)); refine (HI3.out _ ((HP2.out 1).keep hb3' (.inr (by omega)))).mono ?_; rintro e w4 ⟨rfl, hs4, hb4'⟩))
        have HRES : Hid (QsP g o n (R1, R2) w (.returned (.int .i64 (1 + (a : Int) + (b : Int)))) w4) := Lib.hid (by
          have hh := HTR.out (w2.drewN 1) w3 w4 (HS2.out.drewN 1) ⟨hs3, hb3'⟩ ⟨hs4, hb4'⟩
          refine ⟨?_, hh.1, (HB2.out.drewN 1).trans hh.2⟩
          have := HQ2.out
          rw [this]; go_num)
        clear hs3 hb3' hs4 hb4' HI1 HI3 HP1 HP2 HTR hwa hwb
        go_wp2_with fail
        go_ret
        exact HRES.out
      · subst hg
        subst hg2
        obtain ⟨rfl, rfl⟩ := Prod.mk.inj (HQ0.out rfl)
        clear HI2 HQ0
        go_enter Try.func106, Try.ntmps106
        go_wp2_with fail
        refine HMED.out.mono ?_
        rintro e w1 ⟨rfl, hb1'⟩
        have hcx1 : w1.cell? ⟨g, o + md, none⟩ = some (.int .i64 x) := (hb1'.cell (p := ⟨g, o + md, none⟩) HHS.out.2).trans hcx
        have HS1 := Lib.hid (HHS.out.1.below hb1' HHS.out.2)
        have HB1 : Hid (ButS g o gt w w1) := Lib.hid (ButS.ofBelow hb1' HHS.out.2)
        clear hb1' HMED hcx
        go_wp2_with fail
        refine (HTH.out _ HS1.out).mono ?_
        rintro e w2 ⟨rfl, hs2, hb2⟩
        have HS2 := Lib.hid hs2
        have HB2 := Lib.hid (HB1.out.trans hb2)
        obtain ⟨hp1, hp2⟩ := HPA.out _ hs2
        have HP1 : Hid (∀ t, Seg (w2.drewN t) g o (ints (M.take lt))) := Lib.hid (fun t => hp1.drewN t)
        have HP2 : Hid (∀ t, Seg (w2.drewN t) g (o + gt) (ints (M.drop gt))) := Lib.hid (fun t => hp2.drewN t)
        clear hs2 hb2 hp1 hp2 HTH HS1 HB1 hcx1
        go_wp2_with fail
        have hwa : IntKind.i64.wrap (1 + (a : Int)) = 1 + (a : Int) := by rw [IntKind.wrap_i64]; omega
        go_region_with (first
          | (go_at_call_of 106 (Value.slice (some ⟨g, o, none⟩) lt gt); refine (HI1.out _ (HP1.out 1)).mono ?_; rintro e w3 ⟨rfl, hs3, hb3'⟩)
          | (go_at_call 106; refine (sqs_small _ _ (by omega)).mono ?_; rintro e w3 ⟨rfl, rfl⟩))
        have HRES : Hid (QsP g o gt (R1, R2) w (.returned (.int .i64 (1 + (a : Int)))) w3) := Lib.hid (by
          have hh := HTR.out (w2.drewN 1) w3 w3 (HS2.out.drewN 1) ⟨hs3, hb3'⟩ ⟨Seg.nil hs3.1, ButS.refl _ _ _ _⟩
          refine ⟨?_, hh.1, (HB2.out.drewN 1).trans hh.2⟩
          have := HQ2.out
          rw [this]; go_num)
        clear hs3 hb3' HI1 HP1 HP2 HTR hwa
        go_wp2_with fail
        go_ret
        exact HRES.out
      · subst hg
        have hgc2 : ¬ gt = c := by omega
        have hgc3 : (gt : Int) < c := by omega
        obtain ⟨rfl, rfl⟩ := Prod.mk.inj (HQ0.out rfl)
        clear HI2 HQ0
        go_enter Try.func106, Try.ntmps106
        go_wp2_with fail
        refine HMED.out.mono ?_
        rintro e w1 ⟨rfl, hb1'⟩
        have hcx1 : w1.cell? ⟨g, o + md, none⟩ = some (.int .i64 x) := (hb1'.cell (p := ⟨g, o + md, none⟩) HHS.out.2).trans hcx
        have HS1 := Lib.hid (HHS.out.1.below hb1' HHS.out.2)
        have HB1 : Hid (ButS g o gt w w1) := Lib.hid (ButS.ofBelow hb1' HHS.out.2)
        clear hb1' HMED hcx
        go_wp2_with fail
        refine (HTH.out _ HS1.out).mono ?_
        rintro e w2 ⟨rfl, hs2, hb2⟩
        have HS2 := Lib.hid hs2
        have HB2 := Lib.hid (HB1.out.trans hb2)
        obtain ⟨hp1, hp2⟩ := HPA.out _ hs2
        have HP1 : Hid (∀ t, Seg (w2.drewN t) g o (ints (M.take lt))) := Lib.hid (fun t => hp1.drewN t)
        have HP2 : Hid (∀ t, Seg (w2.drewN t) g (o + gt) (ints (M.drop gt))) := Lib.hid (fun t => hp2.drewN t)
        clear hs2 hb2 hp1 hp2 HTH HS1 HB1 hcx1
        go_wp2_with fail
        have hwa : IntKind.i64.wrap (1 + (a : Int)) = 1 + (a : Int) := by rw [IntKind.wrap_i64]; omega
        go_region_with (first
          | (go_at_call_of 106 (Value.slice (some ⟨g, o, none⟩) lt c); refine (HI1.out _ (HP1.out 1)).mono ?_; rintro e w3 ⟨rfl, hs3, hb3'⟩)
          | (go_at_call 106; refine (sqs_small _ _ (by omega)).mono ?_; rintro e w3 ⟨rfl, rfl⟩))
        have HRES : Hid (QsP g o gt (R1, R2) w (.returned (.int .i64 (1 + (a : Int)))) w3) := Lib.hid (by
          have hh := HTR.out (w2.drewN 1) w3 w3 (HS2.out.drewN 1) ⟨hs3, hb3'⟩ ⟨Seg.nil hs3.1, ButS.refl _ _ _ _⟩
          refine ⟨?_, hh.1, (HB2.out.drewN 1).trans hh.2⟩
          have := HQ2.out
          rw [this]; go_num)
        clear hs3 hb3' HI1 HP1 HP2 HTR hwa
        go_wp2_with fail
        go_ret
        exact HRES.out

end Go.Proofs.Ytipdfmedbcafpaa
