/- The program's MergeHeaps, by its contract. -/
import Derived.Test.YtfcgnfhpfooelaaIBld
namespace Go.Proofs.Ytfcgnfhpfooelaa
open Go.RowKit P El Hp
set_option linter.unusedVariables false

/-- Two lists, laid in a slice of them and joined. -/
theorem concat2_any (a : Option Addr) (c : Nat) (l : List Int) (a2 : Option Addr) (c2 : Nat) (l2 : List Int) (w : World) (h : (Part.mk a c l).ok w) (h2 : (Part.mk a2 c2 l2).ok w) (hn : l.length + l2.length ≤ 1048576) :
    Calls Try.prog 115 #[.slice (some ⟨w.heap.size, 0, none⟩) 2 2] (w.alloc (.cells #[.slice a l.length c, .slice a2 l2.length c2] 26)) fun e w' => ∃ v, e = .returned v ∧ OwnN w.heap.size w' v (l ++ l2) ∧ Below w.heap.size w w' := by
  have hb : Below w.heap.size w (w.alloc (.cells #[.slice a l.length c, .slice a2 l2.length c2] 26)) := (Below.refl _ _).alloc (Nat.le_refl _) _
  have hj : joined [Part.mk a c l, Part.mk a2 c2 l2] = l ++ l2 := by simp [joined]
  have hA : RowIs (w.alloc (.cells #[.slice a l.length c, .slice a2 l2.length c2] 26)) w.heap.size 26 [.slice a l.length c, .slice a2 l2.length c2] := heap_alloc_new w _
  refine (concatI_any w.heap.size 2 [Part.mk a c l, Part.mk a2 c2 l2] _ (fun j p hp => ?_) (by rw [hj]; simp; omega) (by simp)).mono ?_
  · match j, hp with
    | 0, hp =>
      simp at hp; subst hp
      exact ⟨((CellRow.of_row hA).2 0 _ rfl).1, by simp, h.below hb⟩
    | 1, hp =>
      simp at hp; subst hp
      exact ⟨((CellRow.of_row hA).2 1 _ rfl).1, by simp, h2.below hb⟩
    | j + 2, hp => simp at hp
  · rintro e w' ⟨v, rfl, hH, hb2⟩
    rw [hj] at hH
    exact ⟨v, rfl, hH.lower hb.size, hb.trans (hb2.mono hb.size)⟩
theorem RetE1.lower {r : List Int × Int × Bool} {w w1 w' : World} {e : Ending} (h : RetE1 r w1 e w') (hb : Below w.heap.size w w1) : RetE1 r w e w' := by
  rcases h with ⟨g, c, h1, h2, h3, h4, h5⟩ | ⟨h0, ⟨a, c, h1, h2⟩, h3⟩
  · exact .inl ⟨g, c, h1, h2, Nat.le_trans hb.size h3, h4, hb.trans (h5.mono hb.size)⟩
  · exact .inr ⟨h0, ⟨a, c, h1, hb.trans (h2.mono hb.size)⟩, h3⟩
theorem OwnN.part {base : Nat} {w : World} {v : Value} {L : List Int} (h : OwnN base w v L) : ∃ a c, v = .slice a L.length c ∧ (Part.mk a c L).ok w := by
  rcases h.2 with ⟨e, hz⟩ | ⟨g, cap, cur, e, _⟩
  · have : L = [] := List.eq_nil_of_length_eq_zero hz
    subst this
    exact ⟨none, 0, e, ⟨⟨none, 0, rfl, Nat.le_refl _, fun j u h => by simp [ints] at h⟩, fun _ => rfl⟩⟩
  · subst e
    obtain ⟨_, hc, hr⟩ := OwnN.row h
    exact ⟨_, cap, rfl, ⟨hr.flat hc, fun e => by simp at e⟩⟩

set_option maxRecDepth 100000 in
set_option maxHeartbeats 4000000 in
theorem implMrg_any (b o c : Nat) (l : List Int) (b2 o2 c2 : Nat) (l2 : List Int) (d : Int) (w : World) (hv : FlatAt w (.slice (some ⟨b, o, none⟩) l.length c) l.length (ints l)) (hn : l.length ≤ 1048576)
    (hv2 : FlatAt w (.slice (some ⟨b2, o2, none⟩) l2.length c2) l2.length (ints l2)) (hn2 : l2.length ≤ 1048576) :
    Calls Try.prog 56 #[.slice (some ⟨b, o, none⟩) l.length c, .slice (some ⟨b2, o2, none⟩) l2.length c2, .int .i64 d] w (RetE1 (mrgAll l l2 d) w) := by
  have HV := Lib.hid (isAry_any _ l d w hv hn)
  have HV2 := Lib.hid (fun W (h : FlatAt W (.slice (some ⟨b2, o2, none⟩) l2.length c2) l2.length (ints l2)) => isAry_any _ l2 d W h hn2)
  have HNONE : Hid (¬ (IsHp l d ∧ IsHp l2 d ∧ OkL (l ++ l2)) → ∀ w1, Below w.heap.size w w1 → RetE1 (mrgAll l l2 d) w (.returned (.tuple #[.slice (some ⟨w1.heap.size, 0, none⟩) 0 0, .int .i64 0, .bool false])) (w1.alloc (.cells #[] 3))) := Lib.hid (fun h w1 hb => by rw [mrgAll_no h]; exact .inl (RetI1.none w w1 hb))
  have HF1 : Hid ((Part.mk (some ⟨b, o, none⟩) c l).ok w) := Lib.hid ⟨hv, fun e => by simp at e⟩
  have HF2 : Hid ((Part.mk (some ⟨b2, o2, none⟩) c2 l2).ok w) := Lib.hid ⟨hv2, fun e => by simp at e⟩
  have HFV2 := Lib.hid hv2
  by_cases hok : IsHp l d
  · rw [decide_eq_true hok] at HV
    by_cases hokb : IsHp l2 d
    · rw [decide_eq_true hokb] at HV2
      have h64 := hok.1.1
      have h642 := hokb.1.1
      have HM : Hid (mrgAll l l2 d = bldAll (l ++ l2) d) := Lib.hid (mrgAll_bld hok hokb)
      have HCC := Lib.hid (fun W (h : (Part.mk (some ⟨b, o, none⟩) c l).ok W) (h2 : (Part.mk (some ⟨b2, o2, none⟩) c2 l2).ok W) => concat2_any _ c l _ c2 l2 W h h2 (by omega))
      have HBL := Lib.hid (fun (a : Option Addr) (c : Nat) W (h : (Part.mk a c (l ++ l2)).ok W) => implBld_any a c (l ++ l2) d W h (by simp; omega))
      rw [HM.out]
      generalize l ++ l2 = L3 at HCC HBL HNONE HM ⊢
      generalize bldAll L3 d = R at HBL HM ⊢
      obtain ⟨R1, R2, R3⟩ := R
      have HRES : Hid (∀ e w1 w2, Below w.heap.size w w1 → RetE1 (R1, R2, R3) w1 e w2 → RetE1 (R1, R2, R3) w e w2) := Lib.hid (fun e w1 w2 hb h => h.lower hb)
      clear hok hokb hv hv2 HNONE HM
      go_enter Try.func56, Try.ntmps56
      go_wp2_with fail
      refine HV.out.mono ?_
      rintro e w1 ⟨rfl, hb1⟩
      have HB1 := Lib.hid hb1
      clear hb1 HV
      go_wp2_with fail
      refine (HV2.out _ (HFV2.out.below HB1.out)).mono ?_
      rintro e w2 ⟨rfl, hb2⟩
      have HB2 := Lib.hid (HB1.out.trans (hb2.mono HB1.out.size))
      clear hb2 HV2 HFV2 HB1
      go_wp2_with fail
      refine (HCC.out _ (HF1.out.below HB2.out) (HF2.out.below HB2.out)).mono ?_
      rintro e w3 ⟨v3, rfl, ho3, hb3⟩
      have HB3 := Lib.hid (HB2.out.trans (hb3.mono HB2.out.size))
      obtain ⟨a3, c3, rfl, hp3⟩ := ho3.part
      have HP3 := Lib.hid hp3
      clear ho3 hb3 hp3 HCC HF1 HF2 HB2
      go_wp2_with fail
      refine (HBL.out a3 c3 _ HP3.out).mono ?_
      rintro e w4 hr
      have HR := Lib.hid (HRES.out _ _ _ HB3.out hr)
      have HE : ∃ va vn vc, e = .returned (.tuple #[.slice va vn vc, .int .i64 R2, .bool R3]) := by
        rcases hr with ⟨g, c, h1, _⟩ | ⟨_, ⟨a, c, h1, _⟩, _⟩
        · exact ⟨_, _, _, h1⟩
        · exact ⟨_, _, _, h1⟩
      obtain ⟨va, vn, vc, rfl⟩ := HE
      clear hr HRES HBL HP3 HB3
      go_wp2_with fail
      go_ret3
      exact HR.out
    · rw [decide_eq_false hokb] at HV2
      have HN := Lib.hid (HNONE.out (fun h => hokb h.2.1))
      clear hok hokb hv hv2 HNONE HF1 HF2
      go_enter Try.func56, Try.ntmps56
      go_wp2_with fail
      refine HV.out.mono ?_
      rintro e w1 ⟨rfl, hb1⟩
      have HB1 := Lib.hid hb1
      clear hb1 HV
      go_wp2_with fail
      refine (HV2.out _ (HFV2.out.below HB1.out)).mono ?_
      rintro e w2 ⟨rfl, hb2⟩
      have HRES := Lib.hid (HN.out w2 (HB1.out.trans (hb2.mono HB1.out.size)))
      clear hb2 HV2 HFV2 HB1 HN
      go_wp2_with fail
      go_ret3
      exact HRES.out
  · rw [decide_eq_false hok] at HV
    have HN := Lib.hid (HNONE.out (fun h => hok h.1))
    clear hok HNONE hv hv2 HF1 HF2 HFV2 HV2
    go_enter Try.func56, Try.ntmps56
    go_wp2_with fail
    refine HV.out.mono ?_
    rintro e w1 ⟨rfl, hb1⟩
    have HRES := Lib.hid (HN.out w1 hb1)
    clear hb1 HV HN
    go_wp2_with fail
    go_ret3
    exact HRES.out

end Go.Proofs.Ytfcgnfhpfooelaa
