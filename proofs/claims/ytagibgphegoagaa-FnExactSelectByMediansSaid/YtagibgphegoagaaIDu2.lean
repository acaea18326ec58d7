/- The program's DualPartition, by its contract. -/
import Derived.Test.YtagibgphegoagaaIDu
namespace Go.Proofs.Ytagibgphegoagaa
open Go.RowKit P El Qk
set_option linter.unusedVariables false

theorem OwnN.part {base : Nat} {w : World} {v : Value} {L : List Int} (h : OwnN base w v L) : ∃ a c, v = .slice a L.length c ∧ (Part.mk a c L).ok w ∧ (L.length = 0 ∨ ∃ g, a = some ⟨g, 0, none⟩ ∧ base ≤ g ∧ L.length ≤ c ∧ CellRow w g (ints L)) := by
  rcases h.2 with ⟨e, hz⟩ | ⟨g, c, cur, e, h1, h2, h3, h4, h5, h6⟩
  · have hL : L = [] := List.eq_nil_of_length_eq_zero hz
    subst hL
    exact ⟨none, 0, e, ⟨⟨_, _, rfl, Nat.le_refl _, fun j u hu => by simp [ints] at hu⟩, fun _ => rfl⟩, .inl rfl⟩
  · subst e
    obtain ⟨q1, q2, q3⟩ := CellRow.of_own h
    exact ⟨_, c, rfl, ⟨q3.flat q2, fun e => by simp at e⟩, .inr ⟨g, rfl, q1, q2, q3⟩⟩

set_option maxRecDepth 100000 in
set_option maxHeartbeats 8000000 in
theorem implDu_any (b o c : Nat) (l : List Int) (p q : Int) (w : World) (hv : FlatAt w (.slice (some ⟨b, o, none⟩) l.length c) l.length (ints l)) (hn : l.length ≤ 1048576) :
    Calls Try.prog 112 #[.slice (some ⟨b, o, none⟩) l.length c, .int .i64 p, .int .i64 q] w (RetE2 (duAll l p q) w) := by
  obtain ⟨W0, hW0⟩ : ∃ W0, W0 = (w.alloc (.cells #[.int .i64 p] 3)).alloc (.cells #[.int .i64 q] 3) := ⟨_, rfl⟩
  have z1 : (w.alloc (.cells #[.int .i64 p] 3)).heap.size = w.heap.size + 1 := by simp
  have hb0 : Below w.heap.size w W0 := by rw [hW0]; exact ((Below.refl _ _).alloc (Nat.le_refl _) _).alloc (by omega) _
  have hp0 : CellRow W0 w.heap.size [.int .i64 p] := by
    have hA : RowIs (w.alloc (.cells #[.int .i64 p] 3)) w.heap.size 3 [.int .i64 p] := heap_alloc_new w _
    rw [hW0]; exact (CellRow.of_row hA).below ((Below.refl (w.heap.size + 1) _).alloc (by omega) _) (by omega)
  have hq0 : CellRow W0 (w.heap.size + 1) [.int .i64 q] := by
    have hA : RowIs ((w.alloc (.cells #[.int .i64 p] 3)).alloc (.cells #[.int .i64 q] 3)) (w.alloc (.cells #[.int .i64 p] 3)).heap.size 3 [.int .i64 q] := heap_alloc_new _ _
    rw [z1] at hA
    rw [hW0]; exact CellRow.of_row hA
  have HPQ : Hid (∀ w1, Below W0.heap.size W0 w1 → w1.cell? ⟨w.heap.size, 0, none⟩ = some (.int .i64 p) ∧ w1.cell? ⟨w.heap.size + 1, 0, none⟩ = some (.int .i64 q)) := Lib.hid (fun w1 hb => ⟨((hp0.below hb hp0.1).2 0 _ rfl).1, ((hq0.below hb hq0.1).2 0 _ rfl).1⟩)
  have HV := Lib.hid (implValidList_any _ l W0 (hv.below hb0) hn)
  have HNONE : Hid (¬ (OkL l ∧ p ≤ q) → ∀ w1, Below W0.heap.size W0 w1 → RetE2 (duAll l p q) w (.returned (.tuple #[.slice (some ⟨w1.heap.size, 0, none⟩) 0 0, .int .i64 0, .int .i64 0, .bool false])) (w1.alloc (.cells #[] 3))) := Lib.hid (fun h w1 hb => by rw [duAll_no h]; exact .inl (RetI2.none w w1 (hb0.trans (hb.mono hb0.size))))
  have HW0 := Lib.hid hW0
  have HB0 := Lib.hid hb0
  have HFV := Lib.hid (hv.below hb0)
  clear hp0 hq0 z1
  by_cases hok : OkL l
  · rw [decide_eq_true hok] at HV
    by_cases hpq : p ≤ q
    · have hpz : ¬ q < p := by omega
      have hpd : decide (q < p) = false := decide_eq_false hpz
      have HF := Lib.hid (duAll_yes ⟨hok, hpq⟩)
      have h64 := hok.1
      have HDL := Lib.hid (du_lens hpq l)
      have HJ : Hid (∀ a1 c1 a2 c2 a3 c3, joined [Part.mk a1 c1 (lowF l p), Part.mk a2 c2 (midF l p q), Part.mk a3 c3 (highF l q)] = duF l p q) := Lib.hid (fun a1 c1 a2 c2 a3 c3 => by simp [joined, duF])
      have HC1 : Hid (∀ W, Below W0.heap.size W0 W → Calls Try.prog 154 #[.slice (some ⟨b, o, none⟩) l.length c, .func (.func 155) #[] #[.pointer (some ⟨w.heap.size, 0, none⟩)]] W (fun e w' => ∃ v, e = .returned v ∧ OwnN W.heap.size w' v (lowF l p) ∧ Below W.heap.size W w')) := Lib.hid (fun W hW =>
        chosen_any (fun e => decide (e < p)) 155 _ (enters_of Try.func155 (by kernel_rfl) rfl) b o c l W ((hv.below hb0).below hW) hn (fun W2 x hW2 => less_any _ x p W2 (HPQ.out W2 (hW.trans (hW2.mono hW.size))).1))
      have HC2 : Hid (∀ W, Below W0.heap.size W0 W → Calls Try.prog 154 #[.slice (some ⟨b, o, none⟩) l.length c, .func (.func 156) #[] #[.pointer (some ⟨w.heap.size, 0, none⟩), .pointer (some ⟨w.heap.size + 1, 0, none⟩)]] W (fun e w' => ∃ v, e = .returned v ∧ OwnN W.heap.size w' v (midF l p q) ∧ Below W.heap.size W w')) := Lib.hid (fun W hW =>
        chosen_any (fun e => decide (p ≤ e ∧ e ≤ q)) 156 _ (enters_of Try.func156 (by kernel_rfl) rfl) b o c l W ((hv.below hb0).below hW) hn (fun W2 x hW2 => amid_any _ _ x p q W2 (HPQ.out W2 (hW.trans (hW2.mono hW.size))).1 (HPQ.out W2 (hW.trans (hW2.mono hW.size))).2))
      have HC3 : Hid (∀ W, Below W0.heap.size W0 W → Calls Try.prog 154 #[.slice (some ⟨b, o, none⟩) l.length c, .func (.func 157) #[] #[.pointer (some ⟨w.heap.size + 1, 0, none⟩)]] W (fun e w' => ∃ v, e = .returned v ∧ OwnN W.heap.size w' v (highF l q) ∧ Below W.heap.size W w')) := Lib.hid (fun W hW =>
        chosen_any (fun e => decide (q < e)) 157 _ (enters_of Try.func157 (by kernel_rfl) rfl) b o c l W ((hv.below hb0).below hW) hn (fun W2 x hW2 => more_any _ x q W2 (HPQ.out W2 (hW.trans (hW2.mono hW.size))).2))
      have HDlen := Lib.hid (duF_length hpq l)
      generalize lowF l p = A at *
      generalize midF l p q = B at *
      generalize highF l q = C at *
      generalize duF l p q = D at *
      have hA64 : A.length ≤ 64 := by have := HDL.out; omega
      have hB64 : B.length ≤ 64 := by have := HDL.out; omega
      clear hok HNONE hv hW0 hb0 hpq
      go_enter Try.func112, Try.ntmps112
      go_wp2_with fail
      rw [← HW0.out]
      refine HV.out.mono ?_
      rintro e w1 ⟨rfl, hb1⟩
      obtain ⟨hcp, hcq⟩ := HPQ.out w1 hb1
      have HB1 := Lib.hid hb1
      clear hb1 HV HPQ
      go_wp2_with fail
      refine (HC1.out w1 HB1.out).mono ?_
      rintro e w2 ⟨v1, rfl, ho1, hb2⟩
      obtain ⟨a1, c1, rfl, hP1, _⟩ := ho1.part
      have HP1 := Lib.hid hP1
      have HB2 := Lib.hid (HB1.out.trans (hb2.mono HB1.out.size))
      clear ho1 hb2 hP1 HB1 HC1 hcp hcq
      go_wp2_with fail
      refine (HC2.out w2 HB2.out).mono ?_
      rintro e w3 ⟨v2, rfl, ho2, hb3⟩
      obtain ⟨a2, c2, rfl, hP2, _⟩ := ho2.part
      have HP2 := Lib.hid hP2
      have HP1' := Lib.hid (HP1.out.below hb3)
      have HB3 := Lib.hid (HB2.out.trans (hb3.mono HB2.out.size))
      clear ho2 hb3 hP2 HB2 HC2 HP1
      go_wp2_with fail
      refine (HC3.out w3 HB3.out).mono ?_
      rintro e w4 ⟨v3, rfl, ho3, hb4⟩
      obtain ⟨a3, c3, rfl, hP3, _⟩ := ho3.part
      have HB4 := Lib.hid (HB3.out.trans (hb4.mono HB3.out.size))
      have hb5 : Below w4.heap.size w4 (w4.alloc (.cells #[.slice a1 A.length c1, .slice a2 B.length c2, .slice a3 C.length c3] 34)) := (Below.refl _ _).alloc (Nat.le_refl _) _
      have hA5 : RowIs (w4.alloc (.cells #[.slice a1 A.length c1, .slice a2 B.length c2, .slice a3 C.length c3] 34)) w4.heap.size 34 [.slice a1 A.length c1, .slice a2 B.length c2, .slice a3 C.length c3] := heap_alloc_new w4 _
      have HCC := Lib.hid (concatI_any w4.heap.size 3 [Part.mk a1 c1 A, Part.mk a2 c2 B, Part.mk a3 c3 C] (w4.alloc (.cells #[.slice a1 A.length c1, .slice a2 B.length c2, .slice a3 C.length c3] 34)) (fun j pt hj => by
        have hlt := hA5.lt
        match j, hj with
        | 0, hj => obtain rfl := Option.some.inj hj; exact ⟨(hA5.cell 0).trans rfl, hlt, (HP1'.out.below hb4).below hb5⟩
        | 1, hj => obtain rfl := Option.some.inj hj; exact ⟨(hA5.cell 1).trans rfl, hlt, (HP2.out.below hb4).below hb5⟩
        | 2, hj => obtain rfl := Option.some.inj hj; exact ⟨(hA5.cell 2).trans rfl, hlt, hP3.below hb5⟩
        | j + 3, hj => simp at hj) (by rw [HJ.out, HDlen.out]; exact hn) (by simp))
      rw [HJ.out] at HCC
      have HB5 := Lib.hid ((HB0.out.trans (HB4.out.mono HB0.out.size)).trans (hb5.mono (by have := HB0.out.size; have := HB4.out.size; omega)))
      clear ho3 hb4 hP3 HB4 HB3 HC3 hb5 hA5 HP1' HP2 HJ
      go_wp2_with fail
      refine HCC.out.mono ?_
      rintro e w6 ⟨v, rfl, ho, hb6⟩
      have HRES : Hid (RetE2 (duAll l p q) w (.returned (.tuple #[v, .int .i64 (A.length : Int), .int .i64 ((A.length : Int) + (B.length : Int)), .bool true])) w6) := Lib.hid (by
        have hbb : Below w.heap.size w w6 := HB5.out.trans (hb6.mono HB5.out.size)
        rw [HF.out]
        obtain ⟨a, cc, rfl, _, hz | ⟨g, rfl, hg, hcap, hr⟩⟩ := ho.part
        · have hD : D = [] := List.eq_nil_of_length_eq_zero hz
          subst hD
          exact .inr ⟨rfl, a, cc, rfl, hbb⟩
        · exact .inl ⟨g, cc, rfl, hcap, Nat.le_trans HB5.out.size hg, hr, hbb⟩)
      clear ho hb6 HCC
      go_wp2_with fail
      refine bodyPost_ret (results_tmp4 rfl _ _ _) rfl ?_
      exact HRES.out
    · have hpz : q < p := by omega
      have hpd : decide (q < p) = true := decide_eq_true hpz
      have HN := Lib.hid (HNONE.out (fun h => hpq h.2))
      clear hok HNONE hv hpq hW0 hb0
      go_enter Try.func112, Try.ntmps112
      go_wp2_with fail
      rw [← HW0.out]
      refine HV.out.mono ?_
      rintro e w1 ⟨rfl, hb1⟩
      obtain ⟨hcp, hcq⟩ := HPQ.out w1 hb1
      have HRES := Lib.hid (HN.out w1 hb1)
      clear hb1 HV HN HPQ
      go_wp2_with fail
      refine bodyPost_ret (results_tmp4 rfl _ _ _) rfl ?_
      exact HRES.out
  · rw [decide_eq_false hok] at HV
    have HN := Lib.hid (HNONE.out (fun h => hok h.1))
    clear hok HNONE hv hW0 hb0
    go_enter Try.func112, Try.ntmps112
    go_wp2_with fail
    rw [← HW0.out]
    refine HV.out.mono ?_
    rintro e w1 ⟨rfl, hb1⟩
    have HRES := Lib.hid (HN.out w1 hb1)
    clear hb1 HV HN
    go_wp2_with fail
    refine bodyPost_ret (results_tmp4 rfl _ _ _) rfl ?_
    exact HRES.out

end Go.Proofs.Ytagibgphegoagaa
