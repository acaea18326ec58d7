/- The model's NthElement, by its contract. -/
import Derived.Test.YtagibgphegoagaaSKth
namespace Go.Proofs.Ytagibgphegoagaa
open Go.RowKit P El Qk Sl
set_option linter.unusedVariables false
attribute [local go_sem ↓ high] builtin_append_held

set_option maxRecDepth 100000 in
set_option maxHeartbeats 8000000 in
theorem specNth_any (b o c : Nat) (l : List Int) (k : Int) (w : World) (hv : FlatAt w (.slice (some ⟨b, o, none⟩) l.length c) l.length (ints l)) (hn : l.length ≤ 1048576) :
    Calls Try.prog 60 #[.slice (some ⟨b, o, none⟩) l.length c, .int .i64 k] w (RetIE (nthAll l k) w) := by
  have HRK := Lib.hid (l9Rank_any _ l (some ⟨b, o, none⟩) c rfl k w hv hn)
  have HV := Lib.hid hv
  clear hv
  by_cases hok : OkK l k
  · rw [decide_eq_true hok] at HRK
    obtain ⟨K, rfl⟩ : ∃ K : Nat, k = (K : Int) := ⟨k.toNat, by have := hok.2.1; omega⟩
    have hK : K < l.length := by have := hok.2.2; omega
    have h64 := hok.1.1
    have hF := nthAll_yes hok.1 hK
    have hKz : (K : Int) < (l.length : Int) := by omega
    have HSR := Lib.hid (fun W (h : FlatAt W (.slice (some ⟨b, o, none⟩) l.length c) l.length (ints l)) => l2Sorted_any b o c l W h h64)
    obtain ⟨x, hx⟩ : ∃ x, x = (srt l).getD K 0 := ⟨_, rfl⟩
    rw [← hx] at hF
    have hKs : K < (srt l).length := by rw [srt_length]; exact hK
    have h1 := at_getD hKs
    rw [← hx] at h1
    have H1 := Lib.hid h1
    have HSP := Lib.hid (fun W (h : FlatAt W (.slice (some ⟨b, o, none⟩) l.length c) l.length (ints l)) => l9Split_any b o c l x W h hn)
    have HDL := Lib.hid (du_lens (Int.le_refl x) l)
    have HUF : Hid (duF l x x = lowF l x ++ midF l x x ++ highF l x) := Lib.hid rfl
    rw [hF]
    clear hok hF hx h1 hKs
    generalize lowF l x = A at *
    generalize midF l x x = B at *
    generalize highF l x = C at *
    generalize duF l x x = D at *
    go_enter Try.func60, Try.ntmps60
    go_wp2_with fail
    refine HRK.out.mono ?_
    rintro e w1 ⟨rfl, hb1⟩
    have HV1 := Lib.hid (HV.out.below hb1)
    have HB1 := Lib.hid hb1
    clear hb1 HV HRK
    go_wp2_with fail
    refine (HSR.out _ HV1.out).mono ?_
    rintro e w2 ⟨g, cap, rfl, hcap, hg, hrow, hb2⟩
    have HV2 := Lib.hid (HV1.out.below hb2)
    have HB2 := Lib.hid (HB1.out.trans (hb2.mono HB1.out.size))
    rw [srt_length] at hcap ⊢
    obtain ⟨hcx, _⟩ := hrow.2 _ _ (ints_at H1.out)
    clear hb2 hrow hg HV1 HB1 HSR H1
    go_wp2_with fail
    refine (HSP.out _ HV2.out).mono ?_
    rintro e wr ⟨ga, ca, gb, cb, gc, cc, rfl, hd⟩
    have HD := Lib.hid hd
    have HBD : Hid (∀ W, Below w2.heap.size wr W → Below w.heap.size w W) := Lib.hid (fun W h => (HB2.out.trans (hd.bl.mono HB2.out.size)).trans (h.mono HB2.out.size))
    have HGE : Hid (w.heap.size ≤ w2.heap.size) := Lib.hid HB2.out.size
    have hws := hd.bl.size
    clear hd HSP HV2 HB2
    have hl64 : A.length + B.length + C.length ≤ 64 := by have := HDL.out; omega
    obtain ⟨AB, hAB⟩ : ∃ AB, AB = A ++ B := ⟨_, rfl⟩
    rw [← hAB] at HUF
    have hABl : AB.length = A.length + B.length := by rw [hAB, List.length_append]
    obtain ⟨_, _, eb, _, _, hrowb⟩ := HD.out.b.row
    obtain ⟨_, _, ec, _, _, hrowc⟩ := HD.out.c.row
    simp at eb ec
    obtain ⟨rfl, rfl⟩ := eb
    obtain ⟨rfl, rfl⟩ := ec
    obtain ⟨v2, w3, hrun1, hd2, hb2, hf2, hz2⟩ := appM w2.heap.size _ A gb 0 cb B wr HD.out.a hws (by omega) (fun j u hu => by rw [Nat.zero_add]; exact (hrowb.2 j u hu).1)
    have hrowc2 : CellRow w3 gc (ints C) := hrowc.same (hf2 gc hrowc.1 (fun hu => HD.out.ac gc hu rfl)) hz2
    rw [← hAB] at hd2
    obtain ⟨v3, w4, hrun2, hd3, hb3, _, _⟩ := appM w2.heap.size _ AB gc 0 cc C w3 hd2 (Nat.le_trans hws hz2) (by omega) (fun j u hu => by rw [Nat.zero_add]; exact (hrowc2.2 j u hu).1)
    rw [← HUF.out] at hd3
    have HRES : Hid (RetIE (D, true) w (.returned (.tuple #[v3, .bool true])) w4) := Lib.hid (by
      obtain ⟨g3, c3, e3, hg3, hc3, hr3⟩ := hd3.row
      rw [e3]
      exact .inl ⟨g3, c3, rfl, hc3, Nat.le_trans HGE.out hg3, hr3, HBD.out _ (hb2.trans hb3)⟩)
    obtain ⟨_, g2, c2, rfl⟩ := id hd2
    clear hd2 hd3 hb2 hb3 hf2 hrowb hrowc hrowc2 HUF hAB hABl HBD HGE HD
    go_wp2_with fail
    go_ret2
    exact HRES.out
  · rw [decide_eq_false hok] at HRK
    rw [nthAll_no hok]
    clear hok
    go_enter Try.func60, Try.ntmps60
    go_wp2_with fail
    refine HRK.out.mono ?_
    rintro e w1 ⟨rfl, hb1⟩
    have HRES := Lib.hid (RetIE.nil0 w w1 hb1)
    clear hb1 HV HRK
    go_wp2_with fail
    go_ret2
    exact HRES.out

end Go.Proofs.Ytagibgphegoagaa
