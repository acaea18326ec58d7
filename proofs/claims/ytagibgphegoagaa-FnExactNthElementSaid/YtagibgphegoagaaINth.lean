/- The program's NthElement, by its contract. -/
import Derived.Test.YtagibgphegoagaaIKth
import Derived.Test.YtagibgphegoagaaIDu2
import Derived.Test.YtagibgphegoagaaRetN0
namespace Go.Proofs.Ytagibgphegoagaa
open Go.RowKit P El Qk Sl
set_option linter.unusedVariables false

set_option maxRecDepth 100000 in
set_option maxHeartbeats 4000000 in
theorem implNth_any (b o c : Nat) (l : List Int) (k : Int) (w : World) (hv : FlatAt w (.slice (some ⟨b, o, none⟩) l.length c) l.length (ints l)) (hn : l.length ≤ 1048576) :
    Calls Try.prog 44 #[.slice (some ⟨b, o, none⟩) l.length c, .int .i64 k] w (RetIE (nthAll l k) w) := by
  have HK := Lib.hid (implKth_any (some ⟨b, o, none⟩) c l k w hv hn)
  have HV := Lib.hid hv
  clear hv
  by_cases hok : OkK l k
  · obtain ⟨K, rfl⟩ : ∃ K : Nat, k = (K : Int) := ⟨k.toNat, by have := hok.2.1; omega⟩
    have hK : K < l.length := by have := hok.2.2; omega
    have hF := nthAll_yes hok.1 hK
    rw [kthAll_yes hok.1 hK] at HK
    obtain ⟨x, hx⟩ : ∃ x, x = (srt l).getD K 0 := ⟨_, rfl⟩
    rw [← hx] at HK hF
    have HDU := Lib.hid (fun W (h : FlatAt W (.slice (some ⟨b, o, none⟩) l.length c) l.length (ints l)) => implDu_any b o c l x x W h hn)
    rw [duAll_yes ⟨hok.1, Int.le_refl _⟩] at HDU
    have hDl := duF_length (Int.le_refl x) l
    have hDne : duF l x x ≠ [] := fun e => by rw [e] at hDl; simp at hDl; omega
    rw [hF]
    have HDN := Lib.hid hDne
    clear hok hF hx hDne hDl
    generalize duF l x x = D at *
    go_enter Try.func44, Try.ntmps44
    go_wp2_with fail
    refine HK.out.mono ?_
    rintro e w1 ⟨rfl, hb1⟩
    have HV1 := Lib.hid (HV.out.below hb1)
    have HB1 := Lib.hid hb1
    clear hb1 HV HK
    go_wp2_with fail
    refine (HDU.out _ HV1.out).mono ?_
    intro e w2 hq
    obtain ⟨g, cc, rfl, hcap, hg, hrow, hb2⟩ := hq.own HDN.out
    simp only at hcap hrow
    have HRES : Hid (RetIE (D, true) w (.returned (.tuple #[.slice (some ⟨g, 0, none⟩) D.length cc, .bool true])) w2) := Lib.hid (.inl ⟨g, cc, rfl, hcap, Nat.le_trans HB1.out.size hg, hrow, HB1.out.trans (hb2.mono HB1.out.size)⟩)
    clear hrow hb2 hg hcap HDU HV1 HB1 hq HDN
    go_wp2_with fail
    go_ret2
    exact HRES.out
  · rw [kthAll_no hok] at HK
    rw [nthAll_no hok]
    clear hok
    go_enter Try.func44, Try.ntmps44
    go_wp2_with fail
    refine HK.out.mono ?_
    rintro e w1 ⟨rfl, hb1⟩
    have HRES := Lib.hid (RetIE.nil0 w w1 hb1)
    clear hb1 HV HK
    go_wp2_with fail
    go_ret2
    exact HRES.out

end Go.Proofs.Ytagibgphegoagaa
