/- The draws of lists of numbers that may be invalid (anyInts), by their contract, never nil. -/
import Derived.Test.YtjlldjekjnlcaaaDrawIH
import Derived.Test.YtjlldjekjnlcaaaOwnFlat
import Derived.Deep.RegionWith
namespace Go.Proofs.Ytjlldjekjnlcaaa
open Go.RowKit

attribute [local go_sem ↓ high] builtin_append_held

/-- A list of at most 66 numbers. -/
def AnyIntsCH (B g : Nat) (a : Option Addr) (len cap : Nat) (m : Nat) (w : World) (e : Ending) (w' : World) : Prop :=
  ∃ (v : Value) (l : List Int), l.length ≤ 66 ∧ (∀ x ∈ l, -1099511627776 ≤ x ∧ x ≤ 1099511627776) ∧ e = .returned v ∧ Held w.heap.size w' v l ∧ Cur B g a len cap (m + 700) w' ∧ But g w w'

theorem all_snocH {L : List Int} {x lo hi : Int} (h : ∀ y ∈ L, lo ≤ y ∧ y ≤ hi) (hx : lo ≤ x ∧ x ≤ hi) : ∀ y ∈ L ++ [x], lo ≤ y ∧ y ≤ hi := fun y hy => by
  rcases List.mem_append.1 hy with h' | h'
  · exact h y h'
  · rw [List.mem_singleton.1 h']; exact hx

set_option maxRecDepth 100000 in
set_option maxHeartbeats 4000000 in
theorem anyIntsH_any (B g : Nat) (a : Option Addr) (len cap : Nat) (m : Nat) (w : World) (h : Cur B g a len cap m w) (hm : m ≤ 900000) :
    Calls Try.prog 78 #[.pointer (some ⟨g, 0, none⟩)] w (AnyIntsCH B g a len cap m w) := by
  have H := Lib.hid h
  have hgl := h.lt
  clear h
  go_enter Try.func78, Try.ntmps78
  go_wp2_with fail
  refine (intsH_any B g a len cap m _ H.out (by omega)).mono ?_
  rintro e w1 ⟨v, l, hl, hall, rfl, hown, hc, hb⟩
  have HALL : Hid (∀ x ∈ l, -1099511627776 ≤ x ∧ x ≤ 1099511627776) := Lib.hid (fun x hx => by have := hall x hx; omega)
  have HO1 := Lib.hid hown
  have HC1 := Lib.hid hc
  have HB1 := Lib.hid hb
  clear hown hc hb H hall
  go_wp2_with fail
  refine (pick_any B g a len cap _ 24 _ HC1.out (by omega) (by omega)).mono ?_
  rintro e w2 ⟨r, hr0, hr1, rfl, hc, hb⟩
  have HC2 := Lib.hid hc
  have HB2 := Lib.hid (HB1.out.trans hb)
  have HO2 := Lib.hid (Held.butH HO1.out hb hgl)
  clear hc hb HC1 HB1 HO1
  by_cases h0 : r = 0
  · subst h0
    clear hr0 hr1
    go_wp2_with fail
    refine (among_lit B g a len cap _ [100001, -100001, 1099511627776] 3 _ _ rfl rfl _ HC2.out (by omega) (by decide) (by decide)).mono ?_
    rintro e w3 ⟨y, hy, rfl, hc, hb⟩
    obtain ⟨x, hz, rfl⟩ := List.mem_map.1 hy
    have hx : -1099511627776 ≤ x ∧ x ≤ 1099511627776 := by simp only [List.mem_cons, List.not_mem_nil, or_false] at hz; omega
    have HB3 := Lib.hid (HB2.out.trans hb)
    obtain ⟨v', w4, hrun, hown, hbel⟩ := appendOne w.heap.size _ l x w3 (Held.butH HO2.out hb hgl) HB3.out.size (by omega)
    have HQ : Hid (AnyIntsCH B g a len cap m w (.returned v') w4) := Lib.hid ⟨v', l ++ [x], by simp; omega, all_snocH HALL.out hx, rfl, hown, (hc.keep (hbel.mono (show g + 1 ≤ w.heap.size by omega))).more (by omega), HB3.out.then_below hbel⟩
    clear hc hb hown hbel HC2 HB2 HO2 HB3 hy hz hx HALL
    go_wp2_with fail
    go_ret
    exact HQ.out
  · by_cases h1 : r = 1
    · subst h1
      clear hr0 hr1
      go_wp2_with fail
      go_loopw [3] (fun v wr => ∃ L : List Int, L.length ≤ 65 ∧ (∀ p ∈ L, -1099511627776 ≤ p ∧ p ≤ 1099511627776) ∧ Held w.heap.size wr v L ∧ Cur B g a len cap (m + 202 + 4 * L.length) wr ∧ But g w wr) (fun v _ => 70 - lenV v)
      case atStart => exact ⟨l, by omega, HALL.out, HO2.out, HC2.out.more (by omega), HB2.out⟩
      case round =>
        obtain ⟨L, hL, hall, hrow, hcur, hb⟩ := hrel
        have HALL2 := Lib.hid hall
        have HROW := Lib.hid hrow
        have HCUR := Lib.hid hcur
        have HB := Lib.hid hb
        obtain ⟨_, g3, c3, rfl⟩ := id hrow
        clear hall hrow hcur hb HC2 HB2 HO2 HALL
        go_wp2_with fail
        refine (pick_any B g a len cap _ 2 _ HCUR.out (by omega) (by omega)).mono ?_
        rintro e w3 ⟨q, hq0, hq1, rfl, hc, hb⟩
        have hq2 : q ≤ 1 := by omega
        have HC3 := Lib.hid hc
        have HB3 := Lib.hid (HB.out.trans hb)
        have HO3 := Lib.hid (Held.butH HROW.out hb hgl)
        clear hc hb HROW HCUR HB hq1
        by_cases hlt : (L.length : Int) < 64 + q
        · go_wp2_with fail
          refine (pick_any B g a len cap _ 5 _ HC3.out (by omega) (by omega)).mono ?_
          rintro e w4 ⟨x, hx0, hx1, rfl, hc, hb⟩
          have hx : -1099511627776 ≤ x ∧ x ≤ 1099511627776 := by omega
          have HB4 := Lib.hid (HB3.out.trans hb)
          obtain ⟨v', w5, hrun, hown, hbel⟩ := appendOne w.heap.size _ L x w4 (Held.butH HO3.out hb hgl) HB4.out.size (by omega)
          have HO5 := Lib.hid hown
          have HC5 := Lib.hid (hc.keep (hbel.mono (show g + 1 ≤ w.heap.size by omega)))
          have HB5 := Lib.hid (HB4.out.then_below hbel)
          have HA5 := Lib.hid (all_snocH HALL2.out hx)
          have hlen : lenV v' = L.length + 1 := by
            obtain ⟨_, g4, c4, e⟩ := hown
            rw [e, lenV_slice]; simp
          have HLEN := Lib.hid hlen
          clear hc hb hown hbel hlen HC3 HB3 HO3 HB4 hx0 hx1 hx HALL2
          go_wp2_with fail
          go_roundw
          case rel => exact ⟨L ++ [x], by simp; omega, HA5.out, HO5.out, HC5.out.more (by simp; omega), HB5.out⟩
          case measure => rw [HLEN.out, lenV_slice]; omega
        · have HQ : Hid (AnyIntsCH B g a len cap m w (.returned (.slice (some ⟨g3, 0, none⟩) L.length c3)) w3) := Lib.hid ⟨_, L, by omega, HALL2.out, rfl, HO3.out, HC3.out.more (by omega), HB3.out⟩
          go_wp2_with fail
          go_ret
          exact HQ.out
    · have HQ : Hid (AnyIntsCH B g a len cap m w (.returned v) w2) := Lib.hid ⟨v, l, by omega, HALL.out, rfl, HO2.out, HC2.out.more (by omega), HB2.out⟩
      clear HC2 HB2 HO2 HALL
      go_wp2_with fail
      go_ret
      exact HQ.out

end Go.Proofs.Ytjlldjekjnlcaaa
