/- The draws of record lists that may be invalid (anyRecords), by their contract. -/
import Derived.Test.YtebipiehkmhaiaaDrawR
namespace Go.Proofs.Ytebipiehkmhaiaa
open Go.RowKit

attribute [local go_sem ↓ high] builtin_append_held

/-- A list of at most 66 records, its numbers of moderate size. -/
def AnyRecsC (B g : Nat) (a : Option Addr) (len cap : Nat) (m : Nat) (w : World) (e : Ending) (w' : World) : Prop :=
  ∃ (v : Value) (l : List (Int × Int)), l.length ≤ 66 ∧ (∀ p ∈ l, (-1000000 ≤ p.1 ∧ p.1 ≤ 1000000) ∧ (-1000000 ≤ p.2 ∧ p.2 ≤ 1000000)) ∧ e = .returned v ∧ w'.ownsRow w.heap.size 45 2 v l.length (recs l) ∧ Cur B g a len cap (m + 700) w' ∧ But g w w' ∧ v ≠ .slice none 0 0

theorem all_snoc2 {L : List (Int × Int)} {x : Int × Int} {lo hi lo2 hi2 : Int} (h : ∀ p ∈ L, (lo ≤ p.1 ∧ p.1 ≤ hi) ∧ (lo2 ≤ p.2 ∧ p.2 ≤ hi2)) (hx : (lo ≤ x.1 ∧ x.1 ≤ hi) ∧ (lo2 ≤ x.2 ∧ x.2 ≤ hi2)) : ∀ p ∈ L ++ [x], (lo ≤ p.1 ∧ p.1 ≤ hi) ∧ (lo2 ≤ p.2 ∧ p.2 ≤ hi2) := fun y hy => by
  rcases List.mem_append.1 hy with h' | h'
  · exact h y h'
  · rw [List.mem_singleton.1 h']; exact hx

set_option maxRecDepth 100000 in
set_option maxHeartbeats 4000000 in
theorem anyRecords_any (B g : Nat) (a : Option Addr) (len cap : Nat) (m : Nat) (w : World) (h : Cur B g a len cap m w) (hm : m ≤ 900000) :
    Calls Try.prog 89 #[.pointer (some ⟨g, 0, none⟩)] w (AnyRecsC B g a len cap m w) := by
  have H := Lib.hid h
  have hgl := h.lt
  clear h
  go_enter Try.func89, Try.ntmps89
  go_wp2_with fail
  refine (records_any B g a len cap m _ H.out (by omega)).mono ?_
  rintro e w1 ⟨v, l, hl, hall, rfl, hown, hc, hb, hnn⟩
  have HNN := Lib.hid hnn
  have HALL : Hid (∀ p ∈ l, (-1000000 ≤ p.1 ∧ p.1 ≤ 1000000) ∧ (-1000000 ≤ p.2 ∧ p.2 ≤ 1000000)) := Lib.hid (fun x hx => by have := hall x hx; omega)
  have HO1 := Lib.hid hown
  have HC1 := Lib.hid hc
  have HB1 := Lib.hid hb
  clear hown hc hb H hall hnn
  go_wp2_with fail
  refine (pick_any B g a len cap _ 24 _ HC1.out (by omega) (by omega)).mono ?_
  rintro e w2 ⟨r, hr0, hr1, rfl, hc, hb⟩
  have HC2 := Lib.hid hc
  have HB2 := Lib.hid (HB1.out.trans hb)
  have HO2 := Lib.hid (own_but HO1.out hb hgl)
  clear hc hb HC1 HB1 HO1
  by_cases h0 : r = 0
  · subst h0
    clear hr0 hr1
    go_wp2_with fail
    refine (among_lit B g a len cap _ [0, 100001] 2 _ _ rfl rfl _ HC2.out (by omega) (by decide) (by decide)).mono ?_
    rintro e w3 ⟨y, hy, rfl, hc, hb⟩
    obtain ⟨x, hz, rfl⟩ := List.mem_map.1 hy
    have hx : -1000000 ≤ x ∧ x ≤ 1000000 := by simp only [List.mem_cons, List.not_mem_nil, or_false] at hz; omega
    have HC3 := Lib.hid hc
    have HB3 := Lib.hid (HB2.out.trans hb)
    have HO3 := Lib.hid (own_but HO2.out hb hgl)
    clear hc hb hy hz HC2 HB2 HO2
    go_wp2_with fail
    refine (among_lit B g a len cap _ [-1, 1000, 999] 3 _ _ rfl rfl _ HC3.out (by omega) (by decide) (by decide)).mono ?_
    rintro e w4 ⟨y, hy, rfl, hc, hb⟩
    obtain ⟨z, hz, rfl⟩ := List.mem_map.1 hy
    have hx2 : -1000000 ≤ z ∧ z ≤ 1000000 := by simp only [List.mem_cons, List.not_mem_nil, or_false] at hz; omega
    have HB4 := Lib.hid (HB3.out.trans hb)
    obtain ⟨v', w5, hrun, hown, hbel, _, _, hn5⟩ := appendRec w.heap.size _ l x z w4 (own_but HO3.out hb hgl) HB4.out.size (by omega)
    have HQ : Hid (AnyRecsC B g a len cap m w (.returned v') w5) := Lib.hid ⟨v', l ++ [(x, z)], by simp; omega, all_snoc2 HALL.out ⟨hx, hx2⟩, rfl, hown, (hc.keep (hbel.mono (show g + 1 ≤ w.heap.size by omega))).more (by omega), HB4.out.then_below hbel, hn5⟩
    clear hc hb hown hbel HC3 HB3 HO3 HB4 hy hz hx hx2 HALL
    go_wp2_with fail
    go_ret
    exact HQ.out
  · by_cases h1 : r = 1
    · subst h1
      clear hr0 hr1
      go_wp2_with fail
      go_loopw [3] (fun v wr => ∃ L : List (Int × Int), L.length ≤ 65 ∧ (∀ p ∈ L, (-1000000 ≤ p.1 ∧ p.1 ≤ 1000000) ∧ (-1000000 ≤ p.2 ∧ p.2 ≤ 1000000)) ∧ wr.ownsRow w.heap.size 45 2 v L.length (recs L) ∧ Cur B g a len cap (m + 202 + 4 * L.length) wr ∧ But g w wr ∧ v ≠ .slice none 0 0) (fun v _ => 70 - lenV v)
      case atStart => exact ⟨l, by omega, HALL.out, HO2.out, HC2.out.more (by omega), HB2.out, HNN.out⟩
      case round =>
        obtain ⟨L, hL, hall, hrow, hcur, hb, hnn⟩ := hrel
        have HN2 := Lib.hid hnn
        have HALL2 := Lib.hid hall
        have HROW := Lib.hid hrow
        have HCUR := Lib.hid hcur
        have HB := Lib.hid hb
        obtain ⟨a3, c3, rfl, _, _⟩ := own_flat hrow
        clear hall hrow hcur hb hnn HC2 HB2 HO2 HALL HNN
        go_wp2_with fail
        refine (pick_any B g a len cap _ 2 _ HCUR.out (by omega) (by omega)).mono ?_
        rintro e w3 ⟨q, hq0, hq1, rfl, hc, hb⟩
        have hq2 : q ≤ 1 := by omega
        have HC3 := Lib.hid hc
        have HB3 := Lib.hid (HB.out.trans hb)
        have HO3 := Lib.hid (own_but HROW.out hb hgl)
        clear hc hb HROW HCUR HB hq1
        by_cases hlt : (L.length : Int) < 64 + q
        · go_wp2_with fail
          refine (pick_any B g a len cap _ 5 _ HC3.out (by omega) (by omega)).mono ?_
          rintro e w4 ⟨x, hx0, hx1, rfl, hc, hb⟩
          have hx : -1000000 ≤ x ∧ x ≤ 1000000 := by omega
          have HB4 := Lib.hid (HB3.out.trans hb)
          obtain ⟨v', w5, hrun, hown, hbel, _, _, hn5⟩ := appendRec w.heap.size _ L x L.length w4 (own_but HO3.out hb hgl) HB4.out.size (by omega)
          have HO5 := Lib.hid hown
          have HC5 := Lib.hid (hc.keep (hbel.mono (show g + 1 ≤ w.heap.size by omega)))
          have HB5 := Lib.hid (HB4.out.then_below hbel)
          have HA5 := Lib.hid (all_snoc2 (x := (x, (L.length : Int))) HALL2.out ⟨hx, by simp; omega⟩)
          have hlen : lenV v' = L.length + 1 := by
            obtain ⟨a4, c4, e, _, _⟩ := own_flat hown
            rw [e, lenV_slice]; simp
          have HLEN := Lib.hid hlen
          have HN5 := Lib.hid hn5
          clear hc hb hown hbel hlen hn5 HC3 HB3 HO3 HB4 hx0 hx1 hx HALL2
          go_wp2_with fail
          go_roundw
          case rel => exact ⟨L ++ [(x, (L.length : Int))], by simp; omega, HA5.out, HO5.out, HC5.out.more (by simp; omega), HB5.out, HN5.out⟩
          case measure => rw [HLEN.out, lenV_slice]; omega
        · have HQ : Hid (AnyRecsC B g a len cap m w (.returned (.slice a3 L.length c3)) w3) := Lib.hid ⟨_, L, by omega, HALL2.out, rfl, HO3.out, HC3.out.more (by omega), HB3.out, HN2.out⟩
          go_wp2_with fail
          go_ret
          exact HQ.out
    · have HQ : Hid (AnyRecsC B g a len cap m w (.returned v) w2) := Lib.hid ⟨v, l, by omega, HALL.out, rfl, HO2.out, HC2.out.more (by omega), HB2.out, HNN.out⟩
      clear HC2 HB2 HO2 HALL
      go_wp2_with fail
      go_ret
      exact HQ.out

end Go.Proofs.Ytebipiehkmhaiaa
