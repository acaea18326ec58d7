/- The draws of heaps and arities, by contracts. -/
import Derived.Test.YtfcgnfhpfooelaaDrawAH
import Derived.Test.YtfcgnfhpfooelaaAmong
import Derived.Test.YtfcgnfhpfooelaaSHp2
namespace Go.Proofs.Ytfcgnfhpfooelaa
open Go.RowKit P El Hp
set_option linter.unusedVariables false

/-- One of the first numbers of a literal. -/
theorem amongFront_any (B g : Nat) (a : Option Addr) (len cap : Nat) (m : Nat) (gl : Nat) (l : List Int) (c : Nat) (w : World) (h : Cur B g a len cap m w) (hm : m ≤ 1000000) (hl : CellRow w gl (ints l)) (hg : gl ≠ g) (hn : 1 ≤ l.length) (hn2 : l.length ≤ 1000000) :
    Calls Try.prog 105 #[.pointer (some ⟨g, 0, none⟩), .slice (some ⟨gl, 0, none⟩) l.length c] w (OfC B g a len cap m (l.map (Value.int .i64)) w) := by
  have H := Lib.hid h
  have HL := Lib.hid hl
  clear h hl
  go_enter Try.func105, Try.ntmps105
  go_wp2_with fail
  refine (pick_any B g a len cap m _ _ H.out hm (by omega)).mono ?_
  rintro e w1 ⟨r, hr0, hr1, rfl, hc, hb⟩
  obtain ⟨k, rfl⟩ : ∃ k : Nat, r = k := ⟨r.toNat, by omega⟩
  have hk : k < l.length := by omega
  have hcell : w1.cell? ⟨gl, k, none⟩ = some (.int .i64 l[k]) := ((HL.out.but hb hg).2 k _ (ints_at (List.getElem?_eq_getElem hk))).1
  have HM : Hid (Value.int .i64 l[k] ∈ l.map (Value.int .i64)) := Lib.hid (List.mem_map.2 ⟨_, List.getElem_mem hk, rfl⟩)
  have H1 := Lib.hid hc
  have HB1 := Lib.hid hb
  clear H hc hb HL hr1 hr0
  go_wp2_with fail
  go_ret
  exact ⟨_, HM.out, rfl, H1.out, HB1.out⟩

/-- An arity, or nearly one. -/
def AriC (B g : Nat) (a : Option Addr) (len cap : Nat) (m : Nat) (w : World) (e : Ending) (w' : World) : Prop :=
  ∃ d : Nat, 1 ≤ d ∧ d ≤ 9 ∧ e = .returned (.int .i64 (d : Int)) ∧ Cur B g a len cap (m + 4) w' ∧ But g w w'

set_option maxRecDepth 100000 in
set_option maxHeartbeats 1000000 in
theorem ari_any (B g : Nat) (a : Option Addr) (len cap : Nat) (m : Nat) (w : World) (h : Cur B g a len cap m w) (hm : m ≤ 900000) :
    Calls Try.prog 102 #[.pointer (some ⟨g, 0, none⟩)] w (AriC B g a len cap m w) := by
  obtain ⟨W1, hW1⟩ : ∃ W1, W1 = w.alloc (.cells #[.int .i64 2, .int .i64 2, .int .i64 3, .int .i64 4, .int .i64 8, .int .i64 2, .int .i64 3, .int .i64 1, .int .i64 9] 3) := ⟨_, rfl⟩
  have hrow : RowIs W1 w.heap.size 3 (ints [2, 2, 3, 4, 8, 2, 3, 1, 9]) := by rw [hW1]; exact heap_alloc_new w _
  have HR := Lib.hid (CellRow.of_row hrow)
  have H1 : Hid (Cur B g a len cap m W1) := Lib.hid (by rw [hW1]; exact h.alloc _)
  have HB1 : Hid (But g w W1) := Lib.hid (by rw [hW1]; exact But.alloc g w _)
  have hgl := h.lt
  have hne : w.heap.size ≠ g := by omega
  clear h hrow
  go_enter Try.func102, Try.ntmps102
  go_wp2_with fail
  rw [← hW1]
  refine (pick_any B g a len cap m 9 W1 H1.out (by omega) (by omega)).mono ?_
  rintro e w2 ⟨r, hr0, hr1, rfl, hc, hb⟩
  have H2 := Lib.hid hc
  have HB2 := Lib.hid (HB1.out.trans hb)
  have HR2 := Lib.hid (HR.out.but hb hne)
  obtain ⟨k, rfl⟩ : ∃ k : Nat, r = k := ⟨r.toNat, by omega⟩
  have hk : k < 9 := by omega
  obtain ⟨n, hn⟩ : ∃ n, n = 7 + k / 4 := ⟨_, rfl⟩
  have hn9 : n ≤ 9 := by omega
  have hn7 : 7 ≤ n := by omega
  have hwn : (7 : Int) + (k : Int) / 4 = (n : Int) := by omega
  obtain ⟨G, hG⟩ : ∃ G, G = w.heap.size := ⟨_, rfl⟩
  have HA := Lib.hid (fun (W : World) (c : Nat) (hW : Cur B g a len cap (m + 2) W) (hr : CellRow W G (ints [2, 2, 3, 4, 8, 2, 3, 1, 9])) => by
    have hl : (([2, 2, 3, 4, 8, 2, 3, 1, 9] : List Int).take n).length = n := by simp; omega
    have := amongFront_any B g a len cap (m + 2) G (([2, 2, 3, 4, 8, 2, 3, 1, 9] : List Int).take n) c W hW (by omega) (by
      refine ⟨hr.1, fun j u hu => hr.2 j u ?_⟩
      have hj := (List.getElem?_eq_some_iff.1 hu).1
      rw [ints_length, hl] at hj
      unfold ints at hu ⊢
      rw [List.getElem?_map, List.getElem?_take_of_lt hj] at hu
      rw [List.getElem?_map]; exact hu) (by rw [hG]; exact hne) (by omega) (by omega)
    rw [hl] at this; exact this)
  rw [← hG] at HR2 ⊢
  clear hc hb hr0 hr1 hn HR H1 HB1 hW1 hG hne
  go_wp2_with fail
  refine (HA.out _ _ H2.out HR2.out).mono ?_
  rintro e w3 ⟨x, hx, rfl, hc3, hb3⟩
  obtain ⟨y, hy, rfl⟩ := List.mem_map.1 hx
  have hy2 : 1 ≤ y ∧ y ≤ 9 := by
    have := List.mem_of_mem_take hy
    simp at this; omega
  obtain ⟨d, rfl⟩ : ∃ d : Nat, y = d := ⟨y.toNat, by omega⟩
  have HC3 := Lib.hid hc3
  have HB3 := Lib.hid (HB2.out.trans hb3)
  clear hx hy hc3 hb3 HA HR2
  go_wp2_with fail
  go_ret
  exact ⟨d, by omega, by omega, rfl, HC3.out, HB3.out⟩

/-- A short list of its own, and the cursor. -/
def HpC (B g : Nat) (a : Option Addr) (len cap : Nat) (m : Nat) (w : World) (e : Ending) (w' : World) : Prop :=
  ∃ (g1 c1 : Nat) (L1 : List Int), L1.length ≤ 66 ∧ w.heap.size ≤ g1 ∧ e = .returned (.slice (some ⟨g1, 0, none⟩) L1.length c1) ∧ L1.length ≤ c1 ∧ CellRow w' g1 (ints L1) ∧ Cur B g a len cap (m + 20000) w' ∧ But g w w'

set_option maxRecDepth 100000 in
set_option maxHeartbeats 1000000 in
theorem heapD_any (B g : Nat) (a : Option Addr) (len cap : Nat) (m : Nat) (d : Nat) (w : World) (h : Cur B g a len cap m w) (hm : m ≤ 800000) :
    Calls Try.prog 103 #[.pointer (some ⟨g, 0, none⟩), .int .i64 (d : Int)] w (HpC B g a len cap m w) := by
  have H := Lib.hid h
  have hgl := h.lt
  clear h
  go_enter Try.func103, Try.ntmps103
  go_wp2_with fail
  refine (anyIntsH_any B g a len cap m _ H.out (by omega)).mono ?_
  rintro e w1 ⟨v, l, hl, _, rfl, hown, hc, hb⟩
  obtain ⟨g1, c1, rfl, hg1, hc1, hrow⟩ := hown.row
  have HC1 := Lib.hid hc
  have HB1 := Lib.hid hb
  have HR1 := Lib.hid hrow
  have hG1 : w.heap.size ≤ g1 := hg1
  have hgs : g1 ≠ g := by omega
  have hw1 : g < w1.heap.size := hc.lt
  clear hown hc hb hrow H hg1
  have HI := Lib.hid (l6Valid_any _ l (d : Int) w1 (HR1.out.flat hc1) (by omega))
  by_cases hok : OkL l ∧ OkD (d : Int)
  · rw [decide_eq_true hok] at HI
    have h64 := hok.1.1
    have hd2 : 2 ≤ d := by have := hok.2.1; omega
    have hd8 : d ≤ 8 := by have := hok.2.2; omega
    clear hok
    go_wp2_with fail
    refine (HI.out).mono ?_
    rintro e w2 ⟨rfl, hb2⟩
    have HC2 := Lib.hid (HC1.out.keep (hb2.mono (show g + 1 ≤ w1.heap.size by omega)))
    have HB2 := Lib.hid (HB1.out.trans (But.ofBelow (g := g) hb2 (Nat.le_refl _)))
    have HR2 := Lib.hid (HR1.out.below hb2 HR1.out.1)
    clear hb2 HC1 HB1 HR1 HI
    go_wp2_with fail
    refine (one_any B g a len cap _ 8 _ HC2.out (by omega) (by omega)).mono ?_
    rintro e w3 ⟨bb, rfl, hc, hb⟩
    have HC3 := Lib.hid hc
    have HB3 := Lib.hid (HB2.out.trans hb)
    have HR3 := Lib.hid (HR2.out.but hb hgs)
    clear hc hb HC2 HB2 HR2
    cases bb
    · have HD := Lib.hid (sbuild_any (c := c1) w3 HR3.out hd2 hd8 h64)
      have HLN := Lib.hid (buildF_length (d := d) (by omega) l)
      generalize buildF d l = R at HD HLN
      have hw3 : g < w3.heap.size := HC3.out.lt
      go_wp2_with fail
      refine HD.out.mono ?_
      rintro e w4 ⟨rfl, hr4, hb4⟩
      have HRES : Hid (HpC B g a len cap m w (.returned (.slice (some ⟨g1, 0, none⟩) l.length c1)) w4) := Lib.hid (by
        have hlow : Below (w.heap.size) w3 w4 := hb4.below hG1 HB3.out.size
        exact ⟨g1, c1, R.1, by rw [HLN.out]; exact hl, hG1, by rw [HLN.out], by rw [HLN.out]; exact hc1, hr4, (HC3.out.keep (hlow.mono (by omega))).more (by omega), ⟨hb4.os.trans HB3.out.os, hb4.tape.trans HB3.out.tape, hb4.output.trans HB3.out.output, Nat.le_trans HB3.out.size hb4.size, fun k hk hne => (hb4.block k (Nat.lt_of_lt_of_le hk HB3.out.size) (by omega)).trans (HB3.out.block k hk hne)⟩⟩)
      clear hr4 hb4 HD HR3 HC3 HB3
      go_wp2_with fail
      go_ret
      exact HRES.out
    · have HRES : Hid (HpC B g a len cap m w (.returned (.slice (some ⟨g1, 0, none⟩) l.length c1)) w3) := Lib.hid ⟨g1, c1, l, hl, hG1, rfl, hc1, HR3.out, HC3.out.more (by omega), HB3.out⟩
      go_wp2_with fail
      go_ret
      exact HRES.out
  · rw [decide_eq_false hok] at HI
    clear hok
    go_wp2_with fail
    refine (HI.out).mono ?_
    rintro e w2 ⟨rfl, hb2⟩
    have HRES : Hid (HpC B g a len cap m w (.returned (.slice (some ⟨g1, 0, none⟩) l.length c1)) w2) := Lib.hid ⟨g1, c1, l, hl, hG1, rfl, hc1, HR1.out.below hb2 HR1.out.1, (HC1.out.keep (hb2.mono (show g + 1 ≤ w1.heap.size by omega))).more (by omega), HB1.out.trans (But.ofBelow (g := g) hb2 (Nat.le_refl _))⟩
    clear hb2
    go_wp2_with fail
    go_ret
    exact HRES.out

end Go.Proofs.Ytfcgnfhpfooelaa
