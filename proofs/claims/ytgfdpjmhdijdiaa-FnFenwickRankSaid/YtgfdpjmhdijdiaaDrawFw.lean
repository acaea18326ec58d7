/- The draws of trees of sums, by their contracts. -/
import Derived.Test.YtgfdpjmhdijdiaaPick
import Derived.Test.YtgfdpjmhdijdiaaAmong
import Derived.Test.YtgfdpjmhdijdiaaDrawIH
import Derived.Test.YtgfdpjmhdijdiaaSFw
import Derived.Test.YtgfdpjmhdijdiaaValF
import Derived.Test.YtgfdpjmhdijdiaaCode
namespace Go.Proofs.Ytgfdpjmhdijdiaa
open Go.RowKit Fw
set_option linter.unusedVariables false

attribute [local go_sem ↓ high] builtin_append_held

/-- A short list of small numbers. -/
def CountC (B g : Nat) (a : Option Addr) (len cap : Nat) (m : Nat) (w : World) (e : Ending) (w' : World) : Prop :=
  ∃ (g0 c0 : Nat) (l : List Int), l.length ≤ 65 ∧ (∀ x ∈ l, -1 ≤ x ∧ x ≤ 1001) ∧ e = .returned (.slice (some ⟨g0, 0, none⟩) l.length c0) ∧ l.length ≤ c0 ∧ w.heap.size ≤ g0 ∧ CellRow w' g0 (ints l) ∧ Cur B g a len cap (m + 400) w' ∧ But g w w'

set_option maxRecDepth 100000 in
set_option maxHeartbeats 4000000 in
theorem counts_any (B g : Nat) (a : Option Addr) (len cap : Nat) (m : Nat) (w : World) (h : Cur B g a len cap m w) (hm : m ≤ 900000) :
    Calls Try.prog 107 #[.pointer (some ⟨g, 0, none⟩)] w (CountC B g a len cap m w) := by
  have H := Lib.hid h
  have hgl := h.lt
  clear h
  go_enter Try.func107, Try.ntmps107
  go_wp2_with fail
  refine (pick_any B g a len cap m 12 _ (H.out.alloc _) (by omega) (by omega)).mono ?_
  rintro e w1 ⟨n, hn0, hn1, rfl, hc, hb⟩
  obtain ⟨n, rfl⟩ : ∃ k : Nat, n = k := ⟨n.toNat, by omega⟩
  have hn : n ≤ 12 := by omega
  have HC1 := Lib.hid hc
  have HB1 := Lib.hid ((But.alloc g w (.cells #[] 3)).trans hb)
  have HO1 : Hid (Held w.heap.size w1 (.slice (some ⟨w.heap.size, 0, none⟩) 0 0) []) := Lib.hid (Held.butH (Held.start w w.heap.size (Nat.le_refl _)) hb hgl)
  clear hc hb hn0 hn1 H
  go_wp2_with fail
  refine (one_any B g a len cap _ 20 _ HC1.out (by omega) (by omega)).mono ?_
  rintro e w2 ⟨b, rfl, hc, hb⟩
  have HC2 := Lib.hid hc
  have HB2 := Lib.hid (HB1.out.trans hb)
  have HO2 := Lib.hid (Held.butH HO1.out hb hgl)
  clear hc hb HC1 HB1 HO1
  cases b
  · go_wp2_with fail
    go_loopw [3, 4] (fun v n wr => ∃ (k : Nat) (L : List Int), n = .int .i64 k ∧ k + L.length ≤ 65 ∧ (∀ x ∈ L, -1 ≤ x ∧ x ≤ 1001) ∧ Held w.heap.size wr v L ∧ Cur B g a len cap (m + 20 + 4 * L.length) wr ∧ But g w wr) (fun _ n _ => (intOf n).toNat)
    case atStart => exact ⟨n, [], rfl, by simp; omega, by simp, HO2.out, HC2.out.more (by omega), HB2.out⟩
    case round =>
      obtain ⟨k, L, rfl, hkL, hall, hrow, hcur, hb⟩ := hrel
      have HALL := Lib.hid hall
      have HROW := Lib.hid hrow
      have HCUR := Lib.hid hcur
      have HB := Lib.hid hb
      clear hall hrow hcur hb HO2 HC2 HB2
      by_cases hk : 0 < k
      · have hk1 : ((k : Int) - 1) = ((k - 1 : Nat) : Int) := by omega
        go_wp2_with fail
        refine (among_lit B g a len cap _ [0, 1, 1, 2, 3, 0, 1000, 5] 8 _ _ rfl rfl _ HCUR.out (by omega) (by decide) (by decide)).mono ?_
        rintro e w5 ⟨y, hy, rfl, hc, hb⟩
        obtain ⟨x, hz, rfl⟩ := List.mem_map.1 hy
        have hx : -1 ≤ x ∧ x ≤ 1001 := by simp only [List.mem_cons, List.not_mem_nil, or_false] at hz; omega
        have HC5 := Lib.hid hc
        have HB5 := Lib.hid (HB.out.trans hb)
        have hs5 := HB5.out.size
        obtain ⟨v', w6, hrun, hown, hbel⟩ := appendOne w.heap.size _ L x w5 (Held.butH HROW.out hb hgl) hs5 (by omega)
        have HO6 := Lib.hid hown
        have HC6 := Lib.hid (HC5.out.keep (hbel.mono (show g + 1 ≤ w.heap.size by omega)))
        have HB6 := Lib.hid (HB5.out.then_below hbel)
        have HA6 : Hid (∀ y ∈ L ++ [x], -1 ≤ y ∧ y ≤ 1001) := Lib.hid (fun y hy => by
          rcases List.mem_append.1 hy with h | h
          · exact HALL.out y h
          · rw [List.mem_singleton.1 h]; exact hx)
        clear hc hb hown hbel HC5 HB5 hy hz HALL hx HROW HCUR HB
        go_wp2_with fail
        go_roundw
        case rel => exact ⟨k - 1, L ++ [x], rfl, by simp; omega, HA6.out, HO6.out, HC6.out.more (by simp; omega), HB6.out⟩
        case measure => simp [intOf]; omega
      · obtain rfl : k = 0 := by omega
        obtain ⟨g0, c0, hv, hg0, hc0, hcr⟩ := HROW.out.row
        subst hv
        have HCR := Lib.hid hcr
        clear hcr HROW
        have HQ : Hid (∀ M w', M.length = L.length → (∀ x ∈ M, -1 ≤ x ∧ x ≤ 1001) → CellRow w' g0 (ints M) → Cur B g a len cap (m + 400) w' → But g w w' → CountC B g a len cap m w (.returned (.slice (some ⟨g0, 0, none⟩) L.length c0)) w') := Lib.hid (fun M w' h1 h2 h3 h4 h5 => ⟨g0, c0, M, by omega, h2, by rw [h1], by omega, hg0, h3, h4, h5⟩)
        go_wp2_with fail
        refine (one_any B g a len cap _ 15 _ HCUR.out (by omega) (by omega)).mono ?_
        rintro e w4 ⟨b, rfl, hc, hb⟩
        have HC4 := Lib.hid hc
        have HB4 := Lib.hid (HB.out.trans hb)
        have HR4 := Lib.hid (HCR.out.but hb (by omega))
        clear hc hb HCR HCUR HB
        cases b
        · have HRES := Lib.hid (HQ.out L w4 rfl HALL.out HR4.out (HC4.out.more (by omega)) HB4.out)
          go_wp2_with fail
          go_ret
          exact HRES.out
        · by_cases hL : L.length = 0
          · have HRES := Lib.hid (HQ.out L w4 rfl HALL.out HR4.out (HC4.out.more (by omega)) HB4.out)
            have hLz : ¬ (0 : Int) < (L.length : Int) := by omega
            have hLz2 : decide ((0 : Int) < (L.length : Int)) = false := decide_eq_false hLz
            rw [hL] at HRES
            go_wp2_with fail
            go_ret
            exact HRES.out
          · have hLz : (0 : Int) < (L.length : Int) := by omega
            go_wp2_with fail
            refine (pick_any B g a len cap _ L.length _ HC4.out (by omega) (by omega)).mono ?_
            rintro e w5 ⟨i, hi0, hi1, rfl, hc, hb⟩
            obtain ⟨i, rfl⟩ : ∃ k : Nat, i = k := ⟨i.toNat, by omega⟩
            have hiL : i < L.length := by omega
            have HC5 := Lib.hid hc
            have HB5 := Lib.hid (HB4.out.trans hb)
            have HR5 := Lib.hid (HR4.out.but hb (by omega))
            clear hc hb HC4 HB4 HR4 hi0 hi1
            go_wp2_with fail
            refine (among_lit B g a len cap _ [-1, 1001] 2 _ _ rfl rfl _ HC5.out (by omega) (by decide) (by decide)).mono ?_
            rintro e w6 ⟨y, hy, rfl, hc, hb⟩
            obtain ⟨x, hz, rfl⟩ := List.mem_map.1 hy
            have hx : -1 ≤ x ∧ x ≤ 1001 := by simp only [List.mem_cons, List.not_mem_nil, or_false] at hz; omega
            have HC6 := Lib.hid hc
            have HB6 := Lib.hid (HB5.out.trans hb)
            have HR6 := Lib.hid (HR5.out.but hb (by omega))
            obtain ⟨hw4, hf4⟩ := HR6.out.2 _ _ (ints_getD (l := L) (k := i) hiL)
            have hbs : Below (g + 1) w6 (w6.setCell ⟨g0, i, none⟩ (.int .i64 x)) := (Below.refl _ _).setCell (p := ⟨g0, i, none⟩) (by show g + 1 ≤ g0; omega) _
            have hbs2 : Below w.heap.size w6 (w6.setCell ⟨g0, i, none⟩ (.int .i64 x)) := (Below.refl _ _).setCell (p := ⟨g0, i, none⟩) hg0 _
            have HRES := Lib.hid (HQ.out (L.set i x) (w6.setCell ⟨g0, i, none⟩ (.int .i64 x)) (by rw [List.length_set]) (fun y hy => by
              rcases List.mem_or_eq_of_mem_set hy with h | h
              · exact HALL.out y h
              · rw [h]; exact hx) (by rw [← ints_set]; exact HR6.out.set i _ (by rw [ints_length]; exact hiL)) ((HC6.out.keep hbs).more (by omega)) (HB6.out.then_below hbs2))
            clear hc hb HC5 HB5 HR5 hy hz hx HC6 HB6 HR6 HQ hbs hbs2 HALL
            go_wp2_with fail
            go_ret
            exact HRES.out
  · go_wp2_with fail
    refine (pick_any B g a len cap _ 3 _ HC2.out (by omega) (by omega)).mono ?_
    rintro e w3 ⟨n2, hn0, hn1, rfl, hc, hb⟩
    obtain ⟨n2, rfl⟩ : ∃ k : Nat, n2 = k := ⟨n2.toNat, by omega⟩
    have hn2 : n2 ≤ 2 := by omega
    have HC3 := Lib.hid hc
    have HB3 := Lib.hid (HB2.out.trans hb)
    have HO3 := Lib.hid (Held.butH HO2.out hb hgl)
    have hn3 : IntKind.i64.wrap (63 + (n2 : Int)) = ((63 + n2 : Nat) : Int) := by rw [IntKind.wrap_i64]; omega
    clear hc hb HC2 HB2 HO2 hn0 hn1
    go_wp2_with fail
    go_loopw [3, 4] (fun v n wr => ∃ (k : Nat) (L : List Int), n = .int .i64 k ∧ k + L.length ≤ 65 ∧ (∀ x ∈ L, -1 ≤ x ∧ x ≤ 1001) ∧ Held w.heap.size wr v L ∧ Cur B g a len cap (m + 20 + 4 * L.length) wr ∧ But g w wr) (fun _ n _ => (intOf n).toNat)
    case atStart => exact ⟨63 + n2, [], by first | rfl | (congr 1), by simp; omega, by simp, HO3.out, HC3.out.more (by omega), HB3.out⟩
    case round =>
      obtain ⟨k, L, rfl, hkL, hall, hrow, hcur, hb⟩ := hrel
      have HALL := Lib.hid hall
      have HROW := Lib.hid hrow
      have HCUR := Lib.hid hcur
      have HB := Lib.hid hb
      clear hall hrow hcur hb HO3 HC3 HB3
      by_cases hk : 0 < k
      · have hk1 : ((k : Int) - 1) = ((k - 1 : Nat) : Int) := by omega
        go_wp2_with fail
        refine (among_lit B g a len cap _ [0, 1, 1, 2, 3, 0, 1000, 5] 8 _ _ rfl rfl _ HCUR.out (by omega) (by decide) (by decide)).mono ?_
        rintro e w5 ⟨y, hy, rfl, hc, hb⟩
        obtain ⟨x, hz, rfl⟩ := List.mem_map.1 hy
        have hx : -1 ≤ x ∧ x ≤ 1001 := by simp only [List.mem_cons, List.not_mem_nil, or_false] at hz; omega
        have HC5 := Lib.hid hc
        have HB5 := Lib.hid (HB.out.trans hb)
        have hs5 := HB5.out.size
        obtain ⟨v', w6, hrun, hown, hbel⟩ := appendOne w.heap.size _ L x w5 (Held.butH HROW.out hb hgl) hs5 (by omega)
        have HO6 := Lib.hid hown
        have HC6 := Lib.hid (HC5.out.keep (hbel.mono (show g + 1 ≤ w.heap.size by omega)))
        have HB6 := Lib.hid (HB5.out.then_below hbel)
        have HA6 : Hid (∀ y ∈ L ++ [x], -1 ≤ y ∧ y ≤ 1001) := Lib.hid (fun y hy => by
          rcases List.mem_append.1 hy with h | h
          · exact HALL.out y h
          · rw [List.mem_singleton.1 h]; exact hx)
        clear hc hb hown hbel HC5 HB5 hy hz HALL hx HROW HCUR HB
        go_wp2_with fail
        go_roundw
        case rel => exact ⟨k - 1, L ++ [x], rfl, by simp; omega, HA6.out, HO6.out, HC6.out.more (by simp; omega), HB6.out⟩
        case measure => simp [intOf]; omega
      · obtain rfl : k = 0 := by omega
        obtain ⟨g0, c0, hv, hg0, hc0, hcr⟩ := HROW.out.row
        subst hv
        have HCR := Lib.hid hcr
        clear hcr HROW
        have HQ : Hid (∀ M w', M.length = L.length → (∀ x ∈ M, -1 ≤ x ∧ x ≤ 1001) → CellRow w' g0 (ints M) → Cur B g a len cap (m + 400) w' → But g w w' → CountC B g a len cap m w (.returned (.slice (some ⟨g0, 0, none⟩) L.length c0)) w') := Lib.hid (fun M w' h1 h2 h3 h4 h5 => ⟨g0, c0, M, by omega, h2, by rw [h1], by omega, hg0, h3, h4, h5⟩)
        go_wp2_with fail
        refine (one_any B g a len cap _ 15 _ HCUR.out (by omega) (by omega)).mono ?_
        rintro e w4 ⟨b, rfl, hc, hb⟩
        have HC4 := Lib.hid hc
        have HB4 := Lib.hid (HB.out.trans hb)
        have HR4 := Lib.hid (HCR.out.but hb (by omega))
        clear hc hb HCR HCUR HB
        cases b
        · have HRES := Lib.hid (HQ.out L w4 rfl HALL.out HR4.out (HC4.out.more (by omega)) HB4.out)
          go_wp2_with fail
          go_ret
          exact HRES.out
        · by_cases hL : L.length = 0
          · have HRES := Lib.hid (HQ.out L w4 rfl HALL.out HR4.out (HC4.out.more (by omega)) HB4.out)
            have hLz : ¬ (0 : Int) < (L.length : Int) := by omega
            have hLz2 : decide ((0 : Int) < (L.length : Int)) = false := decide_eq_false hLz
            rw [hL] at HRES
            go_wp2_with fail
            go_ret
            exact HRES.out
          · have hLz : (0 : Int) < (L.length : Int) := by omega
            go_wp2_with fail
            refine (pick_any B g a len cap _ L.length _ HC4.out (by omega) (by omega)).mono ?_
            rintro e w5 ⟨i, hi0, hi1, rfl, hc, hb⟩
            obtain ⟨i, rfl⟩ : ∃ k : Nat, i = k := ⟨i.toNat, by omega⟩
            have hiL : i < L.length := by omega
            have HC5 := Lib.hid hc
            have HB5 := Lib.hid (HB4.out.trans hb)
            have HR5 := Lib.hid (HR4.out.but hb (by omega))
            clear hc hb HC4 HB4 HR4 hi0 hi1
            go_wp2_with fail
            refine (among_lit B g a len cap _ [-1, 1001] 2 _ _ rfl rfl _ HC5.out (by omega) (by decide) (by decide)).mono ?_
            rintro e w6 ⟨y, hy, rfl, hc, hb⟩
            obtain ⟨x, hz, rfl⟩ := List.mem_map.1 hy
            have hx : -1 ≤ x ∧ x ≤ 1001 := by simp only [List.mem_cons, List.not_mem_nil, or_false] at hz; omega
            have HC6 := Lib.hid hc
            have HB6 := Lib.hid (HB5.out.trans hb)
            have HR6 := Lib.hid (HR5.out.but hb (by omega))
            obtain ⟨hw4, hf4⟩ := HR6.out.2 _ _ (ints_getD (l := L) (k := i) hiL)
            have hbs : Below (g + 1) w6 (w6.setCell ⟨g0, i, none⟩ (.int .i64 x)) := (Below.refl _ _).setCell (p := ⟨g0, i, none⟩) (by show g + 1 ≤ g0; omega) _
            have hbs2 : Below w.heap.size w6 (w6.setCell ⟨g0, i, none⟩ (.int .i64 x)) := (Below.refl _ _).setCell (p := ⟨g0, i, none⟩) hg0 _
            have HRES := Lib.hid (HQ.out (L.set i x) (w6.setCell ⟨g0, i, none⟩ (.int .i64 x)) (by rw [List.length_set]) (fun y hy => by
              rcases List.mem_or_eq_of_mem_set hy with h | h
              · exact HALL.out y h
              · rw [h]; exact hx) (by rw [← ints_set]; exact HR6.out.set i _ (by rw [ints_length]; exact hiL)) ((HC6.out.keep hbs).more (by omega)) (HB6.out.then_below hbs2))
            clear hc hb HC5 HB5 HR5 hy hz hx HC6 HB6 HR6 HQ hbs hbs2 HALL
            go_wp2_with fail
            go_ret
            exact HRES.out

/-- The draw of BuildFenwick: a list of numbers, new. -/
def CountH (w : World) (e : Ending) (w' : World) : Prop :=
  ∃ (g0 c0 : Nat) (l : List Int), l.length ≤ 65 ∧ (∀ x ∈ l, -1 ≤ x ∧ x ≤ 1001) ∧ e = .returned (.slice (some ⟨g0, 0, none⟩) l.length c0) ∧ l.length ≤ c0 ∧ w.heap.size ≤ g0 ∧ CellRow w' g0 (ints l) ∧ Below w.heap.size w w'
set_option maxRecDepth 100000 in
theorem drawBf_any (a : Option Addr) (len cap : Nat) (w : World) (h : Code0 w a len) :
    Calls Try.prog 41 #[.slice a len cap] w (CountH w) := by
  have HN := Lib.hid (cur_new h cap 101)
  clear h
  go_enter Try.func41, Try.ntmps41
  go_wp2_with fail
  refine (counts_any w.heap.size w.heap.size a len cap 0 _ HN.out (by omega)).mono ?_
  rintro e w1 ⟨g0, c0, l, hl, hlx, rfl, hc0, hg0, hrow, hcur, hb⟩
  have HRES : Hid (CountH w (.returned (.slice (some ⟨g0, 0, none⟩) l.length c0)) w1) := Lib.hid ⟨g0, c0, l, hl, hlx, rfl, hc0, by simp at hg0; omega, hrow, But.fresh hb⟩
  clear hl hlx hc0 hg0 hrow hcur hb
  go_wp2_with fail
  go_ret
  exact HRES.out

theorem isW_wr (l : List Int) : IsW (l.map wr) := fun x hx => by
  obtain ⟨y, _, rfl⟩ := List.mem_map.1 hx
  unfold wr; omega
theorem isW_set {l : List Int} (h : IsW l) (i : Nat) (x : Int) : IsW (l.set i (wr x)) := fun y hy => by
  rcases List.mem_or_eq_of_mem_set hy with h1 | h1
  · exact h y h1
  · rw [h1]; unfold wr; omega

/-- A short tree of sums. -/
def FenC (B g : Nat) (a : Option Addr) (len cap : Nat) (m : Nat) (w : World) (e : Ending) (w' : World) : Prop :=
  ∃ (g0 c0 : Nat) (l : List Int), l.length ≤ 65 ∧ IsW l ∧ e = .returned (.agg #[.slice (some ⟨g0, 0, none⟩) l.length c0]) ∧ l.length ≤ c0 ∧ w.heap.size ≤ g0 ∧ CellRow w' g0 (ints l) ∧ Cur B g a len cap (m + 600) w' ∧ But g w w'

end Go.Proofs.Ytgfdpjmhdijdiaa
