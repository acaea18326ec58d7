/- The draws of lists of numbers (ints), by their contract: a short valid list in a new row, and nothing but the cursor moved. -/
import Derived.Test.YtjlldjekjnlcaaaCode
import Derived.Test.YtjlldjekjnlcaaaAmong
import Derived.Test.YtjlldjekjnlcaaaInts
import Derived.OwnWalk
import Derived.Maps.AppendAt
namespace Go.Proofs.Ytjlldjekjnlcaaa
open Go.RowKit

attribute [local go_sem ↓ high] builtin_append_held

theorem But.then_below {g : Nat} {w a b : World} (h : But g w a) (k : Below w.heap.size a b) : But g w b :=
  ⟨k.os.trans h.os, k.tape.trans h.tape, k.output.trans h.output, Nat.le_trans h.size k.size, fun i hi hg => (k.block i hi).trans (h.block i hi hg)⟩

theorem own_but {w w' : World} {base g : Nat} {e : TypeId} {size n : Nat} {v : Value} {xs : List Value} (h : w.ownsRow base e size v n xs) (hb : But g w w') (hB : g < base) : w'.ownsRow base e size v n xs := by
  have hlt := h.lt
  refine ⟨h.1, ?_⟩
  rcases h.2 with hn | ⟨j, cap, cur, rfl, h1, hg, rest⟩
  · exact .inl hn
  · have := hlt j rfl
    exact .inr ⟨j, cap, cur, rfl, h1, (hb.block j this.2 (by omega)).trans hg, rest⟩

theorem infoIntA : (Try.prog.info? 3).map (fun i => (i.zero, i.size, i.bytes)) = some (some (.int .i64 0), 1, 8) := by kernel_rfl

/-- 'append(l, n)' of one number to a row of its own. -/
theorem appendInt (base : Nat) (v : Value) (L : List Int) (x : Int) (w : World) (h : w.ownsRow base 3 1 v L.length (ints L)) (hb : base ≤ w.heap.size) (hn : L.length ≤ 1048576) :
    ∃ v' w', (heldAppend #[24, 24] 24 #[v, .slice (some ⟨w.heap.size, 0, none⟩) 1 1]).run Try.prog (w.alloc (.cells #[.int .i64 x] 3)) = .ok v' w' ∧
      w'.ownsRow base 3 1 v' (L ++ [x]).length (ints (L ++ [x])) ∧ Below base w w' := by
  obtain ⟨i0, hi, hz0, hz1, hz2⟩ := info_parts infoIntA
  obtain ⟨v', w', hrun, hown, hgrow, _⟩ := run_append_own (P := Try.prog) (w := w.alloc (.cells #[.int .i64 x] 3)) base 24 24 3 i0 (.int .i64 0) 1 8 Try.underlying24 hi hz0 hz1 hz2 rfl (by decide)
    _ L.length (ints L) (World.ownsRow.alloc h _) ⟨w.heap.size, 0, none⟩ 1 1 [.int .i64 x] rfl (cell_one_new w _ _) (by simp [Value.oneCell']) (by unfold maxLen; omega) (by omega) (by simp; omega)
  refine ⟨v', w', hrun, ?_, ((Below.refl base w).alloc hb _).grown hgrow (by simp; omega) (fun j e => (h.lt j e).1)⟩
  rw [ints_append, List.length_append]
  exact hown

/-- A short valid list. -/
def IntsC (B g : Nat) (a : Option Addr) (len cap : Nat) (m : Nat) (w : World) (e : Ending) (w' : World) : Prop :=
  ∃ (v : Value) (l : List Int), l.length ≤ 24 ∧ (∀ x ∈ l, -100000 ≤ x ∧ x ≤ 100000) ∧ e = .returned v ∧ w'.ownsRow w.heap.size 3 1 v l.length (ints l) ∧ Cur B g a len cap (m + 200) w' ∧ But g w w'

set_option maxRecDepth 100000 in
set_option maxHeartbeats 4000000 in
theorem ints_any (B g : Nat) (a : Option Addr) (len cap : Nat) (m : Nat) (w : World) (h : Cur B g a len cap m w) (hm : m ≤ 900000) :
    Calls Try.prog 81 #[.pointer (some ⟨g, 0, none⟩)] w (IntsC B g a len cap m w) := by
  have H := Lib.hid h
  have hgl := h.lt
  clear h
  go_enter Try.func81, Try.ntmps81
  go_wp2_with fail
  refine (pick_any B g a len cap m 9 _ (H.out.alloc _) (by omega) (by omega)).mono ?_
  rintro e w1 ⟨n, hn0, hn1, rfl, hc, hb⟩
  obtain ⟨n, rfl⟩ : ∃ k : Nat, n = k := ⟨n.toNat, by omega⟩
  have hn : n ≤ 8 := by omega
  have HC1 := Lib.hid hc
  have HB1 := Lib.hid ((But.alloc g w (.cells #[] 3)).trans hb)
  have HO1 : Hid (w1.ownsRow w.heap.size 3 1 (.slice (some ⟨w.heap.size, 0, none⟩) 0 0) ([] : List Int).length (ints [])) := Lib.hid (own_but (World.ownsRow_made w #[] 0 (Nat.le_refl _) (by decide) rfl) hb hgl)
  clear hc hb hn0 hn1 H
  go_wp2_with fail
  refine (one_any B g a len cap _ 6 _ HC1.out (by omega) (by omega)).mono ?_
  rintro e w2 ⟨b, rfl, hc, hb⟩
  have HC2 := Lib.hid hc
  have HB2 := Lib.hid (HB1.out.trans hb)
  have HO2 := Lib.hid (own_but HO1.out hb hgl)
  clear hc hb HC1 HB1 HO1
  cases b
  · go_wp2_with fail
    go_loopw [3, 4] (fun v n wr => ∃ (k : Nat) (L : List Int), n = .int .i64 k ∧ k + L.length ≤ 24 ∧ (∀ x ∈ L, -100000 ≤ x ∧ x ≤ 100000) ∧ wr.ownsRow w.heap.size 3 1 v L.length (ints L) ∧ Cur B g a len cap (m + 8 + 4 * L.length) wr ∧ But g w wr) (fun _ n _ => (intOf n).toNat)
    case atStart => exact ⟨n, [], rfl, by simp; omega, by simp, HO2.out, HC2.out.more (by omega), HB2.out⟩
    case round =>
      obtain ⟨k, L, rfl, hkL, hall, hrow, hcur, hb⟩ := hrel
      have HALL := Lib.hid hall
      have HROW := Lib.hid hrow
      have HCUR := Lib.hid hcur
      have HB := Lib.hid hb
      clear hall hrow hcur hb HO2 HC2 HB2
      by_cases hk : 0 < k
      · have hk1 : ((k : Int) - 1) = ((k - 1 : Nat) : Int) := by omega
        go_wp2_with fail
        refine (one_any B g a len cap _ 8 _ HCUR.out (by omega) (by omega)).mono ?_
        rintro e w4 ⟨b, rfl, hc, hb⟩
        have HC4 := Lib.hid hc
        have HB4 := Lib.hid (HB.out.trans hb)
        have HO4 := Lib.hid (own_but HROW.out hb hgl)
        clear hc hb HROW HCUR HB
        cases b
        · go_wp2_with fail
          refine (pick_any B g a len cap _ 7 _ HC4.out (by omega) (by omega)).mono ?_
          rintro e w5 ⟨x, hx0, hx1, rfl, hc, hb⟩
          have hx : -100000 ≤ x ∧ x ≤ 100000 := by omega
          have HC5 := Lib.hid hc
          have HB5 := Lib.hid (HB4.out.trans hb)
          have hs5 := HB5.out.size
          obtain ⟨v', w6, hrun, hown, hbel⟩ := appendInt w.heap.size _ L x w5 (own_but HO4.out hb hgl) hs5 (by omega)
          have HO6 := Lib.hid hown
          have HC6 := Lib.hid (HC5.out.keep (hbel.mono (show g + 1 ≤ w.heap.size by omega)))
          have HB6 := Lib.hid (HB5.out.then_below hbel)
          have HA6 : Hid (∀ y ∈ L ++ [x], -100000 ≤ y ∧ y ≤ 100000) := Lib.hid (fun y hy => by
            rcases List.mem_append.1 hy with h | h
            · exact HALL.out y h
            · rw [List.mem_singleton.1 h]; exact hx)
          clear hc hb hown hbel HC4 HB4 HO4 HC5 HB5 hx0 hx1 HALL hx
          go_wp2_with fail
          go_roundw
          case rel => exact ⟨k - 1, L ++ [x], rfl, by simp; omega, HA6.out, HO6.out, HC6.out.more (by simp; omega), HB6.out⟩
          case measure => simp [intOf]; omega
        · go_wp2_with fail
          refine (among_lit B g a len cap _ [100000, -100000, 999, -5] 4 _ _ rfl rfl _ HC4.out (by omega) (by decide) (by decide)).mono ?_
          rintro e w5 ⟨y, hy, rfl, hc, hb⟩
          obtain ⟨x, hz, rfl⟩ := List.mem_map.1 hy
          have hx : -100000 ≤ x ∧ x ≤ 100000 := by simp only [List.mem_cons, List.not_mem_nil, or_false] at hz; omega
          have HC5 := Lib.hid hc
          have HB5 := Lib.hid (HB4.out.trans hb)
          have hs5 := HB5.out.size
          obtain ⟨v', w6, hrun, hown, hbel⟩ := appendInt w.heap.size _ L x w5 (own_but HO4.out hb hgl) hs5 (by omega)
          have HO6 := Lib.hid hown
          have HC6 := Lib.hid (HC5.out.keep (hbel.mono (show g + 1 ≤ w.heap.size by omega)))
          have HB6 := Lib.hid (HB5.out.then_below hbel)
          have HA6 : Hid (∀ y ∈ L ++ [x], -100000 ≤ y ∧ y ≤ 100000) := Lib.hid (fun y hy => by
            rcases List.mem_append.1 hy with h | h
            · exact HALL.out y h
            · rw [List.mem_singleton.1 h]; exact hx)
          clear hc hb hown hbel HC4 HB4 HO4 HC5 HB5 hy hz HALL hx
          go_wp2_with fail
          go_roundw
          case rel => exact ⟨k - 1, L ++ [x], rfl, by simp; omega, HA6.out, HO6.out, HC6.out.more (by simp; omega), HB6.out⟩
          case measure => simp [intOf]; omega
      · obtain rfl : k = 0 := by omega
        have HQ : Hid (∀ v, wr.ownsRow w.heap.size 3 1 v L.length (ints L) → IntsC B g a len cap m w (.returned v) wr) := Lib.hid (fun v hv => ⟨v, L, by omega, HALL.out, rfl, hv, HCUR.out.more (by omega), HB.out⟩)
        go_wp2_with fail
        go_ret
        exact HQ.out _ HROW.out
  · go_wp2_with fail
    refine (pick_any B g a len cap _ 24 _ HC2.out (by omega) (by omega)).mono ?_
    rintro e w3 ⟨n2, hn0, hn1, rfl, hc, hb⟩
    obtain ⟨n2, rfl⟩ : ∃ k : Nat, n2 = k := ⟨n2.toNat, by omega⟩
    have hn2 : n2 ≤ 24 := by omega
    have HC3 := Lib.hid hc
    have HB3 := Lib.hid (HB2.out.trans hb)
    have HO3 := Lib.hid (own_but HO2.out hb hgl)
    clear hc hb HC2 HB2 HO2 hn0 hn1
    go_wp2_with fail
    go_loopw [3, 4] (fun v n wr => ∃ (k : Nat) (L : List Int), n = .int .i64 k ∧ k + L.length ≤ 24 ∧ (∀ x ∈ L, -100000 ≤ x ∧ x ≤ 100000) ∧ wr.ownsRow w.heap.size 3 1 v L.length (ints L) ∧ Cur B g a len cap (m + 8 + 4 * L.length) wr ∧ But g w wr) (fun _ n _ => (intOf n).toNat)
    case atStart => exact ⟨n2, [], rfl, by simp; omega, by simp, HO3.out, HC3.out.more (by omega), HB3.out⟩
    case round =>
      obtain ⟨k, L, rfl, hkL, hall, hrow, hcur, hb⟩ := hrel
      have HALL := Lib.hid hall
      have HROW := Lib.hid hrow
      have HCUR := Lib.hid hcur
      have HB := Lib.hid hb
      clear hall hrow hcur hb HO3 HC3 HB3
      by_cases hk : 0 < k
      · have hk1 : ((k : Int) - 1) = ((k - 1 : Nat) : Int) := by omega
        go_wp2_with fail
        refine (one_any B g a len cap _ 8 _ HCUR.out (by omega) (by omega)).mono ?_
        rintro e w4 ⟨b, rfl, hc, hb⟩
        have HC4 := Lib.hid hc
        have HB4 := Lib.hid (HB.out.trans hb)
        have HO4 := Lib.hid (own_but HROW.out hb hgl)
        clear hc hb HROW HCUR HB
        cases b
        · go_wp2_with fail
          refine (pick_any B g a len cap _ 7 _ HC4.out (by omega) (by omega)).mono ?_
          rintro e w5 ⟨x, hx0, hx1, rfl, hc, hb⟩
          have hx : -100000 ≤ x ∧ x ≤ 100000 := by omega
          have HC5 := Lib.hid hc
          have HB5 := Lib.hid (HB4.out.trans hb)
          have hs5 := HB5.out.size
          obtain ⟨v', w6, hrun, hown, hbel⟩ := appendInt w.heap.size _ L x w5 (own_but HO4.out hb hgl) hs5 (by omega)
          have HO6 := Lib.hid hown
          have HC6 := Lib.hid (HC5.out.keep (hbel.mono (show g + 1 ≤ w.heap.size by omega)))
          have HB6 := Lib.hid (HB5.out.then_below hbel)
          have HA6 : Hid (∀ y ∈ L ++ [x], -100000 ≤ y ∧ y ≤ 100000) := Lib.hid (fun y hy => by
            rcases List.mem_append.1 hy with h | h
            · exact HALL.out y h
            · rw [List.mem_singleton.1 h]; exact hx)
          clear hc hb hown hbel HC4 HB4 HO4 HC5 HB5 hx0 hx1 HALL hx
          go_wp2_with fail
          go_roundw
          case rel => exact ⟨k - 1, L ++ [x], rfl, by simp; omega, HA6.out, HO6.out, HC6.out.more (by simp; omega), HB6.out⟩
          case measure => simp [intOf]; omega
        · go_wp2_with fail
          refine (among_lit B g a len cap _ [100000, -100000, 999, -5] 4 _ _ rfl rfl _ HC4.out (by omega) (by decide) (by decide)).mono ?_
          rintro e w5 ⟨y, hy, rfl, hc, hb⟩
          obtain ⟨x, hz, rfl⟩ := List.mem_map.1 hy
          have hx : -100000 ≤ x ∧ x ≤ 100000 := by simp only [List.mem_cons, List.not_mem_nil, or_false] at hz; omega
          have HC5 := Lib.hid hc
          have HB5 := Lib.hid (HB4.out.trans hb)
          have hs5 := HB5.out.size
          obtain ⟨v', w6, hrun, hown, hbel⟩ := appendInt w.heap.size _ L x w5 (own_but HO4.out hb hgl) hs5 (by omega)
          have HO6 := Lib.hid hown
          have HC6 := Lib.hid (HC5.out.keep (hbel.mono (show g + 1 ≤ w.heap.size by omega)))
          have HB6 := Lib.hid (HB5.out.then_below hbel)
          have HA6 : Hid (∀ y ∈ L ++ [x], -100000 ≤ y ∧ y ≤ 100000) := Lib.hid (fun y hy => by
            rcases List.mem_append.1 hy with h | h
            · exact HALL.out y h
            · rw [List.mem_singleton.1 h]; exact hx)
          clear hc hb hown hbel HC4 HB4 HO4 HC5 HB5 hy hz HALL hx
          go_wp2_with fail
          go_roundw
          case rel => exact ⟨k - 1, L ++ [x], rfl, by simp; omega, HA6.out, HO6.out, HC6.out.more (by simp; omega), HB6.out⟩
          case measure => simp [intOf]; omega
      · obtain rfl : k = 0 := by omega
        have HQ : Hid (∀ v, wr.ownsRow w.heap.size 3 1 v L.length (ints L) → IntsC B g a len cap m w (.returned v) wr) := Lib.hid (fun v hv => ⟨v, L, by omega, HALL.out, rfl, hv, HCUR.out.more (by omega), HB.out⟩)
        go_wp2_with fail
        go_ret
        exact HQ.out _ HROW.out

end Go.Proofs.Ytjlldjekjnlcaaa
