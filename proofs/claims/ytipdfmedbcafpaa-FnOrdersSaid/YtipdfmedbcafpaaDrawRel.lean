/- The draw of relations, by its contract. -/
import Derived.Test.YtipdfmedbcafpaaHeldBs
import Derived.Test.YtipdfmedbcafpaaDrawI
namespace Go.Proofs.Ytipdfmedbcafpaa
open Go.RowKit
attribute [local go_sem ↓ high] builtin_append_held
set_option linter.unusedVariables false

/-- A small table. -/
def RelC (B g : Nat) (a : Option Addr) (len cap : Nat) (m : Nat) (w : World) (e : Ending) (w' : World) : Prop :=
  ∃ (v : Value) (M : List (List Bool)), e = .returned v ∧ RowsAt w' v (M.map bools) ∧ M.length ≤ 5 ∧ (∀ x ∈ M, x.length ≤ 6) ∧ But g w w'

/-- The table's word at i. -/
structure TabAt (n i : Nat) (wa : World) (ov : Value) (X : List HB.BRow) (W : World) : Prop where
  len : X.length = i
  all : ∀ x ∈ X, x.L.length = n
  held : HB.HeldQ wa.heap.size W ov X
  b : Below wa.heap.size wa W

/-- The last loop's word at a world. -/
def LpW (base B g : Nat) (a : Option Addr) (len cap k : Nat) (w0 : World) (gv cv : Nat) (Y : List HB.BRow) (W : World) : Prop :=
  HB.HeldQ base W (.slice (some ⟨gv, 0, none⟩) Y.length cv) Y ∧ Cur B g a len cap k W ∧ But g w0 W
theorem LpW.cell {base B g : Nat} {a : Option Addr} {len cap k : Nat} {w0 : World} {gv cv : Nat} {Y : List HB.BRow} {W : World} (h : LpW base B g a len cap k w0 gv cv Y W) {i : Nat} {y : HB.BRow} (hy : Y[i]? = some y) : W.cell? ⟨gv, i, none⟩ = some (.slice (some ⟨y.g, 0, none⟩) y.L.length y.c) := by
  rw [h.1.r.own.cellAt i (by have := (List.getElem?_eq_some_iff.1 hy).1; omega), List.getElem?_map, hy]; rfl
theorem pickL {base B g : Nat} {a : Option Addr} {len cap k : Nat} {w0 : World} {gv cv : Nat} {Y : List HB.BRow} {W : World} (h : LpW base B g a len cap k w0 gv cv Y W) (hg : g < base) (hk : k ≤ 1000000) (n : Nat) (hn : 1 ≤ n) (hn5 : n ≤ 5) :
    Calls Try.prog 88 #[.pointer (some ⟨g, 0, none⟩), .int .i64 (n : Int)] W fun e w' => ∃ r : Nat, r < n ∧ e = .returned (.int .i64 (r : Int)) ∧ LpW base B g a len cap (k + 2) w0 gv cv Y w' := by
  refine (pick_any B g a len cap k n W h.2.1 hk (by omega)).mono ?_
  rintro e w' ⟨r, h0, h1, rfl, hc, hb⟩
  exact ⟨r.toNat, by omega, by rw [Int.toNat_of_nonneg h0], HB.HeldQ.by_but h.1 hb hg, hc, h.2.2.trans hb⟩
theorem oneL {base B g : Nat} {a : Option Addr} {len cap k : Nat} {w0 : World} {gv cv : Nat} {Y : List HB.BRow} {W : World} (h : LpW base B g a len cap k w0 gv cv Y W) (hg : g < base) (hk : k ≤ 1000000) :
    Calls Try.prog 107 #[.pointer (some ⟨g, 0, none⟩), .int .i64 2] W fun e w' => ∃ b : Bool, e = .returned (.bool b) ∧ LpW base B g a len cap (k + 2) w0 gv cv Y w' := by
  refine (one_any B g a len cap k 2 W h.2.1 hk (by omega)).mono ?_
  rintro e w' ⟨b, rfl, hc, hb⟩
  exact ⟨b, rfl, HB.HeldQ.by_but h.1 hb hg, hc, h.2.2.trans hb⟩

/-- The first index. -/
def Pk1 (base B g : Nat) (a : Option Addr) (len cap k : Nat) (w0 : World) (gv cv n : Nat) (Y : List HB.BRow) (e : Ending) (w' : World) : Prop :=
  ∃ (r : Nat) (y : HB.BRow), e = .returned (.int .i64 (r : Int)) ∧ Hid (Y[r]? = some y ∧ r < n) ∧ (r : Int) < (Y.length : Int) ∧ w'.cell? ⟨gv, r, none⟩ = some (.slice (some ⟨y.g, 0, none⟩) y.L.length y.c) ∧ Hid (LpW base B g a len cap (k + 2) w0 gv cv Y w')
theorem pick1 {base B g : Nat} {a : Option Addr} {len cap k : Nat} {w0 : World} {gv cv : Nat} {Y : List HB.BRow} {W : World} (h : LpW base B g a len cap k w0 gv cv Y W) (hg : g < base) (hk : k ≤ 1000000) (n : Nat) (hn : 1 ≤ n) (hn5 : n ≤ 5) (hY : Y.length = n) :
    Calls Try.prog 88 #[.pointer (some ⟨g, 0, none⟩), .int .i64 (n : Int)] W (Pk1 base B g a len cap k w0 gv cv n Y) := by
  refine (pickL h hg hk n hn hn5).mono ?_
  rintro e w' ⟨r, hr, he, hs⟩
  obtain ⟨y, hy⟩ : ∃ y, Y[r]? = some y := ⟨_, List.getElem?_eq_getElem (by omega)⟩
  exact ⟨r, y, he, Lib.hid ⟨hy, hr⟩, by omega, hs.cell hy, Lib.hid hs⟩
/-- The second. -/
def Pk2 (base B g : Nat) (a : Option Addr) (len cap k : Nat) (w0 : World) (gv cv n : Nat) (Y : List HB.BRow) (r1 : Nat) (y : HB.BRow) (e : Ending) (w' : World) : Prop :=
  ∃ (r : Nat) (z : Bool), e = .returned (.int .i64 (r : Int)) ∧ Hid (y.L[r]? = some z) ∧ (r : Int) < (y.L.length : Int) ∧ w'.cell? ⟨gv, r1, none⟩ = some (.slice (some ⟨y.g, 0, none⟩) y.L.length y.c) ∧ Hid (LpW base B g a len cap (k + 2) w0 gv cv Y w')
theorem pick2 {base B g : Nat} {a : Option Addr} {len cap k : Nat} {w0 : World} {gv cv : Nat} {Y : List HB.BRow} {W : World} (h : LpW base B g a len cap k w0 gv cv Y W) (hg : g < base) (hk : k ≤ 1000000) (n : Nat) (hn : 1 ≤ n) (hn5 : n ≤ 5) {r1 : Nat} {y : HB.BRow} (hy : Y[r1]? = some y) (hyl : y.L.length = n) :
    Calls Try.prog 88 #[.pointer (some ⟨g, 0, none⟩), .int .i64 (n : Int)] W (Pk2 base B g a len cap k w0 gv cv n Y r1 y) := by
  refine (pickL h hg hk n hn hn5).mono ?_
  rintro e w' ⟨r, hr, he, hs⟩
  obtain ⟨z, hz⟩ : ∃ z, y.L[r]? = some z := ⟨_, List.getElem?_eq_getElem (by omega)⟩
  exact ⟨r, z, he, Lib.hid hz, by omega, hs.cell hy, Lib.hid hs⟩
/-- The bit, and the table with it. -/
def Pk3 (base B g : Nat) (a : Option Addr) (len cap k : Nat) (w0 : World) (gv cv : Nat) (Y : List HB.BRow) (r1 : Nat) (y : HB.BRow) (r2 : Nat) (e : Ending) (w' : World) : Prop :=
  ∃ (b z : Bool), e = .returned (.bool b) ∧ w'.cell? ⟨gv, r1, none⟩ = some (.slice (some ⟨y.g, 0, none⟩) y.L.length y.c) ∧ w'.cell? ⟨y.g, r2, none⟩ = some (.bool z) ∧ w'.frozen? ⟨y.g, r2, none⟩ = false ∧
    Hid (HB.HeldQ base (w'.setCell ⟨y.g, r2, none⟩ (.bool b)) (.slice (some ⟨gv, 0, none⟩) Y.length cv) (Y.set r1 ⟨y.g, y.c, y.L.set r2 b⟩) ∧ Cur B g a len cap (k + 2) (w'.setCell ⟨y.g, r2, none⟩ (.bool b)) ∧ But g w0 (w'.setCell ⟨y.g, r2, none⟩ (.bool b)))
theorem one3 {base B g : Nat} {a : Option Addr} {len cap k : Nat} {w0 : World} {gv cv : Nat} {Y : List HB.BRow} {W : World} (h : LpW base B g a len cap k w0 gv cv Y W) (hg : g < base) (hw : w0.heap.size ≤ base) (hk : k ≤ 1000000) {r1 : Nat} {y : HB.BRow} (hy : Y[r1]? = some y) {r2 : Nat} {z : Bool} (hz : y.L[r2]? = some z) :
    Calls Try.prog 107 #[.pointer (some ⟨g, 0, none⟩), .int .i64 2] W (Pk3 base B g a len cap k w0 gv cv Y r1 y r2) := by
  refine (oneL h hg hk).mono ?_
  rintro e w' ⟨b, he, hs⟩
  obtain ⟨hc3, hf3, hb3, hQ3⟩ := HB.HeldQ.setIn hs.1 hy hz b
  have hbel : Below base w' (w'.setCell ⟨y.g, r2, none⟩ (.bool b)) := (Below.refl base w').setCell (p := ⟨y.g, r2, none⟩) hb3 _
  exact ⟨b, z, he, hs.cell hy, hc3, hf3, Lib.hid ⟨hQ3, hs.2.1.keep (hbel.mono (by omega)), hs.2.2.then_below (hbel.mono hw)⟩⟩

set_option maxRecDepth 100000 in
set_option maxHeartbeats 8000000 in
theorem relation_any (B g : Nat) (a : Option Addr) (len cap : Nat) (m : Nat) (w : World) (h : Cur B g a len cap m w) (hm : m ≤ 900000) :
    Calls Try.prog 59 #[.pointer (some ⟨g, 0, none⟩)] w (RelC B g a len cap m w) := by
  have H := Lib.hid h
  have hgl := h.lt
  clear h
  go_enter Try.func59, Try.ntmps59
  go_wp2_with fail
  refine (pick_any B g a len cap m 5 _ H.out (by omega) (by omega)).mono ?_
  rintro e w1 ⟨r, hr0, hr1, rfl, hc, hb⟩
  obtain ⟨n, hn⟩ : ∃ n : Nat, n = (1 + r).toNat := ⟨_, rfl⟩
  have hwn : IntKind.i64.wrap (1 + r) = (n : Int) := by rw [IntKind.wrap_i64]; omega
  have hn1 : 1 ≤ n := by omega
  have hn5 : n ≤ 5 := by omega
  have HC1 := Lib.hid hc
  have HB1 := Lib.hid hb
  have hs1 := hb.size
  have HO1 := Lib.hid (Held.start w1 w.heap.size hs1)
  have HCA := Lib.hid (hc.keep ((Below.refl (g + 1) w1).alloc (by omega) (.cells #[] 3)))
  have HBA := Lib.hid (hb.then_below ((Below.refl _ w1).alloc hs1 (.cells #[] 3)))
  clear hc hb hn hr0 hr1 H
  go_wp2_with fail
  go_loopw [4, 5] (fun rv iv wr => ∃ (i : Nat) (L : List Int), iv = .int .i64 i ∧ i ≤ n ∧ L.length = i ∧ Held w.heap.size wr rv L ∧ Cur B g a len cap (m + 2 + 2 * i) wr ∧ But g w wr) (fun _ iv _ => n - (intOf iv).toNat)
  case atStart => exact ⟨0, [], rfl, Nat.zero_le _, rfl, HO1.out, HCA.out, HBA.out⟩
  case round =>
    obtain ⟨i, L, rfl, hin, hL, hheld, hcur, hbut⟩ := hrel
    have HH := Lib.hid hheld
    have HC := Lib.hid hcur
    have HBut := Lib.hid hbut
    clear hheld hcur hbut HO1 HCA HBA HC1 HB1
    by_cases hlt : i < n
    · have hiz : (i : Int) < (n : Int) := by omega
      go_wp2_with fail
      refine (pick_any B g a len cap _ 3 _ HC.out (by omega) (by omega)).mono ?_
      rintro e w5 ⟨x, hx0, hx1, rfl, hc, hb⟩
      have hB5 := HBut.out.trans hb
      obtain ⟨v', w6, hrun, hheld, hbel, _⟩ := appendOne2 w.heap.size _ L x w5 (HH.out.by_but hb hgl) hB5.size (by omega)
      have HH6 := Lib.hid hheld
      have HC6 := Lib.hid (hc.keep (hbel.mono (show g + 1 ≤ w.heap.size by omega)))
      have HB6 := Lib.hid (hB5.then_below hbel)
      clear hc hb hx0 hx1 hB5 hheld hbel HH HC HBut
      go_wp2_with fail
      go_roundw
      case rel => exact ⟨i + 1, L ++ [x], by go_num, hlt, by simp; omega, HH6.out, HC6.out.more (by omega), HB6.out⟩
      case measure => simp [intOf]; omega
    · obtain rfl : i = n := by omega
      obtain ⟨gr, cr, rfl, hgr, hcr, hrow⟩ := HH.out.row
      have HROW := Lib.hid hrow
      have hgl2 : gr < wr.heap.size := hrow.1
      generalize wr = wa at *
      have HT0 : Hid (TabAt i 0 wa (.slice (some ⟨wa.heap.size, 0, none⟩) 0 0) [] (wa.alloc (.cells #[] 33))) := Lib.hid ⟨rfl, by simp, HB.HeldQ.start wa wa.heap.size (Nat.le_refl _), (Below.refl _ _).alloc (Nat.le_refl _) _⟩
      clear hgr hcr hrow HH
      go_wp2_with fail
      go_loopw [6, 7, 8, 9] (fun ov iv _ _ ws => ∃ (j : Nat) (X : List HB.BRow), iv = .int .i64 j ∧ j ≤ i ∧ TabAt i j wa ov X ws) (fun _ iv _ _ _ => i - (intOf iv).toNat)
      case atStart => exact ⟨0, [], rfl, Nat.zero_le _, HT0.out⟩
      case round =>
        obtain ⟨j, X, rfl, hji, ht⟩ := hrel
        have HT := Lib.hid ht
        clear ht HT0
        by_cases hj : j < i
        · have hjz : (j : Int) < (i : Int) := by omega
          have hcj : wr.cell? ⟨gr, j, none⟩ = some (.int .i64 (L[j]'(by omega))) := (HT.out.b.cell (p := ⟨gr, j, none⟩) hgl2).trans (HROW.out.2 j _ (ints_at (List.getElem?_eq_getElem (by omega)))).1
          generalize wr = wb at *
          have HR0 : Hid (HB.Held wb.heap.size (wb.alloc (.cells #[] 4)) (.slice (some ⟨wb.heap.size, 0, none⟩) 0 0) []) := Lib.hid (HB.Held.start wb wb.heap.size (Nat.le_refl _))
          have HRB : Hid (Below wb.heap.size wb (wb.alloc (.cells #[] 4))) := Lib.hid ((Below.refl _ _).alloc (Nat.le_refl _) _)
          have hgl3 : gr < wb.heap.size := Nat.lt_of_lt_of_le hgl2 HT.out.b.size
          generalize L[j]'(by omega) = lj at *
          go_wp2_with fail
          go_loopw [8, 9] (fun rv kv ws => ∃ (k : Nat) (R : List Bool), kv = .int .i64 k ∧ k ≤ i ∧ R.length = k ∧ HB.Held wb.heap.size ws rv R ∧ Below wb.heap.size wb ws) (fun _ kv _ => i - (intOf kv).toNat)
          case atStart => exact ⟨0, [], rfl, Nat.zero_le _, rfl, HR0.out, HRB.out⟩
          case round =>
            obtain ⟨k, R, rfl, hki, hR, hheld, hbel⟩ := hrel
            have HH := Lib.hid hheld
            have HW := Lib.hid hbel
            clear hheld hbel HR0 HRB
            by_cases hk : k < i
            · have hkz : (k : Int) < (i : Int) := by omega
              obtain ⟨lk, hlk⟩ : ∃ lk, L[k]? = some lk := ⟨_, List.getElem?_eq_getElem (by omega)⟩
              have hcj2 : wr.cell? ⟨gr, j, none⟩ = some (.int .i64 lj) := (HW.out.cell (p := ⟨gr, j, none⟩) hgl3).trans hcj
              have hck : wr.cell? ⟨gr, k, none⟩ = some (.int .i64 lk) := (HW.out.cell (p := ⟨gr, k, none⟩) hgl3).trans ((HT.out.b.cell (p := ⟨gr, k, none⟩) hgl2).trans (HROW.out.2 k _ (ints_at hlk)).1)
              obtain ⟨v', w6, hrun0, hheld, hbel, _⟩ := HB.appendOneAt wb.heap.size _ R (decide (lj < lk)) wr.drew ⟨HH.out.1, HH.out.2⟩ HW.out.size (by omega)
              have hrun : (heldAppend #[33, 33] 33 #[u8, .slice (some ⟨wr.heap.size, 0, none⟩) 1 1]).run Try.prog (wr.alloc (.cells #[.bool (decide (lj < lk))] 4)).drew = .ok v' w6 := hrun0
              have HH6 := Lib.hid hheld
              have HW6 := Lib.hid (HW.out.drew.trans hbel)
              have HL : Hid ((R ++ [decide (lj < lk)]).length = k + 1) := Lib.hid (by simp; omega)
              clear hheld hbel HH HW hlk hrun0 hR
              go_wp2_with fail
              go_region
              all_goals (
                go_wp2_with fail
                go_roundw
                case rel => exact ⟨k + 1, _, by go_num, hk, HL.out, HH6.out, HW6.out⟩
                case measure => simp [intOf]; omega)
            · obtain rfl : k = i := by omega
              have hb1 := HT.out.b.size
              obtain ⟨g', c', rfl, hg', hc', hrow'⟩ := HB.Held.row HH.out
              have hTQ := HB.HeldQ.below HT.out.held HW.out
              obtain ⟨v2, w6, hrun, hQ, hbel, _⟩ := HB.appendRowQ wa.heap.size _ X ⟨g', c', R⟩ wr hTQ (Nat.le_trans hb1 HW.out.size) (HB.Held.lower HH.out hb1) (fun hb => by have := (HB.HeldR.lt HT.out.held.r hb).2; simp at this; omega) (by have := HT.out.len; omega)
              simp only [HB.slv] at hrun
              have HN : Hid (TabAt k (j + 1) wa v2 (X ++ [⟨g', c', R⟩]) w6) := Lib.hid ⟨by simp [HT.out.len], fun x hx => by
                rcases List.mem_append.1 hx with h1 | h1
                · exact HT.out.all x h1
                · simp at h1; subst h1; exact hR, hQ, (HT.out.b.trans (HW.out.mono hb1)).trans hbel⟩
              clear hb1 hg' hc' hrow' hTQ hQ hbel HT HW HH hR
              go_wp2_with fail
              go_roundw
              case rel => exact ⟨j + 1, _, by go_num, hj, HN.out⟩
              case measure => simp [intOf]; omega
        · obtain rfl : j = i := by omega
          have hsw := HBut.out.size
          have hgw : g < wa.heap.size := by omega
          have HCT := Lib.hid (HC.out.keep (HT.out.b.mono (show g + 1 ≤ wa.heap.size by omega)))
          have HBT := Lib.hid (HBut.out.then_below (HT.out.b.mono hsw))
          have HQT := Lib.hid HT.out.held
          have HLT := Lib.hid HT.out.len
          have HAT := Lib.hid HT.out.all
          clear HT HC HBut HROW hL
          go_wp2_with fail
          refine (pick_any B g a len cap _ 4 _ HCT.out (by omega) (by omega)).mono ?_
          rintro e w7 ⟨q0, hq0, hq1, rfl, hc, hb⟩
          obtain ⟨q, rfl⟩ : ∃ q : Nat, q0 = q := ⟨q0.toNat, by omega⟩
          have hq3 : q ≤ 3 := by omega
          have HC7 := Lib.hid hc
          have HB7 := Lib.hid (HBT.out.trans hb)
          have HQ7 := Lib.hid (HB.HeldQ.by_but HQT.out hb hgw)
          clear hc hb hq0 hq1 HCT HBT HQT
          generalize wr = wc at *
          go_wp2_with fail
          go_loopw [10] (fun mv wr => ∃ (q : Nat) (X : List HB.BRow), mv = .int .i64 q ∧ q ≤ 3 ∧ X.length = j ∧ (∀ x ∈ X, x.L.length = j) ∧ HB.HeldQ wa.heap.size wr u6 X ∧ Cur B g a len cap (m + 20 + 6 * (3 - q)) wr ∧ But g w wr) (fun mv _ => (intOf mv).toNat)
          case atStart => exact ⟨q, X, rfl, hq3, HLT.out, HAT.out, HQ7.out, HC7.out.more (by omega), HB7.out⟩
          case round =>
            clear HLT HAT HQ7 HC7 HB7
            obtain ⟨q, Y, rfl, hq3, hYl, hYa, hQ, hC, hBt⟩ := hrel
            have HQ := Lib.hid hQ
            have HC := Lib.hid hC
            have HBt := Lib.hid hBt
            have HYA := Lib.hid hYa
            have HYL := Lib.hid hYl
            clear hQ hC hBt hYa hYl
            by_cases hq : 1 < q
            · have hqz : (1 : Int) < (q : Int) := by omega
              obtain ⟨gv, cv, rfl, _⟩ := HQ.out.r.nn
              have HS0 : Hid (LpW wa.heap.size B g a len cap (m + 20 + 6 * (3 - q)) w gv cv Y wr.drew) := Lib.hid ⟨HB.HeldQ.below HQ.out ((Below.refl _ wr).drew), HC.out.keep ((Below.refl _ wr).drew), HBt.out.then_below ((Below.refl _ wr).drew)⟩
              clear HQ HC HBt
              go_wp2_with fail
              go_region_with (first
                | (go_at_call 107; refine (one3 HS2.out hgw hsw (by omega) HY1.out.1 HZ1.out).mono ?_; rintro e w13 ⟨b, z, rfl, hcy3, hcz, hfz, HN⟩)
                | (go_at_call 88; refine (pick2 HS1.out hgw (by omega) j hn1 hn5 HY1.out.1 (HYA.out _ (List.mem_of_getElem? HY1.out.1))).mono ?_; rintro e w12 ⟨r2, z1, rfl, HZ1, hr2z, hcy2, HS2⟩)
                | (go_at_call 88; refine (pick1 HS0.out hgw (by omega) j hn1 hn5 HYL.out).mono ?_; rintro e w11 ⟨r1, y1, rfl, HY1, hr1z, hcy1, HS1⟩))
              all_goals (
                have HLS : Hid ((Y.set r1 ⟨y1.g, y1.c, y1.L.set r2 b⟩).length = j ∧ ∀ x ∈ Y.set r1 ⟨y1.g, y1.c, y1.L.set r2 b⟩, x.L.length = j) := Lib.hid ⟨by rw [List.length_set]; exact HYL.out, fun x hx => by
                  rcases List.mem_or_eq_of_mem_set hx with h1 | rfl
                  · exact HYA.out x h1
                  · simp only [List.length_set]; exact HYA.out _ (List.mem_of_getElem? HY1.out.1)⟩
                obtain ⟨q1, hq1⟩ : ∃ q1, q1 = q - 1 := ⟨_, rfl⟩
                have hwq : IntKind.i64.wrap ((q : Int) - 1) = (q1 : Int) := by rw [IntKind.wrap_i64]; omega
                have HQ1 : Hid (q1 + 1 = q) := Lib.hid (by omega)
                have HCN : Hid (Cur B g a len cap (m + 20 + 6 * (3 - q1)) (w13.setCell ⟨y1.g, r2, none⟩ (.bool b))) := Lib.hid (HN.out.2.1.more (by omega))
                have HQN : Hid (HB.HeldQ wa.heap.size (w13.setCell ⟨y1.g, r2, none⟩ (.bool b)) (.slice (some ⟨gv, 0, none⟩) Y.length cv) (Y.set r1 ⟨y1.g, y1.c, y1.L.set r2 b⟩) ∧ But g w (w13.setCell ⟨y1.g, r2, none⟩ (.bool b))) := Lib.hid ⟨HN.out.1, HN.out.2.2⟩
                have hq1le : q1 ≤ 3 := by omega
                clear hq1 HN
                go_wp2_with fail
                go_roundw
                case rel => exact ⟨q1, _, rfl, hq1le, HLS.out.1, HLS.out.2, HQN.out.1, HCN.out, HQN.out.2⟩
                case measure => have := HQ1.out; simp [intOf]; omega)
            · have hqz : ¬ (1 : Int) < (q : Int) := by omega
              go_wp2_with fail
              refine (pick_any B g a len cap _ 30 _ HC.out (by omega) (by omega)).mono ?_
              rintro e w8 ⟨z, hz0, hz1, rfl, hc, hb⟩
              have HQ8 := Lib.hid (HB.HeldQ.by_but HQ.out hb hgw)
              have HB8 := Lib.hid (HBt.out.trans hb)
              clear hc hb HQ HC HBt
              by_cases hz : z = 0
              · subst hz
                obtain ⟨y0, hy0⟩ : ∃ y, Y[0]? = some y := ⟨_, List.getElem?_eq_getElem (by have := HYL.out; omega)⟩
                obtain ⟨gv, cv, rfl, _⟩ := HQ8.out.r.nn
                have hcy : w8.cell? ⟨gv, 0, none⟩ = some (.slice (some ⟨y0.g, 0, none⟩) y0.L.length y0.c) := by
                  rw [HQ8.out.r.own.cellAt 0 (by have := HYL.out; omega), List.getElem?_map, hy0]; rfl
                have hyl := HYA.out y0 (List.mem_of_getElem? hy0)
                have hs8 := HB8.out.size
                have hbw : wa.heap.size ≤ w8.heap.size := by have := (HB.HeldR.lt HQ8.out.r (.inl (by simp [Value.ownBlock]) : HB.Blk (.slice (some ⟨gv, 0, none⟩) Y.length cv) Y gv)); omega
                have hY0 : (0 : Int) < (Y.length : Int) := by have := HYL.out; omega
                obtain ⟨g', c', w9, hrun, hQ9, hB9, hc9, hf9, _⟩ := HB.appendIn wa.heap.size gv cv 0 Y y0 false w8 HQ8.out hy0 hbw (by omega)
                have HRES : Hid (∀ v, v = Value.slice (some ⟨gv, 0, none⟩) Y.length cv → RelC B g a len cap m w (.returned v) (w9.setCell ⟨gv, 0, none⟩ (.slice (some ⟨g', 0, none⟩) (y0.L.length + 1) c'))) := Lib.hid (fun v hv => by
                  subst hv
                  refine ⟨_, (Y.set 0 ⟨g', c', y0.L ++ [false]⟩).map HB.BRow.L, rfl, HB.HeldQ.rowsAt hQ9, by rw [List.length_map, List.length_set, HYL.out]; exact hn5, fun x hx => ?_, HB8.out.then_below (hB9.mono hsw)⟩
                  obtain ⟨y, hy, rfl⟩ := List.mem_map.1 hx
                  rcases List.mem_or_eq_of_mem_set hy with h1 | rfl
                  · rw [HYA.out y h1]; omega
                  · simp; omega)
                clear hQ9 hB9 HQ8 HB8 hy0 hyl
                go_wp2_with fail
                go_ret
                exact HRES.out _ rfl
              · by_cases hzz : z = 1
                · subst hzz
                  have HRES : Hid (RelC B g a len cap m w (.returned (.slice none 0 0)) w8) := Lib.hid ⟨_, [], rfl, ⟨none, 0, rfl, Nat.le_refl _, fun j cs h => by simp at h⟩, by simp, by simp, HB8.out⟩
                  clear HQ8 HB8
                  go_wp2_with fail
                  go_ret
                  exact HRES.out
                · have HRES : Hid (RelC B g a len cap m w (.returned u6) w8) := Lib.hid ⟨_, Y.map HB.BRow.L, rfl, HB.HeldQ.rowsAt HQ8.out, by rw [List.length_map, HYL.out]; exact hn5, fun x hx => by
                    obtain ⟨y, hy, rfl⟩ := List.mem_map.1 hx
                    rw [HYA.out y hy]; omega, HB8.out⟩
                  clear HQ8 HB8
                  go_wp2_with fail
                  go_ret
                  exact HRES.out

end Go.Proofs.Ytipdfmedbcafpaa
