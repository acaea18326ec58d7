/- The draw of RunMerges, by its contract. -/
import Derived.Test.YtnjabdlhgmaeiaaDrawAH
import Derived.Test.YtnjabdlhgmaeiaaAmong
namespace Go.Proofs.Ytnjabdlhgmaeiaa
open Go.RowKit
set_option linter.unusedVariables false

attribute [local go_sem ↓ high] builtin_append_held

/-- A short list of numbers, not nil. -/
def RmD (w : World) (e : Ending) (w' : World) : Prop :=
  ∃ (g1 c1 : Nat) (L1 : List Int), L1.length ≤ 66 ∧ e = .returned (.slice (some ⟨g1, 0, none⟩) L1.length c1) ∧ L1.length ≤ c1 ∧ w.heap.size ≤ g1 ∧ CellRow w' g1 (ints L1) ∧ Below w.heap.size w w'

theorem RmD.of {w W w' : World} {v : Value} {l : List Int} (hs : W.heap.size = w.heap.size + 1) (hl : l.length ≤ 66) (hown : Held (w.heap.size + 1) w' v l) (hb : Below w.heap.size w w') : RmD w (.returned v) w' := by
  obtain ⟨g1, c1, rfl, hg1, hc1, hrow⟩ := hown.row
  exact ⟨g1, c1, l, hl, rfl, hc1, by omega, hrow, hb⟩

set_option maxRecDepth 100000 in
set_option maxHeartbeats 8000000 in
theorem drawRm_any (a : Option Addr) (len cap : Nat) (w : World) (h : Code0 w a len) :
    Calls Try.prog 34 #[.slice a len cap] w (RmD w) := by
  have hcur := cur_new h cap 73
  obtain ⟨W, hW⟩ : ∃ W, W = w.alloc (.cells #[.slice a len cap, .int .i64 0, .int .u64 0] 73) := ⟨_, rfl⟩
  have hb0 : W.heap.size = w.heap.size + 1 := by rw [hW]; simp
  rw [← hW] at hcur
  have H := Lib.hid hcur
  have HFR : Hid (∀ w', But w.heap.size W w' → Below w.heap.size w w') := Lib.hid (fun w' hb => by rw [hW] at hb; exact hb.fresh)
  obtain ⟨g, hg⟩ : ∃ g, g = w.heap.size := ⟨_, rfl⟩
  have HRET : Hid (∀ v l w', l.length ≤ 66 → Held (g + 1) w' v l → But g W w' → RmD w (.returned v) w') := Lib.hid (fun v l w' hl ho hb => RmD.of hb0 hl (by rw [← hg]; exact ho) (HFR.out w' (by rw [← hg]; exact hb)))
  have hgl : g < g + 1 := by omega
  have HWS : Hid (W.heap.size = g + 1) := Lib.hid (by rw [hb0, hg])
  clear h hcur
  go_enter Try.func34, Try.ntmps34
  go_wp2_with fail
  rw [← hW, ← hg]
  rw [← hg] at H
  clear HFR hW hb0 hg
  refine (pick_any g g a len cap 0 9 _ (H.out.alloc _) (by omega) (by omega)).mono ?_
  rintro e w1 ⟨n, hn0, hn1, rfl, hc, hb⟩
  obtain ⟨n, rfl⟩ : ∃ k : Nat, n = k := ⟨n.toNat, by omega⟩
  have hn : n ≤ 8 := by omega
  have HC1 := Lib.hid hc
  have HB1 := Lib.hid ((But.alloc g W (.cells #[] 3)).trans hb)
  have HO1 : Hid (Held (g + 1) w1 (.slice (some ⟨g + 1, 0, none⟩) 0 0) []) := Lib.hid (by rw [← HWS.out]; exact Held.butH (Held.start W W.heap.size (Nat.le_refl _)) hb (by rw [HWS.out]; exact hgl))
  clear hc hb hn0 hn1 H
  go_wp2_with fail
  go_loopw [4, 5] (fun v n wr => ∃ (k : Nat) (L : List Int), n = .int .i64 k ∧ k + L.length ≤ 24 ∧ Held (g + 1) wr v L ∧ Cur g g a len cap (8 + 4 * L.length) wr ∧ But g W wr) (fun _ n _ => (intOf n).toNat)
  case atStart => exact ⟨n, [], rfl, by simp; omega, HO1.out, HC1.out.more (by omega), HB1.out⟩
  case round =>
    obtain ⟨k, L, rfl, hkL, hrow, hcur, hb⟩ := hrel
    have HROW := Lib.hid hrow
    have HCUR := Lib.hid hcur
    have HB := Lib.hid hb
    clear hrow hcur hb HO1 HC1 HB1
    by_cases hk : 0 < k
    · have hk1 : ((k : Int) - 1) = ((k - 1 : Nat) : Int) := by omega
      go_wp2_with fail
      refine (pick_any g g a len cap _ 12 _ HCUR.out (by omega) (by omega)).mono ?_
      rintro e w5 ⟨x, hx0, hx1, rfl, hc, hb⟩
      have HC5 := Lib.hid hc
      have HB5 := Lib.hid (HB.out.trans hb)
      obtain ⟨v', w6, hrun, hown, hbel⟩ := appendOne (g + 1) _ L (1 + x) w5 (Held.butH HROW.out hb hgl) (by rw [← HWS.out]; exact HB5.out.size) (by omega)
      have HO6 := Lib.hid hown
      have HC6 := Lib.hid (HC5.out.keep (hbel.mono (Nat.le_refl _)))
      have HB6 := Lib.hid (HB5.out.then_below (by rw [HWS.out]; exact hbel))
      clear hc hb hown hbel HROW HCUR HB HC5 HB5
      go_wp2_with fail
      go_roundw
      case rel => exact ⟨k - 1, L ++ [1 + x], rfl, by simp; omega, HO6.out, HC6.out.more (by simp; omega), HB6.out⟩
      case measure => simp [intOf]; omega
    · obtain rfl : k = 0 := by omega
      obtain ⟨_, g3, c3, rfl⟩ := id HROW.out
      have hL : L.length ≤ 24 := by omega
      go_wp2_with fail
      refine (pick_any g g a len cap _ 20 _ HCUR.out (by omega) (by omega)).mono ?_
      rintro e w2 ⟨r, hr0, hr1, rfl, hc, hb⟩
      have HC2 := Lib.hid hc
      have HB2 := Lib.hid (HB.out.trans hb)
      have HO2 := Lib.hid (Held.butH HROW.out hb hgl)
      clear hc hb HROW HCUR HB
      by_cases h0 : r = 0
      · subst h0
        clear hr0 hr1
        go_wp2_with fail
        refine (among_lit g g a len cap _ [0, -1, 100000, 100001] 4 _ _ rfl rfl _ HC2.out (by omega) (by decide) (by decide)).mono ?_
        rintro e w3 ⟨y, hy, rfl, hc, hb⟩
        obtain ⟨x, hz, rfl⟩ := List.mem_map.1 hy
        have HB3 := Lib.hid (HB2.out.trans hb)
        obtain ⟨v', w4, hrun, hown, hbel⟩ := appendOne (g + 1) _ L x w3 (Held.butH HO2.out hb hgl) (by rw [← HWS.out]; exact HB3.out.size) (by omega)
        have HQ : Hid (RmD w (.returned v') w4) := Lib.hid (HRET.out v' _ _ (by simp; omega) hown (HB3.out.then_below (by rw [HWS.out]; exact hbel)))
        clear hc hb hown hbel HC2 HB2 HO2 HB3 hy hz HRET
        go_wp2_with fail
        go_ret
        exact HQ.out
      · by_cases h1 : r = 1
        · subst h1
          clear hr0 hr1
          go_wp2_with fail
          go_loopw [4] (fun v wr => ∃ L : List Int, L.length ≤ 65 ∧ Held (g + 1) wr v L ∧ Cur g g a len cap (200 + 4 * L.length) wr ∧ But g W wr) (fun v _ => 70 - lenV v)
          case atStart => exact ⟨L, by omega, HO2.out, HC2.out.more (by omega), HB2.out⟩
          case round =>
            obtain ⟨L, hL, hrow, hcur, hb⟩ := hrel
            have HROW := Lib.hid hrow
            have HCUR := Lib.hid hcur
            have HB := Lib.hid hb
            obtain ⟨_, g3, c3, rfl⟩ := id hrow
            clear hrow hcur hb HC2 HB2 HO2
            go_wp2_with fail
            refine (pick_any g g a len cap _ 2 _ HCUR.out (by omega) (by omega)).mono ?_
            rintro e w3 ⟨q, hq0, hq1, rfl, hc, hb⟩
            have hq2 : q ≤ 1 := by omega
            have HC3 := Lib.hid hc
            have HB3 := Lib.hid (HB.out.trans hb)
            have HO3 := Lib.hid (Held.butH HROW.out hb hgl)
            clear hc hb HROW HCUR HB hq1
            by_cases hlt : (L.length : Int) < 40 + q
            · go_wp2_with fail
              refine (pick_any g g a len cap _ 30 _ HC3.out (by omega) (by omega)).mono ?_
              rintro e w4 ⟨x, hx0, hx1, rfl, hc, hb⟩
              have HB4 := Lib.hid (HB3.out.trans hb)
              obtain ⟨v', w5, hrun, hown, hbel⟩ := appendOne (g + 1) _ L (1 + x) w4 (Held.butH HO3.out hb hgl) (by rw [← HWS.out]; exact HB4.out.size) (by omega)
              have HO5 := Lib.hid hown
              have HC5 := Lib.hid (hc.keep (hbel.mono (Nat.le_refl _)))
              have HB5 := Lib.hid (HB4.out.then_below (by rw [HWS.out]; exact hbel))
              have hlen : lenV v' = L.length + 1 := by
                obtain ⟨_, g4, c4, e⟩ := hown
                rw [e, lenV_slice]; simp
              have HLEN := Lib.hid hlen
              clear hc hb hown hbel hlen HC3 HB3 HO3 HB4
              go_wp2_with fail
              go_roundw
              case rel => exact ⟨L ++ [1 + x], by simp; omega, HO5.out, HC5.out.more (by simp; omega), HB5.out⟩
              case measure => rw [HLEN.out, lenV_slice]; omega
            · have HQ : Hid (RmD w (.returned (.slice (some ⟨g3, 0, none⟩) L.length c3)) w3) := Lib.hid (HRET.out _ L _ (by omega) HO3.out HB3.out)
              go_wp2_with fail
              go_ret
              exact HQ.out
        · have HQ : Hid (RmD w (.returned (.slice (some ⟨g3, 0, none⟩) L.length c3)) w2) := Lib.hid (HRET.out _ L _ (by omega) HO2.out HB2.out)
          clear HC2 HB2 HO2 HRET
          go_wp2_with fail
          go_ret
          exact HQ.out

end Go.Proofs.Ytnjabdlhgmaeiaa
