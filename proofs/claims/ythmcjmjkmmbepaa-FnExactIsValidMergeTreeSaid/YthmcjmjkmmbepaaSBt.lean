/- The model's l10Build, by its contract. -/
import Derived.Test.YthmcjmjkmmbepaaSLv
import Derived.Test.YthmcjmjkmmbepaaHeldZ
import Derived.Test.YthmcjmjkmmbepaaOwnH
import Derived.Deep.RegionWith
import Derived.Deep.AppendLies
import Derived.Deep.RegionLaw
namespace Go.Proofs.Ythmcjmjkmmbepaa
open Go.RowKit P El Mt
set_option linter.unusedVariables false

attribute [local go_sem ↓ high] builtin_append_held

/-- A new tree of levels. -/
def RetMT (M : List (List Int)) (w : World) (e : Ending) (w' : World) : Prop :=
  ∃ v X, e = .returned (.agg #[v]) ∧ HeldZ w.heap.size w' v X ∧ X.map ZRow.L = M ∧ Below w.heap.size w w'

theorem HeldZ.one (w : World) (x : ZRow) (base : Nat) (hb : base ≤ w.heap.size) (h1 : base ≤ x.g) (h2 : x.L.length ≤ x.c) (h3 : CellRow w x.g (ints x.L)) :
    HeldZ base (w.alloc (.cells #[slz x] 34)) (.slice (some ⟨w.heap.size, 0, none⟩) 1 1) [x] := by
  have hne : x.g ≠ w.heap.size := by have := h3.1; omega
  refine ⟨⟨by simp, .inr ⟨w.heap.size, 1, #[slz x], rfl, hb, heap_alloc_new w _, Nat.le_refl _, by decide, rfl, by simp⟩⟩, .inr ⟨_, _, rfl, by simpa using hne⟩, fun y hy => ?_, by simp⟩
  obtain rfl := List.mem_singleton.1 hy
  exact ⟨h1, h2, h3.below ((Below.refl _ w).alloc (Nat.le_refl _) _) h3.1⟩
theorem mt_res1 {fn : Func} {p : Tmp} (h : fn.results = #[.cell p 50]) (tmps : Array Value) (w : World) {B : Nat} {v : Value} (hp : tmps.getD p undef = .pointer (some ⟨B, 0, none⟩)) (hc : w.cell? ⟨B, 0, none⟩ = some v) :
    (results fn tmps).run Try.prog w = .ok (.agg #[v]) w := by
  have hp' : tmps[p]?.getD undef = .pointer (some ⟨B, 0, none⟩) := by simpa using hp
  simp [results, h, hp', hc, go_sem]

theorem HeldZ.form {base : Nat} {w : World} {v : Value} {X : List ZRow} (h : HeldZ base w v X) : ∃ a n c, v = .slice a n c := by
  rcases h.nn with ⟨e, _⟩ | ⟨g, c, e, _⟩
  · exact ⟨_, _, _, e⟩
  · exact ⟨_, _, _, e⟩

/-- The word at a size 2 ^ e: the tree's box, its levels so far. -/
def TreeW (BT : Nat) (l : List Int) (w : World) (e : Nat) (W : World) : Prop :=
  ∃ v X, Boxed W BT 50 v ∧ HeldZ (w.heap.size + 1) W v X ∧ X.map ZRow.L = (List.range (e + 1)).map (fun k => lv l (2 ^ k)) ∧ ¬ BlkZ v X BT ∧ Boxed W w.heap.size 50 (.slice none 0 0) ∧ Below w.heap.size w W

set_option maxRecDepth 100000 in
set_option maxHeartbeats 1000000 in
theorem l10Build_any (b o c : Nat) (l : List Int) (w : World) (hv : FlatAt w (.slice (some ⟨b, o, none⟩) l.length c) l.length (ints l)) (hn : l.length ≤ 64) :
    Calls Try.prog 106 #[.slice (some ⟨b, o, none⟩) l.length c] w (RetMT (lvs l) w) := by
  obtain ⟨W, hW, hx, hz, hbW⟩ := box1 w 50 (.slice none 0 0)
  have HV := Lib.hid (hv.below hbW)
  have HVW := Lib.hid hv
  have HX := Lib.hid hx
  have HB := Lib.hid hbW
  have HZ := Lib.hid hz
  have HOWN := Lib.hid (l1OwnH_any b o c l W HV.out (by omega))
  clear hv hx hbW
  go_enter Try.func106, Try.ntmps106
  go_wp2_with fail
  rw [← hW]
  clear hW hz
  refine HOWN.out.mono ?_
  rintro e w1 ⟨g, k, rfl, hheld, hb1⟩
  obtain ⟨g1, k1, e1, hg1, hk1, hrow⟩ := hheld.row
  simp at e1
  obtain ⟨rfl, rfl⟩ := e1
  have HONE := Lib.hid (HeldZ.one w1 ⟨g, k, l⟩ (w.heap.size + 1) (by have := hb1.size; have := HZ.out; omega) (by have := HZ.out; show w.heap.size + 1 ≤ g; omega) hk1 hrow)
  have HX1 := Lib.hid (boxed_below HX.out hb1 (by have := HZ.out; omega))
  have HB1 := Lib.hid (HB.out.trans (hb1.mono (by have := HZ.out; omega)))
  have hg : g < w1.heap.size := hrow.1
  clear hheld hb1 hg1 hk1 hrow HOWN HX HB
  obtain ⟨w2, hw2⟩ : ∃ x, x = w1.alloc (.cells #[.slice (some ⟨g, 0, none⟩) l.length k] 34) := ⟨_, rfl⟩
  have hw2r := hw2.symm
  have hb2 : Below w1.heap.size w1 w2 := by rw [hw2]; exact (Below.refl _ _).alloc (Nat.le_refl _) _
  have hz2 : w2.heap.size = w1.heap.size + 1 := by rw [hw2]; simp
  obtain ⟨w3, hw3, hx3, hz3, hb3⟩ := box1 w2 50 (.slice (some ⟨w1.heap.size, 0, none⟩) 1 1)
  have hw3r := hw3.symm
  have HT : Hid (TreeW w2.heap.size l w 0 w3) := Lib.hid (by
    have h1 := HONE.out
    rw [show slz ⟨g, k, l⟩ = .slice (some ⟨g, 0, none⟩) l.length k from rfl, ← hw2] at h1
    refine ⟨_, _, hx3, h1.below hb3, by simp [lv_one], fun hB => ?_, boxed_below (boxed_below HX1.out hb2 (Boxed.lt HX1.out)) hb3 (by have := Boxed.lt HX1.out; omega), (HB1.out.trans (hb2.mono HB1.out.size)).trans (hb3.mono (by have := HB1.out.size; omega))⟩
    have := (h1.lt hB).2
    omega)
  have hlow : w.heap.size < w2.heap.size := by have := Boxed.lt HX1.out; omega
  have HLOW := Lib.hid hlow
  have HLC := Lib.hid (lc_dec l.length (by omega))
  have HL1 : Hid (l.length ≤ 1 → lc l.length = 1) := Lib.hid (fun h => by
    have := lc_sizes_dec l.length (by omega) 0 (by omega)
    have := lc_dec l.length (by omega)
    simp at *
    omega)
  clear hw2 hw3 hb2 hz2 hx3 hz3 hb3 HONE HX1 HB1 hg
  go_wp2_with fail
  go_loopw [4] (fun sv wr => ∃ e size : Nat, size = 2 ^ e ∧ e < 7 ∧ sv = .int .i64 (size : Int) ∧ (l.length ≤ size → e + 1 = lc l.length) ∧ TreeW w2.heap.size l w e wr) (fun sv _ => 128 - (intOf sv).toNat)
  case atStart => exact ⟨0, 1, rfl, by omega, rfl, fun h => by have := HLC.out; unfold lc at *; have := HL1.out h; omega, HT.out⟩
  case round =>
    obtain ⟨e, size, hsz, he7, rfl, hend, v, X, hbx, hheld, hmap, hnb, hbr, hbel⟩ := hrel
    have hs128 : size ≤ 64 := by rw [hsz]; exact Nat.le_trans (Nat.pow_le_pow_right (by omega) (show e ≤ 6 by omega)) (by decide)
    obtain ⟨av, nv, cv, rfl⟩ := hheld.form
    have HBX := Lib.hid hbx
    have HH := Lib.hid hheld
    have HM := Lib.hid hmap
    have HNB := Lib.hid hnb
    have HBR := Lib.hid hbr
    have HBL := Lib.hid hbel
    have hcx := Boxed.cell hbx
    have hfx := Boxed.frozen hbx
    have hcr := Boxed.cell hbr
    have hfr := Boxed.frozen hbr
    clear hbx hheld hmap hnb hbr hbel HT
    by_cases hlt : size < l.length
    · have hltz : (size : Int) < (l.length : Int) := by omega
      have hnext : e + 1 < lc l.length := (lc_sizes_dec l.length (by omega) e (by omega)).2 (by rw [← hsz]; exact hlt)
      obtain ⟨s2, hs2⟩ : ∃ s2, s2 = 2 * size := ⟨_, rfl⟩
      have hs2e : s2 = 2 ^ (e + 1) := by rw [hs2, hsz, Nat.pow_succ]; omega
      have hw1 : IntKind.i64.wrap (2 * (size : Int)) = (s2 : Int) := by rw [IntKind.wrap_i64]; omega
      have HS2 := Lib.hid hs2e
      have HEN : Hid (e + 1 < 7 ∧ (l.length ≤ s2 → e + 1 + 1 = lc l.length) ∧ 128 - s2 < 128 - size) := Lib.hid ⟨by have := (lc_dec l.length (by omega)).2.1; omega, fun h => by
        have h7 := (lc_dec l.length (by omega)).2.1
        have h8 := lc_sizes_dec l.length (by omega) (e + 1) (by omega)
        have h9 : ¬ e + 1 + 1 < lc l.length := fun hh => by have := h8.1 hh; rw [← hs2e] at this; omega
        omega, by have : 1 ≤ size := by rw [hsz]; exact Nat.one_le_two_pow
                  omega⟩
      have HCM : Hid (∀ R : Ending → World → Prop, (∀ (g cg : Nat) (n : Nat) (w5 : World) (a2 : Option Addr) (n2 c2 : Nat) (w6 : World), (heldAppend #[45, 45] 45 #[.slice av nv cv, .slice (some ⟨w5.heap.size, 0, none⟩) 1 1]).run Try.prog (w5.alloc (.cells #[.slice (some ⟨g, 0, none⟩) n cg] 34)) = .ok (.slice a2 n2 c2) w6 → w5.cell? ⟨w2.heap.size, 0, none⟩ = some (.slice av nv cv) → (w5.alloc (.cells #[.slice (some ⟨g, 0, none⟩) n cg] 34)).cell? ⟨w2.heap.size, 0, none⟩ = some (.slice av nv cv) → w6.cell? ⟨w2.heap.size, 0, none⟩ = some (.slice av nv cv) → w6.frozen? ⟨w2.heap.size, 0, none⟩ = false → Hid (TreeW w2.heap.size l w (e + 1) (w6.setCell ⟨w2.heap.size, 0, none⟩ (.slice a2 n2 c2))) → R (.returned (.slice (some ⟨g, 0, none⟩) n cg)) w5) → Calls Try.prog 119 #[.slice (some ⟨b, o, none⟩) l.length c, .int .i64 (s2 : Int)] wr.drew R) := Lib.hid (fun R hR => by
        have hwr := HBL.out.size
        have hls := (HLOW.out : w.heap.size < w2.heap.size)
        have hdr : Below wr.heap.size wr wr.drew := ⟨rfl, rfl, rfl, Nat.le_refl _, fun _ _ => rfl⟩
        refine (l10Level_any b o c l s2 wr.drew (HVW.out.below HBL.out.drew) (by omega) (by rw [HS2.out]; exact Nat.two_pow_pos _) (by omega)).mono ?_
        rintro e5 w5 ⟨g, cg, rfl, hcg, hgg, hrow, hb5x⟩
        have hb5 : Below wr.heap.size wr w5 := hdr.trans hb5x
        have hgg : wr.heap.size ≤ g := hgg
        have hbx5 : Boxed w5 w2.heap.size 50 (.slice av nv cv) := boxed_below HBX.out hb5 (Boxed.lt HBX.out)
        have hbr5 : Boxed w5 w.heap.size 50 (.slice none 0 0) := boxed_below HBR.out hb5 (Boxed.lt HBR.out)
        have hh5 := HH.out.below hb5
        have hltx := Boxed.lt HBX.out
        have hltr := Boxed.lt HBR.out
        have hnew : ¬ BlkZ (.slice av nv cv) X g := fun hB => by have := (HH.out.lt hB).2; omega
        have hxl : X.length = e + 1 := by have := congrArg List.length HM.out; simpa using this
        obtain ⟨v2, w6, hrun, hh6, hb6, hkeep, hblk⟩ := appendZ (w.heap.size + 1) (.slice av nv cv) X ⟨g, cg, lv l s2⟩ w5 hh5 (by have := hb5.size; omega) (by show w.heap.size + 1 ≤ g; omega) hcg hrow hnew (by omega)
        obtain ⟨a2, n2, c2, rfl⟩ := hh6.form
        have hne1 : (Value.slice av nv cv).ownBlock ≠ some w2.heap.size := fun h => HNB.out (.inl h)
        have hbx6 : Boxed w6 w2.heap.size 50 (.slice av nv cv) := (hkeep _ (Boxed.lt hbx5) hne1).trans hbx5
        have hbr6 : Boxed w6 w.heap.size 50 (.slice none 0 0) := (hb6.block _ (Nat.lt_succ_self _)).trans hbr5
        have hnb6 : ¬ BlkZ (.slice a2 n2 c2) (X ++ [⟨g, cg, lv l s2⟩]) w2.heap.size := fun hB => by
          rcases hB with h1 | ⟨y, hy, h1⟩
          · rcases hblk _ h1 with h2 | h2
            · exact hne1 h2
            · have := Boxed.lt hbx5; omega
          · rcases List.mem_append.1 hy with h2 | h2
            · exact HNB.out (.inr ⟨y, h2, h1⟩)
            · obtain rfl := List.mem_singleton.1 h2
              simp only at h1; omega
        have hrun2 : (heldAppend #[45, 45] 45 #[.slice av nv cv, .slice (some ⟨w5.heap.size, 0, none⟩) 1 1]).run Try.prog (w5.alloc (.cells #[.slice (some ⟨g, 0, none⟩) (lv l s2).length cg] 34)) = .ok (.slice a2 n2 c2) w6 := hrun
        refine hR g cg (lv l s2).length w5 a2 n2 c2 w6 hrun2 (Boxed.cell hbx5) (Boxed.cell (Boxed.alloc hbx5 _)) (Boxed.cell hbx6) (Boxed.frozen hbx6) (Lib.hid ⟨.slice a2 n2 c2, _, Boxed.set _ hbx6, (hh6.but ((But.refl w2.heap.size w6).setCell 0 _) hnb6), ?_, hnb6, ?_, ?_⟩)
        · rw [List.map_append, HM.out, HS2.out, List.range_succ (n := e + 1), List.map_append]; rfl
        · exact ((But.refl w2.heap.size w6).setCell 0 (.slice a2 n2 c2)).block w.heap.size (Boxed.lt hbr6) (by omega) |>.trans hbr6
        · exact ((HBL.out.trans (hb5.mono hwr)).trans (hb6.mono (by omega))).setCell (p := ⟨w2.heap.size, 0, none⟩) (by show w.heap.size ≤ w2.heap.size; omega) _)
      clear hs2 hs2e hsz hend hlt hnext
      go_wp2_with fail
      go_region_law (first | (go_simp; go_at_call 119; refine HCM.out _ ?_; intro g cg n w5 a2 n2 c2 w6 hrun hq1 hq0 hq2 hq3 HN))
      all_goals (
        go_wp2_with fail
        go_roundw
        case rel => exact ⟨e + 1, s2, HS2.out, HEN.out.1, by first | rfl | go_num, HEN.out.2.1, HN.out⟩
        case measure => have := HEN.out.2.2; simp [intOf]; omega)
    · have hltz : ¬ (size : Int) < (l.length : Int) := by omega
      have HRES : Hid (RetMT (lvs l) w (.returned (.agg #[.slice av nv cv])) (wr.setCell ⟨w.heap.size, 0, none⟩ (.slice av nv cv))) := Lib.hid (by
        refine ⟨_, X, rfl, (HH.out.but ((But.refl w.heap.size wr).setCell 0 _) (fun hB => by have := (HH.out.lt hB).1; omega)).lower (by omega), ?_, HBL.out.setCell (p := ⟨w.heap.size, 0, none⟩) (Nat.le_refl _) _⟩
        rw [HM.out, hend (by omega), lvs])
      clear hsz hend hlt
      go_wp2_with fail
      refine bodyPost_ret (mt_res1 rfl _ _ rfl (World.cell?_setCell_same' _ _ _ (by rw [hcr]; rfl))) rfl ?_
      exact HRES.out

end Go.Proofs.Ythmcjmjkmmbepaa
