/- The program's BuildMergeTree, by its contract. -/
import Derived.Test.YthmcjmjkmmbepaaISb
import Derived.Test.YthmcjmjkmmbepaaILc
import Derived.Test.YthmcjmjkmmbepaaIList
import Derived.Test.YthmcjmjkmmbepaaBmR
namespace Go.Proofs.Ythmcjmjkmmbepaa
open Go.RowKit P El Mt
set_option linter.unusedVariables false

attribute [local go_sem ↓ high] builtin_append_held

/-- The word at level e: the tree's box, its levels so far. -/
def TreeV (BT : Nat) (l : List Int) (w : World) (e : Nat) (W : World) : Prop :=
  ∃ v X, Boxed W BT 50 v ∧ HeldZ (w.heap.size + 1) W v X ∧ X.map ZRow.L = (List.range e).map (fun k => lv l (2 ^ k)) ∧ ¬ BlkZ v X BT ∧ Boxed W w.heap.size 50 (.slice none 0 0) ∧ Below w.heap.size w W

theorem blkz_nil {k : Nat} : ¬ BlkZ (.slice none 0 0) [] k := fun h => by
  rcases h with h | ⟨y, hy, _⟩
  · simp [Value.ownBlock] at h
  · cases hy

theorem pow7w_dec : ∀ L < 8, IntKind.i64.wrap ((2 : Int) ^ L) = ((2 ^ L : Nat) : Int) := by decide +kernel
theorem pow7_dec : ∀ L < 8, wrap64 ((2 : Int) ^ L) = ((2 ^ L : Nat) : Int) := by decide +kernel

set_option maxRecDepth 100000 in
set_option maxHeartbeats 1000000 in
theorem implBm_any (hsort : SortPart) (b o c : Nat) (l : List Int) (w : World) (hv : FlatAt w (.slice (some ⟨b, o, none⟩) l.length c) l.length (ints l)) (hn : l.length ≤ 1048576) :
    Calls Try.prog 71 #[.slice (some ⟨b, o, none⟩) l.length c] w (RetMTb (bmF l) w) := by
  obtain ⟨W, hW, hx, hz, hbW⟩ := box1 w 50 (.slice none 0 0)
  have HV := Lib.hid (hv.below hbW)
  have HVW := Lib.hid hv
  have HX := Lib.hid hx
  have HB := Lib.hid hbW
  have HZ := Lib.hid hz
  have HSP := Lib.hid hsort
  have HL := Lib.hid (implValidList_any _ l W HV.out hn)
  clear hv hx hbW hsort
  by_cases hok : OkL l
  · rw [decide_eq_true hok] at HL
    have HR := Lib.hid (bmF_yes hok)
    have h64 := hok.1
    have HLC := Lib.hid (fun W => levelCount_any l.length h64 W)
    have hN7 := (lc_dec l.length (by omega)).2.1
    obtain ⟨N, hN⟩ : ∃ N, N = lc l.length := ⟨_, rfl⟩
    rw [show 1 + Lib.bitLen (l.length - 1) = N from hN.symm] at HLC
    rw [← hN] at hN7
    have HN := Lib.hid hN
    clear hok hN
    go_enter Try.func71, Try.ntmps71
    go_wp2_with fail
    rw [← hW]
    clear hW hz
    refine HL.out.mono ?_
    rintro e w2 ⟨rfl, hb1⟩
    have HX1 := Lib.hid (boxed_below HX.out hb1 (by have := HZ.out; omega))
    have HB1 := Lib.hid (HB.out.trans (hb1.mono (by have := HZ.out; omega)))
    have hlow : w.heap.size < w2.heap.size := by have := hb1.size; have := HZ.out; omega
    have HLOW := Lib.hid hlow
    clear hb1 HL HV HX HB
    obtain ⟨w3, hw3, hx3, hz3, hb3⟩ := box1 w2 50 (.slice none 0 0)
    have hw3r := hw3.symm
    have HT : Hid (TreeV w2.heap.size l w 0 w3) := Lib.hid ⟨_, [], hx3, HeldZ.nil _ _, rfl, blkz_nil, boxed_below HX1.out hb3 (by omega), HB1.out.trans (hb3.mono (by omega))⟩
    clear hw3 hx3 hz3 hb3 HX1 HB1
    go_wp2_with fail
    refine (HLC.out _).mono ?_
    rintro e w4 ⟨rfl, rfl⟩
    clear HLC
    go_wp2_with fail
    go_loopw [13] (fun iv wr => ∃ e : Nat, e ≤ N ∧ iv = .int .i64 (e : Int) ∧ TreeV w2.heap.size l w e wr) (fun iv _ => N - (intOf iv).toNat)
    case atStart => exact ⟨0, Nat.zero_le _, rfl, HT.out⟩
    case round =>
      obtain ⟨e, heN, rfl, v, X, hbx, hheld, hmap, hnb, hbr, hbel⟩ := hrel
      obtain ⟨av, nv, cv, rfl⟩ := hheld.form
      have HBX := Lib.hid hbx
      have HH := Lib.hid hheld
      have HM := Lib.hid hmap
      have HNB := Lib.hid hnb
      have HBR := Lib.hid hbr
      have HBL := Lib.hid hbel
      have hcx := Boxed.cell hbx
      have hfx := Boxed.frozen hbx
      have hcr := Boxed.cell hbr
      have hfr := Boxed.frozen hbr
      clear hbx hheld hmap hnb hbr hbel HT
      by_cases hlt : e < N
      · have hltz : (e : Int) < (N : Int) := by omega
        obtain ⟨s2, hs2e⟩ : ∃ s2, s2 = 2 ^ e := ⟨_, rfl⟩
        have hs64 : s2 ≤ 64 := by rw [hs2e]; exact Nat.le_trans (Nat.pow_le_pow_right (by omega) (show e ≤ 6 by omega)) (by decide)
        have hwp : wrap64 ((2 : Int) ^ e) = (s2 : Int) := by rw [hs2e]; exact pow7_dec e (by omega)
        have hwq : IntKind.i64.wrap ((2 : Int) ^ e) = (s2 : Int) := by rw [hs2e]; exact pow7w_dec e (by omega)
        have HS2 := Lib.hid hs2e
        have HCM : Hid (∀ R : Ending → World → Prop, (∀ (g cg : Nat) (n : Nat) (w5 : World) (a2 : Option Addr) (n2 c2 : Nat) (w6 : World), (heldAppend #[45, 45] 45 #[.slice av nv cv, .slice (some ⟨w5.heap.size, 0, none⟩) 1 1]).run Try.prog (w5.alloc (.cells #[.slice (some ⟨g, 0, none⟩) n cg] 34)) = .ok (.slice a2 n2 c2) w6 → w5.cell? ⟨w2.heap.size, 0, none⟩ = some (.slice av nv cv) → (w5.alloc (.cells #[.slice (some ⟨g, 0, none⟩) n cg] 34)).cell? ⟨w2.heap.size, 0, none⟩ = some (.slice av nv cv) → w6.cell? ⟨w2.heap.size, 0, none⟩ = some (.slice av nv cv) → w6.frozen? ⟨w2.heap.size, 0, none⟩ = false → Hid (TreeV w2.heap.size l w (e + 1) (w6.setCell ⟨w2.heap.size, 0, none⟩ (.slice a2 n2 c2))) → R (.returned (.slice (some ⟨g, 0, none⟩) n cg)) w5) → Calls Try.prog 109 #[.slice (some ⟨b, o, none⟩) l.length c, .int .i64 (s2 : Int)] wr.drew R) := Lib.hid (fun R hR => by
          have hwr := HBL.out.size
          have hls := (HLOW.out : w.heap.size < w2.heap.size)
          have hdr : Below wr.heap.size wr wr.drew := ⟨rfl, rfl, rfl, Nat.le_refl _, fun _ _ => rfl⟩
          refine (sortedBlocks_any HSP.out b o c l s2 wr.drew (HVW.out.below HBL.out.drew) (by omega) (by rw [HS2.out]; exact Nat.two_pow_pos _) (by omega)).mono ?_
          rintro e5 w5 ⟨g, cg, rfl, hcg, hgg, hrow, hb5x⟩
          have hb5 : Below wr.heap.size wr w5 := hdr.trans hb5x
          have hgg : wr.heap.size ≤ g := hgg
          have hbx5 : Boxed w5 w2.heap.size 50 (.slice av nv cv) := boxed_below HBX.out hb5 (Boxed.lt HBX.out)
          have hbr5 : Boxed w5 w.heap.size 50 (.slice none 0 0) := boxed_below HBR.out hb5 (Boxed.lt HBR.out)
          have hh5 := HH.out.below hb5
          have hltx := Boxed.lt HBX.out
          have hltr := Boxed.lt HBR.out
          have hnew : ¬ BlkZ (.slice av nv cv) X g := fun hB => by have := (HH.out.lt hB).2; omega
          have hxl : X.length = e := by have := congrArg List.length HM.out; simpa using this
          obtain ⟨v2, w6, hrun, hh6, hb6, hkeep, hblk⟩ := appendZ (w.heap.size + 1) (.slice av nv cv) X ⟨g, cg, lv l s2⟩ w5 hh5 (by have := hb5.size; omega) (by show w.heap.size + 1 ≤ g; omega) hcg hrow hnew (by omega)
          obtain ⟨a2, n2, c2, rfl⟩ := hh6.form
          have hne1 : (Value.slice av nv cv).ownBlock ≠ some w2.heap.size := fun h => HNB.out (.inl h)
          have hbx6 : Boxed w6 w2.heap.size 50 (.slice av nv cv) := (hkeep _ (Boxed.lt hbx5) hne1).trans hbx5
          have hbr6 : Boxed w6 w.heap.size 50 (.slice none 0 0) := (hb6.block _ (Nat.lt_succ_self _)).trans hbr5
          have hnb6 : ¬ BlkZ (.slice a2 n2 c2) (X ++ [⟨g, cg, lv l s2⟩]) w2.heap.size := fun hB => by
            rcases hB with h1 | ⟨y, hy, h1⟩
            · rcases hblk _ h1 with h2 | h2
              · exact hne1 h2
              · have := Boxed.lt hbx5; omega
            · rcases List.mem_append.1 hy with h2 | h2
              · exact HNB.out (.inr ⟨y, h2, h1⟩)
              · obtain rfl := List.mem_singleton.1 h2
                simp only at h1; omega
          have hrun2 : (heldAppend #[45, 45] 45 #[.slice av nv cv, .slice (some ⟨w5.heap.size, 0, none⟩) 1 1]).run Try.prog (w5.alloc (.cells #[.slice (some ⟨g, 0, none⟩) (lv l s2).length cg] 34)) = .ok (.slice a2 n2 c2) w6 := hrun
          refine hR g cg (lv l s2).length w5 a2 n2 c2 w6 hrun2 (Boxed.cell hbx5) (Boxed.cell (Boxed.alloc hbx5 _)) (Boxed.cell hbx6) (Boxed.frozen hbx6) (Lib.hid ⟨.slice a2 n2 c2, _, Boxed.set _ hbx6, (hh6.but ((But.refl w2.heap.size w6).setCell 0 _) hnb6), ?_, hnb6, ?_, ?_⟩)
          · rw [List.map_append, HM.out, HS2.out, List.range_succ, List.map_append]; rfl
          · exact ((But.refl w2.heap.size w6).setCell 0 (.slice a2 n2 c2)).block w.heap.size (Boxed.lt hbr6) (by omega) |>.trans hbr6
          · exact ((HBL.out.trans (hb5.mono hwr)).trans (hb6.mono (by omega))).setCell (p := ⟨w2.heap.size, 0, none⟩) (by show w.heap.size ≤ w2.heap.size; omega) _)
        clear hs2e
        go_wp2_with fail
        go_region_law (first | (go_simp; go_at_call 109; refine HCM.out _ ?_; intro g cg n w5 a2 n2 c2 w6 hrun hq1 hq0 hq2 hq3 HN5))
        all_goals (
          go_wp2_with fail
          go_roundw
          case rel => exact ⟨e + 1, by omega, by go_num, HN5.out⟩
          case measure => simp [intOf]; omega)
      · have hltz : ¬ (e : Int) < (N : Int) := by omega
        have HRES : Hid (RetMTb (bmF l) w (.returned (.tuple #[.agg #[.slice av nv cv], .bool true])) (wr.setCell ⟨w.heap.size, 0, none⟩ (.slice av nv cv))) := Lib.hid (by
          rw [HR.out]
          refine ⟨_, X, rfl, (HH.out.but ((But.refl w.heap.size wr).setCell 0 _) (fun hB => by have := (HH.out.lt hB).1; omega)).lower (by omega), ?_, HBL.out.setCell (p := ⟨w.heap.size, 0, none⟩) (Nat.le_refl _) _⟩
          rw [HM.out, show e = N by omega, HN.out]; rfl)
        clear hlt
        go_wp2_with fail
        refine bodyPost_ret (mt_res2 rfl _ _ rfl (World.cell?_setCell_same' _ _ _ (by rw [hcr]; rfl))) rfl ?_
        exact HRES.out
  · rw [decide_eq_false hok] at HL
    have HR := Lib.hid (bmF_no hok)
    clear hok
    go_enter Try.func71, Try.ntmps71
    go_wp2_with fail
    rw [← hW]
    clear hW hz
    refine HL.out.mono ?_
    rintro e w1 ⟨rfl, hb1⟩
    have hx1 := boxed_below HX.out hb1 (by have := HZ.out; omega)
    have hcx := Boxed.cell hx1
    have hfx := Boxed.frozen hx1
    have HRES : Hid (RetMTb (bmF l) w (.returned (.tuple #[.agg #[.slice none 0 0], .bool false])) (w1.setCell ⟨w.heap.size, 0, none⟩ (.slice none 0 0))) := Lib.hid (by
      rw [HR.out]
      exact ⟨_, [], rfl, HeldZ.nil _ _, rfl, (HB.out.trans (hb1.mono (by have := HZ.out; omega))).setCell (p := ⟨w.heap.size, 0, none⟩) (Nat.le_refl _) _⟩)
    clear hb1 hx1 HL HX HB
    go_wp2_with fail
    refine bodyPost_ret (mt_res2 rfl _ _ rfl (World.cell?_setCell_same' _ _ _ (by rw [hcx]; rfl))) rfl ?_
    exact HRES.out

end Go.Proofs.Ythmcjmjkmmbepaa
