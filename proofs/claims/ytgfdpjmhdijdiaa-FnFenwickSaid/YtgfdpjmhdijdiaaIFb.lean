/- The program's BuildFenwick, by its contract. -/
import Derived.Test.YtgfdpjmhdijdiaaRetFen
import Derived.Test.YtgfdpjmhdijdiaaValF
import Derived.Test.YtgfdpjmhdijdiaaILo
import Derived.Test.YtgfdpjmhdijdiaaCloneI
import Derived.Test.YtgfdpjmhdijdiaaFen
import Derived.BigRegion
import Derived.Deep.RegionWith
import Derived.Laws.BitsLemmas
namespace Go.Proofs.Ytgfdpjmhdijdiaa
open Go.RowKit Fw
set_option linter.unusedVariables false

/-- The program's answer: a tree of the list, or none. -/
def RetFB (l : List Int) (w : World) (e : Ending) (w' : World) : Prop := (OkM l ∧ RetFen1 (bs l, true) w e w') ∨ (¬ OkM l ∧ RetFenZ1 false w e w')
set_option maxRecDepth 100000 in
set_option maxHeartbeats 1000000 in
theorem implFbB_any (x o k : Nat) (l : List Int) (w : World) (hv : FlatAt w (.slice (some ⟨x, o, none⟩) l.length k) l.length (ints l)) (hn : l.length ≤ 1048576) :
    Calls Try.prog 42 #[.slice (some ⟨x, o, none⟩) l.length k] w (RetFB l w) := by
  obtain ⟨W, hW, hx, hz, hb⟩ := box1 w 53 (.slice none 0 0)
  have HV := Lib.hid (hv.below hb)
  have HB := Lib.hid hb
  have HZ := Lib.hid hz
  have HX := Lib.hid hx
  clear hv hb hx
  have HM := Lib.hid (areM_any _ l W HV.out hn)
  by_cases hok : OkM l
  · rw [decide_eq_true hok] at HM
    have HOK := Lib.hid hok
    have h64 := hok.1
    clear hok
    have HCL := Lib.hid (fun W1 h1 => cloneInts_any x o k l W1 (HV.out.below h1) hn)
    go_enter Try.func42, Try.ntmps42
    go_wp2_with fail
    rw [← hW]
    refine HM.out.mono ?_
    rintro e w0 ⟨rfl, hb0⟩
    have HX0 := Lib.hid (boxed_below HX.out hb0 (by omega))
    have HCL0 := Lib.hid (HCL.out w0 hb0)
    have HB0 := Lib.hid (HB.out.trans (hb0.mono (by omega)))
    have HZ0 : Hid (w.heap.size + 1 ≤ w0.heap.size) := Lib.hid (by have := hb0.size; omega)
    clear hb0 HV HB HX HM HCL
    go_wp2_with fail
    refine HCL0.out.mono ?_
    rintro e w1 ⟨g, cg, rfl, hcg, hg, hrow, hb1⟩
    have HX1 := Lib.hid (boxed_below HX0.out hb1 (by have := HZ0.out; omega))
    have HB1 := Lib.hid (HB0.out.trans (hb1.mono HB0.out.size))
    have HROW := Lib.hid hrow
    have HG : Hid (w.heap.size + 1 ≤ g ∧ l.length ≤ cg) := Lib.hid ⟨Nat.le_trans HZ0.out hg, hcg⟩
    clear hcg hg hrow hb1 HCL0 HX0 HB0
    go_wp2_with fail
    go_loopw [15] (fun iv wr => ∃ m : Nat, m ≤ l.length ∧ iv = .int .i64 m ∧ CellRow wr g (ints (bg l m)) ∧ But g w1 wr) (fun iv _ => l.length - (intOf iv).toNat)
    case atStart => exact ⟨0, Nat.zero_le _, rfl, HROW.out, But.refl _ _⟩
    case round =>
      obtain ⟨m, hm, rfl, hr, hbt⟩ := hrel
      have HR := Lib.hid hr
      have HBT := Lib.hid hbt
      clear hr hbt HROW
      by_cases hlt : m < l.length
      · have hltz : (m : Int) < (l.length : Int) := by omega
        obtain ⟨p, hp⟩ : ∃ p, p = (bg l m).getD m 0 := ⟨_, rfl⟩
        obtain ⟨hw4, hf4⟩ := HR.out.2 _ _ (ints_getD (l := bg l m) (k := m) (by rw [bg_len]; exact hlt))
        rw [← hp] at hw4
        have HL := Lib.hid (fun W => lowOf_any m (by omega) W)
        have hle := lo_le (m + 1)
        obtain ⟨r, hrr⟩ : ∃ r, r = lo (m + 1) := ⟨_, rfl⟩
        rw [← hrr] at HL hle
        obtain ⟨t, ht⟩ : ∃ t, t = m + r := ⟨_, rfl⟩
        have hw1 : IntKind.i64.wrap ((m : Int) + (r : Int)) = (t : Int) := by rw [IntKind.wrap_i64]; omega
        by_cases htl : t < l.length
        · have htz : (t : Int) < (l.length : Int) := by omega
          obtain ⟨y, hy⟩ : ∃ y, y = (bg l m).getD t 0 := ⟨_, rfl⟩
          obtain ⟨hw5, hf5⟩ := HR.out.2 _ _ (ints_getD (l := bg l m) (k := t) (by rw [bg_len]; exact htl))
          rw [← hy] at hw5
          have HF : Hid (bg l (m + 1) = (bg l m).set t (IntKind.i64.wrap (y + p))) := Lib.hid (by rw [bg, if_pos (by rw [bg_len, ← hrr, ← ht]; exact htl), ← hrr, ← ht, ← hy, ← hp, wr_def])
          have HTL : Hid (t < (ints (bg l m)).length) := Lib.hid (by rw [ints_length, bg_len]; exact htl)
          obtain ⟨z, hz2⟩ : ∃ z, z = IntKind.i64.wrap (y + p) := ⟨_, rfl⟩
          rw [← hz2] at HF
          have hw6 : IntKind.i64.wrap (y + p) = z := hz2.symm
          clear hz2 hy hp hrr ht
          go_wp2_with fail
          refine (HL.out _).mono ?_
          rintro e w2 ⟨rfl, rfl⟩
          go_wp2_with fail
          go_region_with (fail)
          all_goals (
            go_wp2_with fail
            go_roundw
            case rel => exact ⟨m + 1, by omega, by go_num, by rw [HF.out, ← ints_set]; exact (CellRow.set (w := w2.drew) (HR.out.same rfl (Nat.le_refl _)) t _ HTL.out), (But.trans HBT.out ⟨rfl, rfl, rfl, Nat.le_refl _, fun _ _ _ => rfl⟩ : But g w1 w2.drew).setCell t _⟩
            case measure => simp [intOf]; omega)
        · have htz : ¬ (t : Int) < (l.length : Int) := by omega
          have HF : Hid (bg l (m + 1) = bg l m) := Lib.hid (by rw [bg, if_neg (by rw [bg_len, ← hrr, ← ht]; exact htl)])
          clear hp hrr ht
          go_wp2_with fail
          refine (HL.out _).mono ?_
          rintro e w2 ⟨rfl, rfl⟩
          go_wp2_with fail
          go_roundw
          case rel => exact ⟨m + 1, by omega, by go_num, by rw [HF.out]; exact HR.out, HBT.out⟩
          case measure => simp [intOf]; omega
      · obtain rfl : m = l.length := by omega
        have HBW : Hid (Below w.heap.size w wr) := Lib.hid (HB1.out.trans (HBT.out.below (by have := HG.out.1; omega) HB1.out.size))
        have HXW : Hid (Boxed wr w.heap.size 53 (.slice none 0 0)) := Lib.hid ((HBT.out.block _ (Boxed.lt HX1.out) (by have := HG.out.1; omega)).trans HX1.out)
        have hcx := Boxed.cell HXW.out
        have hfx := Boxed.frozen HXW.out
        have HRES : Hid (RetFB l w (.returned (.tuple #[.agg #[.slice (some ⟨g, 0, none⟩) l.length cg], .bool true])) (wr.setCell ⟨w.heap.size, 0, none⟩ (.slice (some ⟨g, 0, none⟩) l.length cg))) := Lib.hid (by
          refine .inl ⟨HOK.out, g, cg, by rw [bs_len], by rw [bs_len]; exact HG.out.2, by have := HG.out.1; omega, ?_, HBW.out.setCell (p := ⟨w.heap.size, 0, none⟩) (Nat.le_refl _) _⟩
          have h1 := HR.out
          rw [bg_all HOK.out.isW (by have := HOK.out.1; omega), HOK.out.wbs] at h1
          exact h1.but ((But.refl w.heap.size wr).setCell 0 _) (by have := HG.out.1; omega))
        clear HR HXW
        go_wp2_with fail
        refine bodyPost_ret (fen_res2 rfl _ _ rfl (World.cell?_setCell_same' _ _ _ (by simp [go_sem, hcx]))) rfl ?_
        exact HRES.out
  · rw [decide_eq_false hok] at HM
    have HNO := Lib.hid hok
    clear hok
    go_enter Try.func42, Try.ntmps42
    go_wp2_with fail
    rw [← hW]
    refine HM.out.mono ?_
    rintro e w0 ⟨rfl, hb0⟩
    have HX0 := Lib.hid (boxed_below HX.out hb0 (by omega))
    have HB0 := Lib.hid (HB.out.trans (hb0.mono (by omega)))
    have hcx := Boxed.cell HX0.out
    have hfx := Boxed.frozen HX0.out
    have HRES : Hid (RetFB l w (.returned (.tuple #[.agg #[.slice none 0 0], .bool false])) (w0.setCell ⟨w.heap.size, 0, none⟩ (.slice none 0 0))) := Lib.hid (by
      exact .inr ⟨HNO.out, none, 0, rfl, HB0.out.setCell (p := ⟨w.heap.size, 0, none⟩) (Nat.le_refl _) _⟩)
    clear hb0 HM
    go_wp2_with fail
    refine bodyPost_ret (fen_res2 rfl _ _ rfl (World.cell?_setCell_same' _ _ _ (by simp [go_sem, hcx]))) rfl ?_
    exact HRES.out

theorem implFb_any (x o k : Nat) (l : List Int) (w : World) (hv : FlatAt w (.slice (some ⟨x, o, none⟩) l.length k) l.length (ints l)) (hn : l.length ≤ 1048576) :
    Calls Try.prog 42 #[.slice (some ⟨x, o, none⟩) l.length k] w (RetFE1 (bldF l) w) :=
  (implFbB_any x o k l w hv hn).mono fun e w' h => by
    rcases h with ⟨h1, h2⟩ | ⟨h1, h2⟩
    · rw [bldF_yes h1]; exact .inl h2
    · rw [bldF_no h1]; exact .inr ⟨rfl, h2⟩

end Go.Proofs.Ytgfdpjmhdijdiaa
