/- The program's FenwickValues and IsValidFenwick, by their contracts. -/
import Derived.Test.YtgfdpjmhdijdiaaRetI
import Derived.Test.YtgfdpjmhdijdiaaValF
import Derived.Test.YtgfdpjmhdijdiaaILo
import Derived.Test.YtgfdpjmhdijdiaaCloneI
import Derived.Test.YtgfdpjmhdijdiaaFen
import Derived.Laws.BitsLemmas
namespace Go.Proofs.Ytgfdpjmhdijdiaa
open Go.RowKit Fw
set_option linter.unusedVariables false

set_option maxRecDepth 100000 in
set_option maxHeartbeats 1000000 in
theorem implFv_any (x o k : Nat) (l : List Int) (w : World) (hv : FlatAt w (.slice (some ⟨x, o, none⟩) l.length k) l.length (ints l)) (hn : l.length ≤ 1048576) (hi : IsW l) :
    Calls Try.prog 44 #[.agg #[.slice (some ⟨x, o, none⟩) l.length k]] w (RetI (valF l) w) := by
  obtain ⟨W, hW, hx, hz, hb⟩ := box1 w 53 (.slice (some ⟨x, o, none⟩) l.length k)
  have HV := Lib.hid (hv.below hb)
  have HB := Lib.hid hb
  have HZ := Lib.hid hz
  have HX := Lib.hid hx
  have hc0 := hx.cell
  have HI := Lib.hid hi
  clear hv hb hx hi
  have HCL := Lib.hid (cloneInts_any x o k l W HV.out hn)
  go_enter Try.func44, Try.ntmps44
  go_wp2_with fail
  rw [← hW]
  refine HCL.out.mono ?_
  rintro e w1 ⟨g, cg, rfl, hcg, hg, hrow, hb1⟩
  have hx1 := (boxed_below HX.out hb1 (by omega)).cell
  have HX1 := Lib.hid (boxed_below HX.out hb1 (by omega))
  have HREAD : Hid (∀ m, m < l.length → x < w1.heap.size ∧ x ≠ g ∧ w1.cell? ⟨x, o + m, none⟩ = some (.int .i64 (l.getD m 0))) := Lib.hid (fun m h => ⟨(flat_at (HV.out.below hb1) h).1, by have := (flat_at HV.out h).1; omega, (flat_at (HV.out.below hb1) h).2⟩)
  have HB1 := Lib.hid (HB.out.trans (hb1.mono (by omega)))
  have HROW := Lib.hid hrow
  have HG : Hid (W.heap.size ≤ g ∧ l.length ≤ cg) := Lib.hid ⟨hg, hcg⟩
  clear hcg hg hrow hb1 HCL HX HV HB
  go_wp2_with fail
  go_loopw [14] (fun iv wr => ∃ m : Nat, m ≤ l.length ∧ iv = .int .i64 m ∧ CellRow wr g (ints (fv l m)) ∧ But g w1 wr) (fun iv _ => l.length - (intOf iv).toNat)
  case atStart => exact ⟨0, Nat.zero_le _, rfl, HROW.out, But.refl _ _⟩
  case round =>
    obtain ⟨m, hm, rfl, hr, hbt⟩ := hrel
    have HR := Lib.hid hr
    have HBT := Lib.hid hbt
    clear hr hbt HROW
    by_cases hlt : m < l.length
    · have hltz : (m : Int) < (l.length : Int) := by omega
      obtain ⟨p, hp⟩ : ∃ p, p = l.getD m 0 := ⟨_, rfl⟩
      obtain ⟨hx0, hxg, hc4⟩ := HREAD.out m hlt
      have hw4 : wr.cell? ⟨x, o + m, none⟩ = some (.int .i64 p) := by rw [but_cell HBT.out hx0 hxg, hc4, hp]
      have HL := Lib.hid (fun W => lowOf_any m (by omega) W)
      have hle := lo_le (m + 1)
      obtain ⟨r, hrr⟩ : ∃ r, r = lo (m + 1) := ⟨_, rfl⟩
      rw [← hrr] at HL hle
      obtain ⟨t, ht⟩ : ∃ t, t = m + r := ⟨_, rfl⟩
      have hw1 : IntKind.i64.wrap ((m : Int) + (r : Int)) = (t : Int) := by rw [IntKind.wrap_i64]; omega
      by_cases htl : t < l.length
      · have htz : (t : Int) < (l.length : Int) := by omega
        obtain ⟨y, hy⟩ : ∃ y, y = (fv l m).getD t 0 := ⟨_, rfl⟩
        obtain ⟨hw5, hf5⟩ := HR.out.2 _ _ (ints_getD (l := fv l m) (k := t) (by rw [fv_len]; exact htl))
        rw [← hy] at hw5
        have HF : Hid (fv l (m + 1) = (fv l m).set t (IntKind.i64.wrap (y - p))) := Lib.hid (by rw [fv, if_pos (by rw [fv_len, ← hrr, ← ht]; exact htl), ← hrr, ← ht, ← hy, ← hp, wr_def])
        have HTL : Hid (t < (ints (fv l m)).length) := Lib.hid (by rw [ints_length, fv_len]; exact htl)
        obtain ⟨z, hz2⟩ : ∃ z, z = IntKind.i64.wrap (y - p) := ⟨_, rfl⟩
        rw [← hz2] at HF
        have hw6 : IntKind.i64.wrap (y - p) = z := hz2.symm
        clear hz2 hy hp hrr ht hc4
        go_wp2_with fail
        refine (HL.out _).mono ?_
        rintro e w2 ⟨rfl, rfl⟩
        go_wp2_with fail
        go_roundw
        case rel => exact ⟨m + 1, by omega, by go_num, by rw [HF.out, ← ints_set]; exact HR.out.set t _ HTL.out, HBT.out.setCell t _⟩
        case measure => simp [intOf]; omega
      · have htz : ¬ (t : Int) < (l.length : Int) := by omega
        have HF : Hid (fv l (m + 1) = fv l m) := Lib.hid (by rw [fv, if_neg (by rw [fv_len, ← hrr, ← ht]; exact htl)])
        clear hp hrr ht hc4
        go_wp2_with fail
        refine (HL.out _).mono ?_
        rintro e w2 ⟨rfl, rfl⟩
        go_wp2_with fail
        go_roundw
        case rel => exact ⟨m + 1, by omega, by go_num, by rw [HF.out]; exact HR.out, HBT.out⟩
        case measure => simp [intOf]; omega
    · obtain rfl : m = l.length := by omega
      have HA : Hid (Calls Try.prog 108 #[.slice (some ⟨g, 0, none⟩) l.length cg] wr fun e w' => e = .returned (.bool (decide (OkF l))) ∧ Below wr.heap.size wr w') := Lib.hid (by
        have e := fv_len l l.length
        have h := areM_any (.slice (some ⟨g, 0, none⟩) (fv l l.length).length cg) (fv l l.length) wr (HR.out.flat (by rw [e]; exact HG.out.2)) (by rw [e]; exact hn)
        rw [e] at h
        rwa [show decide (OkM (fv l l.length)) = decide (OkF l) from decide_eq_decide.2 (okM_fv HI.out)] at h)
      have HBW : Hid (Below w.heap.size w wr) := Lib.hid (HB1.out.trans (HBT.out.below (by have := HG.out.1; have := HZ.out; omega) HB1.out.size))
      by_cases hok : OkF l
      · rw [decide_eq_true hok] at HA
        have HROW : Hid (CellRow wr g (ints (vl l))) := Lib.hid (by have := HR.out; rwa [fv_all HI.out (by have := hok.len; omega)] at this)
        have HRES : Hid (∀ w2, Below wr.heap.size wr w2 → RetI (valF l) w (.returned (.tuple #[.slice (some ⟨g, 0, none⟩) l.length cg, .bool true])) w2) := Lib.hid (fun w2 hb2 => by
          rw [valF_yes hok]
          exact ⟨g, cg, by rw [vl_len], by rw [vl_len]; exact HG.out.2, by have := HG.out.1; have := HZ.out; omega, HROW.out.below hb2 HROW.out.1, HBW.out.trans (hb2.mono HBW.out.size)⟩)
        clear HR HROW HREAD hok
        go_wp2_with fail
        refine HA.out.mono ?_
        rintro e w2 ⟨rfl, hb2⟩
        have HRES2 := Lib.hid (HRES.out _ hb2)
        clear hb2 HRES
        go_wp2_with fail
        go_ret2
        exact HRES2.out
      · rw [decide_eq_false hok] at HA
        have HRES : Hid (∀ w2, Below wr.heap.size wr w2 → RetI (valF l) w (.returned (.tuple #[.slice (some ⟨w2.heap.size, 0, none⟩) 0 0, .bool false])) (w2.alloc (.cells #[] 3))) := Lib.hid (fun w2 hb2 => by
          rw [valF_no hok]
          exact RetI.none w w2 (HBW.out.trans (hb2.mono HBW.out.size)))
        clear HR HREAD hok
        go_wp2_with fail
        refine HA.out.mono ?_
        rintro e w2 ⟨rfl, hb2⟩
        have HRES2 := Lib.hid (HRES.out _ hb2)
        clear hb2 HRES
        go_wp2_with fail
        go_ret2
        exact HRES2.out

theorem implIv_any (x o k : Nat) (l : List Int) (w : World) (hv : FlatAt w (.slice (some ⟨x, o, none⟩) l.length k) l.length (ints l)) (hn : l.length ≤ 1048576) (hi : IsW l) :
    Calls Try.prog 46 #[.agg #[.slice (some ⟨x, o, none⟩) l.length k]] w fun e w' => e = .returned (.bool (decide (OkF l))) ∧ Below w.heap.size w w' := by
  obtain ⟨W, hW, hx, hz, hb⟩ := box1 w 53 (.slice (some ⟨x, o, none⟩) l.length k)
  have HV := Lib.hid (hv.below hb)
  have HB := Lib.hid hb
  have hc0 := hx.cell
  clear hv hb hx
  have HF := Lib.hid (implFv_any x o k l W HV.out hn hi)
  have HD : Hid ((valF l).2 = decide (OkF l)) := Lib.hid (by
    by_cases h : OkF l
    · rw [valF_yes h, decide_eq_true h]
    · rw [valF_no h, decide_eq_false h])
  generalize valF l = R at *
  generalize decide (OkF l) = d at *
  go_enter Try.func46, Try.ntmps46
  go_wp2_with fail
  rw [← hW]
  refine HF.out.mono ?_
  rintro e w1 ⟨g, cg, rfl, hcg, hg, hrow, hb1⟩
  have HB1 := Lib.hid (HB.out.trans (hb1.mono (by omega)))
  clear hcg hg hrow hb1 HF
  go_wp2_with fail
  go_ret
  exact ⟨by rw [← HD.out]; rfl, HB1.out⟩

end Go.Proofs.Ytgfdpjmhdijdiaa
