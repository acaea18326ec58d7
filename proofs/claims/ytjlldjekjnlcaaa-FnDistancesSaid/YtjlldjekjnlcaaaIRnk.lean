/- The program's pairs of ranks, KendallDistance and SpearmanFootrule, by their contracts. -/
import Derived.Test.YtjlldjekjnlcaaaICntR
import Derived.Test.YtjlldjekjnlcaaaIPermV
import Derived.Test.YtjlldjekjnlcaaaIntS
import Derived.Deep.RegionWith
import Derived.BigRegion
import Derived.BigQuiet
import Derived.Deep.QuietTactic
namespace Go.Proofs.Ytjlldjekjnlcaaa
open Go.RowKit P Iv
set_option linter.unusedVariables false

theorem infoRank3 : (Try.prog.info? 59).map (fun i => (i.zero, i.size, i.bytes)) = some (some (.agg #[.int .i64 0, .int .i64 0]), 2, 16) := by kernel_rfl
theorem makeRanks (n : Nat) (hn : n ≤ 1048576) (W : World) : (Instr.makeSlice 54 (.int .i64 (n : Int)) (.int .i64 (n : Int))).run Try.prog W = .ok (.slice (some ⟨W.heap.size, 0, none⟩) n n) (W.alloc (.cells (recs (List.replicate n (0, 0))).toArray 59)) := by
  obtain ⟨i0, hi, hz0, hz1, hz2⟩ := info_parts infoRank3
  have h1 := run_make (P := Try.prog) W 54 59 i0 (.agg #[.int .i64 0, .int .i64 0]) Try.underlying54 hi hz0 .i64 .i64 (n : Int) (n : Int) (by omega) (by omega) (by rw [hz2]; omega) (by omega)
  have h2 : madeCells (Value.agg #[Value.int .i64 0, Value.int .i64 0]).cells ((n : Int).toNat * i0.size) = (recs (List.replicate n (0, 0))).toArray := by
    rw [hz1, Int.toNat_natCast]
    apply Array.toList_inj.1
    have e : (Value.agg #[Value.int .i64 0, Value.int .i64 0]).cells = #[.int .i64 0, .int .i64 0] := rfl
    rw [e, recs_replicate]
    exact madeCells_list #[.int .i64 0, .int .i64 0] n
  rw [h1, h2, Int.toNat_natCast]

set_option maxRecDepth 100000 in
set_option maxHeartbeats 4000000 in
theorem rankPairs_no (v : Value) (l : List Int) (v' : Value) (m : List Int) (w : World) (hv : FlatAt w v l.length (ints l)) (hn : l.length ≤ 1048576) (hv' : FlatAt w v' m.length (ints m)) (hn' : m.length ≤ 1048576) (h : ¬ OkB l m) :
    Calls Try.prog 61 #[v, v'] w fun e w' => e = .returned (.tuple #[.slice none 0 0, .bool false]) ∧ Below w.heap.size w w' := by
  have HV := Lib.hid hv
  have HV' := Lib.hid hv'
  obtain ⟨a, c, rfl, _, _⟩ := hv
  obtain ⟨a', c', rfl, _, _⟩ := hv'
  by_cases h1 : OkP l
  · have hd := decide_eq_true h1
    have HI1 := Lib.hid (fun W (h : FlatAt W (.slice a l.length c) l.length (ints l)) => by have := implValidPerm_any _ l W h hn; rw [hd] at this; exact this)
    by_cases h2 : OkP m
    · have hd2 := decide_eq_true h2
      have h3z : ¬ (l.length : Int) = m.length := fun e => h ⟨h1, h2, by omega⟩
      have HI2 := Lib.hid (fun W (h : FlatAt W (.slice a' m.length c') m.length (ints m)) => by have := implValidPerm_any _ m W h hn'; rw [hd2] at this; exact this)
      clear h1 h2 hd hd2 h
      go_enter Try.func61, Try.ntmps61
      go_wp2_with fail
      refine (HI1.out _ HV.out).mono ?_
      rintro e w1 ⟨rfl, hb1⟩
      have HB1 := Lib.hid hb1
      clear hb1
      go_wp2_with fail
      refine (HI2.out _ (HV'.out.below HB1.out)).mono ?_
      rintro e w2 ⟨rfl, hb2⟩
      have HB2 := Lib.hid (HB1.out.trans (hb2.mono HB1.out.size))
      clear hb2
      go_wp2_with fail
      go_ret2
      exact ⟨by rfl, HB2.out⟩
    · have hd2 := decide_eq_false h2
      have HI2 := Lib.hid (fun W (h : FlatAt W (.slice a' m.length c') m.length (ints m)) => by have := implValidPerm_any _ m W h hn'; rw [hd2] at this; exact this)
      clear h1 h2 hd hd2 h
      go_enter Try.func61, Try.ntmps61
      go_wp2_with fail
      refine (HI1.out _ HV.out).mono ?_
      rintro e w1 ⟨rfl, hb1⟩
      have HB1 := Lib.hid hb1
      clear hb1
      go_wp2_with fail
      refine (HI2.out _ (HV'.out.below HB1.out)).mono ?_
      rintro e w2 ⟨rfl, hb2⟩
      have HB2 := Lib.hid (HB1.out.trans (hb2.mono HB1.out.size))
      clear hb2
      go_wp2_with fail
      go_ret2
      exact ⟨by rfl, HB2.out⟩
  · have hd := decide_eq_false h1
    have HI1 := Lib.hid (fun W (h : FlatAt W (.slice a l.length c) l.length (ints l)) => by have := implValidPerm_any _ l W h hn; rw [hd] at this; exact this)
    clear h1 hd h
    go_enter Try.func61, Try.ntmps61
    go_wp2_with fail
    refine (HI1.out _ HV.out).mono ?_
    rintro e w1 ⟨rfl, hb1⟩
    have HB1 := Lib.hid hb1
    clear hb1
    go_wp2_with fail
    go_ret2
    exact ⟨by rfl, HB1.out⟩

set_option maxRecDepth 100000 in
set_option maxHeartbeats 4000000 in
theorem rankPairs_yes (v : Value) (l : List Int) (v' : Value) (m : List Int) (w : World) (hv : FlatAt w v l.length (ints l)) (hv' : FlatAt w v' m.length (ints m)) (h : OkB l m) :
    Calls Try.prog 61 #[v, v'] w fun e w' => ∃ g, e = .returned (.tuple #[.slice (some ⟨g, 0, none⟩) (l.zip m).length (l.zip m).length, .bool true]) ∧ CellRow w' g (recs (l.zip m)) ∧ Below w.heap.size w w' := by
  have HV := Lib.hid hv
  have HV' := Lib.hid hv'
  obtain ⟨a, c, rfl, _, hx⟩ := hv
  obtain ⟨a', c', rfl, _, hx'⟩ := hv'
  have HX := Lib.hid (fun j x (hj : l[j]? = some x) => by
    obtain ⟨b, o, e, hb, hh⟩ := hx _ _ (ints_at hj)
    exact (⟨b, o, e, hb, hh⟩ : ∃ b o, a = some ⟨b, o, none⟩ ∧ b < w.heap.size ∧ w.cell? ⟨b, o + j, none⟩ = some (.int .i64 x)))
  have HX' := Lib.hid (fun j x (hj : m[j]? = some x) => by
    obtain ⟨b, o, e, hb, hh⟩ := hx' _ _ (ints_at hj)
    exact (⟨b, o, e, hb, hh⟩ : ∃ b o, a' = some ⟨b, o, none⟩ ∧ b < w.heap.size ∧ w.cell? ⟨b, o + j, none⟩ = some (.int .i64 x)))
  have hl64 : l.length ≤ 64 := h.1.1
  have hd := decide_eq_true h.1
  have hd2 := decide_eq_true h.2.1
  have h3 := h.2.2
  have HI1 := Lib.hid (fun W (h : FlatAt W (.slice a l.length c) l.length (ints l)) => by have := implValidPerm_any _ l W h (by omega); rw [hd] at this; exact this)
  have HI2 := Lib.hid (fun W (h : FlatAt W (.slice a' m.length c') m.length (ints m)) => by have := implValidPerm_any _ m W h (by omega); rw [hd2] at this; exact this)
  have h3z : (l.length : Int) = m.length := by omega
  have HL : Hid ((l.zip m).length = m.length) := Lib.hid (by rw [List.length_zip, h3, Nat.min_self])
  have HZ := Lib.hid (fun i (hi : i < l.length) => zip_at (p := l) (q := m) hi h3)
  have H3 := Lib.hid h3
  have HMK := fun W => makeRanks m.length (by omega) W
  clear hx hx' hd hd2 h h3
  go_enter Try.func61, Try.ntmps61
  go_wp2_with fail
  refine (HI1.out _ HV.out).mono ?_
  rintro e w1 ⟨rfl, hb1⟩
  have HB1 := Lib.hid hb1
  clear hb1
  go_wp2_with fail
  refine (HI2.out _ (HV'.out.below HB1.out)).mono ?_
  rintro e w2 ⟨rfl, hb2⟩
  have HB2 := Lib.hid (HB1.out.trans (hb2.mono HB1.out.size))
  clear hb2
  have hmk := HMK w2
  have HG := Lib.hid (CellRow.of_row (heap_alloc_new w2 (.cells (recs (List.replicate m.length (0, 0))).toArray 59)))
  have HB3 : Hid (Below w.heap.size w (w2.alloc (.cells (recs (List.replicate m.length (0, 0))).toArray 59))) := Lib.hid (HB2.out.alloc HB2.out.size _)
  have HGW := Lib.hid HB2.out.size
  obtain ⟨g, hg⟩ : ∃ g, g = w2.heap.size := ⟨_, rfl⟩
  rw [← hg] at hmk HG HGW
  clear HMK HI1 HI2 HV HV' HB1 HB2 hg
  go_wp2_with fail
  clear hmk h3z
  go_loopw [7, 28] (fun _ i wr => ∃ k : Nat, k ≤ m.length ∧ i = .int .i64 k ∧ CellRow wr g (recs (fill (l.zip m) (0, 0) k)) ∧ Below w.heap.size w wr) (fun _ i _ => m.length - (intOf i).toNat)
  case atStart => exact ⟨0, Nat.zero_le _, rfl, by rw [fill_zero, HL.out]; exact HG.out, HB3.out⟩
  case round =>
    obtain ⟨k, hk, rfl, hr, hb⟩ := hrel
    have HR := Lib.hid hr
    have HB := Lib.hid hb
    clear hr hb HG HB3
    by_cases hlt : k < m.length
    · have hlm : k < l.length := by have := H3.out; omega
      have hxl := at_getD (l := l) hlm
      have hxm := at_getD (l := m) hlt
      obtain ⟨p, hp⟩ : ∃ p, p = l.getD k 0 := ⟨_, rfl⟩
      obtain ⟨q, hq⟩ : ∃ q, q = m.getD k 0 := ⟨_, rfl⟩
      rw [← hp] at hxl
      rw [← hq] at hxm
      obtain ⟨b, o, rfl, hbb, hc1⟩ := HX.out _ _ hxl
      obtain ⟨b', o', rfl, hbb', hc2⟩ := HX'.out _ _ hxm
      have hw1 : wr.cell? ⟨b, o + k, none⟩ = some (.int .i64 p) := (HB.out.cell (p := ⟨b, o + k, none⟩) hbb).trans hc1
      have hw2 : wr.cell? ⟨b', o' + k, none⟩ = some (.int .i64 q) := (HB.out.cell (p := ⟨b', o' + k, none⟩) hbb').trans hc2
      have hz := recs_at (fill_at (l := l.zip m) (d := ((0, 0) : Int × Int)) (k := k) (by rw [HL.out]; exact hlt))
      obtain ⟨hg1, hf1⟩ := HR.out.2 _ _ hz.1
      obtain ⟨hg2, hf2⟩ := HR.out.2 _ _ hz.2
      have HP : Hid ((l.zip m)[k]? = some (p, q)) := Lib.hid (by rw [HZ.out k hlm, hp, hq])
      have HSET : Hid (∀ (W : World), W.heap = wr.heap → CellRow ((W.setCell ⟨g, k * 2, none⟩ (.int .i64 p)).setCell ⟨g, k * 2 + 1, none⟩ (.int .i64 q)) g (recs (fill (l.zip m) (0, 0) (k + 1)))) := Lib.hid (fun W hW => by
        have hlen : (recs (fill (l.zip m) (0, 0) k)).length = m.length * 2 := by rw [recs_length, fill_length _ _ _ (by rw [HL.out]; omega), HL.out]
        have h0 : CellRow W g (recs (fill (l.zip m) (0, 0) k)) := HR.out.same (by rw [hW]) (by rw [hW]; exact Nat.le_refl _)
        have h1 := (h0.set (k * 2) (.int .i64 p) (by omega)).set (k * 2 + 1) (.int .i64 q) (by rw [List.length_set]; omega)
        rw [recs_set _ k (p, q) (by rw [fill_length _ _ _ (by rw [HL.out]; omega), HL.out]; exact hlt), fill_set HP.out] at h1
        exact h1)
      have HBS : Hid (Below w.heap.size w ((wr.setCell ⟨g, k * 2, none⟩ (.int .i64 p)).setCell ⟨g, k * 2 + 1, none⟩ (.int .i64 q))) := Lib.hid ((HB.out.setCell (p := ⟨g, k * 2, none⟩) HGW.out _).setCell (p := ⟨g, k * 2 + 1, none⟩) HGW.out _)
      clear hz hc1 hc2 hxl hxm hp hq
      go_wp2_with fail
      go_region_with (fail)
      all_goals (
        go_wp2_with fail
        go_roundw
        case rel => exact ⟨k + 1, by omega, by go_num, HSET.out _ rfl, HBS.out.drew⟩
        case measure => simp [intOf]; omega)
    · obtain rfl : k = m.length := by omega
      have HRES : Hid (CellRow wr g (recs (l.zip m))) := Lib.hid (by have := HR.out; rw [← HL.out, fill_all] at this; exact this)
      go_wp2_with fail
      go_ret2
      exact ⟨g, by rw [HL.out]; rfl, HRES.out, HB.out⟩

set_option maxRecDepth 100000 in
set_option maxHeartbeats 4000000 in
theorem implKd_any (v : Value) (l : List Int) (v' : Value) (m : List Int) (w : World) (hv : FlatAt w v l.length (ints l)) (hn : l.length ≤ 1048576) (hv' : FlatAt w v' m.length (ints m)) (hn' : m.length ≤ 1048576) :
    Calls Try.prog 27 #[v, v'] w fun e w' => e = .returned (.tuple #[.int .i64 (kdF l m).1, .bool (kdF l m).2]) ∧ Below w.heap.size w w' := by
  have eg : ∀ args w, (callFunc 63 args).run Try.prog w = .ok (.enter 63 args) w := enters_of Try.func63 (by kernel_rfl) rfl
  by_cases hok : OkB l m
  · have HR := Lib.hid (rankPairs_yes v l v' m w hv hv' hok)
    have HF : Hid (kdF l m = (((cp dis (l.zip m) : Nat) : Int), true)) := Lib.hid (kdF_yes hok)
    have HC := Lib.hid (fun (W : World) (g : Nat) (h : CellRow W g (recs (l.zip m))) => countPairsR_any dis _ eg g (l.zip m) W h (by rw [List.length_zip]; have := hok.1.1; omega) (fun W a b => ranks_differ_any a b W))
    clear hok hv hv'
    go_enter Try.func27, Try.ntmps27
    go_wp2_with fail
    refine (HR.out).mono ?_
    rintro e w1 ⟨g, rfl, hr, hb⟩
    have HRW := Lib.hid hr
    have HB := Lib.hid hb
    clear hr hb HR
    obtain ⟨n, hzn⟩ : ∃ n, n = (l.zip m).length := ⟨_, rfl⟩
    have HC1 := Lib.hid (HC.out w1 g HRW.out)
    rw [← hzn] at HC1 ⊢
    clear HC hzn
    go_wp2_with fail
    refine (HC1.out).mono ?_
    rintro e w2 ⟨rfl, hb2⟩
    have HB2 := Lib.hid (HB.out.trans (hb2.mono HB.out.size))
    clear hb2
    go_wp2_with fail
    go_ret2
    exact ⟨by rw [HF.out]; rfl, HB2.out⟩
  · have HR := Lib.hid (rankPairs_no v l v' m w hv hn hv' hn' hok)
    have HF := Lib.hid (kdF_no hok)
    clear hok hv hv'
    go_enter Try.func27, Try.ntmps27
    go_wp2_with fail
    refine (HR.out).mono ?_
    rintro e w1 ⟨rfl, hb⟩
    have HB := Lib.hid hb
    clear hb HR
    go_wp2_with fail
    go_ret2
    exact ⟨by rw [HF.out]; rfl, HB.out⟩

end Go.Proofs.Ytjlldjekjnlcaaa
