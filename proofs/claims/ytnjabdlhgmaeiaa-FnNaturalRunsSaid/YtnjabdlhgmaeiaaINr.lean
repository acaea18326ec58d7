/- The program's NaturalRuns: the loop over the runs. -/
import Derived.Test.YtnjabdlhgmaeiaaIRun
namespace Go.Proofs.Ytnjabdlhgmaeiaa
open Go.RowKit Ru
set_option linter.unusedVariables false

attribute [local go_sem ↓ high] builtin_append_held

/-- The length of a slice. -/
def lenR : Value → Nat
  | .slice _ n _ => n
  | _ => 0
theorem lenR_slice (a : Option Addr) (n c : Nat) : lenR (.slice a n c) = n := rfl

/-- The loop's word. -/
structure NrW (base e : Nat) (l : List (Int × Int)) (i s g c : Nat) (O : List (Int × Int)) (w wr : World) : Prop where
  le : i ≤ l.length
  out : O ++ runsF l i = runsF l 0
  len : O.length ≤ i
  held : HeldU base wr (.slice (some ⟨g, 0, none⟩) O.length c) O
  run : CellRow wr s [.int .i64 (i : Int), .int .i64 ((rcnt l i : Nat) : Int)]
  en : CellRow wr e [.int .i64 (l.length : Int), .int .i64 0]
  sg : s ≠ g
  eg : e ≠ g
  se : s ≠ e
  bs : base ≤ s
  be : base ≤ e
  b : Below base w wr

set_option maxRecDepth 100000 in
set_option maxHeartbeats 8000000 in
theorem implNr_any (b o c : Nat) (l : List (Int × Int)) (w : World) (hv : FlatAt w (.slice (some ⟨b, o, none⟩) l.length c) l.length (recs l)) (hn : l.length ≤ 1048576) :
    Calls Try.prog 32 #[.slice (some ⟨b, o, none⟩) l.length c] w (RetU (nrAll l) w) := by
  have HV := Lib.hid hv
  clear hv
  have HA := Lib.hid (fun W (h : FlatAt W (.slice (some ⟨b, o, none⟩) l.length c) l.length (recs l)) => implValidRecs_any _ l W h hn)
  by_cases h0 : OkR l
  · rw [decide_eq_true h0] at HA
    have HF := Lib.hid (nrAll_yes h0)
    have h64 := h0.1
    clear h0
    go_enter Try.func32, Try.ntmps32
    go_wp2_with fail
    refine (HA.out _ HV.out).mono ?_
    rintro e w1 ⟨rfl, hb⟩
    have HV1 := Lib.hid (RecAt.of_flat (HV.out.below hb))
    have HB1 := Lib.hid hb
    clear hb HA HV
    obtain ⟨W0, hW0⟩ : ∃ W, W = (w1.alloc (.cells #[] 48)).alloc (.cells #[.int .i64 (l.length : Int), .int .i64 0] 48) := ⟨_, rfl⟩
    have hsz : (w1.alloc (.cells #[] 48)).heap.size = w1.heap.size + 1 := by simp
    have hbW : Below w1.heap.size w1 W0 := by rw [hW0]; exact ((Below.refl _ _).alloc (Nat.le_refl _) _).alloc (by simp) _
    have hh0 : HeldU w1.heap.size W0 (.slice (some ⟨w1.heap.size, 0, none⟩) 0 0) [] := by rw [hW0]; exact (HeldU.start w1 _ (Nat.le_refl _)).alloc _
    have hen0 : CellRow W0 (w1.heap.size + 1) [.int .i64 (l.length : Int), .int .i64 0] := by
      rw [hW0, ← hsz]; exact CellRow.of_row (t := 48) (heap_alloc_new _ _)
    have HRA := Lib.hid (fun i W (h : RecAt W b o c l) (hi : i ≤ l.length) => runAt_any b o c l i W h h64 hi)
    have HBW := Lib.hid hbW
    have HH0 := Lib.hid hh0
    have HEN0 := Lib.hid hen0
    have HVW := Lib.hid (HV1.out.below hbW)
    clear hbW hh0 hen0
    go_wp2_with fail
    rw [← hW0]
    refine (HRA.out 0 W0 HVW.out (Nat.zero_le _)).mono ?_
    rintro e w2 ⟨rfl, hb2⟩
    have hs2 : w1.heap.size + 2 ≤ w2.heap.size := by have h1 := hb2.size; have h2 : W0.heap.size = w1.heap.size + 2 := by rw [hW0]; simp
                                                     omega
    have hls : w1.heap.size < W0.heap.size := by rw [hW0]; simp; omega
    have hls1 : w1.heap.size + 1 < W0.heap.size := by rw [hW0]; simp
    have H0 : Hid (NrW w1.heap.size (w1.heap.size + 1) l 0 w2.heap.size w1.heap.size 0 [] w1 (w2.alloc (.cells #[.int .i64 ((0 : Nat) : Int), .int .i64 ((rcnt l 0 : Nat) : Int)] 48))) := Lib.hid
      ⟨Nat.zero_le _, rfl, Nat.le_refl _, (HH0.out.below hb2).alloc _, CellRow.of_row (t := 48) (heap_alloc_new w2 _), (HEN0.out.below hb2 hls1).same (heap_alloc_old _ _ (by omega)) (by simp), by omega, by omega, by omega, by omega, by omega, (HBW.out.trans (hb2.mono (by omega))).alloc (by omega) _⟩
    clear hb2 hs2 hls hls1 HBW HH0 HEN0 HVW hsz hW0
    generalize he : w1.heap.size + 1 = en at *
    clear he
    go_wp2_with fail
    go_loopw [4, 6] (fun rv pv wr => ∃ (i s g c : Nat) (O : List (Int × Int)), pv = .pointer (some ⟨s, 0, none⟩) ∧ rv = .slice (some ⟨g, 0, none⟩) O.length c ∧ NrW w1.heap.size en l i s g c O w1 wr) (fun rv _ _ => l.length - lenR rv)
    case atStart => exact ⟨0, w2.heap.size, w1.heap.size, 0, [], rfl, rfl, H0.out⟩
    case round =>
      clear H0
      obtain ⟨i, s, g, c', O, rfl, rfl, h⟩ := hrel
      have H := Lib.hid h
      have hil := h.le
      have hOi := h.len
      have hs0 := (h.run.2 0 _ rfl).1
      have hs1 := (h.run.2 1 _ rfl).1
      have he0 := (h.en.2 0 _ rfl).1
      have he1 := (h.en.2 1 _ rfl).1
      by_cases hlt : i < l.length
      · have hne : ¬ i = l.length := by omega
        have hnz : ¬ (i : Int) = (l.length : Int) := by omega
        have hbe : ((i : Int) == (l.length : Int)) = false := by simp; omega
        obtain ⟨hc1, hc2, hc3⟩ := rcnt_pos hlt
        obtain ⟨cn, hcn⟩ : ∃ cn, cn = rcnt l i := ⟨_, rfl⟩
        have hsl := h.run.1
        have hel := h.en.1
        have hgl := h.held.row
        obtain ⟨g1, c1, e1, hbg, hOc, hrow⟩ := hgl
        simp at e1
        obtain ⟨rfl, rfl⟩ := e1
        have hgl := hrow.1
        obtain ⟨g2, c2, w3, hrun, hh3, hbel3, hbut3, hg2⟩ := append2U w1.heap.size wr.heap.size g c' O i cn (wr.alloc (.cells #[.int .i64 (i : Int), .int .i64 (cn : Int)] 48)) (h.held.alloc _) (heap_alloc_new wr _) (by simp; have := h.b.size; omega) (by omega)
        have hsz3 : wr.heap.size + 1 ≤ w3.heap.size := by have := hbut3.size; simp at this; exact this
        obtain ⟨W4, hW4⟩ : ∃ W, W = w3.alloc (.cells #[.int .i64 (i : Int), .int .i64 (cn : Int)] 48) := ⟨_, rfl⟩
        have hr4 : CellRow W4 w3.heap.size [.int .i64 (i : Int), .int .i64 (cn : Int)] := by rw [hW4]; exact CellRow.of_row (t := 48) (heap_alloc_new w3 _)
        have hbel4 : Below w1.heap.size w1 W4 := by rw [hW4]; exact (((h.b.alloc (by have := h.b.size; exact this) _).trans hbel3)).alloc (by have := h.b.size; omega) _
        have hh4 : HeldU w1.heap.size W4 (.slice (some ⟨g2, 0, none⟩) (O ++ [((i : Int), (cn : Int))]).length c2) (O ++ [((i : Int), (cn : Int))]) := by rw [hW4]; exact hh3.alloc _
        have hen3 : CellRow w3 en [.int .i64 (l.length : Int), .int .i64 0] := (h.en.same (heap_alloc_old wr _ hel) (by simp)).but hbut3 h.eg
        have hrun3 : CellRow w3 s [.int .i64 (i : Int), .int .i64 ((rcnt l i : Nat) : Int)] := (h.run.same (heap_alloc_old wr _ hsl) (by simp)).but hbut3 h.sg
        rw [← hcn] at hrun3
        have hp0 := (hrun3.2 0 _ rfl).1
        have hp1 := (hrun3.2 1 _ rfl).1
        have hen4 : CellRow W4 en [.int .i64 (l.length : Int), .int .i64 0] := by rw [hW4]; exact hen3.same (heap_alloc_old w3 _ hen3.1) (by simp)
        have HV4 := Lib.hid (HV1.out.below hbel4)
        obtain ⟨i2, hi2⟩ : ∃ i2, i2 = i + cn := ⟨_, rfl⟩
        have hi2z : (i : Int) + (cn : Int) = (i2 : Int) := by omega
        have hi2l : i2 ≤ l.length := by omega
        have hOut : O ++ [((i : Int), (cn : Int))] ++ runsF l i2 = runsF l 0 := by
          have := h.out
          rw [runsF_in hlt, ← hcn, ← hi2] at this
          rw [← this]; simp
        have hcn64 : cn ≤ 64 := by omega
        have hi64 : i ≤ 64 := by omega
        rw [← hcn] at hs1
        have hg2lt : g2 < w3.heap.size := by
          obtain ⟨g5, c5, e5, _, _, hr5⟩ := hh3.row
          simp at e5
          obtain ⟨rfl, _⟩ := e5
          exact hr5.1
        have hq0 := (hr4.2 0 _ rfl).1
        have hq1 := (hr4.2 1 _ rfl).1
        rw [hW4] at hq0 hq1
        have HN : Hid (∀ w5, Below W4.heap.size W4 w5 → w5.frozen? ⟨w3.heap.size, 0, none⟩ = false ∧ w5.frozen? ⟨w3.heap.size, 1, none⟩ = false ∧ (∃ u, w5.cell? ⟨w3.heap.size, 0, none⟩ = some u) ∧ (∃ u, w5.cell? ⟨w3.heap.size, 1, none⟩ = some u) ∧
            NrW w1.heap.size en l i2 w3.heap.size g2 c2 (O ++ [((i : Int), (cn : Int))]) w1 ((w5.setCell ⟨w3.heap.size, 0, none⟩ (.int .i64 (i2 : Int))).setCell ⟨w3.heap.size, 1, none⟩ (.int .i64 ((rcnt l i2 : Nat) : Int)))) := Lib.hid (fun w5 hb5 => by
          have hr5 := hr4.below hb5 hr4.1
          have hb1 := h.b.size
          have hen5 := hen4.below hb5 hen4.1
          have hsz4 : W4.heap.size = w3.heap.size + 1 := by rw [hW4]; simp
          have hb5b : Below w1.heap.size w1 w5 := hbel4.trans (hb5.mono (by omega))
          have hh5 := hh4.below hb5
          refine ⟨(hr5.2 0 _ rfl).2, (hr5.2 1 _ rfl).2, ⟨_, (hr5.2 0 _ rfl).1⟩, ⟨_, (hr5.2 1 _ rfl).1⟩, hi2l, hOut, by simp; omega, ?_, (hr5.set 0 _ (by simp)).set 1 _ (by simp), ?_, by omega, ?_, ?_, by omega, h.be, (hb5b.setCell (p := ⟨w3.heap.size, 0, none⟩) (by show w1.heap.size ≤ w3.heap.size; omega) _).setCell (p := ⟨w3.heap.size, 1, none⟩) (by show w1.heap.size ≤ w3.heap.size; omega) _⟩
          · exact (hh5.own (Below.heap_setCell _ ⟨w3.heap.size, 0, none⟩ _ _ (by show g2 ≠ w3.heap.size; omega))).own (Below.heap_setCell _ ⟨w3.heap.size, 1, none⟩ _ _ (by show g2 ≠ w3.heap.size; omega))
          · have hne : en ≠ w3.heap.size := by have := hen3.1; omega
            exact (hen5.same (Below.heap_setCell _ ⟨w3.heap.size, 0, none⟩ _ _ hne) (by simp)).same (Below.heap_setCell _ ⟨w3.heap.size, 1, none⟩ _ _ hne) (by simp)
          · rcases hg2 with rfl | hg2
            · exact h.eg
            · simp at hg2; omega
          · have := hen3.1; omega)
        clear h hc1 hc2 hc3 hrow hh3 hbel3 hbut3 hg2 hr4 hbel4 hh4 hen3 hen4 hOut hg2lt hOc hcn hi2
        have HW4 := Lib.hid hW4
        clear hW4
        go_wp2_with fail
        rw [← HW4.out]
        refine (HRA.out i2 W4 HV4.out hi2l).mono ?_
        rintro e w5 ⟨rfl, hb5⟩
        obtain ⟨hf0, hf1, ⟨u0, hu0⟩, ⟨u1, hu1⟩, hnr⟩ := HN.out w5 hb5
        have HNR := Lib.hid hnr
        clear hb5 hnr HN HV4 HW4 hq0 hq1 hp0 hp1 hrun3 hrun hs0 hs1 he0 he1
        go_wp2_with fail
        go_roundw
        case rel => exact ⟨i2, w3.heap.size, g2, c2, O ++ [((i : Int), (cn : Int))], rfl, by simp, HNR.out⟩
        case measure => simp only [lenR_slice]; omega
      · obtain rfl : i = l.length := by omega
        rw [rcnt_out (by omega)] at hs1
        obtain ⟨g1, c1, e1, hbg, hOc, hrow⟩ := h.held.row
        simp at e1
        obtain ⟨rfl, rfl⟩ := e1
        have HRES : Hid (RetU (nrAll l) w (.returned (.tuple #[.slice (some ⟨g, 0, none⟩) O.length c', .bool true])) wr) := Lib.hid (by
          have ho := h.out
          rw [runsF_out (by omega), List.append_nil] at ho
          rw [HF.out, ← ho]
          exact ⟨g, c', rfl, hOc, Nat.le_trans HB1.out.size hbg, hrow, HB1.out.trans (h.b.mono HB1.out.size)⟩)
        clear h H hrow hOc hbg
        go_wp2_with fail
        go_ret2
        exact HRES.out
  · rw [decide_eq_false h0] at HA
    have HF := Lib.hid (nrAll_no h0)
    clear h0
    go_enter Try.func32, Try.ntmps32
    go_wp2_with fail
    refine (HA.out _ HV.out).mono ?_
    rintro e w1 ⟨rfl, hb⟩
    have HRES : Hid (RetU (nrAll l) w (.returned (.tuple #[.slice (some ⟨w1.heap.size, 0, none⟩) 0 0, .bool false])) (w1.alloc (.cells #[] 48))) := Lib.hid (by rw [HF.out]; exact RetU.none w w1 hb)
    clear hb HA HV
    go_wp2_with fail
    go_ret2
    exact HRES.out

end Go.Proofs.Ytnjabdlhgmaeiaa
