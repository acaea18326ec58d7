/- The laws' small helpers over lists of records (szRecordS, toRecordS, eqRecordS, markRecordS, heldRecordS), by their contracts. -/
import Derived.Test.YtebipiehkmhaiaaRecs
import Derived.Deep.RegionWith
namespace Go.Proofs.Ytebipiehkmhaiaa
open Go.RowKit

theorem eqRecord_yes (k t : Int) (w : World) :
    Calls Try.prog 106 #[.agg #[.int .i64 k, .int .i64 t], .agg #[.int .i64 k, .int .i64 t]] w fun e w' => e = .returned (.bool true) ∧ Below w.heap.size w w' := by
  have hb : Below w.heap.size w ((w.alloc (.cells #[.int .i64 k, .int .i64 t] 45)).alloc (.cells #[.int .i64 k, .int .i64 t] 45)) :=
    ((Below.refl _ w).alloc (Nat.le_refl _) _).alloc (by simp) _
  have HB := Lib.hid hb
  clear hb
  go_enter Try.func106, Try.ntmps106
  go_wp2
  go_ret
  exact ⟨rfl, HB.out⟩

set_option maxRecDepth 100000 in
theorem eqRecS_yes (v v' : Value) (l : List (Int × Int)) (w : World) (hv : FlatAt w v l.length (recs l)) (hv' : FlatAt w v' l.length (recs l)) (hn : l.length ≤ 1048576) :
    Calls Try.prog 42 #[v, v'] w fun e w' => e = .returned (.bool true) ∧ Below w.heap.size w w' := by
  obtain ⟨a, c, rfl, _, h⟩ := hv
  obtain ⟨a', c', rfl, _, h'⟩ := hv'
  have H := Lib.hid h
  have H' := Lib.hid h'
  clear h h'
  go_enter Try.func42, Try.ntmps42
  go_wp2
  go_loopw [5] (fun i wr => ∃ k : Nat, k ≤ l.length ∧ i = .int .i64 k ∧ Below w.heap.size w wr) (fun i _ => l.length - (intOf i).toNat)
  case atStart => exact ⟨0, Nat.zero_le _, rfl, Below.refl _ _⟩
  case round =>
    obtain ⟨k, hk, rfl, hb⟩ := hrel
    have HB := Lib.hid hb
    clear hb
    by_cases hlt : k < l.length
    · obtain ⟨p, hp⟩ : ∃ p, l[k]? = some p := ⟨_, List.getElem?_eq_getElem hlt⟩
      obtain ⟨b, o, rfl, hbb, hc1, hc2⟩ := recs_el H.out hp
      obtain ⟨b', o', rfl, hbb', hc1', hc2'⟩ := recs_el H'.out hp
      have hw1 : wr.cell? ⟨b, o + k * 2, none⟩ = some (.int .i64 p.1) := (HB.out.cell (p := ⟨b, o + k * 2, none⟩) hbb).trans hc1
      have hw2 : wr.cell? ⟨b, o + k * 2 + 1, none⟩ = some (.int .i64 p.2) := (HB.out.cell (p := ⟨b, o + k * 2 + 1, none⟩) hbb).trans hc2
      have hw3 : wr.cell? ⟨b', o' + k * 2, none⟩ = some (.int .i64 p.1) := (HB.out.cell (p := ⟨b', o' + k * 2, none⟩) hbb').trans hc1'
      have hw4 : wr.cell? ⟨b', o' + k * 2 + 1, none⟩ = some (.int .i64 p.2) := (HB.out.cell (p := ⟨b', o' + k * 2 + 1, none⟩) hbb').trans hc2'
      clear hc1 hc2 hc1' hc2' hp
      go_wp2_with fail
      go_region_with (go_at_call 106; refine (eqRecord_yes p.1 p.2 _).mono ?_; rintro e w2 ⟨rfl, hb2⟩)
      all_goals
        have HB2 : Hid (Below w.heap.size w w2) := Lib.hid ((HB.out.trans ((show Below wr.heap.size wr wr.drew from ⟨rfl, rfl, rfl, Nat.le_refl _, fun _ _ => rfl⟩).mono HB.out.size)).trans (hb2.mono HB.out.size))
        clear hb2
        go_wp2
        go_roundw
        case rel => exact ⟨k + 1, by omega, by go_num, HB2.out⟩
        case measure => simp [intOf]; omega
    · obtain rfl : k = l.length := by omega
      go_wp2
      go_ret
      exact ⟨rfl, HB.out⟩

end Go.Proofs.Ytebipiehkmhaiaa
