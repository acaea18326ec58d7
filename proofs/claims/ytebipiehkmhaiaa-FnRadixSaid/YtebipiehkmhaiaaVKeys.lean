/- vKeys of the laws: a valid list of records, by its contract. -/
import Derived.Test.YtebipiehkmhaiaaVRec
import Derived.Test.YtebipiehkmhaiaaOkR
namespace Go.Proofs.Ytebipiehkmhaiaa
open Go.RowKit
set_option linter.unusedVariables false

theorem specValidRecs2_any (v : Value) (l : List (Int × Int)) (w : World) (hv : FlatAt w v l.length (recs l)) (hn : l.length ≤ 1048576) :
    Calls Try.prog 71 #[v] w fun e w' => e = .returned (.bool (decide (OkR l))) ∧ Below w.heap.size w w' := by
  have HV := Lib.hid (l2Records_any v l w hv hn)
  obtain ⟨a, c, rfl, _, _⟩ := hv
  go_enter Try.func71, Try.ntmps71
  go_wp2_with fail
  refine HV.out.mono ?_
  rintro e w1 ⟨rfl, hb⟩
  have HB := Lib.hid hb
  clear hb
  go_wp2_with fail
  go_ret
  exact ⟨rfl, HB.out⟩

/-- A valid list of records in a new row. -/
def OneK (w : World) (e : Ending) (w' : World) : Prop :=
  ∃ (g1 c1 : Nat) (L1 : List (Int × Int)), OkR L1 ∧ e = .returned (.slice (some ⟨g1, 0, none⟩) L1.length c1) ∧ L1.length ≤ c1 ∧ CellRow w' g1 (recs L1) ∧ Below w.heap.size w w'

set_option maxRecDepth 100000 in
theorem vKeys_any (a : Option Addr) (len cap : Nat) (w : World) (h : Code0 w a len) :
    Calls Try.prog 23 #[.slice a len cap] w (OneK w) := by
  have HDR := Lib.hid (drawStable_any a len cap w h)
  clear h
  go_enter Try.func23, Try.ntmps23
  go_wp2_with fail
  refine HDR.out.mono ?_
  rintro e w1 hdr
  obtain ⟨g, c, L, hl, rfl, hc, hrow, hb⟩ := OneR.of hdr
  have HI := Lib.hid (specValidRecs2_any (.slice (some ⟨g, 0, none⟩) L.length c) L w1 (hrow.flat hc) (by omega))
  have HR := Lib.hid hrow
  have HB := Lib.hid hb
  have HC := Lib.hid hc
  clear hrow hb HDR hc hdr
  by_cases hok : OkR L
  · rw [decide_eq_true hok] at HI
    have HOK := Lib.hid hok
    clear hok
    go_wp2_with fail
    refine HI.out.mono ?_
    rintro e w2 ⟨rfl, hb2⟩
    have HRES : Hid (OneK w (.returned (.slice (some ⟨g, 0, none⟩) L.length c)) w2) := Lib.hid ⟨g, c, L, HOK.out, rfl, HC.out, HR.out.below hb2 HR.out.1, HB.out.trans (hb2.mono HB.out.size)⟩
    clear hb2 HI HR HB
    go_wp2_with fail
    go_ret
    exact HRES.out
  · rw [decide_eq_false hok] at HI
    clear hok
    go_wp2_with fail
    refine HI.out.mono ?_
    rintro e w2 ⟨rfl, hb2⟩
    have hbb := HB.out.trans (hb2.mono HB.out.size)
    have HRES : Hid (OneK w (.returned (.slice (some ⟨w2.heap.size, 0, none⟩) 3 3)) (w2.alloc (.cells #[.int .i64 2, .int .i64 0, .int .i64 1, .int .i64 1, .int .i64 2, .int .i64 2] 45))) := Lib.hid
      ⟨w2.heap.size, 3, [(2, 0), (1, 1), (2, 2)], ⟨by decide, by decide⟩, rfl, Nat.le_refl _, CellRow.of_row (heap_alloc_new w2 _), hbb.alloc hbb.size _⟩
    clear hb2 HI HR HB hbb
    go_wp2_with fail
    go_ret
    exact HRES.out

end Go.Proofs.Ytebipiehkmhaiaa
