/- The model's FormatSpecs, by its contract. -/
import Derived.Test.YtcbeoihgaccjcaaDoorText
import Derived.OwnWalk
namespace Go.Proofs.YtcbeoihgaccjcaaDoor
open Go.RowKit

/-- What FormatSpecs hands back. -/
def fmtSVal (l : List (Int × Bool × Bool × Bool)) : Value := if OkS l then .tuple #[.string ⟨(specText l).toArray⟩, .bool true] else .tuple #[.string ⟨#[]⟩, .bool false]

theorem specFmtS_any (v : Value) (l : List (Int × Bool × Bool × Bool)) (w : World) (hv : FlatAt w v l.length (keys l)) (hn : l.length ≤ 1048576) :
    Calls Tryd.prog 9 #[v] w fun e w' => e = .returned (fmtSVal l) ∧ Below w.heap.size w w' := by
  have HV := Lib.hid hv
  clear hv
  have HC := Lib.hid (fun W (h : FlatAt W v l.length (keys l)) => l2Specs_any v l W h hn)
  by_cases hok : OkS l
  · have hval : fmtSVal l = .tuple #[.string ⟨(specText l).toArray⟩, .bool true] := by unfold fmtSVal; rw [if_pos hok]
    rw [decide_eq_true hok] at HC
    have HT := Lib.hid (fun W (h : FlatAt W v l.length (keys l)) => l2Text_any v l W h (by have := hok.1.2; omega) hok.2)
    rw [hval]
    clear hok hval
    go_enter Tryd.func9, Tryd.ntmps9
    go_wp2_with fail
    refine (HC.out _ HV.out).mono ?_
    rintro e w1 ⟨rfl, hb⟩
    have HV1 := Lib.hid (HV.out.below hb)
    have HB1 := Lib.hid hb
    clear hb
    go_wp2_with fail
    refine (HT.out _ HV1.out).mono ?_
    rintro e w2 ⟨rfl, hb⟩
    have HB2 := Lib.hid (HB1.out.trans (hb.mono HB1.out.size))
    clear hb
    go_wp2_with fail
    go_ret2
    exact ⟨rfl, HB2.out⟩
  · have hval : fmtSVal l = .tuple #[.string ⟨#[]⟩, .bool false] := by unfold fmtSVal; rw [if_neg hok]
    rw [decide_eq_false hok] at HC
    rw [hval]
    clear hok hval
    go_enter Tryd.func9, Tryd.ntmps9
    go_wp2_with fail
    refine (HC.out _ HV.out).mono ?_
    rintro e w1 ⟨rfl, hb⟩
    have HB1 := Lib.hid hb
    clear hb
    go_wp2_with fail
    go_ret2
    exact ⟨rfl, HB1.out⟩

end Go.Proofs.YtcbeoihgaccjcaaDoor
