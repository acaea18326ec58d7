/- The laws' marks of a tree of sums (markFenwick, heldFenwick), by their contracts. -/
import Derived.Test.YtgfdpjmhdijdiaaFen
import Derived.Test.YtgfdpjmhdijdiaaIntSM
import Derived.Test.YtgfdpjmhdijdiaaIntSH
import Derived.Test.YtgfdpjmhdijdiaaMarkZ
namespace Go.Proofs.Ytgfdpjmhdijdiaa
open Go.RowKit
set_option linter.unusedVariables false

set_option maxRecDepth 100000 in
theorem markFenwick_any (g c : Nat) (l : List Int) (m : Nat) (w : World) (hr : CellRow w g (ints l)) (hn : l.length ≤ 1048576) (hm : m ≤ 100000000) :
    Calls Try.prog 58 #[.agg #[.slice (some ⟨g, 0, none⟩) l.length c], .int .i64 (m : Int)] w fun e w' => e = .returned (.int .i64 ((m + l.length : Nat) : Int)) ∧ CellRow w' g (ints (imarks m l.length)) ∧ But g w w' := by
  obtain ⟨W, hW, hx, hz, hb⟩ := box1 w 53 (.slice (some ⟨g, 0, none⟩) l.length c)
  have HR := Lib.hid (hr.below hb hr.1)
  have HB : Hid (But g w W) := Lib.hid (by rw [hW]; exact But.alloc g w _)
  have hc0 := hx.cell
  clear hr hb hx
  go_enter Try.func58, Try.ntmps58
  go_wp2_with fail
  rw [← hW]
  refine (markIntS_any g c l m W HR.out hn hm).mono ?_
  rintro e w1 ⟨rfl, hr1, hb1⟩
  have HR1 := Lib.hid hr1
  have HB1 := Lib.hid (HB.out.trans hb1)
  clear hr1 hb1
  go_wp2_with fail
  go_ret
  exact ⟨rfl, HR1.out, HB1.out⟩

set_option maxRecDepth 100000 in
theorem heldFenwick_any (g c n : Nat) (m : Nat) (w : World) (hr : CellRow w g (ints (imarks m n))) (hn : n ≤ 1048576) (hm : m ≤ 100000000) :
    Calls Try.prog 59 #[.agg #[.slice (some ⟨g, 0, none⟩) n c], .int .i64 (m : Int)] w fun e w' => e = .returned (.int .i64 ((m + n : Nat) : Int)) ∧ Below w.heap.size w w' := by
  obtain ⟨W, hW, hx, hz, hb⟩ := box1 w 53 (.slice (some ⟨g, 0, none⟩) n c)
  have HR := Lib.hid (hr.below hb hr.1)
  have HB := Lib.hid hb
  have hc0 := hx.cell
  have hd : ¬ ((m + n : Nat) : Int) < 0 := by omega
  clear hr hb hx
  go_enter Try.func59, Try.ntmps59
  go_wp2_with fail
  rw [← hW]
  refine (heldIntS_any g c n m W HR.out hn hm).mono ?_
  rintro e w1 ⟨rfl, hb1⟩
  have HB1 := Lib.hid (HB.out.trans (hb1.mono (by omega)))
  clear hb1
  go_wp2_with fail
  go_ret
  exact ⟨rfl, HB1.out⟩

theorem mark0Fenwick_any (a : Option Addr) (c : Nat) (w : World) :
    Calls Try.prog 58 #[.agg #[.slice a 0 c], .int .i64 1] w fun e w' => e = .returned (.int .i64 1) ∧ Below w.heap.size w w' := by
  obtain ⟨W, hW, hx, hz, hb⟩ := box1 w 53 (.slice a 0 c)
  have HB := Lib.hid hb
  have hc0 := hx.cell
  clear hb hx
  go_enter Try.func58, Try.ntmps58
  go_wp2_with fail
  rw [← hW]
  refine (mark0_any a c W).mono ?_
  rintro e w1 ⟨rfl, hb1⟩
  have HB1 := Lib.hid (HB.out.trans (hb1.mono (by omega)))
  clear hb1
  go_wp2_with fail
  go_ret
  exact ⟨rfl, HB1.out⟩
theorem held0Fenwick_any (a : Option Addr) (c : Nat) (w : World) :
    Calls Try.prog 59 #[.agg #[.slice a 0 c], .int .i64 1] w fun e w' => e = .returned (.int .i64 1) ∧ Below w.heap.size w w' := by
  obtain ⟨W, hW, hx, hz, hb⟩ := box1 w 53 (.slice a 0 c)
  have HB := Lib.hid hb
  have hc0 := hx.cell
  clear hb hx
  go_enter Try.func59, Try.ntmps59
  go_wp2_with fail
  rw [← hW]
  refine (held0_any a c W).mono ?_
  rintro e w1 ⟨rfl, hb1⟩
  have HB1 := Lib.hid (HB.out.trans (hb1.mono (by omega)))
  clear hb1
  go_wp2_with fail
  go_ret
  exact ⟨rfl, HB1.out⟩

end Go.Proofs.Ytgfdpjmhdijdiaa
