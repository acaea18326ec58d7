/- The laws' small helpers over trees of levels (eqMergeTree, markMergeTree, heldMergeTree), by their contracts. -/
import Derived.Test.YtgfdpjmhdijdiaaIntSSE
import Derived.Test.YtgfdpjmhdijdiaaIntSSM
import Derived.Test.YtgfdpjmhdijdiaaIntSSH
import Derived.Test.YtgfdpjmhdijdiaaFen
namespace Go.Proofs.Ytgfdpjmhdijdiaa
open Go.RowKit
set_option linter.unusedVariables false

theorem rowsAt_below {w w' : World} {v : Value} {ls : List (List Value)} (h : RowsAt w v ls) (hb : Below w.heap.size w w') : RowsAt w' v ls := h.below hb

set_option maxRecDepth 100000 in
theorem eqMergeTree_yes (v v' : Value) (M : List (List Int)) (w : World) (hv : RowsAt w v (M.map ints)) (hv' : RowsAt w v' (M.map ints)) (hn : M.length ≤ 1048576) (hx : ∀ (j : Nat) x, M[j]? = some x → x.length ≤ 1048576) :
    Calls Try.prog 66 #[.agg #[v], .agg #[v']] w fun e w' => e = .returned (.bool true) ∧ Below w.heap.size w w' := by
  obtain ⟨W, hW, h0, h1, hz, hb⟩ := box2 w 77 77 v v'
  have HE := Lib.hid (eqIntSS_yes v v' M W (rowsAt_below hv hb) (rowsAt_below hv' hb) hn hx)
  have HB := Lib.hid hb
  have hc0 := h0.cell
  have hc1 := h1.cell
  clear hv hv' hb h0 h1
  go_enter Try.func66, Try.ntmps66
  go_wp2_with fail
  rw [← hW]
  refine HE.out.mono ?_
  rintro e w1 ⟨rfl, hb1⟩
  have HB1 := Lib.hid (HB.out.trans (hb1.mono (by omega)))
  clear hb1
  go_wp2_with fail
  go_ret
  exact ⟨rfl, HB1.out⟩

set_option maxRecDepth 100000 in
theorem markMergeTree_any (g lo hi c : Nat) (M : List (List Int)) (G C : Nat → Nat) (m : Nat) (w : World) (hr : Nest w g lo hi (M.map ints) G C) (hn : M.length ≤ 1048576) (ht : offs M M.length ≤ 1048576) (hm : m ≤ 10000000) :
    Calls Try.prog 67 #[.agg #[.slice (some ⟨g, 0, none⟩) M.length c], .int .i64 (m : Int)] w fun e w' => e = .returned (.int .i64 ((m + offs M M.length : Nat) : Int)) ∧ Nest w' g lo hi ((marked imarks M m M.length).map ints) G C ∧ Within lo hi w w' := by
  obtain ⟨W, hW, hx, hz, hb⟩ := box1 w 77 (.slice (some ⟨g, 0, none⟩) M.length c)
  have HM := Lib.hid (markIntSS_any g lo hi c M G C m W (hr.below hb hr.top) hn ht hm)
  have HW : Hid (∀ w', Within lo hi W w' → Within lo hi w w') := Lib.hid (fun w' h => (Within.of_below hb).trans h)
  have hc0 := hx.cell
  clear hr hb hx
  go_enter Try.func67, Try.ntmps67
  go_wp2_with fail
  rw [← hW]
  refine HM.out.mono ?_
  rintro e w1 ⟨rfl, hr1, hb1⟩
  have HR1 := Lib.hid hr1
  have HB1 := Lib.hid (HW.out _ hb1)
  clear hr1 hb1
  go_wp2_with fail
  go_ret
  exact ⟨rfl, HR1.out, HB1.out⟩

set_option maxRecDepth 100000 in
theorem heldMergeTree_any (g lo hi c : Nat) (M : List (List Int)) (G C : Nat → Nat) (m : Nat) (w : World) (hr : Nest w g lo hi ((marked imarks M m M.length).map ints) G C) (hn : M.length ≤ 1048576) (ht : offs M M.length ≤ 1048576) (hm : m ≤ 10000000) :
    Calls Try.prog 68 #[.agg #[.slice (some ⟨g, 0, none⟩) M.length c], .int .i64 (m : Int)] w fun e w' => e = .returned (.int .i64 ((m + offs M M.length : Nat) : Int)) ∧ Below w.heap.size w w' := by
  obtain ⟨W, hW, hx, hz, hb⟩ := box1 w 77 (.slice (some ⟨g, 0, none⟩) M.length c)
  have HM := Lib.hid (heldIntSS_any g lo hi c M G C m W (hr.below hb hr.top) hn ht hm)
  have HB := Lib.hid hb
  have hc0 := hx.cell
  have hd : ¬ ((m + offs M M.length : Nat) : Int) < 0 := by omega
  clear hr hb hx
  go_enter Try.func68, Try.ntmps68
  go_wp2_with fail
  rw [← hW]
  refine HM.out.mono ?_
  rintro e w1 ⟨rfl, hb1⟩
  have HB1 := Lib.hid (HB.out.trans (hb1.mono (by omega)))
  clear hb1
  go_wp2_with fail
  go_ret
  exact ⟨rfl, HB1.out⟩

theorem rows0 (a : Option Addr) (c : Nat) (w : World) : RowsAt w (.slice a 0 c) (([] : List (List Int)).map ints) := ⟨a, c, rfl, Nat.zero_le _, fun j cs h => by simp at h⟩
theorem markSS0_any (a : Option Addr) (c : Nat) (w : World) :
    Calls Try.prog 67 #[.agg #[.slice a 0 c], .int .i64 1] w fun e w' => e = .returned (.int .i64 1) ∧ Below w.heap.size w w' := by
  obtain ⟨W, hW, hx, hz, hb⟩ := box1 w 77 (.slice a 0 c)
  have HM : Hid (Calls Try.prog 124 #[.slice a 0 c, .int .i64 1] W fun e w' => e = .returned (.int .i64 1) ∧ w' = W) := Lib.hid (by
    clear hW hx hz hb
    go_enter Try.func124, Try.ntmps124
    go_wp2
    go_loopw [1, 5] (fun q i wr => i = .int .i64 0 ∧ q = .int .i64 1 ∧ wr = W) (fun _ _ _ => 0)
    case atStart => exact ⟨rfl, rfl, rfl⟩
    case round =>
      obtain ⟨rfl, rfl, rfl⟩ := hrel
      go_wp2
      go_ret
      exact ⟨rfl, rfl⟩)
  have HB := Lib.hid hb
  have hc0 := hx.cell
  clear hb hx
  go_enter Try.func67, Try.ntmps67
  go_wp2_with fail
  rw [← hW]
  refine HM.out.mono ?_
  rintro e w1 ⟨rfl, rfl⟩
  go_wp2_with fail
  go_ret
  exact ⟨rfl, by first | exact HB.out | (rw [← hW]; exact HB.out)⟩
theorem heldSS0_any (a : Option Addr) (c : Nat) (w : World) :
    Calls Try.prog 68 #[.agg #[.slice a 0 c], .int .i64 1] w fun e w' => e = .returned (.int .i64 1) ∧ Below w.heap.size w w' := by
  obtain ⟨W, hW, hx, hz, hb⟩ := box1 w 77 (.slice a 0 c)
  have HM : Hid (Calls Try.prog 125 #[.slice a 0 c, .int .i64 1] W fun e w' => e = .returned (.int .i64 1) ∧ w' = W) := Lib.hid (by
    clear hW hx hz hb
    go_enter Try.func125, Try.ntmps125
    go_wp2
    go_loopw [1, 5] (fun q i wr => i = .int .i64 0 ∧ q = .int .i64 1 ∧ wr = W) (fun _ _ _ => 0)
    case atStart => exact ⟨rfl, rfl, rfl⟩
    case round =>
      obtain ⟨rfl, rfl, rfl⟩ := hrel
      go_wp2
      go_ret
      exact ⟨rfl, rfl⟩)
  have HB := Lib.hid hb
  have hc0 := hx.cell
  clear hb hx
  go_enter Try.func68, Try.ntmps68
  go_wp2_with fail
  rw [← hW]
  refine HM.out.mono ?_
  rintro e w1 ⟨rfl, rfl⟩
  go_wp2_with fail
  go_ret
  exact ⟨rfl, by first | exact HB.out | (rw [← hW]; exact HB.out)⟩

end Go.Proofs.Ytgfdpjmhdijdiaa
