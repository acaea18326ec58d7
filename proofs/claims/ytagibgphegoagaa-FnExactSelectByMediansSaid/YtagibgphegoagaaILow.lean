/- The program's lower median, by its contract. -/
import Derived.Test.YtagibgphegoagaaIKth
namespace Go.Proofs.Ytagibgphegoagaa
open Go.RowKit P El Qk Sl
set_option linter.unusedVariables false

set_option maxRecDepth 100000 in
set_option maxHeartbeats 400000 in
theorem lowerMedian_any (a : Option Addr) (c : Nat) (l : List Int) (w : World) (hv : FlatAt w (.slice a l.length c) l.length (ints l)) (hok : OkL l) (h0 : 0 < l.length) :
    Calls Try.prog 152 #[.slice a l.length c] w fun e w' => e = .returned (.int .i64 (lmed l)) ∧ Below w.heap.size w w' := by
  obtain ⟨m, hm⟩ : ∃ m, m = (l.length - 1) / 2 := ⟨_, rfl⟩
  obtain ⟨n, hn⟩ : ∃ n, n = l.length - 1 := ⟨_, rfl⟩
  have h64 := hok.1
  have HK := Lib.hid (implKth_any a c l (m : Int) w hv (by omega))
  have e0 : kthAll l (m : Int) = (lmed l, true) := by rw [kthAll_yes hok (by omega)]; unfold lmed; rw [hm]
  rw [e0] at HK
  have hw1 : IntKind.i64.wrap ((l.length : Int) - 1) = (n : Int) := by rw [IntKind.wrap_i64]; omega
  have hw2 : (n : Int) / 2 = (m : Int) := by omega
  have hwm : IntKind.i64.wrap (m : Int) = (m : Int) := by rw [IntKind.wrap_i64]; omega
  clear hv hok e0 hm hn h64
  go_enter Try.func152, Try.ntmps152
  go_wp2_with fail
  refine HK.out.mono ?_
  rintro e w1 ⟨rfl, hb1⟩
  have HB1 := Lib.hid hb1
  clear hb1 HK
  go_wp2_with fail
  go_ret
  exact ⟨rfl, HB1.out⟩

end Go.Proofs.Ytagibgphegoagaa
