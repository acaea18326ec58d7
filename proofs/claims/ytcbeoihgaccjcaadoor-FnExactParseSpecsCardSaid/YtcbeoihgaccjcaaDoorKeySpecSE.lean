/- The laws' small helpers over lists of KeySpec, by their contracts. (flatgen.py) -/
import Derived.Test.YtcbeoihgaccjcaaDoorKeySpecs
import Derived.Deep.RegionWith
namespace Go.Proofs.YtcbeoihgaccjcaaDoor
open Go.RowKit

theorem eqKeySpec_yes (x0 : Int) (x1 : Bool) (x2 : Bool) (x3 : Bool) (w : World) :
    Calls Tryd.prog 31 #[.agg #[Value.int .i64 x0, Value.bool x1, Value.bool x2, Value.bool x3], .agg #[Value.int .i64 x0, Value.bool x1, Value.bool x2, Value.bool x3]] w fun e w' => e = .returned (.bool true) ∧ Below w.heap.size w w' := by
  have hb : Below w.heap.size w ((w.alloc (.cells #[Value.int .i64 x0, Value.bool x1, Value.bool x2, Value.bool x3] 32)).alloc (.cells #[Value.int .i64 x0, Value.bool x1, Value.bool x2, Value.bool x3] 32)) :=
    ((Below.refl _ w).alloc (Nat.le_refl _) _).alloc (by simp) _
  have HB := Lib.hid hb
  clear hb
  go_enter Tryd.func31, Tryd.ntmps31
  go_wp2
  go_ret
  exact ⟨rfl, HB.out⟩

set_option maxRecDepth 100000 in
set_option maxHeartbeats 1000000 in
theorem eqKeySpecS_yes (v v' : Value) (l : List (Int × Bool × Bool × Bool)) (w : World) (hv : FlatAt w v l.length (keys l)) (hv' : FlatAt w v' l.length (keys l)) (hn : l.length ≤ 1048576) :
    Calls Tryd.prog 15 #[v, v'] w fun e w' => e = .returned (.bool true) ∧ Below w.heap.size w w' := by
  obtain ⟨a, c, rfl, _, h⟩ := hv
  obtain ⟨a', c', rfl, _, h'⟩ := hv'
  have H := Lib.hid h
  have H' := Lib.hid h'
  clear h h'
  go_enter Tryd.func15, Tryd.ntmps15
  go_wp2
  go_loopw [5] (fun i wr => ∃ k : Nat, k ≤ l.length ∧ i = .int .i64 k ∧ Below w.heap.size w wr) (fun i _ => l.length - (intOf i).toNat)
  case atStart => exact ⟨0, Nat.zero_le _, rfl, Below.refl _ _⟩
  case round =>
    obtain ⟨k, hk, rfl, hb⟩ := hrel
    have HB := Lib.hid hb
    clear hb
    by_cases hlt : k < l.length
    · obtain ⟨p, hp⟩ : ∃ p, l[k]? = some p := ⟨_, List.getElem?_eq_getElem hlt⟩
      obtain ⟨b, o, rfl, hbb, hc0, hc1, hc2, hc3⟩ := keys_el H.out hp
      obtain ⟨b', o', rfl, hbb', hd0, hd1, hd2, hd3⟩ := keys_el H'.out hp
      have hw0 : wr.cell? ⟨b, o + k * 4, none⟩ = some (Value.int .i64 p.1) := (HB.out.cell (p := ⟨b, o + k * 4, none⟩) hbb).trans hc0
      have hw1 : wr.cell? ⟨b, o + k * 4 + 1, none⟩ = some (Value.bool p.2.1) := (HB.out.cell (p := ⟨b, o + k * 4 + 1, none⟩) hbb).trans hc1
      have hw2 : wr.cell? ⟨b, o + k * 4 + 2, none⟩ = some (Value.bool p.2.2.1) := (HB.out.cell (p := ⟨b, o + k * 4 + 2, none⟩) hbb).trans hc2
      have hw3 : wr.cell? ⟨b, o + k * 4 + 3, none⟩ = some (Value.bool p.2.2.2) := (HB.out.cell (p := ⟨b, o + k * 4 + 3, none⟩) hbb).trans hc3
      have hv0 : wr.cell? ⟨b', o' + k * 4, none⟩ = some (Value.int .i64 p.1) := (HB.out.cell (p := ⟨b', o' + k * 4, none⟩) hbb').trans hd0
      have hv1 : wr.cell? ⟨b', o' + k * 4 + 1, none⟩ = some (Value.bool p.2.1) := (HB.out.cell (p := ⟨b', o' + k * 4 + 1, none⟩) hbb').trans hd1
      have hv2 : wr.cell? ⟨b', o' + k * 4 + 2, none⟩ = some (Value.bool p.2.2.1) := (HB.out.cell (p := ⟨b', o' + k * 4 + 2, none⟩) hbb').trans hd2
      have hv3 : wr.cell? ⟨b', o' + k * 4 + 3, none⟩ = some (Value.bool p.2.2.2) := (HB.out.cell (p := ⟨b', o' + k * 4 + 3, none⟩) hbb').trans hd3
      clear hc0 hc1 hc2 hc3 hd0 hd1 hd2 hd3 hp
      go_wp2_with fail
      go_region_with (go_at_call 31; refine (eqKeySpec_yes p.1 p.2.1 p.2.2.1 p.2.2.2 _).mono ?_; rintro e w2 ⟨rfl, hb2⟩)
      all_goals
        have HB2 : Hid (Below w.heap.size w w2) := Lib.hid ((HB.out.trans ((show Below wr.heap.size wr wr.drew from ⟨rfl, rfl, rfl, Nat.le_refl _, fun _ _ => rfl⟩).mono HB.out.size)).trans (hb2.mono HB.out.size))
        clear hb2
        go_wp2
        go_roundw
        case rel => exact ⟨k + 1, by omega, by go_num, HB2.out⟩
        case measure => simp [intOf]; omega
    · obtain rfl : k = l.length := by omega
      go_wp2
      go_ret
      exact ⟨rfl, HB.out⟩

end Go.Proofs.YtcbeoihgaccjcaaDoor
