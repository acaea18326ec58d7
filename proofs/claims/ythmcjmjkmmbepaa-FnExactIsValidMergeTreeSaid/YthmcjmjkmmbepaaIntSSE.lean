/- eqIntSS at equal slices. (nestgen.py) -/
import Derived.Test.YthmcjmjkmmbepaaNest
import Derived.Test.YthmcjmjkmmbepaaIntSE
import Derived.Deep.RegionWith
namespace Go.Proofs.Ythmcjmjkmmbepaa
open Go.RowKit

set_option maxRecDepth 100000 in
set_option maxHeartbeats 1000000 in
theorem eqIntSS_yes (v v' : Value) (M : List (List Int)) (w : World) (hv : RowsAt w v (M.map ints)) (hv' : RowsAt w v' (M.map ints)) (hn : M.length ≤ 1048576) (hx : ∀ (j : Nat) x, M[j]? = some x → x.length ≤ 1048576) :
    Calls Try.prog 74 #[v, v'] w fun e w' => e = .returned (.bool true) ∧ Below w.heap.size w w' := by
  obtain ⟨a, c, rfl, _, h⟩ := hv
  obtain ⟨a', c', rfl, _, h'⟩ := hv'
  have H := Lib.hid h
  have H' := Lib.hid h'
  have HX := Lib.hid hx
  have hlen : (M.map ints).length = M.length := by simp
  clear h h' hx
  rw [hlen]
  go_enter Try.func74, Try.ntmps74
  go_wp2
  go_loopw [5] (fun i wr => ∃ k : Nat, k ≤ M.length ∧ i = .int .i64 k ∧ Below w.heap.size w wr) (fun i _ => M.length - (intOf i).toNat)
  case atStart => exact ⟨0, Nat.zero_le _, rfl, Below.refl _ _⟩
  case round =>
    obtain ⟨k, hk, rfl, hb⟩ := hrel
    have HB := Lib.hid hb
    clear hb
    by_cases hlt : k < M.length
    · obtain ⟨x, hx⟩ : ∃ x, M[k]? = some x := ⟨_, List.getElem?_eq_getElem hlt⟩
      have hcs : (M.map ints)[k]? = some (ints x) := by rw [List.getElem?_map, hx]; rfl
      obtain ⟨b, o, u, rfl, hbb, hc, hu⟩ := H.out k _ hcs
      obtain ⟨b', o', u', rfl, hbb', hc', hu'⟩ := H'.out k _ hcs
      have hw1 : wr.cell? ⟨b, o + k, none⟩ = some u := (HB.out.cell (p := ⟨b, o + k, none⟩) hbb).trans hc
      have hw2 : wr.cell? ⟨b', o' + k, none⟩ = some u' := (HB.out.cell (p := ⟨b', o' + k, none⟩) hbb').trans hc'
      have HD : Hid (∀ n, Below w.heap.size w (wr.drewN n)) := Lib.hid fun n => HB.out.trans (show Below w.heap.size wr (wr.drewN n) from ⟨rfl, rfl, rfl, Nat.le_refl _, fun _ _ => rfl⟩)
      have HU := Lib.hid (fun W (h : Below w.heap.size w W) => hu.below h)
      have HU' := Lib.hid (fun W (h : Below w.heap.size w W) => hu'.below h)
      rw [ints_length] at HU HU'
      have HXX := Lib.hid (HX.out k x hx)
      clear hc hc' hx hcs hu hu'
      go_wp2_with fail
      go_region_with (go_at_call 35; refine (eqIntS_yes u u' x _ (HU.out _ (HD.out 1)) (HU'.out _ (HD.out 1)) HXX.out).mono ?_; rintro e w2 ⟨rfl, hb2⟩)
      all_goals
        have HB2 : Hid (Below w.heap.size w w2) := Lib.hid ((HD.out 1).trans (hb2.mono (HD.out 1).size))
        clear hb2
        go_wp2
        go_roundw
        case rel => exact ⟨k + 1, by omega, by go_num, HB2.out⟩
        case measure => simp [intOf]; omega
    · obtain rfl : k = M.length := by omega
      go_wp2
      go_ret
      exact ⟨rfl, HB.out⟩

end Go.Proofs.Ythmcjmjkmmbepaa
