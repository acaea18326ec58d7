/- The laws' small helpers over lists of numbers (toIntS, eqIntS, markIntS, heldIntS), by their contracts. -/
import Derived.Test.YthmcjmjkmmbepaaInts
import Derived.Deep.RegionWith
namespace Go.Proofs.Ythmcjmjkmmbepaa
open Go.RowKit

set_option maxRecDepth 100000 in
theorem eqIntS_yes (v v' : Value) (l : List Int) (w : World) (hv : FlatAt w v l.length (ints l)) (hv' : FlatAt w v' l.length (ints l)) (hn : l.length ≤ 1048576) :
    Calls Try.prog 35 #[v, v'] w fun e w' => e = .returned (.bool true) ∧ Below w.heap.size w w' := by
  obtain ⟨a, c, rfl, _, h⟩ := hv
  obtain ⟨a', c', rfl, _, h'⟩ := hv'
  have H := Lib.hid h
  have H' := Lib.hid h'
  clear h h'
  go_enter Try.func35, Try.ntmps35
  go_wp2
  go_loopw [5] (fun i wr => ∃ k m : Nat, k ≤ l.length ∧ i = .int .i64 k ∧ wr = w.drewN m) (fun i _ => l.length - (intOf i).toNat)
  case atStart => exact ⟨0, 0, Nat.zero_le _, rfl, rfl⟩
  case round =>
    obtain ⟨k, m, hk, rfl, rfl⟩ := hrel
    by_cases hlt : k < l.length
    · obtain ⟨p, hp⟩ : ∃ p, l[k]? = some p := ⟨_, List.getElem?_eq_getElem hlt⟩
      obtain ⟨b, o, rfl, hbb, hc1⟩ := H.out _ _ (ints_at hp)
      obtain ⟨b', o', rfl, hbb', hc1'⟩ := H'.out _ _ (ints_at hp)
      clear hp
      go_wp2
      go_quiet (fail)
      go_wp2
      go_roundw
      case rel => exact ⟨k + 1, _, by omega, by go_num, rfl⟩
      case measure => simp [intOf]; omega
    · obtain rfl : k = l.length := by omega
      go_wp2
      go_ret
      exact ⟨rfl, ⟨rfl, rfl, rfl, Nat.le_refl _, fun _ _ => rfl⟩⟩

end Go.Proofs.Ythmcjmjkmmbepaa
