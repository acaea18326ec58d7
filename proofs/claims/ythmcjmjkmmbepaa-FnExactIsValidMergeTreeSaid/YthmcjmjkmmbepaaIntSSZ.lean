/- The laws' small helpers over slices of slices of int, by their contracts. (nestgen.py) -/
import Derived.Test.YthmcjmjkmmbepaaNest
import Derived.Test.YthmcjmjkmmbepaaInts
import Derived.Deep.RegionWith
namespace Go.Proofs.Ythmcjmjkmmbepaa
open Go.RowKit

theorem szIntS_yes (a : Option Addr) (n c left : Nat) (w : World) (h : n ≤ left) (hL : left ≤ 1048576) :
    Calls Try.prog 105 #[.slice a n c, .int .i64 (left : Int)] w fun e w' => e = .returned (.int .i64 ((left : Int) - n)) ∧ w' = w := by
  go_enter Try.func105, Try.ntmps105
  go_wp2
  go_ret
  exact ⟨rfl, rfl⟩

theorem szIntS_no (a : Option Addr) (n c left : Nat) (w : World) (h : left < n) (hL : left ≤ 1048576) (hn : n ≤ maxLen) :
    Calls Try.prog 105 #[.slice a n c, .int .i64 (left : Int)] w fun e w' => e = .returned (.int .i64 (-1)) ∧ w' = w := by
  unfold maxLen at hn
  go_enter Try.func105, Try.ntmps105
  go_wp2
  go_ret
  exact ⟨rfl, rfl⟩

set_option maxRecDepth 100000 in
set_option maxHeartbeats 1000000 in
theorem szIntSS_yes (v : Value) (ls : List (List Value)) (left : Nat) (w : World) (hv : RowsAt w v ls) (hl : ls.length + total2 ls ≤ left) (hL : left ≤ 1048576) :
    Calls Try.prog 68 #[v, .int .i64 (left : Int)] w fun e w' => e = .returned (.int .i64 ((left : Int) - ls.length - total2 ls)) ∧ w = w' := by
  obtain ⟨a, c, rfl, _, h⟩ := hv
  have H := Lib.hid h
  clear h
  have hn : ls.length ≤ 1048576 := by omega
  go_enter Try.func68, Try.ntmps68
  go_wp2
  go_loop [1, 5] (fun l i => ∃ k : Nat, k ≤ ls.length ∧ i = .int .i64 k ∧ l = .int .i64 ((left : Int) - ls.length - total2 (ls.take k))) (fun _ i => ls.length - (intOf i).toNat)
  case atStart => exact ⟨0, Nat.zero_le _, rfl, by simp [total2]⟩
  case round =>
    obtain ⟨k, hk, rfl, rfl⟩ := hrel
    by_cases hlt : k < ls.length
    · obtain ⟨x, hx⟩ : ∃ x, ls[k]? = some x := ⟨_, List.getElem?_eq_getElem hlt⟩
      obtain ⟨b, o, u, rfl, hb, hc, hu⟩ := H.out k x hx
      obtain ⟨a', c', rfl, hu1, hu2⟩ := hu
      have hs := total2_succ hx
      have ht := total2_take ls (k + 1)
      obtain ⟨q, hq⟩ : ∃ q : Nat, ((left : Int) - ls.length - total2 (ls.take k)) = q := ⟨left - ls.length - total2 (ls.take k), by omega⟩
      have HS : Hid (((left : Int) - ls.length - total2 (ls.take (k + 1))) = (q : Int) - x.length) := Lib.hid (by omega)
      have HZ := Lib.hid (szIntS_yes a' x.length c' q w (by omega) (by omega))
      have h1 : (x.length : Int) ≤ q := by omega
      clear hs ht hx hu1 hu2
      rw [hq]
      clear hq
      go_wp2_with fail
      refine HZ.out.mono ?_
      rintro e w1 ⟨rfl, rfl⟩
      go_wp2_with fail
      go_round
      case rel => exact ⟨k + 1, by omega, by go_num, by rw [HS.out]⟩
      case measure => simp [intOf]; omega
    · obtain rfl : k = ls.length := by omega
      go_wp2
      go_ret
      exact ⟨rfl, rfl⟩

set_option maxRecDepth 100000 in
set_option maxHeartbeats 1000000 in
theorem szIntSS_no (v : Value) (ls : List (List Value)) (left : Nat) (w : World) (hv : RowsAt w v ls) (hl : left < ls.length + total2 ls) (hL : left ≤ 1048576) (hn : ls.length ≤ maxLen) (hx : ∀ (j : Nat) x, ls[j]? = some x → x.length ≤ maxLen) :
    Calls Try.prog 68 #[v, .int .i64 (left : Int)] w fun e w' => e = .returned (.int .i64 (-1)) ∧ w = w' := by
  obtain ⟨a, c, rfl, _, h⟩ := hv
  have H := Lib.hid h
  have HX := Lib.hid hx
  clear h hx
  unfold maxLen at hn
  by_cases hb : left < ls.length
  · go_enter Try.func68, Try.ntmps68
    go_wp2
    go_ret
    exact ⟨rfl, rfl⟩
  · go_enter Try.func68, Try.ntmps68
    go_wp2
    go_loop [1, 5] (fun l i => ∃ k : Nat, k ≤ ls.length ∧ i = .int .i64 k ∧ l = .int .i64 ((left : Int) - ls.length - total2 (ls.take k)) ∧ ls.length + total2 (ls.take k) ≤ left) (fun _ i => ls.length - (intOf i).toNat)
    case atStart => exact ⟨0, Nat.zero_le _, rfl, by simp [total2], by simp [total2]; omega⟩
    case round =>
      obtain ⟨k, hk, rfl, rfl, hle⟩ := hrel
      by_cases hlt : k < ls.length
      · obtain ⟨x, hx⟩ : ∃ x, ls[k]? = some x := ⟨_, List.getElem?_eq_getElem hlt⟩
        obtain ⟨b, o, u, rfl, hb, hc, hu⟩ := H.out k x hx
        obtain ⟨a', c', rfl, hu1, hu2⟩ := hu
        have hs := total2_succ hx
        have hm := HX.out k x hx
        obtain ⟨q, hq⟩ : ∃ q : Nat, ((left : Int) - ls.length - total2 (ls.take k)) = q := ⟨left - ls.length - total2 (ls.take k), by omega⟩
        have HS : Hid (((left : Int) - ls.length - total2 (ls.take (k + 1))) = (q : Int) - x.length) := Lib.hid (by omega)
        by_cases hg : q < x.length
        · have HZ := Lib.hid (szIntS_no a' x.length c' q w hg (by omega) hm)
          clear hs hx hu1 hu2 hm hle
          rw [hq]
          clear hq
          go_wp2_with fail
          refine HZ.out.mono ?_
          rintro e w1 ⟨rfl, rfl⟩
          go_wp2_with fail
          go_ret
          exact ⟨rfl, rfl⟩
        · have HZ := Lib.hid (szIntS_yes a' x.length c' q w (by omega) (by omega))
          have HL : Hid (ls.length + total2 (ls.take (k + 1)) ≤ left) := Lib.hid (by omega)
          have h1 : (x.length : Int) ≤ q := by omega
          clear hs hx hu1 hu2 hm hle
          rw [hq]
          clear hq
          go_wp2_with fail
          refine HZ.out.mono ?_
          rintro e w1 ⟨rfl, rfl⟩
          go_wp2_with fail
          go_round
          case rel => exact ⟨k + 1, by omega, by go_num, by rw [HS.out], HL.out⟩
          case measure => simp [intOf]; omega
      · obtain rfl : k = ls.length := by omega
        rw [List.take_length] at hle
        omega

end Go.Proofs.Ythmcjmjkmmbepaa
