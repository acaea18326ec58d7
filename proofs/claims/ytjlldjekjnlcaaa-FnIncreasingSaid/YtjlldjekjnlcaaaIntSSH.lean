/- heldIntSS over marks. (nestgen.py) -/
import Derived.Test.YtjlldjekjnlcaaaNest
import Derived.Test.YtjlldjekjnlcaaaIntSH
import Derived.Deep.RegionWith
namespace Go.Proofs.Ytjlldjekjnlcaaa
open Go.RowKit

set_option maxRecDepth 100000 in
set_option maxHeartbeats 1000000 in
theorem heldIntSS_any (g lo hi c : Nat) (M : List (List Int)) (G C : Nat → Nat) (m : Nat) (w : World) (hr : Nest w g lo hi ((marked imarks M m M.length).map ints) G C) (hn : M.length ≤ 1048576) (ht : offs M M.length ≤ 1048576) (hm : m ≤ 10000000) :
    Calls Try.prog 48 #[.slice (some ⟨g, 0, none⟩) M.length c, .int .i64 (m : Int)] w fun e w' => e = .returned (.int .i64 ((m + offs M M.length : Nat) : Int)) ∧ Below w.heap.size w w' := by
  have HR := Lib.hid hr
  clear hr
  have hall := offs_le M
  go_enter Try.func48, Try.ntmps48
  go_wp2
  go_loopw [1, 5] (fun q i wr => ∃ k : Nat, k ≤ M.length ∧ i = .int .i64 k ∧ q = .int .i64 ((m + offs M k : Nat) : Int) ∧ Below w.heap.size w wr) (fun _ i _ => M.length - (intOf i).toNat)
  case atStart => exact ⟨0, Nat.zero_le _, rfl, rfl, Below.refl _ _⟩
  case round =>
    obtain ⟨k, hk, rfl, rfl, hb⟩ := hrel
    have HB := Lib.hid hb
    clear hb
    by_cases hlt : k < M.length
    · obtain ⟨x, hx⟩ : ∃ x, M[k]? = some x := ⟨_, List.getElem?_eq_getElem hlt⟩
      have hcs : ((marked imarks M m M.length).map ints)[k]? = some (ints (imarks (m + offs M k) x.length)) := by rw [List.getElem?_map, marked_old hx hlt]; rfl
      have HRB := HR.out.below HB.out HR.out.top
      obtain ⟨q1, q2, q3, q4, q5⟩ := HRB.inner k _ hcs
      have hc1 := (HRB.row.2 k _ (sliceRow_at hcs)).1
      rw [ints_length, imarks_length] at hc1
      have hs := offs_succ hx
      have h1 := hall k
      have h2 := hall (k + 1)
      have HM := Lib.hid (heldIntS_any (G k) (C k) x.length (m + offs M k) wr q5 (by omega) (by omega))
      have HS : Hid (m + offs M (k + 1) = m + offs M k + x.length) := Lib.hid (by omega)
      clear hx hcs hs q5 hall h2 HRB
      go_wp2_with fail
      refine HM.out.mono ?_
      rintro e w1 ⟨rfl, hb1⟩
      have HB2 := Lib.hid (HB.out.trans (hb1.mono HB.out.size))
      clear hb1 HB HM
      go_wp2_with fail
      go_roundw
      case rel => exact ⟨k + 1, by omega, by go_num, by rw [HS.out]; go_num, HB2.out⟩
      case measure => simp [intOf]; omega
    · obtain rfl : k = M.length := by omega
      go_wp2
      go_ret
      exact ⟨rfl, HB.out⟩

end Go.Proofs.Ytjlldjekjnlcaaa
