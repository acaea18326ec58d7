/- markIntSS: only its blocks move. (nestgen.py) -/
import Derived.Test.YtjlldjekjnlcaaaNest
import Derived.Test.YtjlldjekjnlcaaaIntSM
import Derived.Deep.RegionWith
namespace Go.Proofs.Ytjlldjekjnlcaaa
open Go.RowKit

set_option maxRecDepth 100000 in
set_option maxHeartbeats 1000000 in
theorem markIntSS_any (g lo hi c : Nat) (M : List (List Int)) (G C : Nat → Nat) (m : Nat) (w : World) (hr : Nest w g lo hi (M.map ints) G C) (hn : M.length ≤ 1048576) (ht : offs M M.length ≤ 1048576) (hm : m ≤ 10000000) :
    Calls Try.prog 47 #[.slice (some ⟨g, 0, none⟩) M.length c, .int .i64 (m : Int)] w fun e w' => e = .returned (.int .i64 ((m + offs M M.length : Nat) : Int)) ∧ Nest w' g lo hi ((marked imarks M m M.length).map ints) G C ∧ Within lo hi w w' := by
  have HR := Lib.hid hr
  clear hr
  have hall := offs_le M
  go_enter Try.func47, Try.ntmps47
  go_wp2
  go_loopw [1, 5] (fun q i wr => ∃ k : Nat, k ≤ M.length ∧ i = .int .i64 k ∧ q = .int .i64 ((m + offs M k : Nat) : Int) ∧ Nest wr g lo hi ((marked imarks M m k).map ints) G C ∧ Within lo hi w wr) (fun _ i _ => M.length - (intOf i).toNat)
  case atStart => exact ⟨0, Nat.zero_le _, rfl, rfl, by rw [marked_zero]; exact HR.out, Within.refl _ _ _⟩
  case round =>
    obtain ⟨k, hk, rfl, rfl, hr, hb⟩ := hrel
    have HR := Lib.hid hr
    have HB := Lib.hid hb
    clear hr hb
    by_cases hlt : k < M.length
    · obtain ⟨x, hx⟩ : ∃ x, M[k]? = some x := ⟨_, List.getElem?_eq_getElem hlt⟩
      have hcs : ((marked imarks M m k).map ints)[k]? = some (ints x) := by rw [List.getElem?_map, marked_new hx]; rfl
      obtain ⟨q1, q2, q3, q4, q5⟩ := HR.out.inner k _ hcs
      have hc1 := (HR.out.row.2 k _ (sliceRow_at hcs)).1
      rw [ints_length] at hc1
      have hs := offs_succ hx
      have h1 := hall k
      have h2 := hall (k + 1)
      have HM := Lib.hid (markIntS_any (G k) (C k) x (m + offs M k) wr q5 (by omega) (by omega))
      have HS : Hid (m + offs M (k + 1) = m + offs M k + x.length) := Lib.hid (by omega)
      have HX := Lib.hid hx
      have HCS := Lib.hid hcs
      clear hx hcs hs q5 hall h2
      go_wp2_with fail
      refine HM.out.mono ?_
      rintro e w1 ⟨rfl, hr1, hb1⟩
      have HR2 : Hid (Nest w1 g lo hi ((marked imarks M m (k + 1)).map ints) G C) := Lib.hid (by
        rw [← marked_set HX.out, List.map_set]
        exact HR.out.put HCS.out hb1 hr1 (by simp [ints_length, imarks_length]))
      have HB2 := Lib.hid (HB.out.trans (Within.of_but hb1 q1 q2))
      clear hr1 hb1 HR HB HM
      go_wp2_with fail
      go_roundw
      case rel => exact ⟨k + 1, by omega, by go_num, by rw [HS.out]; go_num, HR2.out, HB2.out⟩
      case measure => simp [intOf]; omega
    · obtain rfl : k = M.length := by omega
      go_wp2
      go_ret
      exact ⟨rfl, HR.out, HB.out⟩

end Go.Proofs.Ytjlldjekjnlcaaa
