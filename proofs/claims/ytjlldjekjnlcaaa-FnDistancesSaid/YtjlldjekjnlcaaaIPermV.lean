/- The program's IsValidPermutation, by its contract. -/
import Derived.Test.YtjlldjekjnlcaaaPerm
import Derived.Test.YtjlldjekjnlcaaaInts
import Derived.Test.YtjlldjekjnlcaaaBools
import Derived.Deep.RegionWith
namespace Go.Proofs.Ytjlldjekjnlcaaa
open Go.RowKit P

set_option maxRecDepth 100000 in
set_option maxHeartbeats 4000000 in
theorem implValidPerm_any (v : Value) (l : List Int) (w : World) (hv : FlatAt w v l.length (ints l)) (hn : l.length ≤ 1048576) :
    Calls Try.prog 51 #[v] w fun e w' => e = .returned (.bool (decide (OkP l))) ∧ Below w.heap.size w w' := by
  obtain ⟨a, c, rfl, _, h⟩ := hv
  have H := Lib.hid h
  clear h
  by_cases h64 : l.length ≤ 64
  · have hz : ¬ (64 : Int) < l.length := by omega
    go_enter Try.func51, Try.ntmps51
    go_wp2
    go_loopw [5, 11] (fun _ i wr => ∃ k : Nat, k ≤ l.length ∧ i = .int .i64 k ∧ GoodTo l k ∧ RowIs wr w.heap.size 62 (bools (seenTo l k 64)) ∧ Below w.heap.size w wr) (fun _ i _ => l.length - (intOf i).toNat)
    case atStart => exact ⟨0, Nat.zero_le _, rfl, GoodTo.zero l, by rw [seenTo_zero]; exact heap_alloc_new w _, (Below.refl _ _).alloc (Nat.le_refl _) _⟩
    case round =>
      obtain ⟨k, hk, rfl, hgood, hr, hb⟩ := hrel
      have HG := Lib.hid hgood
      have HR := Lib.hid hr
      have HB := Lib.hid hb
      clear hgood hr hb
      by_cases hlt : k < l.length
      · obtain ⟨p, hp⟩ : ∃ p, l[k]? = some p := ⟨_, List.getElem?_eq_getElem hlt⟩
        obtain ⟨b, o, rfl, hbb, hc1⟩ := H.out _ _ (ints_at hp)
        have hw1 : wr.cell? ⟨b, o + k, none⟩ = some (.int .i64 p) := (HB.out.cell (p := ⟨b, o + k, none⟩) hbb).trans hc1
        have HP := Lib.hid hp
        clear hc1 hp
        by_cases h0 : p < 0
        · have HN : Hid (decide (OkP l) = false) := Lib.hid (decide_eq_false (OkP.notRange HP.out (.inl h0)))
          go_wp2
          go_ret
          exact ⟨by rw [HN.out]; rfl, HB.out⟩
        · by_cases h1 : (l.length : Int) ≤ p
          · have HN : Hid (decide (OkP l) = false) := Lib.hid (decide_eq_false (OkP.notRange HP.out (.inr h1)))
            go_wp2
            go_ret
            exact ⟨by rw [HN.out]; rfl, HB.out⟩
          · obtain ⟨e, rfl⟩ : ∃ e : Nat, p = e := ⟨p.toNat, by omega⟩
            have he : e < l.length := by omega
            have he64 : e < 64 := by omega
            have hs1 := HR.out.cell e
            have hf1 := HR.out.frozen e
            rw [bools_at (seenTo_at he64)] at hs1
            by_cases hs : (e : Int) ∈ l.take k
            · rw [decide_eq_true hs] at hs1
              have HN : Hid (decide (OkP l) = false) := Lib.hid (decide_eq_false (OkP.notTwice HP.out hs))
              clear hs
              go_wp2
              go_ret
              exact ⟨by rw [HN.out]; rfl, HB.out⟩
            · rw [decide_eq_false hs] at hs1
              have HS := Lib.hid hs
              clear hs
              go_wp2
              go_roundw
              case rel => exact ⟨k + 1, by omega, by go_num, HG.out.step HP.out (by omega) (by omega) HS.out, by rw [← seenTo_set HP.out, ← bools_set]; exact HR.out.stored e _, HB.out.setCell (p := ⟨w.heap.size, e, none⟩) (Nat.le_refl _) _⟩
              case measure => simp [intOf]; omega
      · obtain rfl : k = l.length := by omega
        have HN : Hid (decide (OkP l) = true) := Lib.hid (decide_eq_true (HG.out.all h64))
        go_wp2
        go_ret
        exact ⟨by rw [HN.out]; rfl, HB.out⟩
  · have hz : (64 : Int) < l.length := by omega
    have HN : Hid (decide (OkP l) = false) := Lib.hid (decide_eq_false fun h => h64 h.1)
    clear h64
    go_enter Try.func51, Try.ntmps51
    go_wp2
    go_ret
    exact ⟨by rw [HN.out]; rfl, Below.refl _ _⟩

end Go.Proofs.Ytjlldjekjnlcaaa
