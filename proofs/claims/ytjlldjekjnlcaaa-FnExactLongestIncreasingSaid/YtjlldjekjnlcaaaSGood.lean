/- The model's check of permutations (l3Good), by its contract. -/
import Derived.Test.YtjlldjekjnlcaaaPerm
import Derived.Test.YtjlldjekjnlcaaaInts
import Derived.Test.YtjlldjekjnlcaaaIn
import Derived.Test.YtjlldjekjnlcaaaBoolM
import Derived.Deep.RegionWith
namespace Go.Proofs.Ytjlldjekjnlcaaa
open Go.RowKit P

set_option maxRecDepth 100000 in
set_option maxHeartbeats 4000000 in
theorem l3Good_any (v : Value) (l : List Int) (w : World) (hv : FlatAt w v l.length (ints l)) (hn : l.length ≤ 1048576) :
    Calls Try.prog 69 #[v] w fun e w' => e = .returned (.bool (decide (OkP l))) ∧ Below w.heap.size w w' := by
  obtain ⟨a, c, rfl, _, h⟩ := hv
  have H := Lib.hid h
  clear h
  by_cases h64 : l.length ≤ 64
  · have hz : ¬ (64 : Int) < l.length := by omega
    have hmk := makeBools l.length hn
    have hrow := heap_alloc_new w (.cells (bools (List.replicate l.length false)).toArray 4)
    have hb0 : Below w.heap.size w (w.alloc (.cells (bools (List.replicate l.length false)).toArray 4)) := (Below.refl _ _).alloc (Nat.le_refl _) _
    have HROW := Lib.hid hrow
    have HB0 := Lib.hid hb0
    clear hrow hb0
    go_enter Try.func69, Try.ntmps69
    go_wp2_with fail
    go_loopw [4] (fun i wr => ∃ k : Nat, k ≤ l.length ∧ i = .int .i64 k ∧ GoodTo l k ∧ RowIs wr w.heap.size 4 (bools (seenTo l k l.length)) ∧ Below w.heap.size w wr) (fun i _ => l.length - (intOf i).toNat)
    case atStart => exact ⟨0, Nat.zero_le _, rfl, GoodTo.zero l, by rw [seenTo_zero]; exact HROW.out, HB0.out⟩
    case round =>
      obtain ⟨k, hk, rfl, hgood, hr, hb⟩ := hrel
      have HG := Lib.hid hgood
      have HR := Lib.hid hr
      have HB := Lib.hid hb
      clear hgood hr hb hmk HROW HB0
      by_cases hlt : k < l.length
      · obtain ⟨p, hp⟩ : ∃ p, l[k]? = some p := ⟨_, List.getElem?_eq_getElem hlt⟩
        obtain ⟨b, o, rfl, hbb, hc1⟩ := H.out _ _ (ints_at hp)
        have hw1 : wr.cell? ⟨b, o + k, none⟩ = some (.int .i64 p) := (HB.out.cell (p := ⟨b, o + k, none⟩) hbb).trans hc1
        have HP := Lib.hid hp
        clear hc1 hp
        by_cases hin : 0 ≤ p ∧ p ≤ (l.length : Int) - 1
        · have HI := Lib.hid (fun W => l1In_yes p 0 ((l.length : Int) - 1) W hin.1 hin.2)
          obtain ⟨e, rfl⟩ : ∃ e : Nat, p = e := ⟨p.toNat, by omega⟩
          have he : e < l.length := by omega
          have hs1 := HR.out.cell e
          have hf1 := HR.out.frozen e
          rw [bools_at (seenTo_at he)] at hs1
          clear hin
          by_cases hs : (e : Int) ∈ l.take k
          · rw [decide_eq_true hs] at hs1
            have HN : Hid (decide (OkP l) = false) := Lib.hid (decide_eq_false (OkP.notTwice HP.out hs))
            clear hs
            go_wp2_with fail
            refine (HI.out _).mono ?_
            rintro e w1 ⟨rfl, rfl⟩
            go_wp2_with fail
            go_ret
            exact ⟨by rw [HN.out]; rfl, HB.out⟩
          · rw [decide_eq_false hs] at hs1
            have HS := Lib.hid hs
            clear hs
            go_wp2_with fail
            refine (HI.out _).mono ?_
            rintro e' w1 ⟨rfl, rfl⟩
            go_wp2_with fail
            go_roundw
            case rel => exact ⟨k + 1, by omega, by go_num, HG.out.step HP.out (by omega) (by omega) HS.out, by rw [← seenTo_set HP.out, ← bools_set]; exact HR.out.stored e _, HB.out.setCell (p := ⟨w.heap.size, e, none⟩) (Nat.le_refl _) _⟩
            case measure => simp [intOf]; omega
        · have HI := Lib.hid (fun W => l1In_no p 0 ((l.length : Int) - 1) W (by omega))
          have HN : Hid (decide (OkP l) = false) := Lib.hid (decide_eq_false (OkP.notRange HP.out (by omega)))
          clear hin
          go_wp2_with fail
          refine (HI.out _).mono ?_
          rintro e w1 ⟨rfl, rfl⟩
          go_wp2_with fail
          go_ret
          exact ⟨by rw [HN.out]; rfl, HB.out⟩
      · obtain rfl : k = l.length := by omega
        have HN : Hid (decide (OkP l) = true) := Lib.hid (decide_eq_true (HG.out.all h64))
        go_wp2_with fail
        go_ret
        exact ⟨by rw [HN.out]; rfl, HB.out⟩
  · have hz : (64 : Int) < l.length := by omega
    have HN : Hid (decide (OkP l) = false) := Lib.hid (decide_eq_false fun h => h64 h.1)
    clear h64
    go_enter Try.func69, Try.ntmps69
    go_wp2
    go_ret
    exact ⟨by rw [HN.out]; rfl, Below.refl _ _⟩

end Go.Proofs.Ytjlldjekjnlcaaa
