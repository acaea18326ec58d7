/- The model's check of records (l2Records), and copies of lists of records. -/
import Derived.Test.YtagibgphegoagaaRecs
import Derived.Test.YtagibgphegoagaaStab
import Derived.Test.YtagibgphegoagaaIn
import Derived.Deep.RegionWith
namespace Go.Proofs.Ytagibgphegoagaa
open Go.RowKit

/-- A valid record list. -/
def OkR (l : List (Int × Int)) : Prop := l.length ≤ 64 ∧ ∀ p ∈ l, (-100000 ≤ p.1 ∧ p.1 ≤ 100000) ∧ (0 ≤ p.2 ∧ p.2 ≤ 999)
instance (l : List (Int × Int)) : Decidable (OkR l) := by unfold OkR; exact inferInstance

set_option maxRecDepth 100000 in
theorem l2Records_any (v : Value) (l : List (Int × Int)) (w : World) (hv : FlatAt w v l.length (recs l)) (hn : l.length ≤ 1048576) :
    Calls Try.prog 81 #[v] w fun e w' => e = .returned (.bool (decide (OkR l))) ∧ Below w.heap.size w w' := by
  obtain ⟨a, c, rfl, _, h⟩ := hv
  have H := Lib.hid h
  clear h
  go_enter Try.func81, Try.ntmps81
  go_wp2_with fail
  go_loopw [3] (fun i wr => ∃ k : Nat, k ≤ l.length ∧ k ≤ 65 ∧ i = .int .i64 k ∧ (∀ p ∈ l.take k, (-100000 ≤ p.1 ∧ p.1 ≤ 100000) ∧ (0 ≤ p.2 ∧ p.2 ≤ 999)) ∧ Below w.heap.size w wr) (fun i _ => l.length - (intOf i).toNat)
  case atStart => exact ⟨0, Nat.zero_le _, by omega, rfl, by simp, Below.refl _ _⟩
  case round =>
    obtain ⟨k, hk, hk65, rfl, hall, hb⟩ := hrel
    have HB := Lib.hid hb
    have HALL := Lib.hid hall
    clear hb hall
    by_cases hlt : k < l.length
    · by_cases h64 : k ≤ 64
      · obtain ⟨p, hp⟩ : ∃ p, l[k]? = some p := ⟨_, List.getElem?_eq_getElem hlt⟩
        obtain ⟨b, o, rfl, hbb, hc1, hc2⟩ := recs_el H.out hp
        have hw1 : wr.cell? ⟨b, o + k * 2, none⟩ = some (.int .i64 p.1) := (HB.out.cell (p := ⟨b, o + k * 2, none⟩) hbb).trans hc1
        have hw2 : wr.cell? ⟨b, o + k * 2 + 1, none⟩ = some (.int .i64 p.2) := (HB.out.cell (p := ⟨b, o + k * 2 + 1, none⟩) hbb).trans hc2
        have HP := Lib.hid hp
        clear hc1 hc2 hp
        by_cases h1 : -100000 ≤ p.1 ∧ p.1 ≤ 100000
        · have HI1 := Lib.hid (fun W => l1In_yes p.1 (-100000) 100000 W h1.1 h1.2)
          by_cases h2 : 0 ≤ p.2 ∧ p.2 ≤ 999
          · have HI2 := Lib.hid (fun W => l1In_yes p.2 0 999 W h2.1 h2.2)
            go_wp2_with fail
            refine (HI1.out _).mono ?_
            rintro e w1 ⟨rfl, rfl⟩
            go_wp2_with fail
            refine (HI2.out _).mono ?_
            rintro e w1 ⟨rfl, rfl⟩
            go_wp2_with fail
            go_roundw
            case rel =>
              refine ⟨k + 1, by omega, by omega, by go_num, ?_, HB.out⟩
              intro q hq
              rw [List.take_add_one, HP.out] at hq
              rcases List.mem_append.1 hq with h | h
              · exact HALL.out q h
              · simp at h; subst h; exact ⟨h1, h2⟩
            case measure => simp [intOf]; omega
          · have HI2 := Lib.hid (fun W => l1In_no p.2 0 999 W (by omega))
            have HN : Hid (decide (OkR l) = false) := Lib.hid (decide_eq_false fun h => h2 (h.2 p (List.mem_of_getElem? HP.out)).2)
            clear h1 h2
            go_wp2_with fail
            refine (HI1.out _).mono ?_
            rintro e w1 ⟨rfl, rfl⟩
            go_wp2_with fail
            refine (HI2.out _).mono ?_
            rintro e w1 ⟨rfl, rfl⟩
            go_wp2_with fail
            go_ret
            exact ⟨by rw [HN.out]; rfl, HB.out⟩
        · have HI1 := Lib.hid (fun W => l1In_no p.1 (-100000) 100000 W (by omega))
          have HN : Hid (decide (OkR l) = false) := Lib.hid (decide_eq_false fun h => h1 (h.2 p (List.mem_of_getElem? HP.out)).1)
          clear h1
          go_wp2_with fail
          refine (HI1.out _).mono ?_
          rintro e w1 ⟨rfl, rfl⟩
          go_wp2_with fail
          go_ret
          exact ⟨by rw [HN.out]; rfl, HB.out⟩
      · have HN : Hid (decide (OkR l) = false) := Lib.hid (decide_eq_false fun h => by have := h.1; omega)
        have hq : decide ((l.length : Int) ≤ 64) = false := decide_eq_false (by omega)
        go_wp2_with fail
        go_ret
        exact ⟨by rw [HN.out]; first | rfl | (rw [← hq]; rfl), HB.out⟩
    · obtain rfl : k = l.length := by omega
      rw [List.take_length] at HALL
      have HN : Hid (decide (OkR l) = decide ((l.length : Int) ≤ 64)) := Lib.hid (by
        by_cases h : l.length ≤ 64
        · rw [decide_eq_true (show OkR l from ⟨h, HALL.out⟩), decide_eq_true (by omega)]
        · rw [decide_eq_false (fun h' : OkR l => h h'.1), decide_eq_false (by omega)])
      go_wp2_with fail
      go_ret
      exact ⟨by rw [HN.out]; rfl, HB.out⟩

/-- The model's stable arrangement. -/
def StableC (l : List (Int × Int)) (w : World) (e : Ending) (w' : World) : Prop :=
  ∃ g cap L, e = .returned (.slice (some ⟨g, 0, none⟩) l.length cap) ∧ l.length ≤ cap ∧ w.heap.size ≤ g ∧ CellRow w' g (recs L) ∧ Stab.Of (·.1) l L ∧ Below w.heap.size w w'

attribute [local go_sem ↓ high] builtin_append_held

theorem recs_one (l : List (Int × Int)) : ∀ u ∈ recs l, u.oneCell' = true := by
  intro u hu
  unfold recs at hu
  obtain ⟨p, _, hp⟩ := List.mem_flatMap.1 hu
  simp at hp
  rcases hp with rfl | rfl <;> rfl

theorem infoRecA : (Try.prog.info? 39).map (fun i => (i.zero, i.size, i.bytes)) = some (some (.agg #[.int .i64 0, .int .i64 0]), 2, 16) := by kernel_rfl

/-- 'append([]Record{}, list...)': a copy in a new row. -/
theorem appendRecs (b o c : Nat) (l : List (Int × Int)) (w : World) (hv : FlatAt w (.slice (some ⟨b, o, none⟩) l.length c) l.length (recs l)) (hn : l.length ≤ 1048576) :
    ∃ g cap w', (heldAppend #[28, 28] 28 #[.slice (some ⟨w.heap.size, 0, none⟩) 0 0, .slice (some ⟨b, o, none⟩) l.length c]).run Try.prog (w.alloc (.cells #[] 39)) = .ok (.slice (some ⟨g, 0, none⟩) l.length cap) w' ∧
      l.length ≤ cap ∧ w.heap.size ≤ g ∧ CellRow w' g (recs l) ∧ Below w.heap.size w w' := by
  obtain ⟨i0, hi, hz0, hz1, hz2⟩ := info_parts infoRecA
  obtain ⟨a, c', he, hc, h⟩ := hv
  simp at he
  obtain ⟨rfl, rfl⟩ := he
  have hb0 : Below w.heap.size w (w.alloc (.cells #[] 39)) := (Below.refl _ _).alloc (Nat.le_refl _) _
  obtain ⟨v', w1, hrun, hown, hgrow, hnil⟩ := run_append_own (P := Try.prog) (w := w.alloc (.cells #[] 39)) w.heap.size 28 28 39 i0 (.agg #[.int .i64 0, .int .i64 0]) 2 16 Try.underlying28 hi hz0 hz1 hz2 rfl (by decide)
    (.slice (some ⟨w.heap.size, 0, none⟩) 0 0) 0 [] (World.ownsRow_made w #[] 0 (Nat.le_refl _) (by decide) rfl) ⟨b, o, none⟩ l.length c (recs l) (recs_length l) (fun j u hu => by
      obtain ⟨b', o', e, hb, hcell⟩ := h j u hu
      obtain rfl : b = b' := congrArg Addr.block (Option.some.inj e)
      obtain rfl : o = o' := congrArg Addr.off (Option.some.inj e)
      have e : (⟨b, o, none⟩ : Addr).add j = ⟨b, o + j, none⟩ := by
        unfold Addr.add; split
        · rename_i h; subst h; rfl
        · rfl
      rw [e]
      exact (hb0.cell (p := ⟨b, o + j, none⟩) hb).trans hcell) (recs_one l) (by unfold maxLen; omega) (by omega) (by simp)
  have hv' : ∃ g cap, v' = .slice (some ⟨g, 0, none⟩) l.length cap := by
    rcases hown.2 with ⟨e, hz⟩ | ⟨g, cap, cur, e, _⟩
    · have := (hnil.1 e).1
      simp at this
    · exact ⟨g, cap, by rw [e, Nat.zero_add]⟩
  obtain ⟨g, cap, rfl⟩ := hv'
  rw [Nat.zero_add, List.nil_append] at hown
  obtain ⟨h1, h2, h3⟩ := CellRow.of_own hown
  exact ⟨g, cap, w1, hrun, h2, h1, h3, hb0.grown hgrow (by simp) (fun j e => by
    have e' : some w.heap.size = some j := e
    injection e' with e'
    omega)⟩

end Go.Proofs.Ytagibgphegoagaa
