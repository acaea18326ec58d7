/- The model's check of a row (l2Row), by its contract. -/
import Derived.Test.YtcbeoihgaccjcaaStrs
import Derived.Test.YtcbeoihgaccjcaaIn
namespace Go.Proofs.Ytcbeoihgaccjcaa
open Go.RowKit

/-- A valid field: short, and of plain bytes. -/
def OkF (x : ByteArray) : Prop := x.size ≤ 40 ∧ ∀ c ∈ x.data.toList, 32 ≤ c.toNat ∧ c.toNat ≤ 126
instance (x : ByteArray) : Decidable (OkF x) := by unfold OkF; exact inferInstance
/-- A valid row. -/
def OkRow (xs : List ByteArray) : Prop := (1 ≤ xs.length ∧ xs.length ≤ 6) ∧ ∀ x ∈ xs, OkF x
instance (xs : List ByteArray) : Decidable (OkRow xs) := by unfold OkRow; exact inferInstance

set_option maxRecDepth 100000 in
set_option maxHeartbeats 2000000 in
theorem l2Row_any (u : Value) (xs : List ByteArray) (w : World) (hv : StrsAt w u xs) (hn : xs.length ≤ 1048576) (hx : ∀ (j : Nat) x, xs[j]? = some x → x.size ≤ 1048576) :
    Calls Try.prog 77 #[.agg #[u]] w fun e w' => e = .returned (.bool (decide (OkRow xs))) ∧ Below w.heap.size w w' := by
  obtain ⟨a, c, rfl, _, h⟩ := hv
  have H := Lib.hid h
  have HX := Lib.hid hx
  clear h hx
  have hb : Below w.heap.size w (w.alloc (.cells #[.slice a xs.length c] 54)) := (Below.refl _ w).alloc (Nat.le_refl _) _
  have hr : RowIs (w.alloc (.cells #[.slice a xs.length c] 54)) w.heap.size 54 [.slice a xs.length c] := heap_alloc_new w _
  have HB := Lib.hid hb
  have HR := Lib.hid hr
  clear hb hr
  by_cases h16 : 1 ≤ xs.length ∧ xs.length ≤ 6
  · have HI := Lib.hid (fun W => l1In_yes (xs.length : Int) 1 6 W (by omega) (by omega))
    go_enter Try.func77, Try.ntmps77
    go_wp2_with fail
    refine (HI.out _).mono ?_
    rintro e w1 ⟨rfl, rfl⟩
    go_wp2_with fail
    go_loopw [3] (fun i wr => ∃ k : Nat, k ≤ xs.length ∧ i = .int .i64 k ∧ (∀ x ∈ xs.take k, OkF x) ∧ RowIs wr w.heap.size 54 [.slice a xs.length c] ∧ Below w.heap.size w wr) (fun i _ => xs.length - (intOf i).toNat)
    case atStart => exact ⟨0, Nat.zero_le _, rfl, by simp, HR.out, HB.out⟩
    case round =>
      obtain ⟨k, hk, rfl, hall, hr, hb⟩ := hrel
      have HALL := Lib.hid hall
      have HR2 := Lib.hid hr
      have HB2 := Lib.hid hb
      have hcr : wr.cell? ⟨w.heap.size, 0, none⟩ = some (.slice a xs.length c) := hr.cell 0
      clear hall hr hb HR HB
      by_cases hlt : k < xs.length
      · obtain ⟨x, hx⟩ : ∃ x, xs[k]? = some x := ⟨_, List.getElem?_eq_getElem hlt⟩
        obtain ⟨b, o, rfl, hbb, hc1⟩ := H.out k x hx
        have hw1 : wr.cell? ⟨b, o + k, none⟩ = some (.string x) := (HB2.out.cell (p := ⟨b, o + k, none⟩) hbb).trans hc1
        have hxs := HX.out k x hx
        have HK := Lib.hid hx
        clear hc1 hx
        by_cases h40 : x.size ≤ 40
        · go_wp2_with fail
          go_loopw [4] (fun i ws => ∃ m : Nat, m ≤ x.size ∧ i = .int .i64 m ∧ (∀ c ∈ x.data.toList.take m, 32 ≤ c.toNat ∧ c.toNat ≤ 126) ∧ RowIs ws w.heap.size 54 [.slice (some ⟨b, o, none⟩) xs.length c] ∧ Below w.heap.size w ws) (fun i _ => x.size - (intOf i).toNat)
          case atStart => exact ⟨0, Nat.zero_le _, rfl, by simp, HR2.out, HB2.out⟩
          case round =>
            obtain ⟨m, hm, rfl, hall, hr, hb⟩ := hrel
            have HALL2 := Lib.hid hall
            have HR3 := Lib.hid hr
            have HB3 := Lib.hid hb
            have hcr3 : wr.cell? ⟨w.heap.size, 0, none⟩ = some (.slice (some ⟨b, o, none⟩) xs.length c) := hr.cell 0
            have hw3 : wr.cell? ⟨b, o + k, none⟩ = some (.string x) := (hb.cell (p := ⟨b, o + k, none⟩) hbb).trans ((HB2.out.cell (p := ⟨b, o + k, none⟩) hbb).symm.trans hw1)
            clear hall hr hb
            by_cases hml : m < x.size
            · have hsz : x.data.toList.take (m + 1) = x.data.toList.take m ++ [x[m]] := by
                rw [List.take_succ_eq_append_getElem (by simpa using hml)]; rfl
              have HT := Lib.hid hsz
              have hby := x[m].toNat_lt
              clear hsz
              by_cases hp : 32 ≤ x[m].toNat ∧ x[m].toNat ≤ 126
              · have HI2 := Lib.hid (fun W => l1In_yes (x[m].toNat : Int) 32 126 W (by omega) (by omega))
                have HP := Lib.hid hp
                clear hp
                go_wp2_with fail
                refine (HI2.out _).mono ?_
                rintro e w1 ⟨rfl, rfl⟩
                go_wp2_with fail
                go_roundw
                case rel =>
                  refine ⟨m + 1, by omega, by go_num, ?_, HR3.out, HB3.out⟩
                  intro q hq
                  rw [HT.out] at hq
                  rcases List.mem_append.1 hq with h | h
                  · exact HALL2.out q h
                  · rw [List.mem_singleton.1 h]; exact HP.out
                case measure => simp [intOf]; omega
              · have HI2 := Lib.hid (fun W => l1In_no (x[m].toNat : Int) 32 126 W (by omega))
                have HN : Hid (decide (OkRow xs) = false) := Lib.hid (decide_eq_false fun h => hp ((h.2 x (List.mem_of_getElem? HK.out)).2 x[m] (by
                  have : x[m] ∈ x.data.toList.take (m + 1) := by rw [HT.out]; simp
                  exact List.mem_of_mem_take this)))
                clear hp
                go_wp2_with fail
                refine (HI2.out _).mono ?_
                rintro e w1 ⟨rfl, rfl⟩
                go_wp2_with fail
                go_ret
                exact ⟨by rw [HN.out]; rfl, HB3.out⟩
            · obtain rfl : m = x.size := by omega
              have HF : Hid (OkF x) := Lib.hid ⟨h40, by
                have := HALL2.out
                rwa [List.take_of_length_le (by rw [Array.length_toList]; exact Nat.le_refl _)] at this⟩
              go_wp2_with fail
              go_roundw
              case rel =>
                refine ⟨k + 1, by omega, by go_num, ?_, HR3.out, HB3.out⟩
                intro q hq
                rw [List.take_add_one, HK.out] at hq
                rcases List.mem_append.1 hq with h | h
                · exact HALL.out q h
                · simp at h; subst h; exact HF.out
              case measure => simp [intOf]; omega
        · have HN : Hid (decide (OkRow xs) = false) := Lib.hid (decide_eq_false fun h => h40 (h.2 x (List.mem_of_getElem? HK.out)).1)
          go_wp2_with fail
          go_ret
          exact ⟨by rw [HN.out]; rfl, HB2.out⟩
      · obtain rfl : k = xs.length := by omega
        rw [List.take_length] at HALL
        have HN : Hid (decide (OkRow xs) = true) := Lib.hid (decide_eq_true ⟨h16, HALL.out⟩)
        go_wp2_with fail
        go_ret
        exact ⟨by rw [HN.out]; rfl, HB2.out⟩
  · have HI := Lib.hid (fun W => l1In_no (xs.length : Int) 1 6 W (by omega))
    have HN : Hid (decide (OkRow xs) = false) := Lib.hid (decide_eq_false fun h => h16 h.1)
    clear h16
    go_enter Try.func77, Try.ntmps77
    go_wp2_with fail
    refine (HI.out _).mono ?_
    rintro e w1 ⟨rfl, rfl⟩
    go_wp2_with fail
    go_ret
    exact ⟨by rw [HN.out]; rfl, HB.out⟩

end Go.Proofs.Ytcbeoihgaccjcaa
