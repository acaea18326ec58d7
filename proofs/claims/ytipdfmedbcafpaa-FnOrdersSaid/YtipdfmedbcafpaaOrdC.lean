/- The model's OrderDefect, by its contract. -/
import Derived.Test.YtipdfmedbcafpaaDefect
namespace Go.Proofs.Ytipdfmedbcafpaa
open Go.RowKit

set_option maxRecDepth 100000 in
theorem l2Relation_any (v : Value) (M : List (List Bool)) (w : World) (hv : RowsAt w v (M.map bools)) (hn : M.length ≤ 1048576) (hx : ∀ (j : Nat) x, M[j]? = some x → x.length ≤ 1048576) :
    Calls Try.prog 65 #[v] w fun e w' => e = .returned (.bool (decide (OkM M))) ∧ w' = w := by
  obtain ⟨a, c, rfl, hc0, h⟩ := hv
  have hlen : (M.map bools).length = M.length := by simp
  rw [hlen] at hc0
  have H := Lib.hid h
  have HX := Lib.hid hx
  rw [hlen]
  clear h hx
  go_enter Try.func65, Try.ntmps65
  go_wp2_with fail
  go_loop [3] (fun i => ∃ k : Nat, k ≤ M.length ∧ i = .int .i64 k ∧ (∀ x ∈ M.take k, x.length = M.length)) (fun i => M.length - (intOf i).toNat)
  case atStart => exact ⟨0, Nat.zero_le _, rfl, by simp⟩
  case round =>
    obtain ⟨k, hk, rfl, hall⟩ := hrel
    have HALL := Lib.hid hall
    clear hall
    by_cases hlt : k < M.length
    · obtain ⟨x, hx⟩ : ∃ x, M[k]? = some x := ⟨_, List.getElem?_eq_getElem hlt⟩
      obtain ⟨b, o, u, rfl, _, hc1, hf⟩ := H.out k (bools x) (by rw [List.getElem?_map, hx]; rfl)
      rw [bools_length] at hf
      obtain ⟨a2, c2, rfl, hf1, hf2⟩ := hf
      have hxl := HX.out k x hx
      have HK := Lib.hid hx
      clear hx hf2
      by_cases he : x.length = M.length
      · have hq : ((x.length : Int) != (M.length : Int)) = false := by rw [he]; simp
        have HE := Lib.hid he
        clear he
        go_wp2_with fail
        go_round
        case rel =>
          refine ⟨k + 1, by omega, by go_num, ?_⟩
          intro q hq
          rw [List.take_add_one, HK.out] at hq
          rcases List.mem_append.1 hq with h | h
          · exact HALL.out q h
          · simp at h; subst h; exact HE.out
        case measure => simp [intOf]; omega
      · have hq : ((x.length : Int) != (M.length : Int)) = true := by rw [bne_iff_ne]; omega
        have HN : Hid (decide (OkM M) = false) := Lib.hid (decide_eq_false fun h => he (h.2 x (List.mem_of_getElem? HK.out)))
        clear he
        go_wp2_with fail
        go_ret
        exact ⟨by rw [HN.out]; rfl, rfl⟩
    · obtain rfl : k = M.length := by omega
      rw [List.take_length] at HALL
      have HN : Hid (decide (OkM M) = (decide ((1 : Int) ≤ M.length) && decide ((M.length : Int) ≤ 12))) := Lib.hid (by
        rw [← Bool.decide_and]
        by_cases h : 1 ≤ M.length ∧ M.length ≤ 12
        · rw [decide_eq_true (show OkM M from ⟨h, HALL.out⟩), decide_eq_true (by omega)]
        · rw [decide_eq_false (fun h' : OkM M => h h'.1), decide_eq_false (by omega)])
      have HI := Lib.hid (fun W => l1In_any (M.length : Int) 1 12 W)
      go_wp2_with fail
      refine (HI.out _).mono ?_
      rintro e w1 ⟨rfl, rfl⟩
      go_wp2_with fail
      go_ret
      exact ⟨by rw [HN.out]; rfl, rfl⟩

/-- What OrderDefect hands back. -/
def OrdOf (M : List (List Bool)) (L : List Int) : Prop := (OkM M ∧ DefectOf M L) ∨ (¬ OkM M ∧ L = [])
theorem OrdOf.uniq {M : List (List Bool)} {L K : List Int} (h : OrdOf M L) (k : OrdOf M K) : L = K := by
  rcases h with ⟨h1, h2⟩ | ⟨h1, h2⟩
  · rcases k with ⟨_, k2⟩ | ⟨k1, _⟩
    · exact h2.uniq k2
    · exact absurd h1 k1
  · rcases k with ⟨k1, _⟩ | ⟨_, k2⟩
    · exact absurd k1 h1
    · rw [h2, k2]
theorem FirstT.len {P : Nat → Nat → Nat → Bool} {n : Nat} {L : List Int} (h : FirstT P n L) : L.length ≤ 3 := by
  rcases h with ⟨i, k, m, _, _, _, _, rfl, _⟩ | ⟨rfl, _⟩ <;> simp
theorem OrdOf.len {M : List (List Bool)} {L : List Int} (h : OrdOf M L) : L.length ≤ 3 := by
  rcases h with ⟨_, L1, f1, h⟩ | ⟨_, rfl⟩
  · rcases h with ⟨_, rfl⟩ | ⟨_, L2, f2, h⟩
    · rcases f1 with ⟨i, _, _, rfl, _⟩ | ⟨rfl, _⟩ <;> simp
    · rcases h with ⟨_, rfl⟩ | ⟨_, L3, f3, h⟩
      · rcases f2 with ⟨i, k, _, _, _, rfl, _⟩ | ⟨rfl, _⟩ <;> simp
      · rcases h with ⟨_, rfl⟩ | ⟨_, f4⟩
        · exact f3.len
        · exact f4.len
  · simp

def OrdC (M : List (List Bool)) (w : World) (e : Ending) (w' : World) : Prop :=
  ∃ (g cap : Nat) (L : List Int), e = .returned (.tuple #[.slice (some ⟨g, 0, none⟩) L.length cap, .bool (decide (OkM M))]) ∧ L.length ≤ cap ∧ w.heap.size ≤ g ∧ CellRow w' g (ints L) ∧ OrdOf M L ∧ Below w.heap.size w w'

theorem specOrd_any (v : Value) (M : List (List Bool)) (w : World) (hv : RowsAt w v (M.map bools)) (hn : M.length ≤ 1048576) (hx : ∀ (j : Nat) x, M[j]? = some x → x.length ≤ 1048576) :
    Calls Try.prog 19 #[v] w (OrdC M w) := by
  have HREL := Lib.hid (l2Relation_any v M w hv hn hx)
  by_cases hok : OkM M
  · have hd : decide (OkM M) = true := decide_eq_true hok
    have HDEF := Lib.hid (l2Defect_any v M w hv hok.2 (by have := hok.1.2; omega))
    have HOK := Lib.hid hok
    rw [hd] at HREL
    clear hok hv hx
    unfold OrdC
    rw [hd]
    clear hd
    go_enter Try.func19, Try.ntmps19
    go_wp2_with fail
    refine HREL.out.mono ?_
    rintro e w1 ⟨rfl, rfl⟩
    go_wp2_with fail
    refine HDEF.out.mono ?_
    rintro e w2 ⟨g, cap, L, rfl, hcap, hg, hrow, hf, hb⟩
    have HQ : Hid (∃ (g' cap' : Nat) (L' : List Int), Ending.returned (.tuple #[.slice (some ⟨g, 0, none⟩) L.length cap, .bool true]) = .returned (.tuple #[.slice (some ⟨g', 0, none⟩) L'.length cap', .bool true]) ∧ L'.length ≤ cap' ∧ w1.heap.size ≤ g' ∧ CellRow w2 g' (ints L') ∧ OrdOf M L' ∧ Below w1.heap.size w1 w2) := Lib.hid ⟨g, cap, L, rfl, hcap, hg, hrow, .inl ⟨HOK.out, hf⟩, hb⟩
    clear hcap hg hrow hf hb
    go_wp2_with fail
    go_ret2
    exact HQ.out
  · have hd : decide (OkM M) = false := decide_eq_false hok
    have HQ : Hid (OrdC M w (.returned (.tuple #[.slice (some ⟨w.heap.size, 0, none⟩) 0 0, .bool false])) (w.alloc (.cells #[] 3))) := Lib.hid
      ⟨w.heap.size, 0, [], by rw [hd]; rfl, Nat.le_refl _, Nat.le_refl _, CellRow.of_row (heap_alloc_new w _), .inr ⟨hok, rfl⟩, (Below.refl _ w).alloc (Nat.le_refl _) _⟩
    rw [hd] at HREL
    clear hok hv hx hd
    go_enter Try.func19, Try.ntmps19
    go_wp2_with fail
    refine HREL.out.mono ?_
    rintro e w1 ⟨rfl, rfl⟩
    go_wp2_with fail
    go_ret2
    exact HQ.out

end Go.Proofs.Ytipdfmedbcafpaa
