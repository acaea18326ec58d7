/- The program's searches for a pair and for a triple (symmetricPair, intransitiveTriple), by their contracts. -/
import Derived.Test.YtipdfmedbcafpaaDefect
import Derived.Shelf.Abstract
namespace Go.Proofs.Ytipdfmedbcafpaa
open Go.RowKit

def PairC (P : Nat → Nat → Bool) (n : Nat) (w : World) (e : Ending) (w' : World) : Prop :=
  ∃ (g cap : Nat) (L : List Int), e = .returned (.slice (some ⟨g, 0, none⟩) L.length cap) ∧ L.length ≤ cap ∧ w.heap.size ≤ g ∧ CellRow w' g (ints L) ∧ First2 P n L ∧ Below w.heap.size w w'

set_option maxRecDepth 100000 in
set_option maxHeartbeats 4000000 in
theorem pair_any (rel : Nat → Nat → Bool) (g : Nat) (lb : Array Value) (eg : ∀ args w, (callFunc g args).run Try.prog w = .ok (.enter g args) w) (n : Nat) (hn : n ≤ 100) (w : World)
    (hp : ∀ (i k : Nat), i < n → k < n → Calls Try.prog g (#[.int .i64 (i : Int), .int .i64 (k : Int)] ++ lb) w fun e w' => e = .returned (.bool (rel i k)) ∧ w' = w) :
    Calls Try.prog 63 #[.int .i64 (n : Int), .func (.func g) #[] lb] w (PairC (fun i k => rel i k && rel k i) n w) := by
  have HP := Lib.hid hp
  clear hp
  obtain ⟨P, hP⟩ : ∃ P : Nat → Nat → Bool, P = (fun i k => rel i k && rel k i) := ⟨_, rfl⟩
  rw [← hP]
  have HPE := Lib.hid hP
  clear hP
  go_enter Try.func63, Try.ntmps63
  go_wp2_with fail
  go_loop [5, 8] (fun _ s => ∃ i' : Nat, i' ≤ n ∧ s = .int .i64 i' ∧ (∀ x y : Nat, x < i' → y < n → P x y = false)) (fun _ s => n - (intOf s).toNat)
  case atStart => exact ⟨0, Nat.zero_le _, rfl, fun x y hx => by omega⟩
  case round =>
    obtain ⟨i, hi, rfl, hall1⟩ := hrel
    have A1 := Lib.hid hall1
    clear hall1
    by_cases hil : i < n
    · have hilz : (i : Int) < (n : Int) := by omega
      go_wp2_with fail
      go_loop [6, 12] (fun _ s => ∃ k' : Nat, k' ≤ n ∧ s = .int .i64 k' ∧ (∀ y : Nat, y < k' → P i y = false)) (fun _ s => n - (intOf s).toNat)
      case atStart => exact ⟨0, Nat.zero_le _, rfl, fun y hy => by omega⟩
      case round =>
        obtain ⟨k, hk, rfl, hall2⟩ := hrel
        have A2 := Lib.hid hall2
        clear hall2
        by_cases hkl : k < n
        · have hklz : (k : Int) < (n : Int) := by omega
          have HQ : Hid (P i k = true → PairC P n w (.returned (.slice (some ⟨w.heap.size, 0, none⟩) 2 2)) (w.alloc (.cells #[.int .i64 (i : Int), .int .i64 (k : Int)] 3))) := Lib.hid (fun hp =>
            ⟨w.heap.size, 2, [(i : Int), (k : Int)], rfl, Nat.le_refl _, Nat.le_refl _, CellRow.of_row (heap_alloc_new w _), .inl ⟨i, k, hil, hkl, hp, rfl, fun x y hx hy h => by
              rcases h with h | ⟨rfl, h⟩
              · exact A1.out x y h hy
              · exact A2.out y h⟩, (Below.refl _ w).alloc (Nat.le_refl _) _⟩)
          have HS : Hid (P i k = false → ∀ y : Nat, y < k + 1 → P i y = false) := Lib.hid (fun hp y hy => by
            by_cases e : y < k
            · exact A2.out y e
            · obtain rfl : y = k := by omega
              exact hp)
          have HC1 := Lib.hid (HP.out i k hil hkl)
          have HC2 := Lib.hid (HP.out k i hkl hil)
          have HPV : Hid (P i k = (rel i k && rel k i)) := Lib.hid (by rw [HPE.out])
          generalize rel i k = x at HC1 HPV
          generalize rel k i = y at HC2 HPV
          cases x
          · go_wp2_with fail
            refine (HC1.out).mono ?_
            rintro e w1 ⟨rfl, rfl⟩
            go_wp2_with fail
            go_round
            case rel => exact ⟨k + 1, by omega, by go_num, HS.out (by rw [HPV.out]; rfl)⟩
            case measure => simp [intOf]; omega
          · cases y
            · go_wp2_with fail
              refine (HC1.out).mono ?_
              rintro e w1 ⟨rfl, rfl⟩
              go_wp2_with fail
              refine (HC2.out).mono ?_
              rintro e w1 ⟨rfl, rfl⟩
              go_wp2_with fail
              go_round
              case rel => exact ⟨k + 1, by omega, by go_num, HS.out (by rw [HPV.out]; rfl)⟩
              case measure => simp [intOf]; omega
            · go_wp2_with fail
              refine (HC1.out).mono ?_
              rintro e w1 ⟨rfl, rfl⟩
              go_wp2_with fail
              refine (HC2.out).mono ?_
              rintro e w1 ⟨rfl, rfl⟩
              go_wp2_with fail
              go_ret
              exact HQ.out (by rw [HPV.out]; rfl)
        · have hklz : ¬ (k : Int) < (n : Int) := by omega
          obtain rfl : k = n := by omega
          have HS : Hid (∀ x y : Nat, x < i + 1 → y < k → P x y = false) := Lib.hid (fun x y hx hy => by
            by_cases e : x < i
            · exact A1.out x y e hy
            · obtain rfl : x = i := by omega
              exact A2.out y hy)
          go_wp2_with fail
          go_round
          case rel => exact ⟨i + 1, by omega, by go_num, HS.out⟩
          case measure => simp [intOf]; omega
    · have hilz : ¬ (i : Int) < (n : Int) := by omega
      obtain rfl : i = n := by omega
      have HQ : Hid (PairC P i w (.returned (.slice (some ⟨w.heap.size, 0, none⟩) 0 0)) (w.alloc (.cells #[] 3))) := Lib.hid
        ⟨w.heap.size, 0, [], rfl, Nat.le_refl _, Nat.le_refl _, CellRow.of_row (heap_alloc_new w _), .inr ⟨rfl, A1.out⟩, (Below.refl _ w).alloc (Nat.le_refl _) _⟩
      go_wp2_with fail
      go_ret
      exact HQ.out

set_option maxRecDepth 100000 in
set_option maxHeartbeats 8000000 in
theorem triple_any (rel : Nat → Nat → Bool) (g : Nat) (lb : Array Value) (eg : ∀ args w, (callFunc g args).run Try.prog w = .ok (.enter g args) w) (n : Nat) (hn : n ≤ 100) (w : World)
    (hp : ∀ (i k : Nat), i < n → k < n → Calls Try.prog g (#[.int .i64 (i : Int), .int .i64 (k : Int)] ++ lb) w fun e w' => e = .returned (.bool (rel i k)) ∧ w' = w) :
    Calls Try.prog 64 #[.int .i64 (n : Int), .func (.func g) #[] lb] w (TripC (fun i k m => rel i k && rel k m && !rel i m) n w) := by
  have HP := Lib.hid hp
  clear hp
  obtain ⟨P, hP⟩ : ∃ P : Nat → Nat → Nat → Bool, P = (fun i k m => rel i k && rel k m && !rel i m) := ⟨_, rfl⟩
  rw [← hP]
  have HPE := Lib.hid hP
  clear hP
  go_enter Try.func64, Try.ntmps64
  go_wp2_with fail
  go_loop [5, 9] (fun _ s => ∃ i' : Nat, i' ≤ n ∧ s = .int .i64 i' ∧ (∀ x y z : Nat, x < i' → y < n → z < n → P x y z = false)) (fun _ s => n - (intOf s).toNat)
  case atStart => exact ⟨0, Nat.zero_le _, rfl, fun x y z hx => by omega⟩
  case round =>
    obtain ⟨i, hi, rfl, hall1⟩ := hrel
    have A1 := Lib.hid hall1
    clear hall1
    by_cases hil : i < n
    · have hilz : (i : Int) < (n : Int) := by omega
      go_wp2_with fail
      go_loop [6, 13] (fun _ s => ∃ k' : Nat, k' ≤ n ∧ s = .int .i64 k' ∧ (∀ y z : Nat, y < k' → z < n → P i y z = false)) (fun _ s => n - (intOf s).toNat)
      case atStart => exact ⟨0, Nat.zero_le _, rfl, fun y z hy => by omega⟩
      case round =>
        obtain ⟨k, hk, rfl, hall2⟩ := hrel
        have A2 := Lib.hid hall2
        clear hall2
        by_cases hkl : k < n
        · have hklz : (k : Int) < (n : Int) := by omega
          have HC1 := Lib.hid (HP.out i k hil hkl)
          have HPX : Hid (∀ m, P i k m = (rel i k && rel k m && !rel i m)) := Lib.hid (fun m => by rw [HPE.out])
          generalize rel i k = x at HC1 HPX
          cases x
          · have HS : Hid (∀ y z : Nat, y < k + 1 → z < n → P i y z = false) := Lib.hid (fun y z hy hz => by
              by_cases e : y < k
              · exact A2.out y z e hz
              · obtain rfl : y = k := by omega
                rw [HPX.out]; rfl)
            go_wp2_with fail
            refine (HC1.out).mono ?_
            rintro e w1 ⟨rfl, rfl⟩
            go_wp2_with fail
            go_round
            case rel => exact ⟨k + 1, by omega, by go_num, HS.out⟩
            case measure => simp [intOf]; omega
          · go_wp2_with fail
            refine (HC1.out).mono ?_
            rintro e w1 ⟨rfl, rfl⟩
            clear HC1
            go_wp2_with fail
            go_loop [7, 22] (fun _ s => ∃ m' : Nat, m' ≤ n ∧ s = .int .i64 m' ∧ (∀ z : Nat, z < m' → P i k z = false)) (fun _ s => n - (intOf s).toNat)
            case atStart => exact ⟨0, Nat.zero_le _, rfl, fun z hz => by omega⟩
            case round =>
              obtain ⟨m, hm, rfl, hall3⟩ := hrel
              have A3 := Lib.hid hall3
              clear hall3
              by_cases hml : m < n
              · have hmlz : (m : Int) < (n : Int) := by omega
                have HQ : Hid (P i k m = true → TripC P n w1 (.returned (.slice (some ⟨w1.heap.size, 0, none⟩) 3 3)) (w1.alloc (.cells #[.int .i64 (i : Int), .int .i64 (k : Int), .int .i64 (m : Int)] 3))) := Lib.hid (fun hp =>
                  ⟨w1.heap.size, 3, [(i : Int), (k : Int), (m : Int)], rfl, Nat.le_refl _, Nat.le_refl _, CellRow.of_row (heap_alloc_new w1 _), .inl ⟨i, k, m, hil, hkl, hml, hp, rfl, fun x y z hx hy hz h => by
                    rcases h with h | ⟨rfl, h | ⟨rfl, h⟩⟩
                    · exact A1.out x y z h hy hz
                    · exact A2.out y z h hz
                    · exact A3.out z h⟩, (Below.refl _ w1).alloc (Nat.le_refl _) _⟩)
                have HS : Hid (P i k m = false → ∀ z : Nat, z < m + 1 → P i k z = false) := Lib.hid (fun hp z hz => by
                  by_cases e : z < m
                  · exact A3.out z e
                  · obtain rfl : z = m := by omega
                    exact hp)
                have HC2 := Lib.hid (HP.out k m hkl hml)
                have HC3 := Lib.hid (HP.out i m hil hml)
                have HPV : Hid (P i k m = (rel k m && !rel i m)) := Lib.hid (by rw [HPX.out]; simp)
                generalize rel k m = y at HC2 HPV
                generalize rel i m = z at HC3 HPV
                cases y
                · go_wp2_with fail
                  refine (HC2.out).mono ?_
                  rintro e w2 ⟨rfl, rfl⟩
                  go_wp2_with fail
                  go_round
                  case rel => exact ⟨m + 1, by omega, by go_num, HS.out (by rw [HPV.out]; rfl)⟩
                  case measure => simp [intOf]; omega
                · cases z
                  · go_wp2_with fail
                    refine (HC2.out).mono ?_
                    rintro e w2 ⟨rfl, rfl⟩
                    go_wp2_with fail
                    refine (HC3.out).mono ?_
                    rintro e w3 ⟨rfl, rfl⟩
                    go_wp2_with fail
                    go_ret
                    exact HQ.out (by rw [HPV.out]; rfl)
                  · go_wp2_with fail
                    refine (HC2.out).mono ?_
                    rintro e w2 ⟨rfl, rfl⟩
                    go_wp2_with fail
                    refine (HC3.out).mono ?_
                    rintro e w3 ⟨rfl, rfl⟩
                    go_wp2_with fail
                    go_round
                    case rel => exact ⟨m + 1, by omega, by go_num, HS.out (by rw [HPV.out]; rfl)⟩
                    case measure => simp [intOf]; omega
              · have hmlz : ¬ (m : Int) < (n : Int) := by omega
                obtain rfl : m = n := by omega
                have HS : Hid (∀ y z : Nat, y < k + 1 → z < m → P i y z = false) := Lib.hid (fun y z hy hz => by
                  by_cases e : y < k
                  · exact A2.out y z e hz
                  · obtain rfl : y = k := by omega
                    exact A3.out z hz)
                go_wp2_with fail
                go_round
                case rel => exact ⟨k + 1, by omega, by go_num, HS.out⟩
                case measure => simp [intOf]; omega
        · have hklz : ¬ (k : Int) < (n : Int) := by omega
          obtain rfl : k = n := by omega
          have HS : Hid (∀ x y z : Nat, x < i + 1 → y < k → z < k → P x y z = false) := Lib.hid (fun x y z hx hy hz => by
            by_cases e : x < i
            · exact A1.out x y z e hy hz
            · obtain rfl : x = i := by omega
              exact A2.out y z hy hz)
          go_wp2_with fail
          go_round
          case rel => exact ⟨i + 1, by omega, by go_num, HS.out⟩
          case measure => simp [intOf]; omega
    · have hilz : ¬ (i : Int) < (n : Int) := by omega
      obtain rfl : i = n := by omega
      have HQ : Hid (TripC P i w (.returned (.slice (some ⟨w.heap.size, 0, none⟩) 0 0)) (w.alloc (.cells #[] 3))) := Lib.hid
        ⟨w.heap.size, 0, [], rfl, Nat.le_refl _, Nat.le_refl _, CellRow.of_row (heap_alloc_new w _), .inr ⟨rfl, A1.out⟩, (Below.refl _ w).alloc (Nat.le_refl _) _⟩
      go_wp2_with fail
      go_ret
      exact HQ.out

end Go.Proofs.Ytipdfmedbcafpaa
