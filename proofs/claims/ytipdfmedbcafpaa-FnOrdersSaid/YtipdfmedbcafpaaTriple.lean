/- The model's least witnesses (l2Triple), by their contracts. -/
import Derived.Test.YtipdfmedbcafpaaRel
import Derived.Test.YtipdfmedbcafpaaInts
namespace Go.Proofs.Ytipdfmedbcafpaa
open Go.RowKit

/-- A new row of numbers that is the least triple. -/
def TripC (P : Nat → Nat → Nat → Bool) (n : Nat) (w : World) (e : Ending) (w' : World) : Prop :=
  ∃ (g cap : Nat) (L : List Int), e = .returned (.slice (some ⟨g, 0, none⟩) L.length cap) ∧ L.length ≤ cap ∧ w.heap.size ≤ g ∧ CellRow w' g (ints L) ∧ FirstT P n L ∧ Below w.heap.size w w'

set_option maxRecDepth 100000 in
set_option maxHeartbeats 4000000 in
theorem l2Triple_tra (v : Value) (M : List (List Bool)) (w : World) (hv : RowsAt w v (M.map bools)) (hsq : ∀ x ∈ M, x.length = M.length) (hn : M.length ≤ 100) :
    Calls Try.prog 117 #[v, .bool false] w (TripC (fun i k m => at2 M i k && at2 M k m && !at2 M i m) M.length w) := by
  have hv0 := hv
  obtain ⟨a, c, rfl, hc0, hc1⟩ := hv0
  have hlen : (M.map bools).length = M.length := by simp
  rw [hlen] at hv hc0
  have HV := Lib.hid hv
  have HSQ := Lib.hid hsq
  rw [hlen]
  clear hv hsq hc1
  obtain ⟨P, hP⟩ : ∃ P : Nat → Nat → Nat → Bool, P = (fun i k m => at2 M i k && at2 M k m && !at2 M i m) := ⟨_, rfl⟩
  rw [← hP]
  have HPE := Lib.hid hP
  clear hP
  go_enter Try.func117, Try.ntmps117
  go_wp2_with fail
  go_loop [6] (fun i => ∃ i' : Nat, i' ≤ M.length ∧ i = .int .i64 i' ∧ (∀ x y z : Nat, x < i' → y < M.length → z < M.length → P x y z = false)) (fun i => M.length - (intOf i).toNat)
  case atStart => exact ⟨0, Nat.zero_le _, rfl, fun x y z hx => by omega⟩
  case round =>
    obtain ⟨i, hi, rfl, hall1⟩ := hrel
    have A1 := Lib.hid hall1
    clear hall1
    by_cases hil : i < M.length
    · go_wp2_with fail
      go_loop [7] (fun k => ∃ k' : Nat, k' ≤ M.length ∧ k = .int .i64 k' ∧ (∀ y z : Nat, y < k' → z < M.length → P i y z = false)) (fun k => M.length - (intOf k).toNat)
      case atStart => exact ⟨0, Nat.zero_le _, rfl, fun y z hy => by omega⟩
      case round =>
        obtain ⟨k, hk, rfl, hall2⟩ := hrel
        have A2 := Lib.hid hall2
        clear hall2
        by_cases hkl : k < M.length
        · go_wp2_with fail
          go_loop [8] (fun m => ∃ m' : Nat, m' ≤ M.length ∧ m = .int .i64 m' ∧ (∀ z : Nat, z < m' → P i k z = false)) (fun m => M.length - (intOf m).toNat)
          case atStart => exact ⟨0, Nat.zero_le _, rfl, fun z hz => by omega⟩
          case round =>
            obtain ⟨m, hm, rfl, hall3⟩ := hrel
            have A3 := Lib.hid hall3
            clear hall3
            by_cases hml : m < M.length
            · have HQ : Hid (P i k m = true → TripC P M.length w (.returned (.slice (some ⟨w.heap.size, 0, none⟩) 3 3)) (w.alloc (.cells #[.int .i64 (i : Int), .int .i64 (k : Int), .int .i64 (m : Int)] 3))) := Lib.hid (fun hp =>
                ⟨w.heap.size, 3, [(i : Int), (k : Int), (m : Int)], rfl, Nat.le_refl _, Nat.le_refl _, CellRow.of_row (heap_alloc_new w _), .inl ⟨i, k, m, hil, hkl, hml, hp, rfl, fun x y z hx hy hz h => by
                  rcases h with h | ⟨rfl, h | ⟨rfl, h⟩⟩
                  · exact A1.out x y z h hy hz
                  · exact A2.out y z h hz
                  · exact A3.out z h⟩, (Below.refl _ w).alloc (Nat.le_refl _) _⟩)
              have HS : Hid (P i k m = false → ∀ z : Nat, z < m + 1 → P i k z = false) := Lib.hid (fun hp z hz => by
                by_cases e : z < m
                · exact A3.out z e
                · obtain rfl : z = m := by omega
                  exact hp)
              obtain ⟨_, _, he, _, hH⟩ := HV.out
              simp at he
              obtain ⟨rfl, rfl⟩ := he
              obtain ⟨b, o, b2, o2, c2, rfl, h1, h2⟩ := rel_el hH HSQ.out hil hkl
              obtain ⟨b', o', b3, o3, c3, he, h3, h4⟩ := rel_el hH HSQ.out hkl hml
              obtain rfl : b = b' := congrArg Addr.block (Option.some.inj he)
              obtain rfl : o = o' := congrArg Addr.off (Option.some.inj he)
              obtain ⟨b', o', b4, o4, c4, he, h5, h6⟩ := rel_el hH HSQ.out hil hml
              obtain rfl : b = b' := congrArg Addr.block (Option.some.inj he)
              obtain rfl : o = o' := congrArg Addr.off (Option.some.inj he)
              have e5 := h1.symm.trans h5
              simp at e5
              obtain ⟨⟨rfl, rfl⟩, rfl⟩ := e5
              clear h5
              have HPV : Hid (P i k m = (at2 M i k && at2 M k m && !at2 M i m)) := Lib.hid (by rw [HPE.out])
              clear hH he
              generalize at2 M i k = x at *
              generalize at2 M k m = y at *
              generalize at2 M i m = z at *
              cases x
              · go_wp2_with fail
                go_round
                case rel => exact ⟨m + 1, by omega, by go_num, HS.out (by rw [HPV.out]; rfl)⟩
                case measure => simp [intOf]; omega
              · cases y
                · go_wp2_with fail
                  go_round
                  case rel => exact ⟨m + 1, by omega, by go_num, HS.out (by rw [HPV.out]; rfl)⟩
                  case measure => simp [intOf]; omega
                · cases z
                  · go_wp2_with fail
                    go_ret
                    exact HQ.out (by rw [HPV.out]; rfl)
                  · go_wp2_with fail
                    go_round
                    case rel => exact ⟨m + 1, by omega, by go_num, HS.out (by rw [HPV.out]; rfl)⟩
                    case measure => simp [intOf]; omega
            · obtain rfl : m = M.length := by omega
              have HS : Hid (∀ y z : Nat, y < k + 1 → z < M.length → P i y z = false) := Lib.hid (fun y z hy hz => by
                by_cases e : y < k
                · exact A2.out y z e hz
                · obtain rfl : y = k := by omega
                  exact A3.out z hz)
              go_wp2_with fail
              go_round
              case rel => exact ⟨k + 1, by omega, by go_num, HS.out⟩
              case measure => simp [intOf]; omega
        · obtain rfl : k = M.length := by omega
          have HS : Hid (∀ x y z : Nat, x < i + 1 → y < M.length → z < M.length → P x y z = false) := Lib.hid (fun x y z hx hy hz => by
            by_cases e : x < i
            · exact A1.out x y z e hy hz
            · obtain rfl : x = i := by omega
              exact A2.out y z hy hz)
          go_wp2_with fail
          go_round
          case rel => exact ⟨i + 1, by omega, by go_num, HS.out⟩
          case measure => simp [intOf]; omega
    · obtain rfl : i = M.length := by omega
      have HQ : Hid (TripC P M.length w (.returned (.slice (some ⟨w.heap.size, 0, none⟩) 0 0)) (w.alloc (.cells #[] 3))) := Lib.hid
        ⟨w.heap.size, 0, [], rfl, Nat.le_refl _, Nat.le_refl _, CellRow.of_row (heap_alloc_new w _), .inr ⟨rfl, A1.out⟩, (Below.refl _ w).alloc (Nat.le_refl _) _⟩
      go_wp2_with fail
      go_ret
      exact HQ.out

set_option maxRecDepth 100000 in
set_option maxHeartbeats 4000000 in
theorem l2Triple_tie (v : Value) (M : List (List Bool)) (w : World) (hv : RowsAt w v (M.map bools)) (hsq : ∀ x ∈ M, x.length = M.length) (hn : M.length ≤ 100) :
    Calls Try.prog 117 #[v, .bool true] w (TripC (fun i k m => tie2 M i k && tie2 M k m && !tie2 M i m) M.length w) := by
  have hv0 := hv
  obtain ⟨a, c, rfl, hc0, hc1⟩ := hv0
  have hlen : (M.map bools).length = M.length := by simp
  rw [hlen] at hv hc0
  have HV := Lib.hid hv
  have HSQ := Lib.hid hsq
  rw [hlen]
  clear hv hsq hc1
  obtain ⟨P, hP⟩ : ∃ P : Nat → Nat → Nat → Bool, P = (fun i k m => tie2 M i k && tie2 M k m && !tie2 M i m) := ⟨_, rfl⟩
  rw [← hP]
  have HPE := Lib.hid hP
  clear hP
  go_enter Try.func117, Try.ntmps117
  go_wp2_with fail
  go_loop [6] (fun i => ∃ i' : Nat, i' ≤ M.length ∧ i = .int .i64 i' ∧ (∀ x y z : Nat, x < i' → y < M.length → z < M.length → P x y z = false)) (fun i => M.length - (intOf i).toNat)
  case atStart => exact ⟨0, Nat.zero_le _, rfl, fun x y z hx => by omega⟩
  case round =>
    obtain ⟨i, hi, rfl, hall1⟩ := hrel
    have A1 := Lib.hid hall1
    clear hall1
    by_cases hil : i < M.length
    · go_wp2_with fail
      go_loop [7] (fun k => ∃ k' : Nat, k' ≤ M.length ∧ k = .int .i64 k' ∧ (∀ y z : Nat, y < k' → z < M.length → P i y z = false)) (fun k => M.length - (intOf k).toNat)
      case atStart => exact ⟨0, Nat.zero_le _, rfl, fun y z hy => by omega⟩
      case round =>
        obtain ⟨k, hk, rfl, hall2⟩ := hrel
        have A2 := Lib.hid hall2
        clear hall2
        by_cases hkl : k < M.length
        · go_wp2_with fail
          go_loop [8] (fun m => ∃ m' : Nat, m' ≤ M.length ∧ m = .int .i64 m' ∧ (∀ z : Nat, z < m' → P i k z = false)) (fun m => M.length - (intOf m).toNat)
          case atStart => exact ⟨0, Nat.zero_le _, rfl, fun z hz => by omega⟩
          case round =>
            obtain ⟨m, hm, rfl, hall3⟩ := hrel
            have A3 := Lib.hid hall3
            clear hall3
            by_cases hml : m < M.length
            · have HQ : Hid (P i k m = true → TripC P M.length w (.returned (.slice (some ⟨w.heap.size, 0, none⟩) 3 3)) (w.alloc (.cells #[.int .i64 (i : Int), .int .i64 (k : Int), .int .i64 (m : Int)] 3))) := Lib.hid (fun hp =>
                ⟨w.heap.size, 3, [(i : Int), (k : Int), (m : Int)], rfl, Nat.le_refl _, Nat.le_refl _, CellRow.of_row (heap_alloc_new w _), .inl ⟨i, k, m, hil, hkl, hml, hp, rfl, fun x y z hx hy hz h => by
                  rcases h with h | ⟨rfl, h | ⟨rfl, h⟩⟩
                  · exact A1.out x y z h hy hz
                  · exact A2.out y z h hz
                  · exact A3.out z h⟩, (Below.refl _ w).alloc (Nat.le_refl _) _⟩)
              have HS : Hid (P i k m = false → ∀ z : Nat, z < m + 1 → P i k z = false) := Lib.hid (fun hp z hz => by
                by_cases e : z < m
                · exact A3.out z e
                · obtain rfl : z = m := by omega
                  exact hp)
              have T1 := Lib.hid (fun W (h : RowsAt W (.slice a M.length c) (M.map bools)) => l2Tie_any _ M i k W h HSQ.out hil hkl)
              have T2 := Lib.hid (fun W (h : RowsAt W (.slice a M.length c) (M.map bools)) => l2Tie_any _ M k m W h HSQ.out hkl hml)
              have T3 := Lib.hid (fun W (h : RowsAt W (.slice a M.length c) (M.map bools)) => l2Tie_any _ M i m W h HSQ.out hil hml)
              have HPV : Hid (P i k m = (tie2 M i k && tie2 M k m && !tie2 M i m)) := Lib.hid (by rw [HPE.out])
              generalize tie2 M i k = x at *
              generalize tie2 M k m = y at *
              generalize tie2 M i m = z at *
              cases x
              · go_wp2_with fail
                refine (T1.out _ HV.out).mono ?_
                rintro e w1 ⟨rfl, rfl⟩
                go_wp2_with fail
                go_round
                case rel => exact ⟨m + 1, by omega, by go_num, HS.out (by rw [HPV.out]; rfl)⟩
                case measure => simp [intOf]; omega
              · cases y
                · go_wp2_with fail
                  refine (T1.out _ HV.out).mono ?_
                  rintro e w1 ⟨rfl, rfl⟩
                  go_wp2_with fail
                  refine (T2.out _ HV.out).mono ?_
                  rintro e w1 ⟨rfl, rfl⟩
                  go_wp2_with fail
                  go_round
                  case rel => exact ⟨m + 1, by omega, by go_num, HS.out (by rw [HPV.out]; rfl)⟩
                  case measure => simp [intOf]; omega
                · cases z
                  · go_wp2_with fail
                    refine (T1.out _ HV.out).mono ?_
                    rintro e w1 ⟨rfl, rfl⟩
                    go_wp2_with fail
                    refine (T2.out _ HV.out).mono ?_
                    rintro e w1 ⟨rfl, rfl⟩
                    go_wp2_with fail
                    refine (T3.out _ HV.out).mono ?_
                    rintro e w1 ⟨rfl, rfl⟩
                    go_wp2_with fail
                    go_ret
                    exact HQ.out (by rw [HPV.out]; rfl)
                  · go_wp2_with fail
                    refine (T1.out _ HV.out).mono ?_
                    rintro e w1 ⟨rfl, rfl⟩
                    go_wp2_with fail
                    refine (T2.out _ HV.out).mono ?_
                    rintro e w1 ⟨rfl, rfl⟩
                    go_wp2_with fail
                    refine (T3.out _ HV.out).mono ?_
                    rintro e w1 ⟨rfl, rfl⟩
                    go_wp2_with fail
                    go_round
                    case rel => exact ⟨m + 1, by omega, by go_num, HS.out (by rw [HPV.out]; rfl)⟩
                    case measure => simp [intOf]; omega
            · obtain rfl : m = M.length := by omega
              have HS : Hid (∀ y z : Nat, y < k + 1 → z < M.length → P i y z = false) := Lib.hid (fun y z hy hz => by
                by_cases e : y < k
                · exact A2.out y z e hz
                · obtain rfl : y = k := by omega
                  exact A3.out z hz)
              go_wp2_with fail
              go_round
              case rel => exact ⟨k + 1, by omega, by go_num, HS.out⟩
              case measure => simp [intOf]; omega
        · obtain rfl : k = M.length := by omega
          have HS : Hid (∀ x y z : Nat, x < i + 1 → y < M.length → z < M.length → P x y z = false) := Lib.hid (fun x y z hx hy hz => by
            by_cases e : x < i
            · exact A1.out x y z e hy hz
            · obtain rfl : x = i := by omega
              exact A2.out y z hy hz)
          go_wp2_with fail
          go_round
          case rel => exact ⟨i + 1, by omega, by go_num, HS.out⟩
          case measure => simp [intOf]; omega
    · obtain rfl : i = M.length := by omega
      have HQ : Hid (TripC P M.length w (.returned (.slice (some ⟨w.heap.size, 0, none⟩) 0 0)) (w.alloc (.cells #[] 3))) := Lib.hid
        ⟨w.heap.size, 0, [], rfl, Nat.le_refl _, Nat.le_refl _, CellRow.of_row (heap_alloc_new w _), .inr ⟨rfl, A1.out⟩, (Below.refl _ w).alloc (Nat.le_refl _) _⟩
      go_wp2_with fail
      go_ret
      exact HQ.out

end Go.Proofs.Ytipdfmedbcafpaa
