/- The model's first witness (l2Defect, OrderDefect), by their contracts. -/
import Derived.Test.YtipdfmedbcafpaaTriple
import Derived.OwnWalk
namespace Go.Proofs.Ytipdfmedbcafpaa
open Go.RowKit

def First1 (P : Nat → Bool) (n : Nat) (L : List Int) : Prop :=
  (∃ i : Nat, i < n ∧ P i = true ∧ L = [(i : Int)] ∧ ∀ j : Nat, j < i → P j = false) ∨ (L = [] ∧ ∀ i : Nat, i < n → P i = false)
def First2 (P : Nat → Nat → Bool) (n : Nat) (L : List Int) : Prop :=
  (∃ i k : Nat, i < n ∧ k < n ∧ P i k = true ∧ L = [(i : Int), (k : Int)] ∧ ∀ i' k' : Nat, i' < n → k' < n → (i' < i ∨ i' = i ∧ k' < k) → P i' k' = false) ∨ (L = [] ∧ ∀ i k : Nat, i < n → k < n → P i k = false)

theorem First1.uniq {P : Nat → Bool} {n : Nat} {L L' : List Int} (h : First1 P n L) (h' : First1 P n L') : L = L' := by
  rcases h with ⟨i, hi, hp, rfl, hl⟩ | ⟨rfl, hl⟩
  · rcases h' with ⟨i', hi', hp', rfl, hl'⟩ | ⟨rfl, hl'⟩
    · by_cases e1 : i' < i
      · rw [hl i' e1] at hp'; cases hp'
      · by_cases e2 : i < i'
        · rw [hl' i e2] at hp; cases hp
        · obtain rfl : i = i' := by omega
          rfl
    · rw [hl' i hi] at hp; cases hp
  · rcases h' with ⟨i', hi', hp', rfl, hl'⟩ | ⟨rfl, hl'⟩
    · rw [hl i' hi'] at hp'; cases hp'
    · rfl
theorem First2.uniq {P : Nat → Nat → Bool} {n : Nat} {L L' : List Int} (h : First2 P n L) (h' : First2 P n L') : L = L' := by
  rcases h with ⟨i, k, hi, hk, hp, rfl, hl⟩ | ⟨rfl, hl⟩
  · rcases h' with ⟨i', k', hi', hk', hp', rfl, hl'⟩ | ⟨rfl, hl'⟩
    · by_cases e1 : i' < i ∨ i' = i ∧ k' < k
      · rw [hl i' k' hi' hk' e1] at hp'; cases hp'
      · by_cases e2 : i < i' ∨ i = i' ∧ k < k'
        · rw [hl' i k hi hk e2] at hp; cases hp
        · obtain rfl : i = i' := by omega
          obtain rfl : k = k' := by omega
          rfl
    · rw [hl' i k hi hk] at hp; cases hp
  · rcases h' with ⟨i', k', hi', hk', hp', rfl, hl'⟩ | ⟨rfl, hl'⟩
    · rw [hl i' k' hi' hk'] at hp'; cases hp'
    · rfl

def pIrr (M : List (List Bool)) (i : Nat) : Bool := at2 M i i
def pAsy (M : List (List Bool)) (i k : Nat) : Bool := at2 M i k && at2 M k i
def pTra (M : List (List Bool)) : Nat → Nat → Nat → Bool := fun i k m => at2 M i k && at2 M k m && !at2 M i m
def pTie (M : List (List Bool)) : Nat → Nat → Nat → Bool := fun i k m => tie2 M i k && tie2 M k m && !tie2 M i m

/-- The first witness against a strict weak order. -/
def DefectOf (M : List (List Bool)) (L : List Int) : Prop :=
  ∃ L1, First1 (pIrr M) M.length L1 ∧ ((L1 ≠ [] ∧ L = L1) ∨ (L1 = [] ∧ ∃ L2, First2 (pAsy M) M.length L2 ∧ ((L2 ≠ [] ∧ L = L2) ∨ (L2 = [] ∧ ∃ L3, FirstT (pTra M) M.length L3 ∧ ((L3 ≠ [] ∧ L = L3) ∨ (L3 = [] ∧ FirstT (pTie M) M.length L))))))

theorem DefectOf.uniq {M : List (List Bool)} {L L' : List Int} (h : DefectOf M L) (h' : DefectOf M L') : L = L' := by
  obtain ⟨L1, f1, h⟩ := h
  obtain ⟨K1, g1, h'⟩ := h'
  obtain rfl := f1.uniq g1
  rcases h with ⟨n1, rfl⟩ | ⟨rfl, L2, f2, h⟩
  · rcases h' with ⟨_, rfl⟩ | ⟨e, _⟩
    · rfl
    · exact absurd e n1
  · rcases h' with ⟨e, _⟩ | ⟨_, K2, g2, h'⟩
    · exact absurd rfl e
    · obtain rfl := f2.uniq g2
      rcases h with ⟨n2, rfl⟩ | ⟨rfl, L3, f3, h⟩
      · rcases h' with ⟨_, rfl⟩ | ⟨e, _⟩
        · rfl
        · exact absurd e n2
      · rcases h' with ⟨e, _⟩ | ⟨_, K3, g3, h'⟩
        · exact absurd rfl e
        · obtain rfl := f3.uniq g3
          rcases h with ⟨n3, rfl⟩ | ⟨rfl, f4⟩
          · rcases h' with ⟨_, rfl⟩ | ⟨e, _⟩
            · rfl
            · exact absurd e n3
          · rcases h' with ⟨e, _⟩ | ⟨_, g4⟩
            · exact absurd rfl e
            · exact f4.uniq g4

def DefC (M : List (List Bool)) (w : World) (e : Ending) (w' : World) : Prop :=
  ∃ (g cap : Nat) (L : List Int), e = .returned (.slice (some ⟨g, 0, none⟩) L.length cap) ∧ L.length ≤ cap ∧ w.heap.size ≤ g ∧ CellRow w' g (ints L) ∧ DefectOf M L ∧ Below w.heap.size w w'

set_option maxRecDepth 100000 in
set_option maxHeartbeats 4000000 in
theorem l2Defect_any (v : Value) (M : List (List Bool)) (w : World) (hv : RowsAt w v (M.map bools)) (hsq : ∀ x ∈ M, x.length = M.length) (hn : M.length ≤ 100) :
    Calls Try.prog 66 #[v] w (DefC M w) := by
  have hv0 := hv
  obtain ⟨a, c, rfl, hc0, hc1⟩ := hv0
  have hlen : (M.map bools).length = M.length := by simp
  rw [hlen] at hv hc0
  have HV := Lib.hid hv
  have HSQ := Lib.hid hsq
  have HT1 := Lib.hid (fun W (h : RowsAt W (.slice a M.length c) (M.map bools)) => l2Triple_tra _ M W h hsq hn)
  have HT2 := Lib.hid (fun W (h : RowsAt W (.slice a M.length c) (M.map bools)) => l2Triple_tie _ M W h hsq hn)
  rw [hlen]
  clear hv hsq hc1
  go_enter Try.func66, Try.ntmps66
  go_wp2_with fail
  go_loop [4] (fun i => ∃ i' : Nat, i' ≤ M.length ∧ i = .int .i64 i' ∧ (∀ x : Nat, x < i' → pIrr M x = false)) (fun i => M.length - (intOf i).toNat)
  case atStart => exact ⟨0, Nat.zero_le _, rfl, fun x hx => by omega⟩
  case round =>
    obtain ⟨i, hi, rfl, hall1⟩ := hrel
    have A1 := Lib.hid hall1
    clear hall1
    by_cases hil : i < M.length
    · obtain ⟨_, _, he, _, hH⟩ := HV.out
      simp at he
      obtain ⟨rfl, rfl⟩ := he
      obtain ⟨b, o, b2, o2, c2, rfl, h1, h2⟩ := rel_el hH HSQ.out hil hil
      clear hH
      by_cases hp : at2 M i i = true
      · rw [hp] at h2
        have HQ : Hid (DefC M w (.returned (.slice (some ⟨w.heap.size, 0, none⟩) 1 1)) (w.alloc (.cells #[.int .i64 (i : Int)] 3))) := Lib.hid
          ⟨w.heap.size, 1, [(i : Int)], rfl, Nat.le_refl _, Nat.le_refl _, CellRow.of_row (heap_alloc_new w _), ⟨_, .inl ⟨i, hil, hp, rfl, A1.out⟩, .inl ⟨by simp, rfl⟩⟩, (Below.refl _ w).alloc (Nat.le_refl _) _⟩
        clear hp
        go_wp2_with fail
        go_ret
        exact HQ.out
      · have hp2 : at2 M i i = false := by simpa using hp
        rw [hp2] at h2
        have HS : Hid (∀ x : Nat, x < i + 1 → pIrr M x = false) := Lib.hid (fun x hx => by
          by_cases e : x < i
          · exact A1.out x e
          · obtain rfl : x = i := by omega
            exact hp2)
        clear hp hp2
        go_wp2_with fail
        go_round
        case rel => exact ⟨i + 1, by omega, by go_num, HS.out⟩
        case measure => simp [intOf]; omega
    · obtain rfl : i = M.length := by omega
      have F1 : Hid (First1 (pIrr M) M.length []) := Lib.hid (.inr ⟨rfl, A1.out⟩)
      go_wp2_with fail
      go_loop [5] (fun i => ∃ i' : Nat, i' ≤ M.length ∧ i = .int .i64 i' ∧ (∀ x y : Nat, x < i' → y < M.length → pAsy M x y = false)) (fun i => M.length - (intOf i).toNat)
      case atStart => exact ⟨0, Nat.zero_le _, rfl, fun x y hx => by omega⟩
      case round =>
        obtain ⟨i, hi, rfl, hall2⟩ := hrel
        have A2 := Lib.hid hall2
        clear hall2
        by_cases hil : i < M.length
        · go_wp2_with fail
          go_loop [6] (fun k => ∃ k' : Nat, k' ≤ M.length ∧ k = .int .i64 k' ∧ (∀ y : Nat, y < k' → pAsy M i y = false)) (fun k => M.length - (intOf k).toNat)
          case atStart => exact ⟨0, Nat.zero_le _, rfl, fun y hy => by omega⟩
          case round =>
            obtain ⟨k, hk, rfl, hall3⟩ := hrel
            have A3 := Lib.hid hall3
            clear hall3
            by_cases hkl : k < M.length
            · obtain ⟨_, _, he, _, hH⟩ := HV.out
              simp at he
              obtain ⟨rfl, rfl⟩ := he
              obtain ⟨b, o, b2, o2, c2, rfl, h1, h2⟩ := rel_el hH HSQ.out hil hkl
              obtain ⟨b', o', b3, o3, c3, he, h3, h4⟩ := rel_el hH HSQ.out hkl hil
              obtain rfl : b = b' := congrArg Addr.block (Option.some.inj he)
              obtain rfl : o = o' := congrArg Addr.off (Option.some.inj he)
              have HPV : Hid (pAsy M i k = (at2 M i k && at2 M k i)) := Lib.hid rfl
              have HQ : Hid (pAsy M i k = true → DefC M w (.returned (.slice (some ⟨w.heap.size, 0, none⟩) 2 2)) (w.alloc (.cells #[.int .i64 (i : Int), .int .i64 (k : Int)] 3))) := Lib.hid (fun hp =>
                ⟨w.heap.size, 2, [(i : Int), (k : Int)], rfl, Nat.le_refl _, Nat.le_refl _, CellRow.of_row (heap_alloc_new w _), ⟨[], F1.out, .inr ⟨rfl, _, .inl ⟨i, k, hil, hkl, hp, rfl, fun x y hx hy h => by
                  rcases h with h | ⟨rfl, h⟩
                  · exact A2.out x y h hy
                  · exact A3.out y h⟩, .inl ⟨by simp, rfl⟩⟩⟩, (Below.refl _ w).alloc (Nat.le_refl _) _⟩)
              have HS : Hid (pAsy M i k = false → ∀ y : Nat, y < k + 1 → pAsy M i y = false) := Lib.hid (fun hp y hy => by
                by_cases e : y < k
                · exact A3.out y e
                · obtain rfl : y = k := by omega
                  exact hp)
              clear hH he
              generalize at2 M i k = x at *
              generalize at2 M k i = y at *
              cases x
              · go_wp2_with fail
                go_round
                case rel => exact ⟨k + 1, by omega, by go_num, HS.out (by rw [HPV.out]; rfl)⟩
                case measure => simp [intOf]; omega
              · cases y
                · go_wp2_with fail
                  go_round
                  case rel => exact ⟨k + 1, by omega, by go_num, HS.out (by rw [HPV.out]; rfl)⟩
                  case measure => simp [intOf]; omega
                · go_wp2_with fail
                  go_ret
                  exact HQ.out (by rw [HPV.out]; rfl)
            · obtain rfl : k = M.length := by omega
              have HS : Hid (∀ x y : Nat, x < i + 1 → y < M.length → pAsy M x y = false) := Lib.hid (fun x y hx hy => by
                by_cases e : x < i
                · exact A2.out x y e hy
                · obtain rfl : x = i := by omega
                  exact A3.out y hy)
              go_wp2_with fail
              go_round
              case rel => exact ⟨i + 1, by omega, by go_num, HS.out⟩
              case measure => simp [intOf]; omega
        · obtain rfl : i = M.length := by omega
          have F2 : Hid (First2 (pAsy M) M.length []) := Lib.hid (.inr ⟨rfl, A2.out⟩)
          go_wp2_with fail
          refine (HT1.out _ HV.out).mono ?_
          rintro e w1 ⟨g, cap, L, rfl, hcap, hg, hrow, hf, hb⟩
          have HV1 := Lib.hid (HV.out.below hb)
          have HROW := Lib.hid hrow
          have HF := Lib.hid hf
          have HB := Lib.hid hb
          have HG := Lib.hid hg
          clear hrow hf hb hg
          by_cases hL : 0 < L.length
          · have HQ : Hid (DefC M w (.returned (.slice (some ⟨g, 0, none⟩) L.length cap)) w1) := Lib.hid
              ⟨g, cap, L, rfl, hcap, HG.out, HROW.out, ⟨[], F1.out, .inr ⟨rfl, [], F2.out, .inr ⟨rfl, L, HF.out, .inl ⟨fun e => by rw [e] at hL; simp at hL, rfl⟩⟩⟩⟩, HB.out⟩
            go_wp2_with fail
            go_ret
            exact HQ.out
          · obtain rfl : L = [] := List.eq_nil_of_length_eq_zero (by omega)
            clear hL
            go_wp2_with fail
            refine (HT2.out _ HV1.out).mono ?_
            rintro e w2 ⟨g2, cap2, L2, rfl, hcap2, hg, hrow, hf, hb⟩
            have HQ : Hid (DefC M w (.returned (.slice (some ⟨g2, 0, none⟩) L2.length cap2)) w2) := Lib.hid
              ⟨g2, cap2, L2, rfl, hcap2, Nat.le_trans HB.out.size hg, hrow, ⟨[], F1.out, .inr ⟨rfl, [], F2.out, .inr ⟨rfl, [], HF.out, .inr ⟨rfl, hf⟩⟩⟩⟩, HB.out.trans (hb.mono HB.out.size)⟩
            clear hcap2 hg hrow hf hb
            go_wp2_with fail
            go_ret
            exact HQ.out

end Go.Proofs.Ytipdfmedbcafpaa
