/- rOrder of the laws: a permutation, by its contract. -/
import Derived.Test.YtjlldjekjnlcaaaInvP
import Derived.Test.YtjlldjekjnlcaaaVAt
import Derived.Test.YtjlldjekjnlcaaaInsR
import Derived.Test.YtjlldjekjnlcaaaRetI
import Derived.Test.YtjlldjekjnlcaaaCode
import Derived.BigRegion
import Derived.Laws.BitsLemmas
namespace Go.Proofs.Ytjlldjekjnlcaaa
open Go.RowKit P
set_option linter.unusedVariables false

attribute [local go_sem ↓ high] builtin_append_held

/-- A new permutation of n numbers. -/
def OrdD (n : Nat) (w : World) (e : Ending) (w' : World) : Prop :=
  ∃ (g c : Nat) (L : List Int), L.Perm (iota n) ∧ e = .returned (.slice (some ⟨g, 0, none⟩) L.length c) ∧ L.length ≤ c ∧ CellRow w' g (ints L) ∧ Below w.heap.size w w'

theorem code_below {w w' : World} {a : Option Addr} {len : Nat} (h : Code0 w a len) (hb : Below w.heap.size w w') : Code0 w' a len := h.below hb

set_option maxRecDepth 100000 in
set_option maxHeartbeats 4000000 in
theorem rOrder_any (a : Option Addr) (len cap n : Nat) (w : World) (h : Code0 w a len) (hl : len ≤ 1000000) (hn : n ≤ 64) :
    Calls Try.prog 17 #[.slice a len cap, .int .i64 (n : Int)] w (OrdD n w) := by
  have HC := Lib.hid h
  have HS : Hid (Held w.heap.size (w.alloc (.cells #[] 3)) (.slice (some ⟨w.heap.size, 0, none⟩) 0 0) []) := Lib.hid (Held.start w w.heap.size (Nat.le_refl _))
  have HB0 : Hid (Below w.heap.size w (w.alloc (.cells #[] 3))) := Lib.hid ((Below.refl _ _).alloc (Nat.le_refl _) _)
  clear h
  go_enter Try.func17, Try.ntmps17
  go_wp2_with fail
  go_loopw [5, 6, 7] (fun v i _ wr => ∃ (k : Nat) (L : List Int), k ≤ n ∧ i = .int .i64 k ∧ L.Perm (iota k) ∧ Held w.heap.size wr v L ∧ Below w.heap.size w wr) (fun _ i _ _ => n - (intOf i).toNat)
  case atStart => exact ⟨0, [], Nat.zero_le _, rfl, by rw [show iota 0 = [] from rfl], HS.out, HB0.out⟩
  case round =>
    obtain ⟨k, L, hk, rfl, hP, hO, hb⟩ := hrel
    have HP := Lib.hid hP
    have HO := Lib.hid hO
    have HB := Lib.hid hb
    have hLk : L.length = k := by rw [hP.length_eq, iota_length]
    have HLL := Lib.hid hLk
    clear hP hO hb HS HB0 hLk
    by_cases hlt : k < n
    · have HVA := Lib.hid (vAt_any a len cap k wr (HC.out.below HB.out) (by omega) hl)
      have hwk : IntKind.i64.wrap ((k : Int) + 1) = ((k + 1 : Nat) : Int) := by rw [IntKind.wrap_i64]; omega
      go_wp2_with fail
      refine (HVA.out).mono ?_
      rintro e w2 ⟨⟨rz, h0, h1, rfl⟩, hww⟩
      obtain rfl : wr = w2 := hww.symm
      obtain ⟨r0, rfl⟩ : ∃ q : Nat, rz = q := ⟨rz.toNat, by omega⟩
      obtain ⟨r, hr⟩ : ∃ r, r = r0 % (k + 1) := ⟨_, rfl⟩
      have hrk : r ≤ k := by rw [hr]; have := Nat.mod_lt r0 (show 0 < k + 1 by omega); omega
      have hre : (r0 : Int) % ((k : Int) + 1) = (r : Int) := by rw [hr]; exact (Int.natCast_emod r0 (k + 1)).symm
      have hrt : Int.tmod (r0 : Int) ((k : Int) + 1) = (r : Int) := by rw [Int.tmod_eq_emod_of_nonneg (by omega)]; exact hre
      have hrt2 : Int.tmod (r0 : Int) ((k + 1 : Nat) : Int) = (r : Int) := hrt
      have hre2 : (r0 : Int) % ((k + 1 : Nat) : Int) = (r : Int) := hre
      obtain ⟨go, co, rfl, hgo, hco, hrow⟩ := HO.out.row
      have hrL : r ≤ L.length := by have := HLL.out; omega
      have hL70 : L.length ≤ 70 := by have := HLL.out; omega
      have HNEW : Hid (∀ v3 w3, Held wr.heap.size w3 v3 (L.take r ++ [(k : Int)] ++ L.drop r) ∧ Below wr.heap.size wr w3 →
          ∃ (k' : Nat) (L' : List Int), k' ≤ n ∧ (Value.int .i64 ((k : Int) + 1)) = .int .i64 k' ∧ L'.Perm (iota k') ∧ Held w.heap.size w3 v3 L' ∧ Below w.heap.size w w3) := Lib.hid (fun v3 w3 h3 =>
        ⟨k + 1, L.take r ++ [(k : Int)] ++ L.drop r, by omega, by go_num, by
          rw [iota_succ]
          have h1 : (L.take r ++ [(k : Int)] ++ L.drop r).Perm ((k : Int) :: (L.take r ++ L.drop r)) := by rw [List.append_assoc]; exact List.perm_middle
          rw [List.take_append_drop] at h1
          refine h1.trans ((List.Perm.cons _ HP.out).trans ?_)
          exact (List.perm_append_singleton _ _).symm, h3.1.lower HB.out.size, HB.out.trans (h3.2.mono HB.out.size)⟩)
      clear h0 h1 hr HO HB HVA
      by_cases hcr : co = r
      · subst hcr
        obtain ⟨v3, v3', v3'', w3, w3', w3'', v1, v1', v1'', v2, v2', v2'', w1, w1', w1'', wz, wz', wz'', I⟩ := inserts go co co 0 0 0 (k : Int) L wr hrow hrL (by omega) (by omega) (fun h => by omega)
        obtain ⟨a1, a2, a3, b1, b2, b3, c1, c2, c3, ha, hb, hc⟩ := I
        have HA := Lib.hid (HNEW.out _ _ ha)
        have HBb := Lib.hid (HNEW.out _ _ hb)
        have HCc := Lib.hid (HNEW.out _ _ hc)
        clear ha hb hc hrow HNEW
        go_wp2_with fail
        go_region
        all_goals (
          go_wp2_with fail
          go_roundw
          case rel => first | exact HA.out | exact HBb.out | exact HCc.out
          case measure => simp [intOf]; omega)
      · obtain ⟨v3, v3', v3'', w3, w3', w3'', v1, v1', v1'', v2, v2', v2'', w1, w1', w1'', wz, wz', wz'', I⟩ := inserts go co r r (co - r) (L.length - r) (k : Int) L wr hrow hrL (by omega) rfl (fun _ => rfl)
        obtain ⟨a1, a2, a3, b1, b2, b3, c1, c2, c3, ha, hb, hc⟩ := I
        have HA := Lib.hid (HNEW.out _ _ ha)
        have HBb := Lib.hid (HNEW.out _ _ hb)
        have HCc := Lib.hid (HNEW.out _ _ hc)
        clear ha hb hc hrow HNEW
        go_wp2_with fail
        go_region
        all_goals (
          go_wp2_with fail
          go_roundw
          case rel => first | exact HA.out | exact HBb.out | exact HCc.out
          case measure => simp [intOf]; omega)
    · obtain rfl : k = n := by omega
      obtain ⟨go, co, rfl, hgo, hco, hrow⟩ := HO.out.row
      have HRES : Hid (OrdD k w (.returned (.slice (some ⟨go, 0, none⟩) L.length co)) wr) := Lib.hid ⟨go, co, L, HP.out, rfl, hco, hrow, HB.out⟩
      clear hrow HO
      go_wp2_with fail
      go_ret
      exact HRES.out

end Go.Proofs.Ytjlldjekjnlcaaa
