/- The draws of permutations, by contracts: short lists of numbers in a row of their own, and nothing but the cursor moved. -/
import Derived.Test.YtjmmhakmidddoaaInsR
import Derived.Test.YtjmmhakmidddoaaCode
import Derived.Test.YtjmmhakmidddoaaAmong
import Derived.BigRegion
import Derived.Laws.BitsLemmas
namespace Go.Proofs.Ytjmmhakmidddoaa
open Go.RowKit

theorem But.then_belowQ {g : Nat} {w a b : World} (h : But g w a) (k : Below w.heap.size a b) : But g w b :=
  ⟨k.os.trans h.os, k.tape.trans h.tape, k.output.trans h.output, Nat.le_trans h.size k.size, fun i hi hg => (k.block i hi).trans (h.block i hi hg)⟩
theorem Held.but {base g : Nat} {w w' : World} {v : Value} {L : List Int} (h : Held base w v L) (hb : But g w w') (hg : g < base) : Held base w' v L := by
  refine h.own fun g' c e hlt => ?_
  obtain ⟨g2, c2, e2, hbase, _⟩ := h.row
  rw [e] at e2
  simp at e2
  exact hb.block g' hlt (by omega)

/-- A list drawn: at most n numbers, each from lo to hi. -/
def ListQ (B g : Nat) (a : Option Addr) (len cap : Nat) (m : Nat) (n : Nat) (lo hi : Int) (w : World) (e : Ending) (w' : World) : Prop :=
  ∃ (v : Value) (L : List Int), L.length ≤ n ∧ (∀ x ∈ L, lo ≤ x ∧ x ≤ hi) ∧ e = .returned v ∧ Held w.heap.size w' v L ∧ Cur B g a len cap m w' ∧ But g w w'

attribute [local go_sem ↓ high] builtin_append_held

set_option maxRecDepth 100000 in
set_option maxHeartbeats 8000000 in
theorem permutation_any (B g : Nat) (a : Option Addr) (len cap : Nat) (m : Nat) (n : Nat) (w : World) (h : Cur B g a len cap m w) (hm : m ≤ 900000) (hn : n ≤ 70) :
    Calls Try.prog 116 #[.pointer (some ⟨g, 0, none⟩), .int .i64 (n : Int)] w fun e w' =>
      ∃ (v : Value) (L : List Int), L.length = n ∧ (∀ x ∈ L, 0 ≤ x ∧ x ≤ 70) ∧ e = .returned v ∧ Held w.heap.size w' v L ∧ Cur B g a len cap (m + 2 * n) w' ∧ But g w w' := by
  have H := Lib.hid (h.alloc (.cells #[] 3))
  have hgl := h.lt
  have HS := Lib.hid (Held.start w w.heap.size (Nat.le_refl _))
  have HB0 : Hid (But g w (w.alloc (.cells #[] 3))) := Lib.hid (But.alloc g w _)
  clear h
  go_enter Try.func116, Try.ntmps116
  go_wp2_with fail
  go_loopw [5, 6, 7] (fun v i _ wr => ∃ (k : Nat) (L : List Int), k ≤ n ∧ i = .int .i64 k ∧ L.length = k ∧ (∀ x ∈ L, 0 ≤ x ∧ x ≤ 70) ∧ Held w.heap.size wr v L ∧ Cur B g a len cap (m + 2 * k) wr ∧ But g w wr) (fun _ i _ _ => n - (intOf i).toNat)
  case atStart => exact ⟨0, [], Nat.zero_le _, rfl, rfl, by simp, HS.out, H.out, HB0.out⟩
  case round =>
    obtain ⟨k, L, hk, rfl, hL, hall, hO, hc, hb⟩ := hrel
    have HLL := Lib.hid hL
    have HALL := Lib.hid hall
    have HO := Lib.hid hO
    have HC := Lib.hid hc
    have HB := Lib.hid hb
    clear hL hall hO hc hb HS HB0 H
    by_cases hlt : k < n
    · have hwk : IntKind.i64.wrap ((k : Int) + 1) = ((k + 1 : Nat) : Int) := by rw [IntKind.wrap_i64]; omega
      have HPI := Lib.hid (fun W (h : Cur B g a len cap (m + 2 * k) W) => pick_any B g a len cap (m + 2 * k) ((k + 1 : Nat) : Int) W h (by omega) (by omega))
      go_wp2_with fail
      refine (HPI.out _ HC.out).mono ?_
      rintro e w2 ⟨r, hr0, hr1, rfl, hc, hb⟩
      obtain ⟨r, rfl⟩ : ∃ q : Nat, r = q := ⟨r.toNat, by omega⟩
      have hrk : r ≤ L.length := by have := HLL.out; omega
      have hO2 := HO.out.but hb hgl
      obtain ⟨go, co, rfl, hgo, hco, hrow⟩ := hO2.row
      have hws : w.heap.size ≤ w2.heap.size := Nat.le_trans HB.out.size hb.size
      have HC2 := Lib.hid hc
      have HB2 := Lib.hid (HB.out.trans hb)
      have hL70 : L.length ≤ 70 := by have := HLL.out; omega
      have HNEW : Hid (∀ v3 w3, Held w2.heap.size w3 v3 (L.take r ++ [(k : Int)] ++ L.drop r) ∧ Below w2.heap.size w2 w3 →
          ∃ (k' : Nat) (L' : List Int), k' ≤ n ∧ (Value.int .i64 ((k : Int) + 1)) = .int .i64 k' ∧ L'.length = k' ∧ (∀ x ∈ L', 0 ≤ x ∧ x ≤ 70) ∧ Held w.heap.size w3 v3 L' ∧ Cur B g a len cap (m + 2 * k') w3 ∧ But g w w3) := Lib.hid (fun v3 w3 h3 =>
        ⟨k + 1, L.take r ++ [(k : Int)] ++ L.drop r, by omega, by go_num, by have := HLL.out; simp; omega, fun x hx => by
          rcases List.mem_append.1 hx with hx | hx
          · rcases List.mem_append.1 hx with hx | hx
            · exact HALL.out x (List.mem_of_mem_take hx)
            · rw [List.mem_singleton.1 hx]; omega
          · exact HALL.out x (List.mem_of_mem_drop hx), h3.1.lower hws, (HC2.out.keep (h3.2.mono (show g + 1 ≤ w2.heap.size by omega))).more (by omega), HB2.out.then_belowQ (h3.2.mono hws)⟩)
      clear hr0 hr1 hc hb HO HC HB HPI hO2
      by_cases hcr : co = r
      · subst hcr
        obtain ⟨v3, v3', v3'', w3, w3', w3'', v1, v1', v1'', v2, v2', v2'', w1, w1', w1'', wz, wz', wz'', I⟩ := inserts go co co 0 0 0 (k : Int) L w2 hrow hrk (by omega) (by omega) (fun h => by omega)
        obtain ⟨a1, a2, a3, b1, b2, b3, c1, c2, c3, ha, hb, hc⟩ := I
        have HA := Lib.hid (HNEW.out _ _ ha)
        have HBb := Lib.hid (HNEW.out _ _ hb)
        have HCc := Lib.hid (HNEW.out _ _ hc)
        clear ha hb hc hrow HNEW
        go_wp2_with fail
        go_region
        all_goals (
          go_wp2_with fail
          go_roundw
          case rel => first | exact HA.out | exact HBb.out | exact HCc.out
          case measure => simp [intOf]; omega)
      · obtain ⟨v3, v3', v3'', w3, w3', w3'', v1, v1', v1'', v2, v2', v2'', w1, w1', w1'', wz, wz', wz'', I⟩ := inserts go co r r (co - r) (L.length - r) (k : Int) L w2 hrow hrk (by omega) rfl (fun _ => rfl)
        obtain ⟨a1, a2, a3, b1, b2, b3, c1, c2, c3, ha, hb, hc⟩ := I
        have HA := Lib.hid (HNEW.out _ _ ha)
        have HBb := Lib.hid (HNEW.out _ _ hb)
        have HCc := Lib.hid (HNEW.out _ _ hc)
        clear ha hb hc hrow HNEW
        go_wp2_with fail
        go_region
        all_goals (
          go_wp2_with fail
          go_roundw
          case rel => first | exact HA.out | exact HBb.out | exact HCc.out
          case measure => simp [intOf]; omega)
    · obtain rfl : k = n := by omega
      have HRES : Hid (∃ (v' : Value) (L : List Int), L.length = k ∧ (∀ x ∈ L, 0 ≤ x ∧ x ≤ 70) ∧ Ending.returned u5 = .returned v' ∧ Held w.heap.size wr v' L ∧ Cur B g a len cap (m + 2 * k) wr ∧ But g w wr) := Lib.hid ⟨_, L, HLL.out, HALL.out, rfl, HO.out, HC.out, HB.out⟩
      go_wp2_with fail
      go_ret
      exact HRES.out

end Go.Proofs.Ytjmmhakmidddoaa
