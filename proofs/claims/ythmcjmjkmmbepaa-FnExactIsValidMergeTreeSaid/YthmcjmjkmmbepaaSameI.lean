/- Two lists of whole numbers held against each other (l1Same of the model, slices.Equal), by their contracts. -/
import Derived.Test.YthmcjmjkmmbepaaIntS
import Derived.Deep.QuietTactic
namespace Go.Proofs.Ythmcjmjkmmbepaa
open Go.RowKit
set_option linter.unusedVariables false

theorem take_step {a b : List Int} {k : Nat} {x y : Int} (h : a.take k = b.take k) (hx : a[k]? = some x) (hy : b[k]? = some y) : (x = y → a.take (k + 1) = b.take (k + 1)) ∧ (x ≠ y → a ≠ b) := by
  refine ⟨fun e => ?_, fun e h2 => ?_⟩
  · rw [List.take_add_one, List.take_add_one, h, hx, hy, e]
  · subst h2; rw [hx] at hy; exact e (Option.some.inj hy)

set_option maxRecDepth 100000 in
set_option maxHeartbeats 1000000 in
theorem l1Same_any (u v : Value) (a b : List Int) (w : World) (ha : FlatAt w u a.length (ints a)) (hb : FlatAt w v b.length (ints b)) (hn : a.length ≤ 1048576) (hm : b.length ≤ 1048576) :
    Calls Try.prog 107 #[u, v] w fun e w' => e = .returned (.bool (decide (a = b))) ∧ Below w.heap.size w w' := by
  obtain ⟨s, c, rfl, _, h⟩ := ha
  obtain ⟨s', c', rfl, _, h'⟩ := hb
  have H := Lib.hid h
  have H' := Lib.hid h'
  clear h h'
  by_cases hl : a.length = b.length
  · rw [← hl]
    have HL := Lib.hid hl
    clear hl hm
    go_enter Try.func107, Try.ntmps107
    go_wp2
    go_loopw [5] (fun i wr => ∃ k m : Nat, k ≤ a.length ∧ i = .int .i64 k ∧ wr = w.drewN m ∧ a.take k = b.take k) (fun i _ => a.length - (intOf i).toNat)
    case atStart => exact ⟨0, 0, Nat.zero_le _, rfl, rfl, rfl⟩
    case round =>
      obtain ⟨k, m, hk, rfl, rfl, ht⟩ := hrel
      have HT := Lib.hid ht
      clear ht
      by_cases hlt : k < a.length
      · obtain ⟨p, hp⟩ : ∃ p, a[k]? = some p := ⟨_, List.getElem?_eq_getElem hlt⟩
        obtain ⟨q, hq⟩ : ∃ q, b[k]? = some q := ⟨_, List.getElem?_eq_getElem (by have := HL.out; omega)⟩
        obtain ⟨g, o, rfl, hbb, hc1⟩ := H.out _ _ (ints_at hp)
        obtain ⟨g', o', rfl, hbb', hc1'⟩ := H'.out _ _ (ints_at hq)
        have HS := Lib.hid (take_step HT.out hp hq)
        clear hp hq HT
        by_cases hpq : p = q
        · have HN := Lib.hid (HS.out.1 hpq)
          subst hpq
          clear HS
          go_wp2
          go_quiet (fail)
          go_wp2
          go_roundw
          case rel => exact ⟨k + 1, _, by omega, by go_num, rfl, HN.out⟩
          case measure => simp [intOf]; omega
        · have HD := Lib.hid (decide_eq_false (HS.out.2 hpq))
          have hpq1 : (p == q) = false := by simpa using hpq
          clear HS
          go_wp2
          go_quiet (fail)
          go_wp2
          go_ret
          exact ⟨by rw [HD.out]; rfl, ⟨rfl, rfl, rfl, Nat.le_refl _, fun _ _ => rfl⟩⟩
      · obtain rfl : k = a.length := by omega
        have HD : Hid (decide (a = b) = true) := Lib.hid (decide_eq_true (by have h1 := HT.out; rw [List.take_length, HL.out, List.take_length] at h1; exact h1))
        go_wp2
        go_ret
        exact ⟨by rw [HD.out]; rfl, ⟨rfl, rfl, rfl, Nat.le_refl _, fun _ _ => rfl⟩⟩
  · have HD := Lib.hid (decide_eq_false (fun e : a = b => hl (by rw [e])))
    have hlz : ¬ (a.length : Int) = (b.length : Int) := by omega
    have hlb : ((a.length : Int) == (b.length : Int)) = false := by simpa using hlz
    go_enter Try.func107, Try.ntmps107
    go_wp2
    go_ret
    exact ⟨by rw [HD.out]; rfl, Below.refl _ _⟩

set_option maxRecDepth 100000 in
set_option maxHeartbeats 1000000 in
theorem slEqual_any (u v : Value) (a b : List Int) (w : World) (ha : FlatAt w u a.length (ints a)) (hb : FlatAt w v b.length (ints b)) (hn : a.length ≤ 1048576) (hm : b.length ≤ 1048576) :
    Calls Try.prog 73 #[u, v] w fun e w' => e = .returned (.bool (decide (a = b))) ∧ Below w.heap.size w w' := by
  obtain ⟨s, c, rfl, _, h⟩ := ha
  obtain ⟨s', c', rfl, _, h'⟩ := hb
  have H := Lib.hid h
  have H' := Lib.hid h'
  clear h h'
  by_cases hl : a.length = b.length
  · rw [← hl]
    have HL := Lib.hid hl
    clear hl hm
    go_enter Try.func73, Try.ntmps73
    go_wp2
    go_loopw [13] (fun i wr => ∃ k m : Nat, k ≤ a.length ∧ i = .int .i64 k ∧ wr = w.drewN m ∧ a.take k = b.take k) (fun i _ => a.length - (intOf i).toNat)
    case atStart => exact ⟨0, 0, Nat.zero_le _, rfl, rfl, rfl⟩
    case round =>
      obtain ⟨k, m, hk, rfl, rfl, ht⟩ := hrel
      have HT := Lib.hid ht
      clear ht
      by_cases hlt : k < a.length
      · obtain ⟨p, hp⟩ : ∃ p, a[k]? = some p := ⟨_, List.getElem?_eq_getElem hlt⟩
        obtain ⟨q, hq⟩ : ∃ q, b[k]? = some q := ⟨_, List.getElem?_eq_getElem (by have := HL.out; omega)⟩
        obtain ⟨g, o, rfl, hbb, hc1⟩ := H.out _ _ (ints_at hp)
        obtain ⟨g', o', rfl, hbb', hc1'⟩ := H'.out _ _ (ints_at hq)
        have HS := Lib.hid (take_step HT.out hp hq)
        clear hp hq HT
        by_cases hpq : p = q
        · have HN := Lib.hid (HS.out.1 hpq)
          subst hpq
          clear HS
          go_wp2
          go_quiet (fail)
          go_wp2
          go_roundw
          case rel => exact ⟨k + 1, _, by omega, by go_num, rfl, HN.out⟩
          case measure => simp [intOf]; omega
        · have HD := Lib.hid (decide_eq_false (HS.out.2 hpq))
          have hpq1 : (p == q) = false := by simpa using hpq
          clear HS
          go_wp2
          go_quiet (fail)
          go_wp2
          go_ret
          exact ⟨by rw [HD.out]; rfl, ⟨rfl, rfl, rfl, Nat.le_refl _, fun _ _ => rfl⟩⟩
      · obtain rfl : k = a.length := by omega
        have HD : Hid (decide (a = b) = true) := Lib.hid (decide_eq_true (by have h1 := HT.out; rw [List.take_length, HL.out, List.take_length] at h1; exact h1))
        go_wp2
        go_ret
        exact ⟨by rw [HD.out]; rfl, ⟨rfl, rfl, rfl, Nat.le_refl _, fun _ _ => rfl⟩⟩
  · have HD := Lib.hid (decide_eq_false (fun e : a = b => hl (by rw [e])))
    have hlz : ¬ (a.length : Int) = (b.length : Int) := by omega
    have hlb : ((a.length : Int) == (b.length : Int)) = false := by simpa using hlz
    go_enter Try.func73, Try.ntmps73
    go_wp2
    go_ret
    exact ⟨by rw [HD.out]; rfl, Below.refl _ _⟩

end Go.Proofs.Ythmcjmjkmmbepaa
