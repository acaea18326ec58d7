/- slices.Concat of lists of numbers, by its contract. -/
import Derived.Test.YtagibgphegoagaaOwnN
import Derived.Lib.AppendZeros
import Derived.Laws.OwnMore
import Derived.BigRegion
import Derived.BigQuiet
import Derived.Deep.QuietTactic
import Derived.Laws.BitsLemmas
namespace Go.Proofs.Ytagibgphegoagaa
open Go.RowKit
set_option linter.unusedVariables false

attribute [local go_sem ↓ high] builtin_append_held

/-- One of the lists: nil, or at an address. -/
structure Part where
  a : Option Addr
  c : Nat
  l : List Int
def Part.val (p : Part) : Value := .slice p.a p.l.length p.c
def Part.ok (p : Part) (w : World) : Prop := FlatAt w p.val p.l.length (ints p.l) ∧ (p.a = none → p.c = 0)
theorem Part.ok.below {p : Part} {w w' : World} (h : p.ok w) (hb : Below w.heap.size w w') : p.ok w' := ⟨h.1.below hb, h.2⟩
def joined (Ps : List Part) : List Int := Ps.flatMap Part.l
theorem joined_take {Ps : List Part} {k : Nat} {p : Part} (h : Ps[k]? = some p) : joined (Ps.take (k + 1)) = joined (Ps.take k) ++ p.l := by
  unfold joined; rw [List.take_add_one, h]; simp
theorem joined_le (Ps : List Part) (k : Nat) : (joined (Ps.take k)).length ≤ (joined Ps).length := by
  have : joined Ps = joined (Ps.take k) ++ joined (Ps.drop k) := by unfold joined; rw [← List.flatMap_append, List.take_append_drop]
  rw [this, List.length_append]; omega

/-- 'append(l, part...)', l maybe nil. -/
theorem appendNP (base : Nat) (v : Value) (L : List Int) (p : Part) (w : World) (h : OwnN base w v L) (hb : base ≤ w.heap.size) (hn : L.length + p.l.length ≤ 2097152) (hp : p.ok w) :
    ∃ v' w', (heldAppend #[34, 34] 34 #[v, .slice p.a p.l.length p.c]).run Try.prog w = .ok v' w' ∧ OwnN base w' v' (L ++ p.l) ∧ Below base w w' := by
  obtain ⟨i0, hi, hz0, hz1, hz2⟩ := info_parts infoIntH
  obtain ⟨a, c, l⟩ := p
  obtain ⟨⟨a', c', e, hc, hl⟩, hz⟩ := hp
  unfold Part.val at e
  simp at e hl hz hn ⊢
  obtain ⟨rfl, rfl⟩ := e
  cases a with
  | none =>
    have hl0 : l = [] := by
      cases l with
      | nil => rfl
      | cons x l => have := hl 0 _ (ints_at (l := x :: l) (k := 0) rfl); simp at this
    subst hl0
    rw [hz rfl]
    refine ⟨v, w, run_append_owned_none (P := Try.prog) (w := w) base 34 34 3 i0 1 Try.underlying34 hi v L.length (ints L) h, by rw [List.append_nil]; exact h, Below.refl _ _⟩
  | some ad =>
    obtain ⟨v', w', hrun, hown, hgrow, hnil⟩ := run_append_own (P := Try.prog) (w := w) base 34 34 3 i0 (.int .i64 0) 1 8 Try.underlying34 hi hz0 hz1 hz2 rfl (by decide)
      v L.length (ints L) h ad l.length c (ints l) (by rw [ints_length, Nat.mul_one]) (fun j u hu => by
        obtain ⟨b, o, e1, _, hcell⟩ := hl j u hu
        simp at e1
        subst e1
        have e : (⟨b, o, none⟩ : Addr).add j = ⟨b, o + j, none⟩ := by
          unfold Addr.add; split
          · rename_i h; subst h; rfl
          · rfl
        rw [e]; exact hcell) (ints_one l) (by unfold maxLen; omega) (by omega) (by omega)
    rw [← ints_append L l, ← show (L ++ l).length = L.length + l.length by simp] at hown
    exact ⟨v', w', hrun, hown, (Below.refl base w).grown hgrow (by omega) (fun j e => (h.lt j e).1)⟩

set_option maxRecDepth 100000 in
set_option maxHeartbeats 4000000 in
theorem growI_any (n : Nat) (hn : n ≤ 2097152) (w : World) :
    Calls Try.prog 182 #[.slice none 0 0, .int .i64 (n : Int)] w fun e w' => ∃ v, e = .returned v ∧ OwnN w.heap.size w' v [] ∧ Below w.heap.size w w' := by
  by_cases h0 : n = 0
  · subst h0
    have HRES : Hid (∀ m, ∃ v, Ending.returned (.slice none 0 0) = .returned v ∧ OwnN w.heap.size (w.drewN m) v [] ∧ Below w.heap.size w (w.drewN m)) := Lib.hid (fun m => ⟨_, rfl, OwnN.nil _ _, ⟨rfl, rfl, rfl, Nat.le_refl _, fun _ _ => rfl⟩⟩)
    go_enter Try.func182, Try.ntmps182
    go_wp2_with fail
    go_ret
    exact HRES.out 0
  · obtain ⟨i0, hi, hz0, hz1, hz2⟩ := info_parts infoIntH
    have hrun := Lib.run_append_nil_zeros (P := Try.prog) w 34 3 34 3 i0 (.int .i64 0) .i64 .i64 Try.underlying34 Try.underlying3 hi hz0 n (by omega) (by omega) (by omega) (by rw [hz2]; omega)
    have hrun2 : (heldAppend #[34, 3] 34 #[.slice none 0 0, .int .i64 (n : Int)]).run Try.prog w = _ := hrun
    have hc1 := grownCap_ge w n 0 3
    have hc2 := grownCap_le_maxLen w n 0 3 (by unfold maxLen; omega)
    generalize hcap : grownCap w n 0 3 = cap at hrun2 hc1 hc2
    have HSZ : (Builtin.zeroCells (Value.int IntKind.i64 0).cells n ++ Builtin.zeroCells (Value.int IntKind.i64 0).cells (cap - n)).size = cap * 1 := by
      rw [Array.size_append, size_zeroCells, size_zeroCells, show (Value.int IntKind.i64 0).cells.size = 1 from rfl]; omega
    generalize hO : (Builtin.zeroCells (Value.int IntKind.i64 0).cells n ++ Builtin.zeroCells (Value.int IntKind.i64 0).cells (cap - n)) = O at hrun2 HSZ
    have HRES : Hid (∃ v, Ending.returned (.slice (some ⟨w.heap.size, 0, none⟩) 0 cap) = .returned v ∧ OwnN w.heap.size (w.drew.alloc (.cells O 3)) v [] ∧ Below w.heap.size w (w.drew.alloc (.cells O 3))) := Lib.hid ⟨_, rfl,
      ⟨rfl, .inr ⟨w.heap.size, cap, O, rfl, Nat.le_refl _, by simpa using heap_alloc_new w.drew (.cells O 3), Nat.zero_le _, hc2, HSZ, by simp [ints]⟩⟩,
      ((Below.refl _ w).drew).alloc (Nat.le_refl _) _⟩
    clear hcap hO HSZ hc1 hc2
    have hn1 : decide ((0 : Int) < (n : Int)) = true := decide_eq_true (by omega)
    have hn2 : (0 : Int) < (n : Int) := by omega
    have hn3 : 0 < n := by omega
    have hnn : ¬ ((n : Int) < 0) := by omega
    clear hrun hi hz0 hz1 hz2 h0
    go_enter Try.func182, Try.ntmps182
    go_wp2_with fail
    go_ret
    exact HRES.out

set_option maxRecDepth 100000 in
set_option maxHeartbeats 4000000 in
theorem concatI_any (pb pc : Nat) (Ps : List Part) (w : World) (hp : ∀ (j : Nat) p, Ps[j]? = some p → w.cell? ⟨pb, j, none⟩ = some p.val ∧ pb < w.heap.size ∧ p.ok w) (hn : (joined Ps).length ≤ 1048576) (hk : Ps.length ≤ 1048576) :
    Calls Try.prog 158 #[.slice (some ⟨pb, 0, none⟩) Ps.length pc] w fun e w' => ∃ v, e = .returned v ∧ OwnN w.heap.size w' v (joined Ps) ∧ Below w.heap.size w w' := by
  have HP := Lib.hid hp
  have HG := Lib.hid (fun W => growI_any (joined Ps).length (by omega) W)
  have HLE := Lib.hid (joined_le Ps)
  clear hp
  go_enter Try.func158, Try.ntmps158
  go_wp2_with fail
  go_loopw [3, 5, 11] (fun sv _ iv wr => ∃ k m : Nat, k ≤ Ps.length ∧ sv = .int .i64 ((joined (Ps.take k)).length : Int) ∧ iv = .int .i64 (k : Int) ∧ wr = w.drewN m) (fun _ _ iv _ => Ps.length - (intOf iv).toNat)
  case atStart => exact ⟨0, 0, Nat.zero_le _, rfl, rfl, rfl⟩
  case round =>
    obtain ⟨k, m, hkl, rfl, rfl, rfl⟩ := hrel
    by_cases hlt : k < Ps.length
    · obtain ⟨p, hp⟩ : ∃ p, Ps[k]? = some p := ⟨_, List.getElem?_eq_getElem hlt⟩
      obtain ⟨hc, _, _⟩ := HP.out k p hp
      have hc' : (w.drewN m).cell? ⟨pb, k, none⟩ = some (.slice p.a p.l.length p.c) := hc
      obtain ⟨s, hs⟩ : ∃ s, s = (joined (Ps.take k)).length := ⟨_, rfl⟩
      have hadd : (joined (Ps.take (k + 1))).length = s + p.l.length := by rw [joined_take hp, List.length_append, hs]
      have hsle : s + p.l.length ≤ 1048576 := by have := HLE.out (k + 1); omega
      rw [← hs]
      have HA := Lib.hid hadd
      have hneg : ¬ ((s : Int) + p.l.length < 0) := by omega
      clear hc hs hadd hp
      go_wp2_with fail
      go_roundw
      case rel => exact ⟨k + 1, m, by omega, by rw [HA.out]; go_num, by go_num, by first | rfl | trivial⟩
      case measure => simp [intOf]; omega
    · obtain rfl : k = Ps.length := by omega
      rw [List.take_length]
      clear hlt
      go_wp2_with fail
      refine (HG.out _).mono ?_
      rintro e w2 ⟨v0, rfl, ho0, hb0⟩
      have HO0 := Lib.hid ho0
      have HB0 : Hid (Below w.heap.size w w2) := Lib.hid ((⟨rfl, rfl, rfl, Nat.le_refl _, fun _ _ => rfl⟩ : Below w.heap.size w (w.drewN m)).trans hb0)
      clear ho0 hb0 HG
      go_wp2_with fail
      go_loopw [6, 8, 27] (fun sv _ iv wr => ∃ k : Nat, k ≤ Ps.length ∧ iv = .int .i64 (k : Int) ∧ OwnN w.heap.size wr sv (joined (Ps.take k)) ∧ Below w.heap.size w wr) (fun _ _ iv _ => Ps.length - (intOf iv).toNat)
      case atStart => exact ⟨0, Nat.zero_le _, rfl, HO0.out, HB0.out⟩
      case round =>
        obtain ⟨k, hkl, rfl, ho, hb⟩ := hrel
        have HO := Lib.hid ho
        have HB := Lib.hid hb
        clear ho hb HO0 HB0
        by_cases hlt : k < Ps.length
        · obtain ⟨p, hp⟩ : ∃ p, Ps[k]? = some p := ⟨_, List.getElem?_eq_getElem hlt⟩
          obtain ⟨hc, hpb, hf⟩ := HP.out k p hp
          have hc' : wr.cell? ⟨pb, k, none⟩ = some (.slice p.a p.l.length p.c) := (HB.out.cell (p := ⟨pb, k, none⟩) hpb).trans hc
          obtain ⟨v', w', hrun, ho', hb'⟩ := appendNP w.heap.size _ _ p wr HO.out HB.out.size (by rw [← List.length_append, ← joined_take hp]; have := HLE.out (k + 1); omega) (hf.below HB.out)
          rw [← joined_take hp] at ho'
          have HO' := Lib.hid ho'
          have HB' := Lib.hid (HB.out.trans hb')
          clear hc hpb hf ho' hb' hp HO HB
          go_wp2_with fail
          go_roundw
          case rel => exact ⟨k + 1, by omega, by go_num, HO'.out, HB'.out⟩
          case measure => simp [intOf]; omega
        · obtain rfl : k = Ps.length := by omega
          have HRES : Hid (OwnN w.heap.size wr _ (joined Ps)) := Lib.hid (by have h := HO.out; rw [List.take_length] at h; exact h)
          clear hlt HO
          go_wp2_with fail
          go_ret
          exact ⟨_, rfl, HRES.out, HB.out⟩

end Go.Proofs.Ytagibgphegoagaa
