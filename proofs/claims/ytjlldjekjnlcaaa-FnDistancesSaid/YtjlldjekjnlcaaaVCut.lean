/- vCut of the laws: the rest of a code and a byte, by its contract. -/
import Derived.Test.YtjlldjekjnlcaaaCode
import Derived.Test.YtjlldjekjnlcaaaFlat
import Derived.OwnWalk
import Derived.Maps.AppendAt
import Derived.Laws.Append
import Derived.Deep.Slices
import Derived.BigRegion
import Derived.Laws.BitsLemmas
namespace Go.Proofs.Ytjlldjekjnlcaaa
open Go.RowKit
set_option linter.unusedVariables false

attribute [local go_sem ↓ high] builtin_append_held

def bys (l : List Int) : List Value := l.map (Value.int .u8)
theorem bys_length (l : List Int) : (bys l).length = l.length := by simp [bys]
theorem bys_at {l : List Int} {k : Nat} {x : Int} (h : l[k]? = some x) : (bys l)[k]? = some (.int .u8 x) := by simp [bys, h]
theorem bys_one (l : List Int) : ∀ u ∈ bys l, u.oneCell' = true := by
  intro u hu
  obtain ⟨p, _, rfl⟩ := List.mem_map.1 hu
  rfl
theorem infoByte : (Try.prog.info? 5).map (fun i => (i.zero, i.size, i.bytes)) = some (some (.int .u8 0), 1, 1) := by kernel_rfl

/-- Bytes of the call's own. -/
def HeldB (base : Nat) (w : World) (v : Value) (L : List Int) : Prop := w.ownsRow base 5 1 v L.length (bys L) ∧ ∃ g c, v = .slice (some ⟨g, 0, none⟩) L.length c
theorem HeldB.start (w : World) : HeldB w.heap.size (w.alloc (.cells #[] 5)) (.slice (some ⟨w.heap.size, 0, none⟩) 0 0) [] :=
  ⟨World.ownsRow_made w #[] 0 (Nat.le_refl _) (by decide) rfl, _, _, rfl⟩
theorem HeldB.row {base : Nat} {w : World} {v : Value} {L : List Int} (h : HeldB base w v L) : ∃ g c, v = .slice (some ⟨g, 0, none⟩) L.length c ∧ base ≤ g ∧ L.length ≤ c ∧ CellRow w g (bys L) := by
  obtain ⟨h1, g, c, rfl⟩ := h
  obtain ⟨a, b, d⟩ := CellRow.of_own h1
  exact ⟨g, c, rfl, a, b, d⟩

/-- 'append(v, code[n:]...)'. -/
theorem appendBytes (base : Nat) (v : Value) (L : List Int) (x : Addr) (c m : Nat) (l : List Int) (w : World) (h : HeldB base w v L) (hb : base ≤ w.heap.size) (hm : l.length = m) (hn : L.length + m ≤ 2097152)
    (hl : ∀ (j : Nat) u, (bys l)[j]? = some u → w.cell? (x.add j) = some u) :
    ∃ v' w', (heldAppend #[22, 22] 22 #[v, .slice (some x) m c]).run Try.prog w = .ok v' w' ∧ HeldB base w' v' (L ++ l) ∧ Below base w w' := by
  subst hm
  obtain ⟨i0, hi, hz0, hz1, hz2⟩ := info_parts infoByte
  obtain ⟨h, g, cv, rfl⟩ := h
  obtain ⟨v', w', hrun, hown, hgrow, hnil⟩ := run_append_own (P := Try.prog) (w := w) base 22 22 5 i0 (.int .u8 0) 1 1 Try.underlying22 hi hz0 hz1 hz2 rfl (by decide)
    _ L.length (bys L) h x l.length c (bys l) (by rw [bys_length, Nat.mul_one]) hl (bys_one l) (by unfold maxLen; omega) (by omega) (by omega)
  rw [show bys L ++ bys l = bys (L ++ l) by simp [bys], ← show (L ++ l).length = L.length + l.length by simp] at hown
  refine ⟨v', w', hrun, ⟨hown, ?_⟩, (Below.refl base w).grown hgrow (by omega) (fun j e => (h.lt j e).1)⟩
  rcases hown.2 with ⟨e, hz⟩ | ⟨g', cap, cur, e, _⟩
  · have := (hnil.1 e).1
    simp at this
  · exact ⟨g', cap, e⟩
/-- Onto it of a nil slice. -/
theorem appendNone (g n c : Nat) (w : World) (hc : n ≤ c) : (heldAppend #[22, 22] 22 #[.slice (some ⟨g, 0, none⟩) n c, .slice none 0 0]).run Try.prog w = .ok (.slice (some ⟨g, 0, none⟩) n c) w := by
  obtain ⟨i0, hi, hz0, hz1, hz2⟩ := info_parts infoByte
  unfold heldAppend
  simp [Builtin.append_, run_underlying Try.underlying22, sizeOf, typeInfo, hi, Builtin.lenOf, hc, run_firstCells_none, storeCells]

theorem adr_add (a : Addr) (i j : Nat) : (a.add i).add j = a.add (i + j) := by
  unfold Addr.add
  by_cases hi : i = 0
  · subst hi; simp
  · by_cases hj : j = 0
    · subst hj; simp
    · cases a; simp [hi, hj, Nat.add_assoc]
theorem listOf {P : Nat → Int → Prop} : ∀ m, (∀ j, j < m → ∃ z, P j z) → ∃ l : List Int, l.length = m ∧ ∀ j z, l[j]? = some z → P j z
  | 0, _ => ⟨[], rfl, by simp⟩
  | m + 1, h => by
    obtain ⟨l, h1, h2⟩ := listOf m (fun j hj => h j (by omega))
    obtain ⟨z, hz⟩ := h m (by omega)
    refine ⟨l ++ [z], by simp [h1], fun j y hy => ?_⟩
    by_cases hj : j < m
    · rw [List.getElem?_append_left (by omega)] at hy; exact h2 j y hy
    · have hl := (List.getElem?_eq_some_iff.1 hy).1
      simp at hl
      obtain rfl : j = m := by omega
      rw [List.getElem?_append_right (by omega), h1] at hy
      simp at hy; subst hy; exact hz

/-- A new code. -/
def CutC (len : Nat) (w : World) (e : Ending) (w' : World) : Prop :=
  ∃ (g c n : Nat), n ≤ len + 1 ∧ e = .returned (.slice (some ⟨g, 0, none⟩) n c) ∧ n ≤ c ∧ Code0 w' (some ⟨g, 0, none⟩) n ∧ Below w.heap.size w w'

theorem HeldB.code {base : Nat} {w w' : World} {g c : Nat} {L : List Int} (h : HeldB base w' (.slice (some ⟨g, 0, none⟩) L.length c) L) (hL : ∀ z ∈ L, 0 ≤ z ∧ z ≤ 255) : L.length ≤ c ∧ Code0 w' (some ⟨g, 0, none⟩) L.length := by
  obtain ⟨g', c', e, h1, h2, h3⟩ := h.row
  simp at e
  obtain ⟨rfl, rfl⟩ := e
  refine ⟨h2, fun k hk => ⟨⟨g, 0, none⟩, L[k], rfl, h3.1, ?_, hL _ (List.getElem_mem hk)⟩⟩
  have := (h3.2 k _ (bys_at (List.getElem?_eq_getElem hk))).1
  rw [Addr.add_lit, Nat.zero_add]; exact this

/-- What the two appends leave. -/
theorem cut_two (w : World) (len k m : Nat) (l : List Int) (b : Int) (hb0 : 0 ≤ b) (hb1 : b ≤ 255) (hlm : l.length = m) (hm : m ≤ len) (hl64 : len ≤ 1000000) (hl : ∀ z ∈ l, 0 ≤ z ∧ z ≤ 255) (src : Value)
    (h1 : ∃ v1 w1, (heldAppend #[22, 22] 22 #[.slice (some ⟨w.heap.size, 0, none⟩) 0 0, src]).run Try.prog (w.alloc (.cells #[] 5)) = .ok v1 w1 ∧ HeldB w.heap.size w1 v1 l ∧ Below w.heap.size w w1) :
    ∃ v1 w1 v2 w2, (heldAppend #[22, 22] 22 #[.slice (some ⟨w.heap.size, 0, none⟩) 0 0, src]).run Try.prog (w.alloc (.cells #[] 5)) = .ok v1 w1 ∧
      (heldAppend #[22, 22] 22 #[v1, .slice (some ⟨w1.heap.size, 0, none⟩) 1 1]).run Try.prog (w1.alloc (.cells #[.int .u8 b] 5)) = .ok v2 w2 ∧ CutC len w (.returned v2) w2 := by
  obtain ⟨v1, w1, r1, hh1, hb1'⟩ := h1
  obtain ⟨ho, g1, c1, rfl⟩ := hh1
  obtain ⟨v2, w2, r2, hh2, hb2⟩ := appendBytes w.heap.size (.slice (some ⟨g1, 0, none⟩) l.length c1) l ⟨w1.heap.size, 0, none⟩ 1 1 [b] (w1.alloc (.cells #[.int .u8 b] 5)) ⟨World.ownsRow.alloc ho _, g1, c1, rfl⟩ (by simp; have := hb1'.size; omega) rfl (by omega) (fun j u hu => by
    have hj : j = 0 := by have := (List.getElem?_eq_some_iff.1 hu).1; simp [bys] at this; omega
    subst hj
    simp [bys] at hu; subst hu
    rw [Addr.add_lit]; simp)
  obtain ⟨ho2, g2, c2, rfl⟩ := hh2
  refine ⟨_, w1, _, w2, r1, r2, g2, c2, (l ++ [b]).length, by simp; omega, rfl, ?_⟩
  obtain ⟨q1, q2⟩ := HeldB.code (w := w) ⟨ho2, g2, c2, rfl⟩ (fun z hz => by
    rcases List.mem_append.1 hz with h | h
    · exact hl z h
    · rw [List.mem_singleton.1 h]; exact ⟨hb0, hb1⟩)
  exact ⟨q1, q2, (hb1'.alloc hb1'.size _).trans hb2⟩

set_option maxRecDepth 100000 in
set_option maxHeartbeats 4000000 in
theorem vCut_any (a : Option Addr) (len cap n : Nat) (w : World) (h : Code0 w a len) (hr : (a = none ∧ len = 0 ∧ cap = 0) ∨ (∃ x, a = some x ∧ len ≤ cap)) (hl : len ≤ 1000000) (hn : n ≤ 200) :
    Calls Try.prog 26 #[.slice a len cap, .int .i64 (n : Int)] w (CutC len w) := by
  have HS : HeldB w.heap.size (w.alloc (.cells #[] 5)) (.slice (some ⟨w.heap.size, 0, none⟩) 0 0) [] := HeldB.start w
  have hb0 : Below w.heap.size w (w.alloc (.cells #[] 5)) := (Below.refl _ _).alloc (Nat.le_refl _) _
  rcases hr with ⟨rfl, rfl, rfl⟩ | ⟨x, rfl, hlc⟩
  · obtain ⟨v1, w1, v2, w2, r1, r2, hc⟩ := cut_two w 0 0 0 [] 0 (by omega) (by omega) rfl (Nat.le_refl _) (by omega) (by simp) (.slice none 0 0) ⟨_, _, appendNone _ 0 0 _ (Nat.le_refl _), HS, hb0⟩
    have HC := Lib.hid hc
    clear hc HS hb0 h
    by_cases hn0 : 0 < n
    · have hnz : (0 : Int) < (n : Int) := by omega
      have hnd : decide ((0 : Int) < (n : Int)) = true := decide_eq_true hnz
      go_enter Try.func26, Try.ntmps26
      go_wp2_with fail
      go_ret
      exact HC.out
    · obtain rfl : n = 0 := by omega
      go_enter Try.func26, Try.ntmps26
      go_wp2_with fail
      go_ret
      exact HC.out
  · have hsrc : ∀ k, k ≤ len → k ≤ 200 → ∃ v1 w1 v2 w2, (heldAppend #[22, 22] 22 #[.slice (some ⟨w.heap.size, 0, none⟩) 0 0, .slice (some (x.add k)) (len - k) (cap - k)]).run Try.prog (w.alloc (.cells #[] 5)) = .ok v1 w1 ∧
        (heldAppend #[22, 22] 22 #[v1, .slice (some ⟨w1.heap.size, 0, none⟩) 1 1]).run Try.prog (w1.alloc (.cells #[.int .u8 (k : Int)] 5)) = .ok v2 w2 ∧ CutC len w (.returned v2) w2 := fun k hk hk2 => by
      obtain ⟨l, hll, hlz⟩ := listOf (P := fun j z => w.cell? ((x.add k).add j) = some (.int .u8 z) ∧ 0 ≤ z ∧ z ≤ 255) (len - k) (fun j hj => by
        obtain ⟨x', z, hx', hxb, hz, h0, h1⟩ := h (k + j) (by omega)
        simp at hx'; subst hx'
        exact ⟨z, by rw [adr_add]; exact hz, h0, h1⟩)
      refine cut_two w len k (len - k) l (k : Int) (by omega) (by omega) hll (by omega) hl (fun z hz => ?_) _ ?_
      · obtain ⟨j, hj⟩ := List.mem_iff_getElem?.1 hz
        exact (hlz j z hj).2
      · obtain ⟨v1, w1, r1, q1, q2⟩ := appendBytes w.heap.size _ [] (x.add k) (cap - k) (len - k) l _ HS hb0.size hll (by simp; omega) (fun j u hu => by
          obtain ⟨z, hz, rfl⟩ : ∃ z, l[j]? = some z ∧ u = .int .u8 z := by
            unfold bys at hu
            rw [List.getElem?_map] at hu
            obtain ⟨z, hz, rfl⟩ := Option.map_eq_some_iff.1 hu
            exact ⟨z, hz, rfl⟩
          have h1 := (hlz j z hz).1
          obtain ⟨x', z', hx', hxb, _⟩ := h (k + j) (by have := (List.getElem?_eq_some_iff.1 hz).1; omega)
          simp at hx'; subst hx'
          have hblk : ((x.add k).add j).block < w.heap.size := by rw [adr_add, Go.ChangeShapes.block_add]; exact hxb
          exact (hb0.cell hblk).trans h1)
        exact ⟨v1, w1, r1, by simpa using q1, hb0.trans q2⟩
    have hcap : len = cap → ∃ v1 w1 v2 w2, (heldAppend #[22, 22] 22 #[.slice (some ⟨w.heap.size, 0, none⟩) 0 0, .slice (some x) 0 0]).run Try.prog (w.alloc (.cells #[] 5)) = .ok v1 w1 ∧
        (len ≤ 200 → (heldAppend #[22, 22] 22 #[v1, .slice (some ⟨w1.heap.size, 0, none⟩) 1 1]).run Try.prog (w1.alloc (.cells #[.int .u8 (len : Int)] 5)) = .ok v2 w2 ∧ CutC len w (.returned v2) w2) := fun _ => by
      have h1 : ∃ v1 w1, (heldAppend #[22, 22] 22 #[.slice (some ⟨w.heap.size, 0, none⟩) 0 0, .slice (some x) 0 0]).run Try.prog (w.alloc (.cells #[] 5)) = .ok v1 w1 ∧ HeldB w.heap.size w1 v1 [] ∧ Below w.heap.size w w1 := by
        obtain ⟨v1, w1, r1, q1, q2⟩ := appendBytes w.heap.size _ [] x 0 0 [] _ HS hb0.size rfl (by simp) (fun j u hu => by simp [bys] at hu)
        exact ⟨v1, w1, r1, q1, hb0.trans q2⟩
      by_cases h2 : len ≤ 200
      · obtain ⟨v1, w1, v2, w2, r1, r2, hc⟩ := cut_two w len len 0 [] (len : Int) (by omega) (by omega) rfl (Nat.zero_le _) hl (by simp) _ h1
        exact ⟨v1, w1, v2, w2, r1, fun _ => ⟨r2, hc⟩⟩
      · obtain ⟨v1, w1, r1, _⟩ := h1
        exact ⟨v1, w1, v1, w1, r1, fun h => absurd h h2⟩
    have HSRC := Lib.hid hsrc
    have HCAP := Lib.hid hcap
    clear hsrc hcap HS hb0 h
    by_cases hnl : len < n
    · have hnd : decide ((len : Int) < (n : Int)) = true := decide_eq_true (by omega)
      have hwk : IntKind.u8.wrap (len : Int) = (len : Int) := by rw [IntKind.wrap_u8]; omega
      by_cases hce : len = cap
      · obtain ⟨v1, w1, v2, w2, r1, hq⟩ := HCAP.out hce
        obtain ⟨r2, hc⟩ := hq (by omega)
        have HC := Lib.hid hc
        clear hc hq
        subst hce
        go_enter Try.func26, Try.ntmps26
        go_wp2_with fail
        go_ret
        exact HC.out
      · obtain ⟨v1, w1, v2, w2, r1, r2, hc⟩ := HSRC.out len (Nat.le_refl _) (by omega)
        rw [Nat.sub_self] at r1
        have HC := Lib.hid hc
        clear hc
        go_enter Try.func26, Try.ntmps26
        go_wp2_with fail
        go_ret
        exact HC.out
    · have hnd : decide ((len : Int) < (n : Int)) = false := decide_eq_false (by omega)
      have hwk : IntKind.u8.wrap (n : Int) = (n : Int) := by rw [IntKind.wrap_u8]; omega
      by_cases hce : n = cap
      · obtain rfl : len = n := by omega
        obtain ⟨v1, w1, v2, w2, r1, hq⟩ := HCAP.out hce
        obtain ⟨r2, hc⟩ := hq (by omega)
        have HC := Lib.hid hc
        clear hc hq
        subst hce
        go_enter Try.func26, Try.ntmps26
        go_wp2_with fail
        go_ret
        exact HC.out
      · obtain ⟨v1, w1, v2, w2, r1, r2, hc⟩ := HSRC.out n (by omega) (by omega)
        have HC := Lib.hid hc
        have hcn : ¬ cap = n := fun e => hce e.symm
        clear hc
        go_enter Try.func26, Try.ntmps26
        go_wp2_with fail
        go_ret
        exact HC.out

end Go.Proofs.Ytjlldjekjnlcaaa
