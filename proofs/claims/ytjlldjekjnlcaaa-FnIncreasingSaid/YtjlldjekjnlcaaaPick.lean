/- The draws' pick, one, of and among, by contracts: a number in its range, and nothing but the cursor moved. -/
import Derived.Test.YtjlldjekjnlcaaaCur
namespace Go.Proofs.Ytjlldjekjnlcaaa
open Go.RowKit

/-- The cursor after m steps at the most. -/
def Cur (B g : Nat) (a : Option Addr) (len cap : Nat) (m : Nat) (w : World) : Prop := ∃ i, i ≤ m ∧ CurAt B g a len cap i w

theorem Cur.more {B g : Nat} {a : Option Addr} {len cap m : Nat} {w : World} (h : Cur B g a len cap m w) {m' : Nat} (hm : m ≤ m') : Cur B g a len cap m' w := by
  obtain ⟨i, hi, h⟩ := h; exact ⟨i, by omega, h⟩

def NextC (B g : Nat) (a : Option Addr) (len cap : Nat) (m : Nat) (w : World) (e : Ending) (w' : World) : Prop :=
  ∃ r : Int, 0 ≤ r ∧ r ≤ 255 ∧ e = .returned (.int .i64 r) ∧ Cur B g a len cap (m + 1) w' ∧ But g w w'

theorem next_cur (B g : Nat) (a : Option Addr) (len cap : Nat) (m : Nat) (w : World) (h : Cur B g a len cap m w) (hm : m ≤ 1000000000) :
    Calls Try.prog 77 #[.pointer (some ⟨g, 0, none⟩)] w (NextC B g a len cap m w) := by
  obtain ⟨i, hi, h⟩ := h
  exact (next_any B g a len cap i w h (by omega)).mono fun _ _ ⟨r, h0, h1, he, hc, hb⟩ => ⟨r, h0, h1, he, ⟨i + 1, by omega, hc⟩, hb⟩

/-- A number below n. -/
def PickC (B g : Nat) (a : Option Addr) (len cap : Nat) (m : Nat) (n : Int) (w : World) (e : Ending) (w' : World) : Prop :=
  ∃ r : Int, 0 ≤ r ∧ (r < n ∨ r = 0) ∧ e = .returned (.int .i64 r) ∧ Cur B g a len cap (m + 2) w' ∧ But g w w'

theorem pick_any (B g : Nat) (a : Option Addr) (len cap : Nat) (m : Nat) (n : Int) (w : World) (h : Cur B g a len cap m w) (hm : m ≤ 1000000) (hn : n ≤ 1000000000) :
    Calls Try.prog 57 #[.pointer (some ⟨g, 0, none⟩), .int .i64 n] w (PickC B g a len cap m n w) := by
  have H := Lib.hid h
  clear h
  by_cases h1 : n ≤ 1
  · have HQ : Hid (PickC B g a len cap m n w (.returned (.int .i64 0)) w) := Lib.hid ⟨0, Int.le_refl _, .inr rfl, rfl, H.out.more (by omega), But.refl g w⟩
    clear H
    go_enter Try.func57, Try.ntmps57
    go_wp2
    go_ret
    exact HQ.out
  · by_cases h2 : 200 < n
    · go_enter Try.func57, Try.ntmps57
      go_wp2_with fail
      refine (next_cur B g a len cap m _ H.out (by omega)).mono ?_
      rintro e w1 ⟨r, hr0, hr1, rfl, hc, hb⟩
      have H1 := Lib.hid hc
      have HB1 := Lib.hid hb
      clear H hc hb
      go_wp2_with fail
      refine (next_cur B g a len cap _ _ H1.out (by omega)).mono ?_
      rintro e w2 ⟨r2, hr20, hr21, rfl, hc, hb⟩
      have H2 := Lib.hid hc
      have HB2 := Lib.hid (HB1.out.trans hb)
      clear H1 HB1 hc hb
      go_wp2_with fail
      go_ret
      exact ⟨_, Int.emod_nonneg _ (by omega), .inl (Int.emod_lt_of_pos _ (by omega)), rfl, H2.out, HB2.out⟩
    · go_enter Try.func57, Try.ntmps57
      go_wp2_with fail
      refine (next_cur B g a len cap m _ H.out (by omega)).mono ?_
      rintro e w1 ⟨r, hr0, hr1, rfl, hc, hb⟩
      have H1 := Lib.hid hc
      have HB1 := Lib.hid hb
      clear H hc hb
      go_wp2_with fail
      go_ret
      exact ⟨_, Int.emod_nonneg _ (by omega), .inl (Int.emod_lt_of_pos _ (by omega)), rfl, H1.out.more (by omega), HB1.out⟩

/-- A yes or a no. -/
def OneC (B g : Nat) (a : Option Addr) (len cap : Nat) (m : Nat) (w : World) (e : Ending) (w' : World) : Prop :=
  ∃ b : Bool, e = .returned (.bool b) ∧ Cur B g a len cap (m + 2) w' ∧ But g w w'

theorem one_any (B g : Nat) (a : Option Addr) (len cap : Nat) (m : Nat) (n : Int) (w : World) (h : Cur B g a len cap m w) (hm : m ≤ 1000000) (hn : n ≤ 1000000000) :
    Calls Try.prog 58 #[.pointer (some ⟨g, 0, none⟩), .int .i64 n] w (OneC B g a len cap m w) := by
  have H := Lib.hid h
  clear h
  go_enter Try.func58, Try.ntmps58
  go_wp2_with fail
  refine (pick_any B g a len cap m n _ H.out hm hn).mono ?_
  rintro e w1 ⟨r, hr0, hr1, rfl, hc, hb⟩
  have H1 := Lib.hid hc
  have HB1 := Lib.hid hb
  clear H hc hb
  go_wp2_with fail
  go_ret
  exact ⟨_, rfl, H1.out, HB1.out⟩

/-- One of these. -/
def OfC (B g : Nat) (a : Option Addr) (len cap : Nat) (m : Nat) (l : List Value) (w : World) (e : Ending) (w' : World) : Prop :=
  ∃ x, x ∈ l ∧ e = .returned x ∧ Cur B g a len cap (m + 2) w' ∧ But g w w'


theorem Cur.keep {B g : Nat} {a : Option Addr} {len cap m : Nat} {w w' : World} (h : Cur B g a len cap m w) (hb : Below (g + 1) w w') : Cur B g a len cap m w' := by
  obtain ⟨i, hi, hB, hg, hcode, h0, h1, ⟨s, h2⟩, hfr⟩ := h
  have hgb : w'.heap[g]? = w.heap[g]? := hb.block g (by omega)
  refine ⟨i, hi, hB, Nat.lt_of_lt_of_le hg hb.size, ?_, ?_, ?_, ⟨s, ?_⟩, ?_⟩
  · intro k hk
    obtain ⟨x, z, ha, hx, hz, h'⟩ := hcode k hk
    refine ⟨x, z, ha, hx, ?_, h'⟩
    have hbk := Go.ChangeShapes.block_add x k
    rw [World.cell?_of_block (w := w) (hb.block _ (by omega))]
    exact hz
  · rw [World.cell?_of_block (w := w) hgb]; exact h0
  · rw [World.cell?_of_block (w := w) hgb]; exact h1
  · rw [World.cell?_of_block (w := w) hgb]; exact h2
  · intro j
    have := hfr j
    unfold World.frozen? at this ⊢
    rw [show w'.heap[(⟨g, j, none⟩ : Addr).block]? = w.heap[(⟨g, j, none⟩ : Addr).block]? from hgb]
    exact this

theorem Cur.lt {B g : Nat} {a : Option Addr} {len cap m : Nat} {w : World} (h : Cur B g a len cap m w) : g < w.heap.size := by
  obtain ⟨i, hi, hB, hg, _⟩ := h; exact hg
theorem Cur.ge {B g : Nat} {a : Option Addr} {len cap m : Nat} {w : World} (h : Cur B g a len cap m w) : B ≤ g := by
  obtain ⟨i, hi, hB, hg, _⟩ := h; exact hB
theorem Cur.alloc {B g : Nat} {a : Option Addr} {len cap m : Nat} {w : World} (h : Cur B g a len cap m w) (o : Obj) : Cur B g a len cap m (w.alloc o) :=
  h.keep ((Below.refl _ w).alloc h.lt o)

end Go.Proofs.Ytjlldjekjnlcaaa
