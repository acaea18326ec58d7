/- Levels of sorted blocks, as functions. Nothing of the program. -/
import Derived.Test.YthmcjmjkmmbepaaElem
import Derived.Test.YthmcjmjkmmbepaaList
import Derived.Lib.BitFns
namespace Go.Proofs.Ythmcjmjkmmbepaa
set_option linter.unusedVariables false
open P El

namespace Mt
/-- Block i of d elements. -/
def bk (l : List Int) (d i : Nat) : List Int := (l.drop (d * i)).take d
/-- The first n blocks, each in order. -/
def lvTo (l : List Int) (d : Nat) : Nat → List Int
  | 0 => []
  | n + 1 => lvTo l d n ++ srt (bk l d n)
/-- How many blocks there are. -/
def nb (n d : Nat) : Nat := (n + d - 1) / d
/-- A level: all blocks, each in order. -/
def lv (l : List Int) (d : Nat) : List Int := lvTo l d (nb l.length d)

theorem bk_len (l : List Int) (d i : Nat) : (bk l d i).length = min d (l.length - d * i) := by simp [bk]
theorem lvTo_len (l : List Int) (d : Nat) : ∀ n, (lvTo l d n).length = min (d * n) l.length
  | 0 => by simp [lvTo]
  | n + 1 => by
    rw [lvTo, List.length_append, lvTo_len l d n, srt_length, bk_len, Nat.mul_succ]
    omega
theorem nb_all {n d : Nat} (hd : 0 < d) : n ≤ d * nb n d := by
  unfold nb
  have h := Nat.div_add_mod (n + d - 1) d
  have := Nat.mod_lt (n + d - 1) hd
  omega
theorem lv_len {l : List Int} {d : Nat} (hd : 0 < d) : (lv l d).length = l.length := by
  rw [lv, lvTo_len]; have := nb_all (n := l.length) hd; omega
theorem srt_one (x : Int) : srt [x] = [x] := (srt_uniq (List.pairwise_singleton _ _) (List.Perm.refl _)).symm
theorem srt_nil : srt [] = [] := List.eq_nil_of_length_eq_zero (by rw [srt_length]; rfl)
theorem lvTo_one (l : List Int) : ∀ n, n ≤ l.length → lvTo l 1 n = l.take n
  | 0, _ => by simp [lvTo]
  | n + 1, h => by
    rw [lvTo, lvTo_one l n (by omega), List.take_add_one]
    congr 1
    rw [bk, Nat.one_mul, List.getElem?_eq_getElem (by omega)]
    have : List.take 1 (List.drop n l) = [l[n]] := by
      rw [List.drop_eq_getElem_cons (by omega)]; rfl
    rw [this, srt_one]; rfl
theorem lv_one (l : List Int) : lv l 1 = l := by
  rw [lv, lvTo_one l _ (by unfold nb; simp), show nb l.length 1 = l.length by unfold nb; simp, List.take_length]
theorem lv_big {l : List Int} {d : Nat} (h0 : 0 < l.length) (h : l.length ≤ d) : lv l d = srt l := by
  have e : nb l.length d = 1 := by
    unfold nb
    exact Nat.div_eq_of_lt_le (by omega) (by omega)
  rw [lv, e, lvTo, lvTo, List.nil_append, bk, Nat.mul_zero, List.drop_zero, List.take_of_length_le h]
/-- How many levels. -/
def lc (n : Nat) : Nat := 1 + Lib.bitLen (n - 1)
/-- The levels of a list. -/
def lvs (l : List Int) : List (List Int) := (List.range (lc l.length)).map fun e => lv l (2 ^ e)
theorem lvs_len (l : List Int) : (lvs l).length = lc l.length := by simp [lvs]
theorem lc_dec : ∀ n < 65, 1 ≤ lc n ∧ lc n ≤ 7 ∧ n ≤ 2 ^ (lc n - 1) := by decide +kernel
/-- The model doubles the size until one block is left. -/
theorem lc_sizes_dec : ∀ n < 65, ∀ e < 8, (e + 1 < lc n ↔ 2 ^ e < n) := by decide +kernel
/-- A valid tree: its first level is a valid list, and all levels are that list's. -/
def OkT (T : List (List Int)) : Prop := ∃ l, T.head? = some l ∧ OkL l ∧ T = lvs l

/-- One more block, in place. -/
theorem lvTo_next (l : List Int) (d n : Nat) : lvTo l d (n + 1) ++ l.drop (d * (n + 1)) = lvTo l d n ++ (srt (bk l d n) ++ l.drop (d * (n + 1))) := by
  rw [lvTo, List.append_assoc]
end Mt

end Go.Proofs.Ythmcjmjkmmbepaa
