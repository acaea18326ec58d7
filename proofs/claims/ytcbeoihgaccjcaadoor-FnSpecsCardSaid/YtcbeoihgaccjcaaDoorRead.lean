/- The model's ParseInt (l1Read), by its contract: the number whose numeral the string is, else 0 and false. -/
import Derived.Test.YtcbeoihgaccjcaaDoorFmt
import Derived.Test.YtcbeoihgaccjcaaDoorDec
import Derived.LoopTactic
import Derived.Lib.IndexBytes
namespace Go.Proofs.YtcbeoihgaccjcaaDoor
open Go.RowKit Go.Sort

def ReadPost (s : ByteArray) (w : World) (e : Ending) (w' : World) : Prop :=
  Below w.heap.size w w' ∧ ((∃ n : Int, -999999 ≤ n ∧ n ≤ 999999 ∧ e = .returned (.tuple #[.int .i64 n, .bool true]) ∧ Lib.itoa n = s.data.toList) ∨
    (e = .returned (.tuple #[.int .i64 0, .bool false]) ∧ NoNum s.data.toList))

theorem len_list (s : ByteArray) : s.data.toList.length = s.size := Array.length_toList

theorem getElem_mem_list (t : ByteArray) (k : Nat) (h : k < t.size) : t[k] ∈ t.data.toList := by
  simp [ByteArray.getElem_eq_getElem_data]

theorem take_snoc (s : ByteArray) (k : Nat) (h : k < s.size) : s.data.toList.take (k + 1) = s.data.toList.take k ++ [s[k]] := by
  rw [List.take_succ_eq_append_getElem (by simpa using h)]; rfl

theorem allD_take {l : List UInt8} {k : Nat} {c : UInt8} (h : allD (l.take k)) (e : l.take (k + 1) = l.take k ++ [c]) (hc : 48 ≤ c.toNat ∧ c.toNat ≤ 57) : allD (l.take (k + 1)) := by
  rw [e]; intro x hx
  simp only [List.mem_append, List.mem_singleton] at hx
  rcases hx with hx | rfl
  · exact h x hx
  · exact hc

theorem no_size {s t : ByteArray} (ht : t.data.toList = strip s.data.toList) (h : t.size < 1 ∨ 6 < t.size) : NoNum s.data.toList :=
  no_len (by rw [← ht, len_list]; exact h)

theorem read_end {s : ByteArray} {w w' : World} {e : Ending} (hb : Below w.heap.size w w') (h : e = .returned (.tuple #[.int .i64 0, .bool false])) (hn : NoNum s.data.toList) : ReadPost s w e w' := ⟨hb, .inr ⟨h, hn⟩⟩
theorem read_yes {s : ByteArray} {w w' : World} {e : Ending} {n : Int} (hb : Below w.heap.size w w') (h : e = .returned (.tuple #[.int .i64 n, .bool true])) (h0 : -999999 ≤ n) (h1 : n ≤ 999999) (hn : Lib.itoa n = s.data.toList) : ReadPost s w e w' := ⟨hb, .inl ⟨n, h0, h1, h, hn⟩⟩
theorem str_eq_true {l : List UInt8} {s : ByteArray} (h : l = s.data.toList) : (l == s.toList) = true := by
  rw [Lib.toList_data, h]; exact beq_self_eq_true _
theorem str_eq_false {l : List UInt8} {s : ByteArray} (h : l ≠ s.data.toList) : (l == s.toList) = false := by
  rw [Lib.toList_data]; exact beq_eq_false_iff_ne.2 h

theorem strip_neg {s t : ByteArray} (h1 : 1 < s.size) (h45 : s[0] = 45) (ht : t = s.extract 1 s.size) : t.data.toList = strip s.data.toList := by
  have hl := len_list s
  have hh : s.data.toList.head? = some 45 := by
    rw [List.head?_eq_getElem?, List.getElem?_eq_getElem (by omega)]
    exact congrArg some h45
  unfold strip
  rw [if_pos ⟨by omega, hh⟩, ht]
  have := Lib.extract_to_end s 1
  exact this

theorem strip_pos {t : ByteArray} (h45 : (h : 1 < t.size) → t[0] ≠ 45) : t.data.toList = strip t.data.toList := by
  unfold strip
  have hl := len_list t
  split
  · rename_i h
    exfalso
    have h1 : 1 < t.size := by omega
    apply h45 h1
    have h2 := h.2
    rw [List.head?_eq_getElem?, List.getElem?_eq_getElem (by omega)] at h2
    exact Option.some.inj h2
  · rfl



end Go.Proofs.YtcbeoihgaccjcaaDoor
