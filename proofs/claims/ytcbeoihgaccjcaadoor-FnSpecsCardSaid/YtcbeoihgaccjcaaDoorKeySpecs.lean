/- Lists of KeySpec, by their cells. Nothing of the program. (flatgen.py) -/
import Derived.Test.YtcbeoihgaccjcaaDoorFlat
namespace Go.Proofs.YtcbeoihgaccjcaaDoor
open Go.RowKit

def keys (l : List (Int × Bool × Bool × Bool)) : List Value := l.flatMap fun p => [Value.int .i64 p.1, Value.bool p.2.1, Value.bool p.2.2.1, Value.bool p.2.2.2]
theorem keys_cons (p : Int × Bool × Bool × Bool) (l : List (Int × Bool × Bool × Bool)) : keys (p :: l) = [Value.int .i64 p.1, Value.bool p.2.1, Value.bool p.2.2.1, Value.bool p.2.2.2] ++ keys l := rfl
theorem keys_length (l : List (Int × Bool × Bool × Bool)) : (keys l).length = l.length * 4 := by
  induction l with
  | nil => rfl
  | cons p l ih => rw [keys_cons, List.length_append, ih, List.length_cons]; simp only [List.length_cons, List.length_nil]; omega
theorem keys_append (l m : List (Int × Bool × Bool × Bool)) : keys (l ++ m) = keys l ++ keys m := by unfold keys; rw [List.flatMap_append]
theorem keys_at {l : List (Int × Bool × Bool × Bool)} {k : Nat} {p : Int × Bool × Bool × Bool} (h : l[k]? = some p) : (keys l)[k * 4]? = some (Value.int .i64 p.1) ∧ (keys l)[k * 4 + 1]? = some (Value.bool p.2.1) ∧ (keys l)[k * 4 + 2]? = some (Value.bool p.2.2.1) ∧ (keys l)[k * 4 + 3]? = some (Value.bool p.2.2.2) := by
  induction l generalizing k with
  | nil => simp at h
  | cons q l ih =>
    cases k with
    | zero => simp at h; subst h; exact ⟨rfl, rfl, rfl, rfl⟩
    | succ k =>
      have := ih (k := k) (by simpa using h)
      rw [keys_cons]
      refine ⟨?_, ?_, ?_, ?_⟩
      · rw [List.getElem?_append_right (by simp only [List.length_cons, List.length_nil]; omega), show (k + 1) * 4 - [Value.int .i64 q.1, Value.bool q.2.1, Value.bool q.2.2.1, Value.bool q.2.2.2].length = k * 4 by simp only [List.length_cons, List.length_nil]; omega]; exact this.1
      · rw [List.getElem?_append_right (by simp only [List.length_cons, List.length_nil]; omega), show (k + 1) * 4 + 1 - [Value.int .i64 q.1, Value.bool q.2.1, Value.bool q.2.2.1, Value.bool q.2.2.2].length = k * 4 + 1 by simp only [List.length_cons, List.length_nil]; omega]; exact this.2.1
      · rw [List.getElem?_append_right (by simp only [List.length_cons, List.length_nil]; omega), show (k + 1) * 4 + 2 - [Value.int .i64 q.1, Value.bool q.2.1, Value.bool q.2.2.1, Value.bool q.2.2.2].length = k * 4 + 2 by simp only [List.length_cons, List.length_nil]; omega]; exact this.2.2.1
      · rw [List.getElem?_append_right (by simp only [List.length_cons, List.length_nil]; omega), show (k + 1) * 4 + 3 - [Value.int .i64 q.1, Value.bool q.2.1, Value.bool q.2.2.1, Value.bool q.2.2.2].length = k * 4 + 3 by simp only [List.length_cons, List.length_nil]; omega]; exact this.2.2.2
theorem keys_set (l : List (Int × Bool × Bool × Bool)) (k : Nat) (p : Int × Bool × Bool × Bool) (h : k < l.length) : (((((keys l).set (k * 4) (Value.int .i64 p.1)).set (k * 4 + 1) (Value.bool p.2.1)).set (k * 4 + 2) (Value.bool p.2.2.1)).set (k * 4 + 3) (Value.bool p.2.2.2)) = keys (l.set k p) := by
  induction l generalizing k with
  | nil => simp at h
  | cons q l ih =>
    cases k with
    | zero => rfl
    | succ k =>
      have := ih k (by simpa using h)
      rw [List.set_cons_succ, keys_cons, keys_cons, ← this]
      rw [show (k + 1) * 4 = k * 4 + 1 + 1 + 1 + 1 by omega]
      simp only [show ∀ j, k * 4 + 1 + 1 + 1 + 1 + j = k * 4 + j + 1 + 1 + 1 + 1 from fun j => by omega, List.cons_append, List.nil_append, List.set_cons_succ]
theorem keys_replicate (n : Nat) (p : Int × Bool × Bool × Bool) : keys (List.replicate n p) = (List.replicate n [Value.int .i64 p.1, Value.bool p.2.1, Value.bool p.2.2.1, Value.bool p.2.2.2]).flatten := by
  unfold keys; rw [List.flatMap_replicate]
theorem keys_one (l : List (Int × Bool × Bool × Bool)) : ∀ u ∈ keys l, u.oneCell' = true := by
  intro u hu
  unfold keys at hu
  obtain ⟨p, _, hp⟩ := List.mem_flatMap.1 hu
  simp at hp
  rcases hp with rfl | rfl | rfl | rfl <;> rfl

/-- One element of a list that can be read. -/
theorem keys_el {w : World} {a : Option Addr} {l : List (Int × Bool × Bool × Bool)} {k : Nat} {p : Int × Bool × Bool × Bool} (H : ∀ (j : Nat) u, (keys l)[j]? = some u → ∃ b o, a = some ⟨b, o, none⟩ ∧ b < w.heap.size ∧ w.cell? ⟨b, o + j, none⟩ = some u) (hp : l[k]? = some p) :
    ∃ b o, a = some ⟨b, o, none⟩ ∧ b < w.heap.size ∧ w.cell? ⟨b, o + k * 4, none⟩ = some (Value.int .i64 p.1) ∧ w.cell? ⟨b, o + k * 4 + 1, none⟩ = some (Value.bool p.2.1) ∧ w.cell? ⟨b, o + k * 4 + 2, none⟩ = some (Value.bool p.2.2.1) ∧ w.cell? ⟨b, o + k * 4 + 3, none⟩ = some (Value.bool p.2.2.2) := by
  obtain ⟨h0, h1, h2, h3⟩ := keys_at hp
  obtain ⟨b, o, ha, hb, c0⟩ := H _ _ h0
  obtain ⟨b1, o1, ha1, _, c1⟩ := H _ _ h1
  rw [ha] at ha1
  obtain rfl : b = b1 := congrArg Addr.block (Option.some.inj ha1)
  obtain rfl : o = o1 := congrArg Addr.off (Option.some.inj ha1)
  obtain ⟨b2, o2, ha2, _, c2⟩ := H _ _ h2
  rw [ha] at ha2
  obtain rfl : b = b2 := congrArg Addr.block (Option.some.inj ha2)
  obtain rfl : o = o2 := congrArg Addr.off (Option.some.inj ha2)
  obtain ⟨b3, o3, ha3, _, c3⟩ := H _ _ h3
  rw [ha] at ha3
  obtain rfl : b = b3 := congrArg Addr.block (Option.some.inj ha3)
  obtain rfl : o = o3 := congrArg Addr.off (Option.some.inj ha3)
  exact ⟨b, o, ha, hb, c0, c1, c2, c3⟩

/-- The marks from m on. -/
def keysM (m n : Nat) : List (Int × Bool × Bool × Bool) := (List.range n).map fun i => (((m + 4 * i : Nat) : Int), mkb ((m + 4 * i + 1 : Nat) : Int), mkb ((m + 4 * i + 2 : Nat) : Int), mkb ((m + 4 * i + 3 : Nat) : Int))
theorem keysM_length (m n : Nat) : (keysM m n).length = n := by unfold keysM; simp
theorem keysM_succ (m n : Nat) : keysM m (n + 1) = keysM m n ++ [(((m + 4 * n : Nat) : Int), mkb ((m + 4 * n + 1 : Nat) : Int), mkb ((m + 4 * n + 2 : Nat) : Int), mkb ((m + 4 * n + 3 : Nat) : Int))] := by unfold keysM; rw [List.range_succ]; simp
theorem keysM_at {m n k : Nat} (h : k < n) : (keysM m n)[k]? = some (((m + 4 * k : Nat) : Int), mkb ((m + 4 * k + 1 : Nat) : Int), mkb ((m + 4 * k + 2 : Nat) : Int), mkb ((m + 4 * k + 3 : Nat) : Int)) := by unfold keysM; simp [h]
/-- The first k elements marked. -/
def keysH (l : List (Int × Bool × Bool × Bool)) (m k : Nat) : List (Int × Bool × Bool × Bool) := keysM m k ++ l.drop k
theorem keysH_length (l : List (Int × Bool × Bool × Bool)) (m k : Nat) (h : k ≤ l.length) : (keysH l m k).length = l.length := by unfold keysH; simp [keysM_length]; omega
theorem keysH_set {l : List (Int × Bool × Bool × Bool)} {m k : Nat} (h : k < l.length) : (keysH l m k).set k (((m + 4 * k : Nat) : Int), mkb ((m + 4 * k + 1 : Nat) : Int), mkb ((m + 4 * k + 2 : Nat) : Int), mkb ((m + 4 * k + 3 : Nat) : Int)) = keysH l m (k + 1) := by
  unfold keysH
  rw [List.set_append_right _ _ (by rw [keysM_length]; omega), keysM_length, Nat.sub_self, List.drop_eq_getElem_cons h, List.set_cons_zero, keysM_succ, List.append_assoc]
  rfl
theorem keysH_at {l : List (Int × Bool × Bool × Bool)} {m k : Nat} (h : k < l.length) : (keysH l m k)[k]? = some l[k] := by
  unfold keysH
  rw [List.getElem?_append_right (by rw [keysM_length]; omega), keysM_length, Nat.sub_self, List.drop_eq_getElem_cons h]; rfl
theorem keysH_zero (l : List (Int × Bool × Bool × Bool)) (m : Nat) : keysH l m 0 = l := by unfold keysH keysM; simp
theorem keysH_all (l : List (Int × Bool × Bool × Bool)) (m : Nat) : keysH l m l.length = keysM m l.length := by unfold keysH; simp

end Go.Proofs.YtcbeoihgaccjcaaDoor
