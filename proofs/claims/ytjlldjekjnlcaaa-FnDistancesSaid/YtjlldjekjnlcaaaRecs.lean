/- Lists of records, by their cells. Nothing of the program. -/
import Derived.Test.YtjlldjekjnlcaaaFlat
namespace Go.Proofs.Ytjlldjekjnlcaaa
open Go.RowKit

/-- The cells of records. -/
def recs (l : List (Int × Int)) : List Value := l.flatMap fun p => [.int .i64 p.1, .int .i64 p.2]

theorem recs_cons (p : Int × Int) (l : List (Int × Int)) : recs (p :: l) = .int .i64 p.1 :: .int .i64 p.2 :: recs l := rfl
theorem recs_length (l : List (Int × Int)) : (recs l).length = l.length * 2 := by
  induction l with
  | nil => rfl
  | cons p l ih => rw [recs_cons, List.length_cons, List.length_cons, ih, List.length_cons]; omega
theorem recs_append (l m : List (Int × Int)) : recs (l ++ m) = recs l ++ recs m := by unfold recs; rw [List.flatMap_append]
theorem recs_at {l : List (Int × Int)} {k : Nat} {p : Int × Int} (h : l[k]? = some p) : (recs l)[k * 2]? = some (.int .i64 p.1) ∧ (recs l)[k * 2 + 1]? = some (.int .i64 p.2) := by
  induction l generalizing k with
  | nil => simp at h
  | cons q l ih =>
    cases k with
    | zero => simp at h; subst h; exact ⟨rfl, rfl⟩
    | succ k =>
      have := ih (k := k) (by simpa using h)
      rw [recs_cons]
      rw [show (k + 1) * 2 = k * 2 + 1 + 1 by omega, List.getElem?_cons_succ, List.getElem?_cons_succ, List.getElem?_cons_succ, List.getElem?_cons_succ]
      exact this
theorem recs_set (l : List (Int × Int)) (k : Nat) (p : Int × Int) (h : k < l.length) : ((recs l).set (k * 2) (.int .i64 p.1)).set (k * 2 + 1) (.int .i64 p.2) = recs (l.set k p) := by
  induction l generalizing k with
  | nil => simp at h
  | cons q l ih =>
    cases k with
    | zero => rfl
    | succ k =>
      have := ih k (by simpa using h)
      rw [List.set_cons_succ, recs_cons, recs_cons, ← this]
      rw [show (k + 1) * 2 = k * 2 + 1 + 1 by omega]
      simp only [List.set_cons_succ]

theorem recs_replicate (n : Nat) (p : Int × Int) : recs (List.replicate n p) = (List.replicate n [Value.int .i64 p.1, Value.int .i64 p.2]).flatten := by
  unfold recs
  rw [List.flatMap_replicate]

/-- One record of a list that can be read. -/
theorem recs_el {w : World} {a : Option Addr} {l : List (Int × Int)} {k : Nat} {p : Int × Int} (H : ∀ (j : Nat) u, (recs l)[j]? = some u → ∃ b o, a = some ⟨b, o, none⟩ ∧ b < w.heap.size ∧ w.cell? ⟨b, o + j, none⟩ = some u) (hp : l[k]? = some p) :
    ∃ b o, a = some ⟨b, o, none⟩ ∧ b < w.heap.size ∧ w.cell? ⟨b, o + k * 2, none⟩ = some (.int .i64 p.1) ∧ w.cell? ⟨b, o + k * 2 + 1, none⟩ = some (.int .i64 p.2) := by
  obtain ⟨h1, h2⟩ := recs_at hp
  obtain ⟨b, o, ha, hb, hc⟩ := H _ _ h1
  obtain ⟨b', o', ha', _, hc'⟩ := H _ _ h2
  rw [ha] at ha'
  injection ha' with ha'
  injection ha' with e1 e2
  subst e1 e2
  exact ⟨b, o, ha, hb, hc, hc'⟩

/-- The marks from m on, two a record. -/
def rmarks (m n : Nat) : List (Int × Int) := (List.range n).map fun i => (((m + 2 * i : Nat) : Int), ((m + 2 * i + 1 : Nat) : Int))
theorem rmarks_length (m n : Nat) : (rmarks m n).length = n := by unfold rmarks; simp
theorem rmarks_succ (m n : Nat) : rmarks m (n + 1) = rmarks m n ++ [(((m + 2 * n : Nat) : Int), ((m + 2 * n + 1 : Nat) : Int))] := by unfold rmarks; rw [List.range_succ]; simp
theorem rmarks_at {m n k : Nat} (h : k < n) : (rmarks m n)[k]? = some (((m + 2 * k : Nat) : Int), ((m + 2 * k + 1 : Nat) : Int)) := by unfold rmarks; simp [h]
/-- The first k records marked. -/
def rhalf (l : List (Int × Int)) (m k : Nat) : List (Int × Int) := rmarks m k ++ l.drop k
theorem rhalf_length (l : List (Int × Int)) (m k : Nat) (h : k ≤ l.length) : (rhalf l m k).length = l.length := by unfold rhalf; simp [rmarks_length]; omega
theorem rhalf_set {l : List (Int × Int)} {m k : Nat} (h : k < l.length) : (rhalf l m k).set k (((m + 2 * k : Nat) : Int), ((m + 2 * k + 1 : Nat) : Int)) = rhalf l m (k + 1) := by
  unfold rhalf
  rw [List.set_append_right _ _ (by rw [rmarks_length]; omega), rmarks_length, Nat.sub_self, List.drop_eq_getElem_cons h, List.set_cons_zero, rmarks_succ, List.append_assoc]
  rfl
theorem rhalf_at {l : List (Int × Int)} {m k : Nat} (h : k < l.length) : (rhalf l m k)[k]? = some l[k] := by
  unfold rhalf
  rw [List.getElem?_append_right (by rw [rmarks_length]; omega), rmarks_length, Nat.sub_self, List.drop_eq_getElem_cons h]; rfl
theorem rhalf_zero (l : List (Int × Int)) (m : Nat) : rhalf l m 0 = l := by unfold rhalf rmarks; simp
theorem rhalf_all (l : List (Int × Int)) (m : Nat) : rhalf l m l.length = rmarks m l.length := by unfold rhalf; simp

end Go.Proofs.Ytjlldjekjnlcaaa
