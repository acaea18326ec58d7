/- JoinStrings of the program, by its contract. -/
import Derived.Test.YtcbeoihgaccjcaaDoorCan
import Derived.Test.YtcbeoihgaccjcaaDoorStrB
import Derived.Test.YtcbeoihgaccjcaaDoorShelf
import Derived.Lib.Join
import Derived.WalkSpells
namespace Go.Proofs.YtcbeoihgaccjcaaDoor
open Go.RowKit

/-- Does b stand in x? -/
def stands (x : ByteArray) (b : UInt8) : Bool := !(idx x b x.size).isEmpty
theorem stands_true {x : ByteArray} {b : UInt8} (h : stands x b = true) : idx x b x.size ≠ [] := by unfold stands at h; simpa using h
theorem stands_false {x : ByteArray} {b : UInt8} (h : stands x b = false) : idx x b x.size = [] := by unfold stands at h; simpa using h
theorem stands_hit {x : ByteArray} {b : UInt8} {k : Nat} (hk : k < x.size) (h : x[k] = b) : stands x b = true := by
  unfold stands
  have := (idx_prefix x b (show k + 1 ≤ x.size from hk)).length_le
  rw [idx_hit hk h] at this
  cases hi : idx x b x.size with
  | nil => rw [hi] at this; simp at this
  | cons _ _ => rfl
theorem stands_none {x : ByteArray} {b : UInt8} (h : idx x b x.size = []) : stands x b = false := by unfold stands; rw [h]; rfl


/-- The text of the first k parts. -/
def jn (xs : List ByteArray) (sep : ByteArray) (k : Nat) : List UInt8 := Lib.join ((xs.take k).map (·.data.toList)) sep.data.toList

theorem jn_one {xs : List ByteArray} {sep x : ByteArray} (h : xs[0]? = some x) : jn xs sep 1 = x.data.toList := by
  cases xs with
  | nil => simp at h
  | cons y r => simp at h; subst h; simp [jn, Lib.join_one]
theorem jn_succ {xs : List ByteArray} {sep x : ByteArray} {k : Nat} (h : xs[k + 1]? = some x) : jn xs sep (k + 2) = jn xs sep (k + 1) ++ sep.data.toList ++ x.data.toList := by
  cases xs with
  | nil => simp at h
  | cons y r =>
    simp at h
    unfold jn
    simp only [List.take_succ_cons, List.map_cons, Lib.join_cons, List.map_take]
    rw [Lib.joinTail_take_succ _ _ k x.data.toList (by simp [h])]
    simp
theorem jn_length {xs : List ByteArray} {sep : ByteArray} (hs : sep.size = 1) (k : Nat) (hk : k < xs.length) : (jn xs sep (k + 1)).length = k + bytesOf (xs.take (k + 1)) := by
  induction k with
  | zero =>
    have h := List.getElem?_eq_getElem hk
    rw [jn_one h, bytesOf_succ h]
    have e : xs[0].data.toList.length = xs[0].size := Array.length_toList
    simp only [bytesOf, List.take_zero, List.map_nil, List.sum_nil]; omega
  | succ k ih =>
    have h := List.getElem?_eq_getElem hk
    have h2 := bytesOf_succ h
    have e1 : sep.data.toList.length = sep.size := Array.length_toList
    have e2 : xs[k + 1].data.toList.length = xs[k + 1].size := Array.length_toList
    rw [jn_succ h, List.length_append, List.length_append, ih (by omega)]; omega
theorem tot_eq (xs : List ByteArray) : tot xs xs.length = xs.length - 1 + bytesOf xs := by unfold tot bytesOf; rw [List.take_length]

/-- When JoinStrings joins. -/
def Good (xs : List ByteArray) (b : UInt8) : Prop := NoSep xs b xs.length ∧ tot xs xs.length ≤ 4000
open Classical in
noncomputable def joinVal (xs : List ByteArray) (sep : ByteArray) (b : UInt8) : Value :=
  if Good xs b then .tuple #[.string ⟨(jn xs sep xs.length).toArray⟩, .bool true] else .tuple #[.string ⟨#[]⟩, .bool false]
theorem joinVal_yes {xs : List ByteArray} {sep : ByteArray} {b : UInt8} (h : Good xs b) : Ending.returned (.tuple #[.string ⟨(jn xs sep xs.length).toArray⟩, .bool true]) = .returned (joinVal xs sep b) := by unfold joinVal; rw [if_pos h]
theorem joinVal_no {xs : List ByteArray} {sep : ByteArray} {b : UInt8} (h : ¬ Good xs b) : Ending.returned (.tuple #[.string ⟨#[]⟩, .bool false]) = .returned (joinVal xs sep b) := by unfold joinVal; rw [if_neg h]

theorem not_good_sep {xs : List ByteArray} {b : UInt8} {k : Nat} {x : ByteArray} (hx : xs[k]? = some x) (h : idx x b x.size ≠ []) : ¬ Good xs b :=
  fun g => h (g.1 k x (List.getElem?_eq_some_iff.1 hx).1 hx)
theorem not_good_long {xs : List ByteArray} {b : UInt8} {sep : ByteArray} (hs : sep.size = 1) {k : Nat} (hk : k < xs.length) (h : 4000 < (jn xs sep (k + 1)).length) : ¬ Good xs b := by
  intro g
  have h1 := jn_length (xs := xs) hs k hk
  have h2 := bytesOf_take xs (k + 1)
  have h3 := g.2
  rw [tot_eq] at h3
  omega
theorem good_of {xs : List ByteArray} {b : UInt8} {sep : ByteArray} (hs : sep.size = 1) (hn : 1 ≤ xs.length) (h1 : NoSep xs b xs.length) (h : (jn xs sep xs.length).length ≤ 4000) : Good xs b := by
  refine ⟨h1, ?_⟩
  have h2 := jn_length (xs := xs) hs (xs.length - 1) (by omega)
  rw [show xs.length - 1 + 1 = xs.length by omega, List.take_length] at h2
  rw [tot_eq]; omega

theorem cat_ba (x y : List UInt8) : (({ data := x.toArray } : ByteArray) ++ ({ data := y.toArray } : ByteArray)) = { data := (x ++ y).toArray } := by
  apply ByteArray.ext; simp
theorem ba_eta (s : ByteArray) : ({ data := s.data.toList.toArray } : ByteArray) = s := by cases s; simp

/-- Behind the separator and one part more. -/
theorem jn_step {xs : List ByteArray} {sep x ob : ByteArray} {k : Nat} (h : xs[k]? = some x) (hk : 0 < k) (ho : ob = ⟨(jn xs sep k).toArray⟩) : (ob ++ sep) ++ x = ⟨(jn xs sep (k + 1)).toArray⟩ := by
  obtain ⟨m, rfl⟩ : ∃ m, k = m + 1 := ⟨k - 1, by omega⟩
  rw [jn_succ h, ho, ← cat_ba, ← cat_ba, ba_eta, ba_eta]
theorem jn_first {xs : List ByteArray} {sep x : ByteArray} (h : xs[0]? = some x) : x = ⟨(jn xs sep 1).toArray⟩ := by rw [jn_one h, ba_eta]
theorem ba_size (l : List UInt8) : ({ data := l.toArray } : ByteArray).size = l.length := by simp [ByteArray.size]

theorem good_iff {xs : List ByteArray} {b : UInt8} {r : Bool} (h : CanIs xs b r) : r = true ↔ Good xs b := h

set_option maxRecDepth 100000 in
set_option maxHeartbeats 2000000 in
/-- The program. -/
theorem implJoin_any (v : Value) (xs : List ByteArray) (sep : ByteArray) (w : World) (hv : StrsAt w v xs) (hn : 1 ≤ xs.length) (hn2 : xs.length ≤ 1048576) (hx : ∀ (j : Nat) x, xs[j]? = some x → x.size ≤ 1048576) (hs : sep.size = 1) (y : UInt8) (h00 : 0 < sep.size) (hy : sep[0] = y) :
    Calls Tryd.prog 21 #[v, .string sep] w fun e w' => e = .returned (joinVal xs sep y) ∧ Below w.heap.size w w' := by
  obtain ⟨b, o, c, rfl, hcap, hb, h⟩ := hv.some_of hn
  have HCAN := Lib.hid (canJoin_any b o c xs y w h hb hn hn2 hx)
  have H := Lib.hid h
  have HS := Lib.hid hs
  have hs1 : (sep.size : Int) ≤ 1 := by omega
  have hsn : ((sep.size : Int) != 1) = false := by rw [hs]; rfl
  have hln : ((xs.length : Int) == 0) = false := by rw [beq_eq_false_iff_ne]; omega
  clear h hx hs
  go_enter Tryd.func21, Tryd.ntmps21
  go_wp2_with fail
  refine HCAN.out.mono ?_
  rintro e w1 ⟨r, rfl, hcan, hb1⟩
  have HB := Lib.hid hb1
  have HG := Lib.hid (good_iff hcan)
  clear hcan hb1
  cases r
  · have HN := Lib.hid (show ¬ Good xs y from fun g => (by cases HG.out.2 g))
    go_wp2
    go_ret2
    exact ⟨joinVal_no HN.out, HB.out⟩
  · have HY := Lib.hid (HG.out.1 rfl)
    have HL : Hid ((Lib.join (xs.map (·.data.toList)) sep.data.toList).length ≤ 140737488355328) := Lib.hid (by
      have h1 := jn_length (xs := xs) HS.out (xs.length - 1) (by omega)
      rw [show xs.length - 1 + 1 = xs.length by omega] at h1
      unfold jn at h1
      rw [List.take_length] at h1
      have h2 := HY.out.2
      rw [tot_eq] at h2
      omega)
    have HJ := Lib.hid (Tryd.strings_Join b o c xs sep w1 (fun j x hx => (HB.out.cell (p := ⟨b, o + j, none⟩) hb).trans (H.out j x hx)) (Nat.lt_of_lt_of_le hb HB.out.size) (by omega) hcap HL.out)
    go_wp2_with (go_at_call 38; refine HJ.out.mono ?_; rintro e w2 ⟨rfl, hb2⟩)
    go_ret2
    exact ⟨by rw [← joinVal_yes HY.out]; unfold jn; rw [List.take_length]; rfl, HB.out.trans (hb2.mono HB.out.size)⟩

def NoVal : Value := .tuple #[.string ⟨#[]⟩, .bool false]

theorem implJoin_bad (a : Option Addr) (n c : Nat) (sep : ByteArray) (w : World) (hn : n ≤ 1048576) (h : n = 0 ∨ sep.size ≠ 1) :
    Calls Tryd.prog 21 #[.slice a n c, .string sep] w fun e w' => e = .returned NoVal ∧ Below w.heap.size w w' := by
  by_cases h1 : n = 0
  · subst h1
    clear h
    go_enter Tryd.func21, Tryd.ntmps21
    go_wp2
    go_ret2
    exact ⟨rfl, Below.refl _ _⟩
  · have h2 : sep.size ≠ 1 := by omega
    have hsn : ((sep.size : Int) != 1) = true := by rw [bne_iff_ne]; omega
    have hln : ((n : Int) == 0) = false := by rw [beq_eq_false_iff_ne]; omega
    clear h h1 h2
    go_enter Tryd.func21, Tryd.ntmps21
    go_wp2
    go_ret2
    exact ⟨rfl, Below.refl _ _⟩

end Go.Proofs.YtcbeoihgaccjcaaDoor
