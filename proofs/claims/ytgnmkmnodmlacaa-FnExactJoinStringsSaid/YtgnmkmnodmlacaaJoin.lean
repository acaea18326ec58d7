/- JoinStrings of the program and of its model, by their contracts: both hand back the same text, or the empty text and false. -/
import Derived.Test.YtgnmkmnodmlacaaCan
import Derived.Test.YtgnmkmnodmlacaaStr
import Derived.Test.YtgnmkmnodmlacaaShelf
import Derived.Lib.Join
import Derived.WalkSpells
namespace Go.Proofs.Ytgnmkmnodmlacaa
open Go.RowKit

/-- Does b stand in x? -/
def stands (x : ByteArray) (b : UInt8) : Bool := !(idx x b x.size).isEmpty
theorem stands_true {x : ByteArray} {b : UInt8} (h : stands x b = true) : idx x b x.size ≠ [] := by unfold stands at h; simpa using h
theorem stands_false {x : ByteArray} {b : UInt8} (h : stands x b = false) : idx x b x.size = [] := by unfold stands at h; simpa using h
theorem stands_hit {x : ByteArray} {b : UInt8} {k : Nat} (hk : k < x.size) (h : x[k] = b) : stands x b = true := by
  unfold stands
  have := (idx_prefix x b (show k + 1 ≤ x.size from hk)).length_le
  rw [idx_hit hk h] at this
  cases hi : idx x b x.size with
  | nil => rw [hi] at this; simp at this
  | cons _ _ => rfl
theorem stands_none {x : ByteArray} {b : UInt8} (h : idx x b x.size = []) : stands x b = false := by unfold stands; rw [h]; rfl

set_option maxHeartbeats 1000000 in
theorem l1Stands_any (x : ByteArray) (b : UInt8) (w : World) (hx : x.size ≤ maxLen) :
    Calls Try.prog 32 #[.string x, .int .u8 (b.toNat : Int)] w fun e w' => e = .returned (.bool (stands x b)) ∧ w' = w := by
  unfold maxLen at hx
  go_enter Try.func32, Try.ntmps32
  go_wp2
  go_loop [5] (fun i => ∃ k : Nat, k ≤ x.size ∧ i = .int .i64 k ∧ idx x b k = []) (fun i => x.size - (intOf i).toNat)
  case atStart => exact ⟨0, Nat.zero_le _, rfl, rfl⟩
  case round =>
    obtain ⟨k, hk, rfl, hi⟩ := hrel
    have HI := Lib.hid hi
    clear hi
    by_cases hlt : k < x.size
    · by_cases he : x[k] = b
      · have hq : ((x[k].toNat : Int) == (b.toNat : Int)) = true := by rw [he]; exact beq_self_eq_true _
        have HS := Lib.hid (stands_hit hlt he)
        clear he
        go_wp2
        go_ret
        exact ⟨by rw [HS.out]; rfl, rfl⟩
      · have hq : ((x[k].toNat : Int) == (b.toNat : Int)) = false := by
          rw [beq_eq_false_iff_ne]; intro e; exact he (UInt8.toNat_inj.1 (by omega))
        have HN := Lib.hid (idx_miss hlt he)
        clear he
        go_wp2
        go_round
        case rel => exact ⟨k + 1, by omega, by go_num, by rw [HN.out]; exact HI.out⟩
        case measure => simp [intOf]; omega
    · obtain rfl : k = x.size := by omega
      go_wp2
      go_ret
      exact ⟨by rw [stands_none HI.out]; rfl, rfl⟩

/-- The text of the first k parts. -/
def jn (xs : List ByteArray) (sep : ByteArray) (k : Nat) : List UInt8 := Lib.join ((xs.take k).map (·.data.toList)) sep.data.toList

theorem jn_one {xs : List ByteArray} {sep x : ByteArray} (h : xs[0]? = some x) : jn xs sep 1 = x.data.toList := by
  cases xs with
  | nil => simp at h
  | cons y r => simp at h; subst h; simp [jn, Lib.join_one]
theorem jn_succ {xs : List ByteArray} {sep x : ByteArray} {k : Nat} (h : xs[k + 1]? = some x) : jn xs sep (k + 2) = jn xs sep (k + 1) ++ sep.data.toList ++ x.data.toList := by
  cases xs with
  | nil => simp at h
  | cons y r =>
    simp at h
    unfold jn
    simp only [List.take_succ_cons, List.map_cons, Lib.join_cons, List.map_take]
    rw [Lib.joinTail_take_succ _ _ k x.data.toList (by simp [h])]
    simp
theorem jn_length {xs : List ByteArray} {sep : ByteArray} (hs : sep.size = 1) (k : Nat) (hk : k < xs.length) : (jn xs sep (k + 1)).length = k + bytesOf (xs.take (k + 1)) := by
  induction k with
  | zero =>
    have h := List.getElem?_eq_getElem hk
    rw [jn_one h, bytesOf_succ h]
    have e : xs[0].data.toList.length = xs[0].size := Array.length_toList
    simp only [bytesOf, List.take_zero, List.map_nil, List.sum_nil]; omega
  | succ k ih =>
    have h := List.getElem?_eq_getElem hk
    have h2 := bytesOf_succ h
    have e1 : sep.data.toList.length = sep.size := Array.length_toList
    have e2 : xs[k + 1].data.toList.length = xs[k + 1].size := Array.length_toList
    rw [jn_succ h, List.length_append, List.length_append, ih (by omega)]; omega
theorem tot_eq (xs : List ByteArray) : tot xs xs.length = xs.length - 1 + bytesOf xs := by unfold tot bytesOf; rw [List.take_length]

/-- When JoinStrings joins. -/
def Good (xs : List ByteArray) (b : UInt8) : Prop := NoSep xs b xs.length ∧ tot xs xs.length ≤ 4000
open Classical in
noncomputable def joinVal (xs : List ByteArray) (sep : ByteArray) (b : UInt8) : Value :=
  if Good xs b then .tuple #[.string ⟨(jn xs sep xs.length).toArray⟩, .bool true] else .tuple #[.string ⟨#[]⟩, .bool false]
theorem joinVal_yes {xs : List ByteArray} {sep : ByteArray} {b : UInt8} (h : Good xs b) : Ending.returned (.tuple #[.string ⟨(jn xs sep xs.length).toArray⟩, .bool true]) = .returned (joinVal xs sep b) := by unfold joinVal; rw [if_pos h]
theorem joinVal_no {xs : List ByteArray} {sep : ByteArray} {b : UInt8} (h : ¬ Good xs b) : Ending.returned (.tuple #[.string ⟨#[]⟩, .bool false]) = .returned (joinVal xs sep b) := by unfold joinVal; rw [if_neg h]

theorem not_good_sep {xs : List ByteArray} {b : UInt8} {k : Nat} {x : ByteArray} (hx : xs[k]? = some x) (h : idx x b x.size ≠ []) : ¬ Good xs b :=
  fun g => h (g.1 k x (List.getElem?_eq_some_iff.1 hx).1 hx)
theorem not_good_long {xs : List ByteArray} {b : UInt8} {sep : ByteArray} (hs : sep.size = 1) {k : Nat} (hk : k < xs.length) (h : 4000 < (jn xs sep (k + 1)).length) : ¬ Good xs b := by
  intro g
  have h1 := jn_length (xs := xs) hs k hk
  have h2 := bytesOf_take xs (k + 1)
  have h3 := g.2
  rw [tot_eq] at h3
  omega
theorem good_of {xs : List ByteArray} {b : UInt8} {sep : ByteArray} (hs : sep.size = 1) (hn : 1 ≤ xs.length) (h1 : NoSep xs b xs.length) (h : (jn xs sep xs.length).length ≤ 4000) : Good xs b := by
  refine ⟨h1, ?_⟩
  have h2 := jn_length (xs := xs) hs (xs.length - 1) (by omega)
  rw [show xs.length - 1 + 1 = xs.length by omega, List.take_length] at h2
  rw [tot_eq]; omega

theorem cat_ba (x y : List UInt8) : (({ data := x.toArray } : ByteArray) ++ ({ data := y.toArray } : ByteArray)) = { data := (x ++ y).toArray } := by
  apply ByteArray.ext; simp
theorem ba_eta (s : ByteArray) : ({ data := s.data.toList.toArray } : ByteArray) = s := by cases s; simp

/-- Behind the separator and one part more. -/
theorem jn_step {xs : List ByteArray} {sep x ob : ByteArray} {k : Nat} (h : xs[k]? = some x) (hk : 0 < k) (ho : ob = ⟨(jn xs sep k).toArray⟩) : (ob ++ sep) ++ x = ⟨(jn xs sep (k + 1)).toArray⟩ := by
  obtain ⟨m, rfl⟩ : ∃ m, k = m + 1 := ⟨k - 1, by omega⟩
  rw [jn_succ h, ho, ← cat_ba, ← cat_ba, ba_eta, ba_eta]
theorem jn_first {xs : List ByteArray} {sep x : ByteArray} (h : xs[0]? = some x) : x = ⟨(jn xs sep 1).toArray⟩ := by rw [jn_one h, ba_eta]
theorem ba_size (l : List UInt8) : ({ data := l.toArray } : ByteArray).size = l.length := by simp [ByteArray.size]

set_option maxRecDepth 100000 in
set_option maxHeartbeats 2000000 in
/-- The model. -/
theorem specJoin_any (v : Value) (xs : List ByteArray) (sep : ByteArray) (w : World) (hv : StrsAt w v xs) (hn : 1 ≤ xs.length) (hn2 : xs.length ≤ 1048576) (hx : ∀ (j : Nat) x, xs[j]? = some x → x.size ≤ 1048576) (hs : sep.size = 1) (y : UInt8) (h00 : 0 < sep.size) (hy : sep[0] = y) :
    Calls Try.prog 13 #[v, .string sep] w fun e w' => e = .returned (joinVal xs sep y) ∧ Below w.heap.size w w' := by
  obtain ⟨b, o, c, rfl, _, hb, h⟩ := hv.some_of hn
  have H := Lib.hid h
  have HX := Lib.hid hx
  have HS := Lib.hid hs
  have hs1 : (sep.size : Int) ≤ 1 := by omega
  have hsn : ((sep.size : Int) != 1) = false := by rw [hs]; rfl
  have hln : ((xs.length : Int) == 0) = false := by rw [beq_eq_false_iff_ne]; omega
  clear h hx hs
  go_enter Try.func13, Try.ntmps13
  go_wp2
  go_loopw [6, 7] (fun out i wr => ∃ (k : Nat) (ob : ByteArray), k ≤ xs.length ∧ i = .int .i64 k ∧ out = .string ob ∧ ob = ⟨(jn xs sep k).toArray⟩ ∧ ob.size ≤ 4000 ∧ NoSep xs y k ∧ Below w.heap.size w wr) (fun _ i _ => xs.length - (intOf i).toNat)
  case atStart => exact ⟨0, ByteArray.empty, Nat.zero_le _, rfl, rfl, rfl, by simp, fun j x hj => by omega, Below.refl _ _⟩
  case round =>
    obtain ⟨k, ob, hk, rfl, rfl, ho, hol, hns, hbw⟩ := hrel
    have HO := Lib.hid ho
    have HNS := Lib.hid hns
    have HB := Lib.hid hbw
    clear ho hns hbw
    by_cases hlt : k < xs.length
    · obtain ⟨x, hx⟩ : ∃ x, xs[k]? = some x := ⟨_, List.getElem?_eq_getElem hlt⟩
      have hc : wr.cell? ⟨b, o + k, none⟩ = some (.string x) := (HB.out.cell (p := ⟨b, o + k, none⟩) hb).trans (H.out k x hx)
      have hxm := HX.out k x hx
      have HXK := Lib.hid hx
      have HC0 := Lib.hid (fun W => l1Stands_any x y W (by unfold maxLen; omega))
      clear hx
      by_cases hst : stands x y = true
      · have HG := Lib.hid (not_good_sep HXK.out (stands_true hst))
        have HC := Lib.hid (fun W => by have h := HC0.out W; rw [hst] at h; exact h)
        clear HC0 hst
        go_wp2
        go_quiet ((go_at_call 32; exact Calls.quiet_of_same (HC.out _)))
        go_wp2
        go_ret2
        exact ⟨joinVal_no HG.out, HB.out.trans ⟨rfl, rfl, rfl, Nat.le_refl _, fun _ _ => rfl⟩⟩
      · have hst2 : stands x y = false := by simpa using hst
        have HI := Lib.hid (HNS.out.succ HXK.out (stands_false hst2))
        have HC := Lib.hid (fun W => by have h := HC0.out W; rw [hst2] at h; exact h)
        clear HC0 hst hst2
        by_cases h0 : 0 < k
        · have hadd1 := fun W => run_string_add_sum (w := W) (P := Try.prog) ob sep (by omega)
          obtain ⟨o1, ho1⟩ : ∃ o1 : ByteArray, o1 = ob ++ sep := ⟨_, rfl⟩
          have hz1 : o1.size ≤ 4001 := by rw [ho1]; simp; omega
          rw [← ho1] at hadd1
          have hadd2 := fun W => run_string_add_sum (w := W) (P := Try.prog) o1 x (by omega)
          obtain ⟨o2, ho2⟩ : ∃ o2 : ByteArray, o2 = o1 ++ x := ⟨_, rfl⟩
          have hz2 : (o2.size : Int) ≤ 2000000 := by rw [ho2]; simp; omega
          rw [← ho2] at hadd2
          have HO2 : Hid (o2 = ⟨(jn xs sep (k + 1)).toArray⟩) := Lib.hid (by rw [ho2, ho1]; exact jn_step HXK.out h0 HO.out)
          have hz3 : o2.size = (jn xs sep (k + 1)).length := by rw [HO2.out, ba_size]
          have HZ3 := Lib.hid hz3
          clear ho1 ho2 hz3
          by_cases hbig : 4000 < o2.size
          · have HG := Lib.hid (not_good_long (b := y) HS.out hlt (by rw [← HZ3.out]; exact hbig))
            go_wp2
            go_quiet ((go_at_call 32; exact Calls.quiet_of_same (HC.out _)))
            go_wp2
            go_ret2
            exact ⟨joinVal_no HG.out, HB.out.trans ⟨rfl, rfl, rfl, Nat.le_refl _, fun _ _ => rfl⟩⟩
          · go_wp2
            go_quiet ((go_at_call 32; exact Calls.quiet_of_same (HC.out _)))
            go_wp2
            go_roundw
            case rel => exact ⟨k + 1, o2, by omega, by go_num, rfl, HO2.out, by omega, HI.out, HB.out.trans ⟨rfl, rfl, rfl, Nat.le_refl _, fun _ _ => rfl⟩⟩
            case measure => simp [intOf]; omega
        · obtain rfl : k = 0 := by omega
          have hoe : ob = ByteArray.empty := HO.out
          subst hoe
          have hc0 : wr.cell? ⟨b, o, none⟩ = some (.string x) := by simpa using hc
          have hadd2 : ∀ W, (Op.stringOp .add ByteArray.empty x).run Try.prog W = .ok (.string x) W := fun W => by
            rw [run_string_add_sum (w := W) (P := Try.prog) ByteArray.empty x (by simp; omega)]; simp
          have HO2 : Hid (x = ⟨(jn xs sep 1).toArray⟩) := Lib.hid (jn_first HXK.out)
          have HZ3 := Lib.hid (show x.size = (jn xs sep 1).length by rw [← ba_size, ← HO2.out])
          by_cases hbig : 4000 < x.size
          · have HG := Lib.hid (not_good_long (b := y) (k := 0) HS.out hlt (by rw [← HZ3.out]; exact hbig))
            go_wp2
            go_quiet ((go_at_call 32; exact Calls.quiet_of_same (HC.out _)))
            go_wp2
            go_ret2
            exact ⟨joinVal_no HG.out, HB.out.trans ⟨rfl, rfl, rfl, Nat.le_refl _, fun _ _ => rfl⟩⟩
          · go_wp2
            go_quiet ((go_at_call 32; exact Calls.quiet_of_same (HC.out _)))
            go_wp2
            go_roundw
            case rel => exact ⟨1, x, by omega, rfl, rfl, HO2.out, by omega, HI.out, HB.out.trans ⟨rfl, rfl, rfl, Nat.le_refl _, fun _ _ => rfl⟩⟩
            case measure => simp [intOf]; omega
    · obtain rfl : k = xs.length := by omega
      have HG := Lib.hid (good_of HS.out hn HNS.out (by rw [← ba_size, ← HO.out]; exact hol))
      go_wp2
      go_ret2
      exact ⟨by rw [← joinVal_yes HG.out, ← HO.out]; rfl, HB.out⟩

theorem good_iff {xs : List ByteArray} {b : UInt8} {r : Bool} (h : CanIs xs b r) : r = true ↔ Good xs b := h

set_option maxRecDepth 100000 in
set_option maxHeartbeats 2000000 in
/-- The program. -/
theorem implJoin_any (v : Value) (xs : List ByteArray) (sep : ByteArray) (w : World) (hv : StrsAt w v xs) (hn : 1 ≤ xs.length) (hn2 : xs.length ≤ 1048576) (hx : ∀ (j : Nat) x, xs[j]? = some x → x.size ≤ 1048576) (hs : sep.size = 1) (y : UInt8) (h00 : 0 < sep.size) (hy : sep[0] = y) :
    Calls Try.prog 12 #[v, .string sep] w fun e w' => e = .returned (joinVal xs sep y) ∧ Below w.heap.size w w' := by
  obtain ⟨b, o, c, rfl, hcap, hb, h⟩ := hv.some_of hn
  have HCAN := Lib.hid (canJoin_any b o c xs y w h hb hn hn2 hx)
  have H := Lib.hid h
  have HS := Lib.hid hs
  have hs1 : (sep.size : Int) ≤ 1 := by omega
  have hsn : ((sep.size : Int) != 1) = false := by rw [hs]; rfl
  have hln : ((xs.length : Int) == 0) = false := by rw [beq_eq_false_iff_ne]; omega
  clear h hx hs
  go_enter Try.func12, Try.ntmps12
  go_wp2_with fail
  refine HCAN.out.mono ?_
  rintro e w1 ⟨r, rfl, hcan, hb1⟩
  have HB := Lib.hid hb1
  have HG := Lib.hid (good_iff hcan)
  clear hcan hb1
  cases r
  · have HN := Lib.hid (show ¬ Good xs y from fun g => (by cases HG.out.2 g))
    go_wp2
    go_ret2
    exact ⟨joinVal_no HN.out, HB.out⟩
  · have HY := Lib.hid (HG.out.1 rfl)
    have HL : Hid ((Lib.join (xs.map (·.data.toList)) sep.data.toList).length ≤ 140737488355328) := Lib.hid (by
      have h1 := jn_length (xs := xs) HS.out (xs.length - 1) (by omega)
      rw [show xs.length - 1 + 1 = xs.length by omega] at h1
      unfold jn at h1
      rw [List.take_length] at h1
      have h2 := HY.out.2
      rw [tot_eq] at h2
      omega)
    have HJ := Lib.hid (Try.strings_Join b o c xs sep w1 (fun j x hx => (HB.out.cell (p := ⟨b, o + j, none⟩) hb).trans (H.out j x hx)) (Nat.lt_of_lt_of_le hb HB.out.size) (by omega) hcap HL.out)
    go_wp2_with (go_at_call 31; refine HJ.out.mono ?_; rintro e w2 ⟨rfl, hb2⟩)
    go_ret2
    exact ⟨by rw [← joinVal_yes HY.out]; unfold jn; rw [List.take_length]; rfl, HB.out.trans (hb2.mono HB.out.size)⟩

def NoVal : Value := .tuple #[.string ⟨#[]⟩, .bool false]

theorem specJoin_bad (a : Option Addr) (n c : Nat) (sep : ByteArray) (w : World) (hn : n ≤ 1048576) (h : n = 0 ∨ sep.size ≠ 1) :
    Calls Try.prog 13 #[.slice a n c, .string sep] w fun e w' => e = .returned NoVal ∧ Below w.heap.size w w' := by
  by_cases h1 : sep.size = 1
  · have h2 : n = 0 := by omega
    have hsn : ((sep.size : Int) != 1) = false := by rw [h1]; rfl
    subst h2
    clear h h1
    go_enter Try.func13, Try.ntmps13
    go_wp2
    go_ret2
    exact ⟨rfl, Below.refl _ _⟩
  · have hsn : ((sep.size : Int) != 1) = true := by rw [bne_iff_ne]; omega
    clear h h1
    go_enter Try.func13, Try.ntmps13
    go_wp2
    go_ret2
    exact ⟨rfl, Below.refl _ _⟩

theorem implJoin_bad (a : Option Addr) (n c : Nat) (sep : ByteArray) (w : World) (hn : n ≤ 1048576) (h : n = 0 ∨ sep.size ≠ 1) :
    Calls Try.prog 12 #[.slice a n c, .string sep] w fun e w' => e = .returned NoVal ∧ Below w.heap.size w w' := by
  by_cases h1 : n = 0
  · subst h1
    clear h
    go_enter Try.func12, Try.ntmps12
    go_wp2
    go_ret2
    exact ⟨rfl, Below.refl _ _⟩
  · have h2 : sep.size ≠ 1 := by omega
    have hsn : ((sep.size : Int) != 1) = true := by rw [bne_iff_ne]; omega
    have hln : ((n : Int) == 0) = false := by rw [beq_eq_false_iff_ne]; omega
    clear h h1 h2
    go_enter Try.func12, Try.ntmps12
    go_wp2
    go_ret2
    exact ⟨rfl, Below.refl _ _⟩

/-- What both hand back at one list and one separator: the same tuple of a string and a bool. -/
theorem specJoin_all (xs : List ByteArray) (sep : ByteArray) (hx : ∀ (j : Nat) x, xs[j]? = some x → x.size ≤ 1048576) (hn2 : xs.length ≤ 1048576) :
    ∃ (s : ByteArray) (r : Bool), (∀ w v', StrsAt w v' xs → Calls Try.prog 13 #[v', .string sep] w fun e w' => e = .returned (.tuple #[.string s, .bool r]) ∧ Below w.heap.size w w') ∧
      (∀ w v', StrsAt w v' xs → Calls Try.prog 12 #[v', .string sep] w fun e w' => e = .returned (.tuple #[.string s, .bool r]) ∧ Below w.heap.size w w') := by
  by_cases h : xs.length = 0 ∨ sep.size ≠ 1
  · refine ⟨⟨#[]⟩, false, fun w v' hv => ?_, fun w v' hv => ?_⟩
    · obtain ⟨a, c, rfl, _, _⟩ := hv
      exact specJoin_bad a _ c sep w hn2 h
    · obtain ⟨a, c, rfl, _, _⟩ := hv
      exact implJoin_bad a _ c sep w hn2 h
  · have h1 : sep.size = 1 := by omega
    have h2 : 0 < sep.size := by omega
    have h3 : 1 ≤ xs.length := by omega
    by_cases hg : Good xs sep[0]
    · refine ⟨⟨(jn xs sep xs.length).toArray⟩, true, fun w v' hv => ?_, fun w v' hv => ?_⟩
      · refine (specJoin_any v' xs sep w hv h3 hn2 hx h1 _ h2 rfl).mono fun e w' hh => ⟨?_, hh.2⟩
        rw [joinVal_yes hg]; exact hh.1
      · refine (implJoin_any v' xs sep w hv h3 hn2 hx h1 _ h2 rfl).mono fun e w' hh => ⟨?_, hh.2⟩
        rw [joinVal_yes hg]; exact hh.1
    · refine ⟨⟨#[]⟩, false, fun w v' hv => ?_, fun w v' hv => ?_⟩
      · refine (specJoin_any v' xs sep w hv h3 hn2 hx h1 _ h2 rfl).mono fun e w' hh => ⟨?_, hh.2⟩
        rw [joinVal_no (xs := xs) (sep := sep) hg]; exact hh.1
      · refine (implJoin_any v' xs sep w hv h3 hn2 hx h1 _ h2 rfl).mono fun e w' hh => ⟨?_, hh.2⟩
        rw [joinVal_no (xs := xs) (sep := sep) hg]; exact hh.1

end Go.Proofs.Ytgnmkmnodmlacaa
