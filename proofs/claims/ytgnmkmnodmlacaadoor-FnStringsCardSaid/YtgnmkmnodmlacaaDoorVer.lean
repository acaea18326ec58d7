/- VerifyChecksum of the program and of its model, by their contracts. -/
import Derived.Test.YtgnmkmnodmlacaaDoorSeal
import Derived.Test.YtgnmkmnodmlacaaDoorSplitS
namespace Go.Proofs.YtgnmkmnodmlacaaDoor
open Go.RowKit

/-- What stands before the first separator. -/
def first (s : ByteArray) (b : UInt8) : ByteArray := s.extract 0 (match idx s b s.size with | [] => s.size | i :: _ => i)

theorem idx_nil_none {s : ByteArray} {b : UInt8} {k : Nat} (h : idx s b k = []) : ∀ j, j < k → s.data[j]? ≠ some b := fun j hj e => by
  have := idx_lt (s := s) (b := b) hj e
  rw [h] at this; simp at this
theorem idx_head_least (s : ByteArray) (b : UInt8) : ∀ k i r, k ≤ s.size → idx s b k = i :: r → ∀ j, j < i → s.data[j]? ≠ some b := by
  intro k
  induction k with
  | zero => intro i r _ h; simp [idx] at h
  | succ k ih =>
    intro i r hk h j hj
    by_cases he : s[k] = b
    · rw [idx_hit hk he] at h
      cases hi : idx s b k with
      | nil =>
        rw [hi] at h
        simp at h
        exact idx_nil_none hi j (by omega)
      | cons i' r' =>
        rw [hi] at h
        simp at h
        exact ih i' r' (by omega) hi j (by omega)
    · rw [idx_miss hk he] at h
      exact ih i r (by omega) h j hj

theorem pieces_head (s : ByteArray) (b : UInt8) : (pieces s b)[0]? = some (first s b) := by
  unfold pieces first
  cases hi : idx s b s.size with
  | nil => simp [stp]
  | cons i r => rw [List.getElem?_append_left (List.getElem?_eq_some_iff.1 (stp_head s r i)).1]; exact stp_head s r i
theorem pieces_pos (s : ByteArray) (b : UInt8) : 1 ≤ (pieces s b).length := by unfold pieces; simp
theorem pieces_le (s : ByteArray) (b : UInt8) : (pieces s b).length ≤ s.size + 1 := by
  unfold pieces
  rw [List.length_append, stp_length]
  have := idx_le s b s.size
  simp; omega
theorem first_size (s : ByteArray) (b : UInt8) : (first s b).size ≤ s.size := by unfold first; simp; omega

theorem first_free (s : ByteArray) (b : UInt8) : idx (first s b) b (first s b).size = [] := by
  refine idx_none (fun c hc e => ?_) _ (Nat.le_refl _)
  subst e
  unfold first at hc
  rw [Lib.extract_data] at hc
  obtain ⟨j, hj⟩ := List.mem_iff_getElem?.1 hc
  simp only [List.drop_zero, Nat.sub_zero] at hj
  have hlt : j < (match idx s c s.size with | [] => s.size | i :: _ => i) := by
    rcases Nat.lt_or_ge j (match idx s c s.size with | [] => s.size | i :: _ => i) with h | h
    · exact h
    · rw [List.getElem?_take_eq_none h] at hj; cases hj
  rw [List.getElem?_take_of_lt hlt] at hj
  have hj2 : s.data[j]? = some c := by simpa using hj
  cases hi : idx s c s.size with
  | nil =>
    rw [hi] at hlt
    exact idx_nil_none hi j hlt hj2
  | cons i r =>
    rw [hi] at hlt
    exact idx_head_least s c s.size i r (Nat.le_refl _) hi j hlt hj2

def OkV (s : ByteArray) : Prop := s.size ≤ 4000 ∧ sealed (first s 35) = s
open Classical in
noncomputable def verVal (s : ByteArray) : Value := if OkV s then .tuple #[.string (first s 35), .bool true] else .tuple #[.string ⟨#[]⟩, .bool false]
theorem verVal_yes {s : ByteArray} (h : OkV s) : Ending.returned (.tuple #[.string (first s 35), .bool true]) = .returned (verVal s) := by unfold verVal; rw [if_pos h]
theorem verVal_no {s : ByteArray} (h : ¬ OkV s) : Ending.returned (.tuple #[.string ⟨#[]⟩, .bool false]) = .returned (verVal s) := by unfold verVal; rw [if_neg h]

theorem toList_ne {a b : ByteArray} (h : a ≠ b) : (a.toList == b.toList) = false := by
  rw [Lib.toList_data, Lib.toList_data, beq_eq_false_iff_ne]
  intro e; exact h (by apply ByteArray.ext; exact Array.toList_inj.1 e)

/-- A row of strings that holds at least one: its shape and its first cell. -/
theorem row_first {w : World} {base : Nat} {v : Value} {n : Nat} {xs : List ByteArray} {t : TypeId} {x : ByteArray} (h : w.ownsRow base t 1 v n (xs.map Value.string)) (hn : 1 ≤ n) (hx : xs[0]? = some x) :
    ∃ g cap, v = .slice (some ⟨g, 0, none⟩) n cap ∧ w.cell? ⟨g, 0, none⟩ = some (.string x) := by
  obtain ⟨m, rfl⟩ : ∃ m, n = m + 1 := ⟨n - 1, by omega⟩
  obtain ⟨g, cap, rfl⟩ := ownsRow_succ h
  refine ⟨g, cap, rfl, ?_⟩
  rw [h.cellAt 0 (by omega)]
  simp [hx]

def SplitNo (w : World) (e : Ending) (w' : World) : Prop := ∃ v, e = .returned (.tuple #[v, .bool false]) ∧ Below w.heap.size w w'
theorem split_long (s sep : ByteArray) (w : World) (hs : 4000 < s.size) (hm : s.size ≤ 1048576) :
    Calls Tryd.prog 35 #[.string s, .string sep] w (SplitNo w) := by
  have hb : Below w.heap.size w ((w.alloc (.cells #[.string s] 9)).alloc (.cells #[] 9)) := ((Below.refl _ w).alloc (Nat.le_refl _) _).alloc (by simp) _
  have HB := Lib.hid hb
  clear hb
  go_enter Tryd.func35, Tryd.ntmps35
  go_wp2
  go_ret2
  exact ⟨_, rfl, HB.out⟩

set_option maxHeartbeats 1000000 in
theorem implVer_any (s : ByteArray) (w : World) (hs : s.size ≤ 1048576) (htab : Lib.TabIs Tryd.prog w "internal/strconv.uint64pow10" .u64 Lib.pow10Tab) :
    Calls Tryd.prog 18 #[.string s] w fun e w' => e = .returned (verVal s) ∧ Below w.heap.size w w' := by
  by_cases h4 : s.size ≤ 4000
  · have HSP := Lib.hid (split_yes s ⟨#[35]⟩ w h4 rfl 35 (by decide) rfl)
    have HAP := Lib.hid (fun w1 (hb : Below w.heap.size w w1) => implAppend_any (first s 35) w1 (by have := first_size s 35; omega) (Lib.tabBelow_of_tabIs htab w1 hb))
    clear htab
    go_enter Tryd.func18, Tryd.ntmps18
    go_wp2_with fail
    refine HSP.out.mono ?_
    rintro e w1 ⟨v, rfl, hown, hb1⟩
    obtain ⟨g, cap, rfl, hc⟩ := row_first hown (pieces_pos s 35) (pieces_head s 35)
    have hl0 := pieces_pos s 35
    have hl1 := pieces_le s 35
    have hl2 : ((pieces s 35).length : Int) ≤ 5000 := by omega
    have hl3 : (0 : Int) < ((pieces s 35).length : Int) := by omega
    have HB1 := Lib.hid hb1
    have hglt : g < w1.heap.size := World.block_lt_of_cell? w1 _ hc
    clear hown hb1
    by_cases hok : OkA (first s 35)
    · have HV : Hid (appendVal (first s 35) = .tuple #[.string (sealed (first s 35)), .bool true]) := Lib.hid (by unfold appendVal; rw [if_pos hok])
      rw [HV.out] at HAP
      clear hok
      by_cases he : sealed (first s 35) = s
      · have HE := Lib.hid (verVal_yes (s := s) ⟨h4, he⟩)
        rw [he] at HAP
        clear HV he
        generalize first s 35 = t at *
        go_wp2_with fail
        refine (HAP.out _ HB1.out).mono ?_
        rintro e w2 ⟨rfl, hb2⟩
        have hc2 : w2.cell? ⟨g, 0, none⟩ = some (.string t) := (hb2.cell (p := ⟨g, 0, none⟩) hglt).trans hc
        have HB2 := Lib.hid (HB1.out.trans (hb2.mono HB1.out.size))
        clear hb2
        go_wp2
        go_ret2
        exact ⟨HE.out, HB2.out⟩
      · have HE := Lib.hid (verVal_no (s := s) (fun h => he h.2))
        have hne := toList_ne he
        clear HV he
        generalize sealed (first s 35) = sl at *
        generalize first s 35 = t at *
        go_wp2_with fail
        refine (HAP.out _ HB1.out).mono ?_
        rintro e w2 ⟨rfl, hb2⟩
        have HB2 := Lib.hid (HB1.out.trans (hb2.mono HB1.out.size))
        clear hb2
        go_wp2
        go_ret2
        exact ⟨HE.out, HB2.out⟩
    · have HV : Hid (appendVal (first s 35) = .tuple #[.string ⟨#[]⟩, .bool false]) := Lib.hid (by unfold appendVal; rw [if_neg hok])
      rw [HV.out] at HAP
      have HE := Lib.hid (verVal_no (s := s) (fun h => hok ⟨by have := first_size s 35; omega, first_free s 35, by rw [h.2]; exact h4⟩))
      clear hok HV
      generalize first s 35 = t at *
      go_wp2_with fail
      refine (HAP.out _ HB1.out).mono ?_
      rintro e w2 ⟨rfl, hb2⟩
      have HB2 := Lib.hid (HB1.out.trans (hb2.mono HB1.out.size))
      clear hb2
      go_wp2
      go_ret2
      exact ⟨HE.out, HB2.out⟩
  · have HSP := Lib.hid (split_long s ⟨#[35]⟩ w (by omega) hs)
    have HE := Lib.hid (verVal_no (s := s) (fun h => h4 h.1))
    clear htab
    go_enter Tryd.func18, Tryd.ntmps18
    go_wp2_with fail
    refine HSP.out.mono ?_
    rintro e w1 ⟨v, rfl, hb1⟩
    have HB1 := Lib.hid hb1
    clear hb1
    go_wp2
    go_ret2
    exact ⟨HE.out, HB1.out⟩

theorem l1Split_hash (s : ByteArray) (w : World) (hs : s.size ≤ 4000) :
    Calls Tryd.prog 36 #[.string s, .int .u8 35] w fun e w' => ∃ v, e = .returned v ∧ w'.ownsRow w.heap.size 9 1 v (pieces s 35).length ((pieces s 35).map Value.string) ∧ Below w.heap.size w w' := by
  have h := l1Split_any s 35 w hs
  have e : (((35 : UInt8).toNat : Nat) : Int) = 35 := rfl
  rw [e] at h
  exact h

set_option maxHeartbeats 1000000 in
theorem specVer_any (s : ByteArray) (w : World) (hs : s.size ≤ 1048576) :
    Calls Tryd.prog 20 #[.string s] w fun e w' => e = .returned (verVal s) ∧ Below w.heap.size w w' := by
  by_cases h4 : s.size ≤ 4000
  · have HSP := Lib.hid (l1Split_hash s w h4)
    have HSL := Lib.hid (fun W => l1Seal_any (first s 35) W (by have := first_size s 35; omega))
    go_enter Tryd.func20, Tryd.ntmps20
    go_wp2_with fail
    refine HSP.out.mono ?_
    rintro e w1 ⟨v, rfl, hown, hb1⟩
    obtain ⟨g, cap, rfl, hc⟩ := row_first hown (pieces_pos s 35) (pieces_head s 35)
    have hl0 := pieces_pos s 35
    have hl1 := pieces_le s 35
    have hl2 : ((pieces s 35).length : Int) ≤ 5000 := by omega
    have hl3 : (0 : Int) < ((pieces s 35).length : Int) := by omega
    have HB1 := Lib.hid hb1
    clear hown hb1
    by_cases he : sealed (first s 35) = s
    · have HE := Lib.hid (verVal_yes (s := s) ⟨h4, he⟩)
      rw [he] at HSL
      clear he
      generalize first s 35 = t at *
      go_wp2_with fail
      refine (HSL.out _).mono ?_
      rintro e w2 ⟨rfl, hb2⟩
      have HB2 := Lib.hid (HB1.out.trans (hb2.mono HB1.out.size))
      clear hb2
      go_wp2
      go_ret2
      exact ⟨HE.out, HB2.out⟩
    · have HE := Lib.hid (verVal_no (s := s) (fun h => he h.2))
      have hne := toList_ne he
      clear he
      generalize sealed (first s 35) = sl at *
      generalize first s 35 = t at *
      go_wp2_with fail
      refine (HSL.out _).mono ?_
      rintro e w2 ⟨rfl, hb2⟩
      have HB2 := Lib.hid (HB1.out.trans (hb2.mono HB1.out.size))
      clear hb2
      go_wp2
      go_ret2
      exact ⟨HE.out, HB2.out⟩
  · have HE := Lib.hid (verVal_no (s := s) (fun h => h4 h.1))
    go_enter Tryd.func20, Tryd.ntmps20
    go_wp2
    go_ret2
    exact ⟨HE.out, Below.refl _ _⟩

end Go.Proofs.YtgnmkmnodmlacaaDoor
