/- strings.CutSuffix at a suffix of one byte, by its contract. -/
import Derived.Test.YtcbeoihgaccjcaaDoorFlat
import Derived.Lib.IndexBytes
import Derived.OwnWalk
namespace Go.Proofs.YtcbeoihgaccjcaaDoor
open Go.RowKit

/-- One byte cut off the end, where it stands there. -/
def cut1 (l : List UInt8) (c : UInt8) : List UInt8 × Bool := if l.getLast? = some c then (l.dropLast, true) else (l, false)

theorem cut1_yes (l : List UInt8) (c : UInt8) : cut1 (l ++ [c]) c = (l, true) := by unfold cut1; simp
theorem cut1_no {l : List UInt8} {c : UInt8} (h : l.getLast? ≠ some c) : cut1 l c = (l, false) := by unfold cut1; rw [if_neg h]

theorem last_split {s : ByteArray} {n : Nat} (h : s.size = n + 1) : ∃ A z, s.data.toList = A ++ [z] ∧ A.length = n := by
  have hl : s.data.toList.length = n + 1 := by rw [Array.length_toList]; exact h
  rcases List.eq_nil_or_concat s.data.toList with e | ⟨A, z, e⟩
  · rw [e] at hl; simp at hl
  · refine ⟨A, z, by simpa using e, ?_⟩
    rw [e] at hl; simpa using hl
theorem last_eq {s : ByteArray} {n : Nat} {c : UInt8} (h : s.size = n + 1) : ((s.extract n s.size).toList == [c]) = (cut1 s.data.toList c).2 := by
  obtain ⟨A, z, e, hA⟩ := last_split h
  have h1 : (s.extract n s.size).toList = [z] := by
    rw [Lib.toList_data]
    have := Lib.extract_to_end s n
    rw [e, ← hA, List.drop_left] at this
    rw [← hA]; exact this
  rw [h1, e]
  by_cases hz : z = c
  · subst hz; rw [cut1_yes]; simp
  · rw [cut1_no (by simp; exact hz)]; simp [hz]
theorem front_eq {s : ByteArray} {n : Nat} {c : UInt8} (h : s.size = n + 1) (hc : (cut1 s.data.toList c).2 = true) : ((s.extract 0 n).data.toList, true) = cut1 s.data.toList c := by
  obtain ⟨A, z, e, hA⟩ := last_split h
  have h1 : (s.extract 0 n).data.toList = A := by
    have h2 : (s.extract 0 n).data.toList = s.data.toList.take n := by simp [ByteArray.data_extract]
    rw [h2, e, ← hA, List.take_left]
  rw [h1]
  by_cases hz : z = c
  · subst hz; rw [e, cut1_yes]
  · rw [e, cut1_no (by simp; exact hz)] at hc; simp at hc

def CutPost (s : ByteArray) (c : UInt8) (w : World) (e : Ending) (w' : World) : Prop :=
  ∃ t b, e = .returned (.tuple #[.string t, .bool b]) ∧ (t.data.toList, b) = cut1 s.data.toList c ∧ t.size ≤ s.size ∧ w' = w

set_option maxRecDepth 100000 in
theorem hasS_any (s : ByteArray) (c : UInt8) (w : World) (hs : s.size ≤ 1048576) :
    Calls Tryd.prog 56 #[.string s, .string ⟨#[c]⟩] w fun e w' => e = .returned (.bool (cut1 s.data.toList c).2) ∧ w' = w := by
  have hc1 : (⟨#[c]⟩ : ByteArray).size = 1 := rfl
  by_cases h0 : s.size = 0
  · have hz : ¬ (1 : Int) ≤ (s.size : Int) := by omega
    have hv : Hid (cut1 s.data.toList c = (s.data.toList, false)) := Lib.hid (cut1_no (by
      have : s.data.toList = [] := List.length_eq_zero_iff.1 (by rw [Array.length_toList]; exact h0)
      rw [this]; simp))
    have H0 := Lib.hid h0
    clear h0
    go_enter Tryd.func56, Tryd.ntmps56
    go_wp2
    go_ret
    exact ⟨by rw [hv.out]; rfl, rfl⟩
  · have hz : (1 : Int) ≤ (s.size : Int) := by omega
    obtain ⟨n, hn⟩ : ∃ n, s.size = n + 1 := ⟨s.size - 1, by omega⟩
    have hnz : (s.size : Int) - 1 = (n : Int) := by omega
    have HN := Lib.hid hn
    have hle : n ≤ s.size := by omega
    clear hn h0
    go_enter Tryd.func56, Tryd.ntmps56
    go_wp2
    go_ret
    refine ⟨?_, rfl⟩
    show Ending.returned (Value.bool ((s.extract n s.size).toList == [c])) = _
    rw [last_eq HN.out]

set_option maxRecDepth 100000 in
theorem cutI_any (s : ByteArray) (c : UInt8) (w : World) (hs : s.size ≤ 1048576) :
    Calls Tryd.prog 51 #[.string s, .string ⟨#[c]⟩] w (CutPost s c w) := by
  have HH := Lib.hid (hasS_any s c w hs)
  have hc1 : (⟨#[c]⟩ : ByteArray).size = 1 := rfl
  cases hb : (cut1 s.data.toList c).2 with
  | true =>
    have hn0 : s.size ≠ 0 := by
      intro h
      have : s.data.toList = [] := List.length_eq_zero_iff.1 (by rw [Array.length_toList]; exact h)
      rw [this] at hb; simp [cut1] at hb
    obtain ⟨n, hn⟩ : ∃ n, s.size = n + 1 := ⟨s.size - 1, by omega⟩
    have hnz : (s.size : Int) - 1 = (n : Int) := by omega
    have hle : n ≤ s.size := by omega
    have HN := Lib.hid (front_eq hn hb)
    rw [hb] at HH
    clear hn hb hn0
    go_enter Tryd.func51, Tryd.ntmps51
    go_wp2_with fail
    refine (HH.out).mono ?_
    rintro e w1 ⟨rfl, rfl⟩
    go_wp2_with fail
    go_ret2
    exact ⟨s.extract 0 n, true, rfl, HN.out, by simp; omega, rfl⟩
  | false =>
    have HN : Hid ((s.data.toList, false) = cut1 s.data.toList c) := Lib.hid (by
      unfold cut1 at hb ⊢
      split
      · rename_i h; rw [if_pos h] at hb; simp at hb
      · rfl)
    rw [hb] at HH
    clear hb
    go_enter Tryd.func51, Tryd.ntmps51
    go_wp2_with fail
    refine (HH.out).mono ?_
    rintro e w1 ⟨rfl, rfl⟩
    go_wp2_with fail
    go_ret2
    exact ⟨s, false, rfl, HN.out, Nat.le_refl _, rfl⟩

theorem cutS_any (s : ByteArray) (c : UInt8) (w : World) (hs : s.size ≤ 1048576) :
    Calls Tryd.prog 42 #[.string s, .string ⟨#[c]⟩] w (CutPost s c w) := by
  have HH := Lib.hid (cutI_any s c w hs)
  go_enter Tryd.func42, Tryd.ntmps42
  go_wp2_with fail
  refine (HH.out).mono ?_
  rintro e w1 ⟨t, b, rfl, h1, h2, rfl⟩
  have HR := Lib.hid (And.intro h1 h2)
  clear h1 h2
  go_wp2_with fail
  go_ret2
  exact ⟨t, b, rfl, HR.out.1, HR.out.2, rfl⟩

end Go.Proofs.YtcbeoihgaccjcaaDoor
