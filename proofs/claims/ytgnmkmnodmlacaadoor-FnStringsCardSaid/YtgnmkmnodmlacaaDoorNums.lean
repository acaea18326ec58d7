/- FormatInt, ParseInt: both sides hand back the same, in a form without worlds. -/
import Derived.Test.YtgnmkmnodmlacaaDoorParse
import Derived.Test.YtgnmkmnodmlacaaDoorVer
namespace Go.Proofs.YtgnmkmnodmlacaaDoor
open Go.RowKit

theorem specParse_any (s : ByteArray) (w : World) (hs : s.size ≤ maxLen) : Calls Tryd.prog 14 #[.string s] w (ReadPost s w) := by
  have HC : Hid (Calls Tryd.prog 29 #[.string s] w (ReadPost s w)) := Lib.hid (by
    by_cases h : ∃ h : 1 < s.size, s[0] = 45
    · obtain ⟨h1, h2⟩ := h
      exact l1Read_neg s w hs h1 h2
    · exact l1Read_pos s w hs (fun h1 h2 => h ⟨h1, h2⟩))
  unfold maxLen at hs
  go_enter Tryd.func14, Tryd.ntmps14
  go_wp2_with fail
  refine HC.out.mono ?_
  rintro e w1 ⟨hb1, ⟨v, b0, b1, rfl, hv⟩ | ⟨rfl, hn⟩⟩
  · have HB := Lib.hid hb1
    have HV := Lib.hid hv
    clear hb1 hv
    go_wp2
    go_ret2
    exact read_yes HB.out rfl b0 b1 HV.out
  · have HB := Lib.hid hb1
    have HV := Lib.hid hn
    clear hb1 hn
    go_wp2
    go_ret2
    exact read_end HB.out rfl HV.out

/-- The world that the number functions ask for. -/
structure Door (w : World) : Prop where
  h1 : VarIs w "strconv.ErrSyntax"
  h2 : VarIs w "strconv.ErrRange"
  tab : Lib.TabIs Tryd.prog w "internal/strconv.uint64pow10" .u64 Lib.pow10Tab

theorem Door.later {w w' : World} (h : Door w) (hb : Below w.heap.size w w') : Door w' := ⟨h.h1.later hb, h.h2.later hb, Lib.tabBelow_of_tabIs h.tab w' hb⟩

/-- What reading a text gives. -/
def NumOf (t : ByteArray) (m : Int) (r : Bool) : Prop :=
  (-999999 ≤ m ∧ m ≤ 999999 ∧ Lib.itoa m = t.data.toList ∧ r = true) ∨ (NoNum t.data.toList ∧ m = 0 ∧ r = false)

theorem readPost_of {t : ByteArray} {m : Int} {r : Bool} {w w' : World} {e : Ending} (h : NumOf t m r) (hp : ReadPost t w e w') : e = .returned (.tuple #[.int .i64 m, .bool r]) ∧ Below w.heap.size w w' := by
  obtain ⟨hb, ⟨n, n0, n1, he, hn⟩ | ⟨he, hn⟩⟩ := hp
  · rcases h with ⟨m0, m1, hm, rfl⟩ | ⟨hno, _, _⟩
    · obtain rfl := itoa_inj (hm.trans hn.symm)
      exact ⟨he, hb⟩
    · exact absurd hn (hno n n0 n1)
  · rcases h with ⟨m0, m1, hm, rfl⟩ | ⟨_, rfl, rfl⟩
    · exact absurd hm (hn m m0 m1)
    · exact ⟨he, hb⟩

open Classical in
theorem numOf_all (t : ByteArray) : ∃ m r, NumOf t m r := by
  by_cases h : ∃ m : Int, -999999 ≤ m ∧ m ≤ 999999 ∧ Lib.itoa m = t.data.toList
  · obtain ⟨m, h0, h1, h2⟩ := h
    exact ⟨m, true, .inl ⟨h0, h1, h2, rfl⟩⟩
  · exact ⟨0, false, .inr ⟨fun m h0 h1 h2 => h ⟨m, h0, h1, h2⟩, rfl, rfl⟩⟩

theorem parse_both (t : ByteArray) (ht : t.size ≤ 1048576) : ∃ m r, NumOf t m r ∧
    (∀ w, Door w → Calls Tryd.prog 13 #[.string t] w fun e w' => e = .returned (.tuple #[.int .i64 m, .bool r]) ∧ Below w.heap.size w w') ∧
    (∀ w, Calls Tryd.prog 14 #[.string t] w fun e w' => e = .returned (.tuple #[.int .i64 m, .bool r]) ∧ Below w.heap.size w w') := by
  obtain ⟨m, r, h⟩ := numOf_all t
  exact ⟨m, r, h, fun w hd => (implParse_any t w ht hd.h1 hd.h2 hd.tab).mono fun e w' hp => readPost_of h hp, fun w => (specParse_any t w (by unfold maxLen; omega)).mono fun e w' hp => readPost_of h hp⟩

theorem itoa_len (n : Int) (h0 : -999999 ≤ n) (h1 : n ≤ 999999) : (Lib.itoa n).length ≤ 7 := by
  unfold Lib.itoa
  have h2 := dec_len 5 n.natAbs (by omega)
  split
  · have h3 := dec_len 5 (-n).toNat (by omega)
    simp; omega
  · have h3 := dec_len 5 n.toNat (by omega)
    omega

theorem fmt_both (n : Int) : ∃ (s : ByteArray) (ok : Bool), s.size ≤ 20 ∧ (ok = true → -999999 ≤ n ∧ n ≤ 999999 ∧ s.data.toList = Lib.itoa n) ∧
    (∀ w, Door w → Calls Tryd.prog 10 #[.int .i64 n] w fun e w' => e = .returned (.tuple #[.string s, .bool ok]) ∧ Below w.heap.size w w') ∧
    (∀ w, Calls Tryd.prog 11 #[.int .i64 n] w fun e w' => e = .returned (.tuple #[.string s, .bool ok]) ∧ Below w.heap.size w w') := by
  by_cases h : -999999 ≤ n ∧ n ≤ 999999
  · have hl := itoa_len n h.1 h.2
    exact ⟨⟨(Lib.itoa n).toArray⟩, true, by rw [ba_size]; omega, fun _ => ⟨h.1, h.2, rfl⟩, fun w hd => implFmt_yes n w h.1 h.2 hd.tab, fun w => specFmt_yes n w h.1 h.2⟩
  · have h' : n < -999999 ∨ 999999 < n := by omega
    exact ⟨⟨#[]⟩, false, by decide, fun e => (by cases e), fun w _ => implFmt_no n w h', fun w => specFmt_no n w h'⟩

/-- A number's own text is read as the number. -/
theorem numOf_own {n m : Int} {s : ByteArray} {r : Bool} (h0 : -999999 ≤ n) (h1 : n ≤ 999999) (hs : s.data.toList = Lib.itoa n) (h : NumOf s m r) : m = n ∧ r = true := by
  rcases h with ⟨_, _, hm, hr⟩ | ⟨hno, _, _⟩
  · exact ⟨itoa_inj (hm.trans hs), hr⟩
  · exact absurd hs.symm (hno n h0 h1)

end Go.Proofs.YtgnmkmnodmlacaaDoor
