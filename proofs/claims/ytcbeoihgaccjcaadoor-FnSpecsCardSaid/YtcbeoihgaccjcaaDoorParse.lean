/- The program's ParseInt, by its contract: the number whose numeral the string is, else 0 and false. -/
import Derived.Test.YtcbeoihgaccjcaaDoorRead
import Derived.Test.YtcbeoihgaccjcaaDoorShelfA
import Derived.Lib.AppendIntMem
import Derived.Lib.AtoiErrMem
import Derived.WalkSmall
namespace Go.Proofs.YtcbeoihgaccjcaaDoor
open Go.RowKit Go.Sort Go.Shelf

/-- A package-level variable that holds an interface value, now and in every later world. -/
def VarIs (w : World) (name : String) : Prop := ∃ tp p, ∀ w', Below w.heap.size w w' → w'.var? Tryd.prog name = some #[.iface tp p]

theorem varIs_of {w : World} {n : String} {g : Nat} {tp : TypeId} {p : Value} (hg : Tryd.prog.globalNamed n = some g) (hv : w.var? Tryd.prog n = some #[.iface tp p]) : VarIs w n := by
  refine ⟨tp, p, fun w' hb => var?_below hb hg ?_ hv⟩
  refine Nat.lt_of_not_le fun hle => ?_
  unfold World.var? at hv
  simp only [hg, Option.bind_some] at hv
  rw [Array.getElem?_eq_none hle] at hv
  simp at hv

theorem VarIs.later {w w' : World} {n : String} (h : VarIs w n) (hb : Below w.heap.size w w') : VarIs w' n := by
  obtain ⟨tp, p, h⟩ := h
  exact ⟨tp, p, fun w'' hb' => h w'' (hb.trans (hb'.mono hb.size))⟩

/-- Atoi: either it hands back a number and no error, or an error; an error only where no numeral in the range stands. -/
def AtoiPost (s : ByteArray) (w : World) (e : Ending) (w' : World) : Prop :=
  Below w.heap.size w w' ∧ ((∃ v : Int, -9223372036854775808 ≤ v ∧ v ≤ 9223372036854775807 ∧ e = .returned (.tuple #[.int .i64 v, .nilIface]) ∧ ∀ m : Int, -999999 ≤ m → m ≤ 999999 → Lib.itoa m = s.data.toList → m = v) ∨
    (∃ (v : Int) (N : Nat), e = .returned (.tuple #[.int .i64 v, .iface 98 (.pointer (some ⟨N, 0, none⟩))]) ∧ NoNum s.data.toList))

theorem no_of_atoi {l : List UInt8} (h : ∀ v, Lib.atoiAll l ≠ .ok v) : NoNum l := by
  intro m h0 h1 e
  exact h m (by rw [← e]; exact atoi_itoa m h0 h1)

theorem atoi_any (s : ByteArray) (w : World) (hs : s.size ≤ 1048576) (h1 : VarIs w "strconv.ErrSyntax") (h2 : VarIs w "strconv.ErrRange") :
    Calls Tryd.prog 52 #[.string s] w (AtoiPost s w) := by
  obtain ⟨t1, p1, h1⟩ := h1
  obtain ⟨t2, p2, h2⟩ := h2
  cases h : Lib.atoiAll s.data.toList
  · rename_i v
    refine (Any.strconv_Atoi_ok Tryd.laysC172 s (by omega) v h w).mono ?_
    rintro e w' ⟨rfl, hw⟩
    refine ⟨?_, .inl ⟨v, (Lib.atoiAll_bounds h).1, (Lib.atoiAll_bounds h).2, rfl, fun m a b e => ?_⟩⟩
    · rcases hw with rfl | ⟨t, rfl⟩
      · exact Below.refl _ _
      · exact Lib.bytesWorld_below _ _ _
    · have := atoi_itoa m a b
      rw [e, h] at this
      injection this with this
      exact this.symm
  · refine (Any.strconv_Atoi_syntax_var Tryd.laysC172 s (by omega) h t1 p1 w (h1 w (Below.refl _ _))).mono ?_
    rintro e w' ⟨N, rfl, _, _, hb⟩
    exact ⟨hb, .inr ⟨_, N, rfl, no_of_atoi (by intro v hv; rw [h] at hv; cases hv)⟩⟩
  · refine (Any.strconv_Atoi_range_var Tryd.laysC172 s (by omega) h t2 p2 w (h2 w (Below.refl _ _))).mono ?_
    rintro e w' ⟨N, rfl, _, _, hb⟩
    exact ⟨hb, .inr ⟨_, N, rfl, no_of_atoi (by intro v hv; rw [h] at hv; cases hv)⟩⟩

set_option maxHeartbeats 1000000 in
theorem implParse_any (s : ByteArray) (w : World) (hs : s.size ≤ 1048576) (h1 : VarIs w "strconv.ErrSyntax") (h2 : VarIs w "strconv.ErrRange")
    (htab : Lib.TabIs Tryd.prog w "internal/strconv.uint64pow10" .u64 Lib.pow10Tab) :
    Calls Tryd.prog 43 #[.string s] w (ReadPost s w) := by
  have HA := Lib.hid (atoi_any s w hs h1 h2)
  have HT := Lib.hid (Lib.tabBelow_of_tabIs htab)
  clear h1 h2 htab
  go_enter Tryd.func43, Tryd.ntmps43
  go_wp2_with fail
  refine HA.out.mono ?_
  rintro e w1 ⟨hb1, ⟨v, b0, b1, rfl, hv⟩ | ⟨v, N, rfl, hn⟩⟩
  · have HV := Lib.hid hv
    have HB := Lib.hid hb1
    clear hv hb1
    by_cases hr : -999999 ≤ v ∧ v ≤ 999999
    · obtain ⟨r0, r1⟩ := hr
      by_cases he : Lib.itoa v = s.data.toList
      · have hq := str_eq_true he
        have HE := Lib.hid he
        clear he
        go_wp2_with (go_at_call 36; refine (implFmt_yes _ _ r0 r1 (HT.out _ HB.out)).mono ?_; rintro e w2 ⟨rfl, hb2⟩)
        go_ret2
        exact read_yes (HB.out.trans (hb2.mono HB.out.size)) rfl r0 r1 HE.out
      · have hq := str_eq_false he
        have HE := Lib.hid (show NoNum s.data.toList from fun m a b e => he (by rw [← HV.out m a b e]; exact e))
        clear he
        go_wp2_with (go_at_call 36; refine (implFmt_yes _ _ r0 r1 (HT.out _ HB.out)).mono ?_; rintro e w2 ⟨rfl, hb2⟩)
        go_ret2
        exact read_end (HB.out.trans (hb2.mono HB.out.size)) rfl HE.out
    · have HR := Lib.hid (show v < -999999 ∨ 999999 < v by omega)
      have HE := Lib.hid (show NoNum s.data.toList from fun m a b e => by have := HV.out m a b e; omega)
      clear hr
      go_wp2_with (go_at_call 36; refine (implFmt_no _ _ HR.out).mono ?_; rintro e w2 ⟨rfl, hb2⟩)
      go_ret2
      exact read_end (HB.out.trans (hb2.mono HB.out.size)) rfl HE.out
  · have HN := Lib.hid hn
    have HB := Lib.hid hb1
    clear hn hb1
    go_wp2
    go_ret2
    exact read_end HB.out rfl HN.out

end Go.Proofs.YtcbeoihgaccjcaaDoor
