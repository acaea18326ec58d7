/- JoinStrings of the model, by its contract; what both hand back. -/
import Derived.Test.YtgnmkmnodmlacaaJoinI
namespace Go.Proofs.Ytgnmkmnodmlacaa
open Go.RowKit

set_option maxRecDepth 100000 in
set_option maxHeartbeats 2000000 in
/-- The model. -/
theorem specJoin_any (v : Value) (xs : List ByteArray) (sep : ByteArray) (w : World) (hv : StrsAt w v xs) (hn : 1 ≤ xs.length) (hn2 : xs.length ≤ 1048576) (hx : ∀ (j : Nat) x, xs[j]? = some x → x.size ≤ 1048576) (hs : sep.size = 1) (y : UInt8) (h00 : 0 < sep.size) (hy : sep[0] = y) :
    Calls Try.prog 13 #[v, .string sep] w fun e w' => e = .returned (joinVal xs sep y) ∧ Below w.heap.size w w' := by
  obtain ⟨b, o, c, rfl, _, hb, h⟩ := hv.some_of hn
  have H := Lib.hid h
  have HX := Lib.hid hx
  have HS := Lib.hid hs
  have hs1 : (sep.size : Int) ≤ 1 := by omega
  have hsn : ((sep.size : Int) != 1) = false := by rw [hs]; rfl
  have hln : ((xs.length : Int) == 0) = false := by rw [beq_eq_false_iff_ne]; omega
  clear h hx hs
  go_enter Try.func13, Try.ntmps13
  go_wp2
  go_loopw [6, 7] (fun out i wr => ∃ (k : Nat) (ob : ByteArray), k ≤ xs.length ∧ i = .int .i64 k ∧ out = .string ob ∧ ob = ⟨(jn xs sep k).toArray⟩ ∧ ob.size ≤ 4000 ∧ NoSep xs y k ∧ Below w.heap.size w wr) (fun _ i _ => xs.length - (intOf i).toNat)
  case atStart => exact ⟨0, ByteArray.empty, Nat.zero_le _, rfl, rfl, rfl, by simp, fun j x hj => by omega, Below.refl _ _⟩
  case round =>
    obtain ⟨k, ob, hk, rfl, rfl, ho, hol, hns, hbw⟩ := hrel
    have HO := Lib.hid ho
    have HNS := Lib.hid hns
    have HB := Lib.hid hbw
    clear ho hns hbw
    by_cases hlt : k < xs.length
    · obtain ⟨x, hx⟩ : ∃ x, xs[k]? = some x := ⟨_, List.getElem?_eq_getElem hlt⟩
      have hc : wr.cell? ⟨b, o + k, none⟩ = some (.string x) := (HB.out.cell (p := ⟨b, o + k, none⟩) hb).trans (H.out k x hx)
      have hxm := HX.out k x hx
      have HXK := Lib.hid hx
      have HC0 := Lib.hid (fun W => l1Stands_any x y W (by unfold maxLen; omega))
      clear hx
      by_cases hst : stands x y = true
      · have HG := Lib.hid (not_good_sep HXK.out (stands_true hst))
        have HC := Lib.hid (fun W => by have h := HC0.out W; rw [hst] at h; exact h)
        clear HC0 hst
        go_wp2
        go_quiet ((go_at_call 32; exact Calls.quiet_of_same (HC.out _)))
        go_wp2
        go_ret2
        exact ⟨joinVal_no HG.out, HB.out.trans ⟨rfl, rfl, rfl, Nat.le_refl _, fun _ _ => rfl⟩⟩
      · have hst2 : stands x y = false := by simpa using hst
        have HI := Lib.hid (HNS.out.succ HXK.out (stands_false hst2))
        have HC := Lib.hid (fun W => by have h := HC0.out W; rw [hst2] at h; exact h)
        clear HC0 hst hst2
        by_cases h0 : 0 < k
        · have hadd1 := fun W => run_string_add_sum (w := W) (P := Try.prog) ob sep (by omega)
          obtain ⟨o1, ho1⟩ : ∃ o1 : ByteArray, o1 = ob ++ sep := ⟨_, rfl⟩
          have hz1 : o1.size ≤ 4001 := by rw [ho1]; simp; omega
          rw [← ho1] at hadd1
          have hadd2 := fun W => run_string_add_sum (w := W) (P := Try.prog) o1 x (by omega)
          obtain ⟨o2, ho2⟩ : ∃ o2 : ByteArray, o2 = o1 ++ x := ⟨_, rfl⟩
          have hz2 : (o2.size : Int) ≤ 2000000 := by rw [ho2]; simp; omega
          rw [← ho2] at hadd2
          have HO2 : Hid (o2 = ⟨(jn xs sep (k + 1)).toArray⟩) := Lib.hid (by rw [ho2, ho1]; exact jn_step HXK.out h0 HO.out)
          have hz3 : o2.size = (jn xs sep (k + 1)).length := by rw [HO2.out, ba_size]
          have HZ3 := Lib.hid hz3
          clear ho1 ho2 hz3
          by_cases hbig : 4000 < o2.size
          · have HG := Lib.hid (not_good_long (b := y) HS.out hlt (by rw [← HZ3.out]; exact hbig))
            go_wp2
            go_quiet ((go_at_call 32; exact Calls.quiet_of_same (HC.out _)))
            go_wp2
            go_ret2
            exact ⟨joinVal_no HG.out, HB.out.trans ⟨rfl, rfl, rfl, Nat.le_refl _, fun _ _ => rfl⟩⟩
          · go_wp2
            go_quiet ((go_at_call 32; exact Calls.quiet_of_same (HC.out _)))
            go_wp2
            go_roundw
            case rel => exact ⟨k + 1, o2, by omega, by go_num, rfl, HO2.out, by omega, HI.out, HB.out.trans ⟨rfl, rfl, rfl, Nat.le_refl _, fun _ _ => rfl⟩⟩
            case measure => simp [intOf]; omega
        · obtain rfl : k = 0 := by omega
          have hoe : ob = ByteArray.empty := HO.out
          subst hoe
          have hc0 : wr.cell? ⟨b, o, none⟩ = some (.string x) := by simpa using hc
          have hadd2 : ∀ W, (Op.stringOp .add ByteArray.empty x).run Try.prog W = .ok (.string x) W := fun W => by
            rw [run_string_add_sum (w := W) (P := Try.prog) ByteArray.empty x (by simp; omega)]; simp
          have HO2 : Hid (x = ⟨(jn xs sep 1).toArray⟩) := Lib.hid (jn_first HXK.out)
          have HZ3 := Lib.hid (show x.size = (jn xs sep 1).length by rw [← ba_size, ← HO2.out])
          by_cases hbig : 4000 < x.size
          · have HG := Lib.hid (not_good_long (b := y) (k := 0) HS.out hlt (by rw [← HZ3.out]; exact hbig))
            go_wp2
            go_quiet ((go_at_call 32; exact Calls.quiet_of_same (HC.out _)))
            go_wp2
            go_ret2
            exact ⟨joinVal_no HG.out, HB.out.trans ⟨rfl, rfl, rfl, Nat.le_refl _, fun _ _ => rfl⟩⟩
          · go_wp2
            go_quiet ((go_at_call 32; exact Calls.quiet_of_same (HC.out _)))
            go_wp2
            go_roundw
            case rel => exact ⟨1, x, by omega, rfl, rfl, HO2.out, by omega, HI.out, HB.out.trans ⟨rfl, rfl, rfl, Nat.le_refl _, fun _ _ => rfl⟩⟩
            case measure => simp [intOf]; omega
    · obtain rfl : k = xs.length := by omega
      have HG := Lib.hid (good_of HS.out hn HNS.out (by rw [← ba_size, ← HO.out]; exact hol))
      go_wp2
      go_ret2
      exact ⟨by rw [← joinVal_yes HG.out, ← HO.out]; rfl, HB.out⟩

theorem specJoin_bad (a : Option Addr) (n c : Nat) (sep : ByteArray) (w : World) (hn : n ≤ 1048576) (h : n = 0 ∨ sep.size ≠ 1) :
    Calls Try.prog 13 #[.slice a n c, .string sep] w fun e w' => e = .returned NoVal ∧ Below w.heap.size w w' := by
  by_cases h1 : sep.size = 1
  · have h2 : n = 0 := by omega
    have hsn : ((sep.size : Int) != 1) = false := by rw [h1]; rfl
    subst h2
    clear h h1
    go_enter Try.func13, Try.ntmps13
    go_wp2
    go_ret2
    exact ⟨rfl, Below.refl _ _⟩
  · have hsn : ((sep.size : Int) != 1) = true := by rw [bne_iff_ne]; omega
    clear h h1
    go_enter Try.func13, Try.ntmps13
    go_wp2
    go_ret2
    exact ⟨rfl, Below.refl _ _⟩

/-- What both hand back at one list and one separator: the same tuple of a string and a bool. -/
theorem specJoin_all (xs : List ByteArray) (sep : ByteArray) (hx : ∀ (j : Nat) x, xs[j]? = some x → x.size ≤ 1048576) (hn2 : xs.length ≤ 1048576) :
    ∃ (s : ByteArray) (r : Bool), (∀ w v', StrsAt w v' xs → Calls Try.prog 13 #[v', .string sep] w fun e w' => e = .returned (.tuple #[.string s, .bool r]) ∧ Below w.heap.size w w') ∧
      (∀ w v', StrsAt w v' xs → Calls Try.prog 12 #[v', .string sep] w fun e w' => e = .returned (.tuple #[.string s, .bool r]) ∧ Below w.heap.size w w') := by
  by_cases h : xs.length = 0 ∨ sep.size ≠ 1
  · refine ⟨⟨#[]⟩, false, fun w v' hv => ?_, fun w v' hv => ?_⟩
    · obtain ⟨a, c, rfl, _, _⟩ := hv
      exact specJoin_bad a _ c sep w hn2 h
    · obtain ⟨a, c, rfl, _, _⟩ := hv
      exact implJoin_bad a _ c sep w hn2 h
  · have h1 : sep.size = 1 := by omega
    have h2 : 0 < sep.size := by omega
    have h3 : 1 ≤ xs.length := by omega
    by_cases hg : Good xs sep[0]
    · refine ⟨⟨(jn xs sep xs.length).toArray⟩, true, fun w v' hv => ?_, fun w v' hv => ?_⟩
      · refine (specJoin_any v' xs sep w hv h3 hn2 hx h1 _ h2 rfl).mono fun e w' hh => ⟨?_, hh.2⟩
        rw [joinVal_yes hg]; exact hh.1
      · refine (implJoin_any v' xs sep w hv h3 hn2 hx h1 _ h2 rfl).mono fun e w' hh => ⟨?_, hh.2⟩
        rw [joinVal_yes hg]; exact hh.1
    · refine ⟨⟨#[]⟩, false, fun w v' hv => ?_, fun w v' hv => ?_⟩
      · refine (specJoin_any v' xs sep w hv h3 hn2 hx h1 _ h2 rfl).mono fun e w' hh => ⟨?_, hh.2⟩
        rw [joinVal_no (xs := xs) (sep := sep) hg]; exact hh.1
      · refine (implJoin_any v' xs sep w hv h3 hn2 hx h1 _ h2 rfl).mono fun e w' hh => ⟨?_, hh.2⟩
        rw [joinVal_no (xs := xs) (sep := sep) hg]; exact hh.1

end Go.Proofs.Ytgnmkmnodmlacaa
