/- AppendChecksum of the program and of its model, by their contracts. -/
import Derived.Test.YtgnmkmnodmlacaaDoorFmt
import Derived.Test.YtgnmkmnodmlacaaDoorDec
import Derived.Test.YtgnmkmnodmlacaaDoorSumW
import Derived.Test.YtgnmkmnodmlacaaDoorJoinI
import Derived.Lib.AppendIntMem
namespace Go.Proofs.YtgnmkmnodmlacaaDoor
open Go.RowKit

/-- A string, the mark, the numeral of its checksum. -/
def sealL (l : List UInt8) : List UInt8 := l ++ [35] ++ Lib.itoa (ck l)
def sealed (s : ByteArray) : ByteArray := ⟨(sealL s.data.toList).toArray⟩
def OkA (s : ByteArray) : Prop := s.size ≤ 4000 ∧ idx s 35 s.size = [] ∧ (sealed s).size ≤ 4000
open Classical in
noncomputable def appendVal (s : ByteArray) : Value := if OkA s then .tuple #[.string (sealed s), .bool true] else .tuple #[.string ⟨#[]⟩, .bool false]
theorem appendVal_yes {s : ByteArray} (h : OkA s) : Ending.returned (.tuple #[.string (sealed s), .bool true]) = .returned (appendVal s) := by unfold appendVal; rw [if_pos h]
theorem appendVal_no {s : ByteArray} (h : ¬ OkA s) : Ending.returned (.tuple #[.string ⟨#[]⟩, .bool false]) = .returned (appendVal s) := by unfold appendVal; rw [if_neg h]

theorem ck_num (l : List UInt8) : ∃ u : Nat, ck l = (u : Int) ∧ u ≤ 999978 := by
  have := ck_bd l
  exact ⟨(ck l).toNat, by omega, by omega⟩
theorem itoa_ck (l : List UInt8) : allD (Lib.itoa (ck l)) ∧ 1 ≤ (Lib.itoa (ck l)).length ∧ (Lib.itoa (ck l)).length ≤ 6 := by
  obtain ⟨u, h, hu⟩ := ck_num l
  rw [h, Lib.itoa_nonneg]
  exact ⟨dec_all u, dec_pos u, dec_le 5 u (by omega)⟩
theorem list_size (s : ByteArray) : s.data.toList.length = s.size := Array.length_toList

theorem sealed_size (s : ByteArray) : (sealed s).size = s.size + 1 + (Lib.itoa (ck s.data.toList)).length := by
  unfold sealed sealL
  rw [ba_size, List.length_append, List.length_append, list_size]; rfl

/-- No byte of a numeral is the mark. -/
theorem idx_none {x : ByteArray} {b : UInt8} (h : ∀ c ∈ x.data.toList, c ≠ b) : ∀ k, k ≤ x.size → idx x b k = [] := by
  intro k
  induction k with
  | zero => intro _; rfl
  | succ k ih =>
    intro hk
    have hlt : k < x.size := by omega
    rw [idx_miss hlt (h _ (by simp [ByteArray.getElem_eq_getElem_data])), ih (by omega)]
theorem idx_digits {l : List UInt8} (h : allD l) : idx ⟨l.toArray⟩ 35 (⟨l.toArray⟩ : ByteArray).size = [] := by
  refine idx_none (fun c hc e => ?_) _ (Nat.le_refl _)
  have := h c (by simpa using hc)
  subst e
  have e2 : (35 : UInt8).toNat = 35 := rfl
  omega

/-- What is joined is what is sealed. -/
theorem join_seal (s : ByteArray) (h4 : s.size ≤ 4000) : joinVal [s, ⟨(Lib.itoa (ck s.data.toList)).toArray⟩] ⟨#[35]⟩ 35 = appendVal s := by
  have hi := itoa_ck s.data.toList
  have hz := sealed_size s
  have hg : Good [s, ⟨(Lib.itoa (ck s.data.toList)).toArray⟩] 35 ↔ OkA s := by
    constructor
    · intro h
      refine ⟨h4, h.1 0 s (by simp) rfl, ?_⟩
      have := h.2
      rw [tot_eq] at this
      simp only [bytesOf, List.map_cons, List.map_nil, List.sum_cons, List.sum_nil, List.length_cons, List.length_nil, ba_size] at this
      omega
    · intro h
      refine ⟨fun j x hj hx => ?_, ?_⟩
      · rcases j with _ | _ | j
        · simp at hx; subst hx; exact h.2.1
        · simp at hx; subst hx; exact idx_digits hi.1
        · simp at hx
      · rw [tot_eq]
        have := h.2.2
        simp only [bytesOf, List.map_cons, List.map_nil, List.sum_cons, List.sum_nil, List.length_cons, List.length_nil, ba_size]
        omega
  unfold joinVal appendVal
  by_cases h : OkA s
  · rw [if_pos (hg.2 h), if_pos h]
    have e : jn [s, ⟨(Lib.itoa (ck s.data.toList)).toArray⟩] ⟨#[35]⟩ 2 = sealL s.data.toList := by
      rw [jn_succ (k := 0) (x := ⟨(Lib.itoa (ck s.data.toList)).toArray⟩) (by simp), jn_one (x := s) (by simp)]
      unfold sealL; simp
    show Value.tuple #[.string ⟨(jn _ _ 2).toArray⟩, _] = _
    rw [e]; rfl
  · rw [if_neg (fun hh => h (hg.1 hh)), if_neg h]

theorem append_no_long {s : ByteArray} (h : 4000 < s.size) : ¬ OkA s := fun hh => by have := hh.1; omega

set_option maxHeartbeats 1000000 in
theorem implAppend_any (s : ByteArray) (w : World) (hs : s.size ≤ 1048576) (htab : Lib.TabIs Tryd.prog w "internal/strconv.uint64pow10" .u64 Lib.pow10Tab) :
    Calls Tryd.prog 16 #[.string s] w fun e w' => e = .returned (appendVal s) ∧ Below w.heap.size w w' := by
  by_cases h4 : s.size ≤ 4000
  · have hc := ck_bd s.data.toList
    have hi := itoa_ck s.data.toList
    have HSUM := Lib.hid (implSum_yes s w h4)
    have HFMT := Lib.hid (implFmt_yes (ck s.data.toList) w (by omega) (by omega) htab)
    have HJV := Lib.hid (join_seal s h4)
    obtain ⟨d, hd⟩ : ∃ d : ByteArray, d = ⟨(Lib.itoa (ck s.data.toList)).toArray⟩ := ⟨_, rfl⟩
    have hds : d.size ≤ 6 := by rw [hd, ba_size]; exact hi.2.2
    rw [← hd] at HFMT HJV
    generalize ck s.data.toList = cks at *
    clear hi hd htab
    go_enter Tryd.func16, Tryd.ntmps16
    go_wp2_with (first | (go_at_call 31; refine HSUM.out.mono ?_; rintro e w' ⟨rfl, rfl⟩) | (go_at_call 10; refine HFMT.out.mono ?_; rintro e w1 ⟨rfl, hb1⟩; have HB1 := Lib.hid hb1; clear hb1))
    have hrow : RowIs (w1.alloc (.cells #[.string s, .string d] 9)) w1.heap.size 9 ([s, d].map Value.string) := heap_alloc_new w1 _
    refine (implJoin_any _ [s, d] ⟨#[35]⟩ _ (StrsAt.of_row (c := 2) (Nat.le_refl _) hrow) (by simp) (by simp) (fun j x hx => ?_) rfl 35 (by decide) rfl).mono ?_
    · rcases j with _ | _ | j
      · simp at hx; subst hx; omega
      · simp at hx; subst hx; omega
      · simp at hx
    · rintro e w2 ⟨rfl, hb2⟩
      have HB2 := Lib.hid (HB1.out.trans ((((Below.refl w1.heap.size w1).alloc (Nat.le_refl _) (.cells #[.string s, .string d] 9)).trans (hb2.mono (by simp))).mono HB1.out.size))
      rw [HJV.out]
      clear hb2 hrow
      by_cases hok : OkA s
      · rw [show appendVal s = .tuple #[.string (sealed s), .bool true] from by unfold appendVal; rw [if_pos hok]]
        have HOK := Lib.hid hok
        clear hok
        go_wp2
        go_ret2
        exact ⟨appendVal_yes HOK.out, HB2.out⟩
      · rw [show appendVal s = .tuple #[.string ⟨#[]⟩, .bool false] from by unfold appendVal; rw [if_neg hok]]
        have HOK := Lib.hid hok
        clear hok
        go_wp2
        go_ret2
        exact ⟨appendVal_no HOK.out, HB2.out⟩
  · have HSUM := Lib.hid (implSum_no s w (by omega) (by unfold maxLen; omega))
    have HN := Lib.hid (append_no_long (s := s) (by omega))
    clear htab
    go_enter Tryd.func16, Tryd.ntmps16
    go_wp2_with (go_at_call 31; refine HSUM.out.mono ?_; rintro e w' ⟨rfl, rfl⟩)
    go_ret2
    exact ⟨appendVal_no HN.out, Below.refl _ _⟩

set_option maxHeartbeats 1000000 in
theorem l1Seal_any (s : ByteArray) (w : World) (hs : s.size ≤ 1048576) :
    Calls Tryd.prog 34 #[.string s] w fun e w' => e = .returned (.string (sealed s)) ∧ Below w.heap.size w w' := by
  have hc := ck_bd s.data.toList
  have hi := itoa_ck s.data.toList
  have HSUM := Lib.hid (l1Sum_any s w (by unfold maxLen; omega))
  have HNUM := Lib.hid (l1Num_any (ck s.data.toList) w (by omega) (by omega))
  obtain ⟨d, hd⟩ : ∃ d : ByteArray, d = ⟨(Lib.itoa (ck s.data.toList)).toArray⟩ := ⟨_, rfl⟩
  obtain ⟨o1, ho1⟩ : ∃ o1 : ByteArray, o1 = s ++ ({ data := #[35] } : ByteArray) := ⟨_, rfl⟩
  have hz1 : o1.size = s.size + 1 := by rw [ho1]; simp; rfl
  have hadd1 := fun W => run_string_add_sum (w := W) (P := Tryd.prog) s ({ data := #[35] } : ByteArray) (by have : ({ data := #[35] } : ByteArray).size = 1 := rfl; omega)
  rw [← ho1] at hadd1
  have hds : d.size ≤ 6 := by rw [hd, ba_size]; exact hi.2.2
  have hadd2 := fun W => run_string_add_sum (w := W) (P := Tryd.prog) o1 d (by omega)
  have he : o1 ++ d = sealed s := by
    rw [ho1, hd]
    unfold sealed sealL
    rw [← cat_ba, ← cat_ba, ba_eta]
  rw [he] at hadd2
  rw [← hd] at HNUM
  have HH := Lib.hid (show True from trivial)
  generalize ck s.data.toList = cks at *
  clear hi hd ho1 hz1 he hds HH
  go_enter Tryd.func34, Tryd.ntmps34
  go_wp2_with (first | (go_at_call 43; refine HSUM.out.mono ?_; rintro e w' ⟨rfl, rfl⟩) | (go_at_call 25; refine HNUM.out.mono ?_; rintro e w' ⟨rfl, k, rfl⟩))
  go_ret
  exact ⟨rfl, below_drewN _ _ _⟩

theorem stands_hash (x : ByteArray) (w : World) (hx : x.size ≤ maxLen) :
    Calls Tryd.prog 33 #[.string x, .int .u8 35] w fun e w' => e = .returned (.bool (stands x 35)) ∧ w = w' := by
  have h := l1Stands_any x 35 w hx
  have e : (((35 : UInt8).toNat : Nat) : Int) = 35 := rfl
  rw [e] at h
  exact h.mono fun _ _ hh => ⟨hh.1, hh.2.symm⟩

set_option maxHeartbeats 1000000 in
theorem specAppend_any (s : ByteArray) (w : World) (hs : s.size ≤ 1048576) :
    Calls Tryd.prog 17 #[.string s] w fun e w' => e = .returned (appendVal s) ∧ Below w.heap.size w w' := by
  by_cases h4 : s.size ≤ 4000
  · cases hst : stands s 35
    · have HST := Lib.hid (fun W => by have h := stands_hash s W (by unfold maxLen; omega); rw [hst] at h; exact h)
      have HIX := Lib.hid (stands_false hst)
      have HSL := Lib.hid (fun W => l1Seal_any s W hs)
      have HSZ := Lib.hid (sealed_size s)
      have hszb : (sealed s).size ≤ 5000 := by have := itoa_ck s.data.toList; rw [HSZ.out]; omega
      clear hst
      by_cases hb : (sealed s).size ≤ 4000
      · have HOK : Hid (OkA s) := Lib.hid ⟨h4, HIX.out, hb⟩
        have HE := Lib.hid (appendVal_yes HOK.out)
        generalize sealed s = sl at *
        go_enter Tryd.func17, Tryd.ntmps17
        go_wp2_with (go_at_call 33; refine (HST.out _).mono ?_; rintro e w' ⟨rfl, rfl⟩)
        refine (HSL.out _).mono ?_
        rintro e w1 ⟨rfl, hb1⟩
        have HB1 := Lib.hid hb1
        clear hb1
        go_wp2_with fail
        refine (HSL.out _).mono ?_
        rintro e w2 ⟨rfl, hb2⟩
        have HB2 := Lib.hid hb2
        clear hb2
        go_wp2
        go_ret2
        exact ⟨HE.out, HB1.out.trans (HB2.out.mono HB1.out.size)⟩
      · have HOK : Hid (¬ OkA s) := Lib.hid (fun h => hb h.2.2)
        have HE := Lib.hid (appendVal_no HOK.out)
        generalize sealed s = sl at *
        go_enter Tryd.func17, Tryd.ntmps17
        go_wp2_with (go_at_call 33; refine (HST.out _).mono ?_; rintro e w' ⟨rfl, rfl⟩)
        refine (HSL.out _).mono ?_
        rintro e w1 ⟨rfl, hb1⟩
        have HB1 := Lib.hid hb1
        clear hb1
        go_wp2
        go_ret2
        exact ⟨HE.out, HB1.out⟩
    · have HST := Lib.hid (fun W => by have h := stands_hash s W (by unfold maxLen; omega); rw [hst] at h; exact h)
      have HOK : Hid (¬ OkA s) := Lib.hid (fun h => stands_true hst h.2.1)
      clear hst
      go_enter Tryd.func17, Tryd.ntmps17
      go_wp2_with (go_at_call 33; refine (HST.out _).mono ?_; rintro e w' ⟨rfl, rfl⟩)
      go_ret2
      exact ⟨appendVal_no HOK.out, Below.refl _ _⟩
  · have HN := Lib.hid (append_no_long (s := s) (by omega))
    go_enter Tryd.func17, Tryd.ntmps17
    go_wp2
    go_ret2
    exact ⟨appendVal_no HN.out, Below.refl _ _⟩

end Go.Proofs.YtgnmkmnodmlacaaDoor
