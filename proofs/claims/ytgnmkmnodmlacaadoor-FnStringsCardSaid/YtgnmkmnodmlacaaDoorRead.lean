/- The model's ParseInt (l1Read), by its contract: the number whose numeral the string is, else 0 and false. -/
import Derived.Test.YtgnmkmnodmlacaaDoorFmt
import Derived.Test.YtgnmkmnodmlacaaDoorDec
import Derived.LoopTactic
import Derived.Lib.IndexBytes
namespace Go.Proofs.YtgnmkmnodmlacaaDoor
open Go.RowKit Go.Sort

def ReadPost (s : ByteArray) (w : World) (e : Ending) (w' : World) : Prop :=
  Below w.heap.size w w' ∧ ((∃ n : Int, -999999 ≤ n ∧ n ≤ 999999 ∧ e = .returned (.tuple #[.int .i64 n, .bool true]) ∧ Lib.itoa n = s.data.toList) ∨
    (e = .returned (.tuple #[.int .i64 0, .bool false]) ∧ NoNum s.data.toList))

theorem len_list (s : ByteArray) : s.data.toList.length = s.size := Array.length_toList

theorem getElem_mem_list (t : ByteArray) (k : Nat) (h : k < t.size) : t[k] ∈ t.data.toList := by
  simp [ByteArray.getElem_eq_getElem_data]

theorem take_snoc (s : ByteArray) (k : Nat) (h : k < s.size) : s.data.toList.take (k + 1) = s.data.toList.take k ++ [s[k]] := by
  rw [List.take_succ_eq_append_getElem (by simpa using h)]; rfl

theorem allD_take {l : List UInt8} {k : Nat} {c : UInt8} (h : allD (l.take k)) (e : l.take (k + 1) = l.take k ++ [c]) (hc : 48 ≤ c.toNat ∧ c.toNat ≤ 57) : allD (l.take (k + 1)) := by
  rw [e]; intro x hx
  simp only [List.mem_append, List.mem_singleton] at hx
  rcases hx with hx | rfl
  · exact h x hx
  · exact hc

theorem no_size {s t : ByteArray} (ht : t.data.toList = strip s.data.toList) (h : t.size < 1 ∨ 6 < t.size) : NoNum s.data.toList :=
  no_len (by rw [← ht, len_list]; exact h)

theorem read_end {s : ByteArray} {w w' : World} {e : Ending} (hb : Below w.heap.size w w') (h : e = .returned (.tuple #[.int .i64 0, .bool false])) (hn : NoNum s.data.toList) : ReadPost s w e w' := ⟨hb, .inr ⟨h, hn⟩⟩
theorem read_yes {s : ByteArray} {w w' : World} {e : Ending} {n : Int} (hb : Below w.heap.size w w') (h : e = .returned (.tuple #[.int .i64 n, .bool true])) (h0 : -999999 ≤ n) (h1 : n ≤ 999999) (hn : Lib.itoa n = s.data.toList) : ReadPost s w e w' := ⟨hb, .inl ⟨n, h0, h1, h, hn⟩⟩
theorem str_eq_true {l : List UInt8} {s : ByteArray} (h : l = s.data.toList) : (l == s.toList) = true := by
  rw [Lib.toList_data, h]; exact beq_self_eq_true _
theorem str_eq_false {l : List UInt8} {s : ByteArray} (h : l ≠ s.data.toList) : (l == s.toList) = false := by
  rw [Lib.toList_data]; exact beq_eq_false_iff_ne.2 h

theorem strip_neg {s t : ByteArray} (h1 : 1 < s.size) (h45 : s[0] = 45) (ht : t = s.extract 1 s.size) : t.data.toList = strip s.data.toList := by
  have hl := len_list s
  have hh : s.data.toList.head? = some 45 := by
    rw [List.head?_eq_getElem?, List.getElem?_eq_getElem (by omega)]
    exact congrArg some h45
  unfold strip
  rw [if_pos ⟨by omega, hh⟩, ht]
  have := Lib.extract_to_end s 1
  exact this

theorem strip_pos {t : ByteArray} (h45 : (h : 1 < t.size) → t[0] ≠ 45) : t.data.toList = strip t.data.toList := by
  unfold strip
  have hl := len_list t
  split
  · rename_i h
    exfalso
    have h1 : 1 < t.size := by omega
    apply h45 h1
    have h2 := h.2
    rw [List.head?_eq_getElem?, List.getElem?_eq_getElem (by omega)] at h2
    exact Option.some.inj h2
  · rfl

set_option maxHeartbeats 1000000 in
set_option maxRecDepth 100000 in
theorem l1Read_neg (s : ByteArray) (w : World) (hs : s.size ≤ maxLen) (h1 : 1 < s.size) (h45 : s[0] = 45) :
    Calls Tryd.prog 29 #[.string s] w (ReadPost s w) := by
  unfold maxLen at hs
  have hb : ((s[0].toNat : Int) == 45) = true := by rw [h45]; rfl
  have HH := Lib.hid h45
  clear h45
  go_enter Tryd.func29, Tryd.ntmps29
  go_wp2_with fail
  obtain ⟨t, ht⟩ : ∃ t : ByteArray, t = s.extract 1 s.size := ⟨_, rfl⟩
  have hz : t.size = s.size - 1 := by rw [ht]; simp
  have HT : Hid (t.data.toList = strip s.data.toList) := Lib.hid (strip_neg h1 HH.out ht)
  rw [← ht, ← hz]
  have hz' : t.size < s.size := by omega
  have HZ := Lib.hid hz
  clear hb ht hz
  have hlen := HT.out
  by_cases hsz : 1 ≤ t.size ∧ t.size ≤ 6
  · obtain ⟨hz1, hz2⟩ := hsz
    refine (l1In_yes _ _ _ _ (by omega) (by omega)).mono ?_
    rintro e w' ⟨rfl, rfl⟩
    clear hlen
    go_wp2
    go_loop [5, 6] (fun n i => ∃ k : Nat, k ≤ t.size ∧ i = .int .i64 k ∧ n = .int .i64 (nf 0 (t.data.toList.take k)) ∧ allD (t.data.toList.take k)) (fun _ i => t.size - (intOf i).toNat)
    case atStart => exact ⟨0, Nat.zero_le _, rfl, rfl, by intro c hc; simp at hc⟩
    case round =>
      obtain ⟨k, hk, rfl, rfl, hd⟩ := hrel
      have hb := nf_lt 6 (t.data.toList.take k) hd (by rw [List.length_take, len_list]; omega)
      have HD := Lib.hid hd
      clear hd
      by_cases hlt : k < t.size
      · have HM := Lib.hid (getElem_mem_list t k hlt)
        have hc2 : (t[k].toNat : Int) < 256 := by have := t[k].toNat_lt; omega
        have hg : (0 : Int) ≤ nf 0 (t.data.toList.take k) := by omega
        by_cases hd1 : t[k].toNat < 48
        · have hdd : decide ((t[k].toNat : Int) < 48) = true := by simp; omega
          go_wp2
          go_ret2
          exact read_end (Below.refl _ _) rfl (no_digit (by rw [← HT.out]; exact HM.out) (.inl hd1))
        · have hdd : decide ((t[k].toNat : Int) < 48) = false := by simp; omega
          by_cases hd2 : 57 < t[k].toNat
          · have hdd2 : decide (57 < (t[k].toNat : Int)) = true := by simp; omega
            go_wp2
            go_ret2
            exact read_end (Below.refl _ _) rfl (no_digit (by rw [← HT.out]; exact HM.out) (.inr hd2))
          · have hdd2 : decide (57 < (t[k].toNat : Int)) = false := by simp; omega
            have HN : Hid ((nf 0 (t.data.toList.take (k + 1)) : Int) = 10 * (nf 0 (t.data.toList.take k) : Int) + ((t[k].toNat : Int) - 48)) := Lib.hid (by rw [take_snoc t k hlt, nf_snoc]; omega)
            have HA := Lib.hid (allD_take HD.out (take_snoc t k hlt) ⟨by omega, by omega⟩)
            have hb2 : nf 0 (t.data.toList.take k) < 1000000 := hb
            clear hb
            generalize nf 0 (t.data.toList.take k) = g at *
            go_wp2
            go_round
            case rel => exact ⟨k + 1, by omega, by go_num, by rw [HN.out], HA.out⟩
            case measure => simp [intOf]; omega
      · obtain rfl : k = t.size := by omega
        have e1 : t.data.toList.take t.size = t.data.toList := List.take_of_length_le (by rw [len_list]; omega)
        rw [e1] at hb HD ⊢
        have hb2 : nf 0 t.data.toList < 1000000 := hb
        clear hb
        have HV : Hid (Lib.itoa (-(nf 0 t.data.toList : Int)) ≠ s.data.toList → NoNum s.data.toList) := Lib.hid (by intro hne; exact no_val_neg (by rw [← HT.out, len_list, len_list]; exact hz') (by rw [← HT.out]; exact hne))
        have hg : (0 : Int) ≤ nf 0 t.data.toList := by omega
        generalize nf 0 t.data.toList = g at *
        clear hlt
        by_cases hv : Lib.itoa (-(g : Int)) = s.data.toList
        · have hne := str_eq_true hv
          have HVV := Lib.hid hv
          clear hv
          go_wp2_with (go_at_call 25; refine (l1Num_any _ _ (by omega) (by omega)).mono ?_; rintro e w' ⟨rfl, kk, rfl⟩)
          go_ret2
          exact read_yes (below_drewN _ _ _) rfl (by omega) (by omega) HVV.out
        · have hne := str_eq_false hv
          have HVV := Lib.hid (HV.out hv)
          clear hv
          go_wp2_with (go_at_call 25; refine (l1Num_any _ _ (by omega) (by omega)).mono ?_; rintro e w' ⟨rfl, kk, rfl⟩)
          go_ret2
          exact read_end (below_drewN _ _ _) rfl HVV.out
  · refine (l1In_no _ _ _ _ (by omega)).mono ?_
    rintro e w' ⟨rfl, rfl⟩
    have HN := Lib.hid (no_size HT.out (by omega))
    clear hsz hlen
    go_wp2
    go_ret2
    exact read_end (Below.refl _ _) rfl HN.out

set_option maxHeartbeats 1000000 in
set_option maxRecDepth 100000 in
theorem l1Read_pos (t : ByteArray) (w : World) (hs : t.size ≤ maxLen) (h45 : (h : 1 < t.size) → t[0] ≠ 45) :
    Calls Tryd.prog 29 #[.string t] w (ReadPost t w) := by
  unfold maxLen at hs
  have HT : Hid (t.data.toList = strip t.data.toList) := Lib.hid (strip_pos h45)
  have hb : (h : 1 < t.size) → ((t[0].toNat : Int) == 45) = false := by
    intro h
    have := h45 h
    rw [beq_eq_false_iff_ne]
    intro e
    apply this
    apply UInt8.toNat_inj.1
    show t[0].toNat = 45
    omega
  clear h45
  have hz' : ¬ t.size < t.size := by omega
  rcases Nat.lt_or_ge 1 t.size with h1 | h1
  · have hb1 := hb h1
    clear hb
    go_enter Tryd.func29, Tryd.ntmps29
    go_wp2_with fail
    clear hb1
    have hlen := HT.out
    by_cases hsz : 1 ≤ t.size ∧ t.size ≤ 6
    · obtain ⟨hz1, hz2⟩ := hsz
      refine (l1In_yes _ _ _ _ (by omega) (by omega)).mono ?_
      rintro e w' ⟨rfl, rfl⟩
      clear hlen
      go_wp2
      go_loop [5, 6] (fun n i => ∃ k : Nat, k ≤ t.size ∧ i = .int .i64 k ∧ n = .int .i64 (nf 0 (t.data.toList.take k)) ∧ allD (t.data.toList.take k)) (fun _ i => t.size - (intOf i).toNat)
      case atStart => exact ⟨0, Nat.zero_le _, rfl, rfl, by intro c hc; simp at hc⟩
      case round =>
        obtain ⟨k, hk, rfl, rfl, hd⟩ := hrel
        have hb := nf_lt 6 (t.data.toList.take k) hd (by simp; omega)
        have HD := Lib.hid hd
        clear hd
        by_cases hlt : k < t.size
        · have HM := Lib.hid (getElem_mem_list t k hlt)
          have hc2 : (t[k].toNat : Int) < 256 := by have := t[k].toNat_lt; omega
          have hg : (0 : Int) ≤ nf 0 (t.data.toList.take k) := by omega
          by_cases hd1 : t[k].toNat < 48
          · have hdd : decide ((t[k].toNat : Int) < 48) = true := by simp; omega
            go_wp2
            go_ret2
            exact read_end (Below.refl _ _) rfl (no_digit (by rw [← HT.out]; exact HM.out) (.inl hd1))
          · have hdd : decide ((t[k].toNat : Int) < 48) = false := by simp; omega
            by_cases hd2 : 57 < t[k].toNat
            · have hdd2 : decide (57 < (t[k].toNat : Int)) = true := by simp; omega
              go_wp2
              go_ret2
              exact read_end (Below.refl _ _) rfl (no_digit (by rw [← HT.out]; exact HM.out) (.inr hd2))
            · have hdd2 : decide (57 < (t[k].toNat : Int)) = false := by simp; omega
              have HN : Hid ((nf 0 (t.data.toList.take (k + 1)) : Int) = 10 * (nf 0 (t.data.toList.take k) : Int) + ((t[k].toNat : Int) - 48)) := Lib.hid (by rw [take_snoc t k hlt, nf_snoc]; omega)
              have HA := Lib.hid (allD_take HD.out (take_snoc t k hlt) ⟨by omega, by omega⟩)
              have hb2 : nf 0 (t.data.toList.take k) < 1000000 := hb
              clear hb
              generalize nf 0 (t.data.toList.take k) = g at *
              go_wp2
              go_round
              case rel => exact ⟨k + 1, by omega, by go_num, by rw [HN.out], HA.out⟩
              case measure => simp [intOf]; omega
        · obtain rfl : k = t.size := by omega
          have e1 : t.data.toList.take t.size = t.data.toList := List.take_of_length_le (by rw [len_list]; omega)
          rw [e1] at hb HD ⊢
          have hb2 : nf 0 t.data.toList < 1000000 := hb
          clear hb
          have HV : Hid (Lib.itoa (nf 0 t.data.toList : Int) ≠ t.data.toList → NoNum t.data.toList) := Lib.hid (by intro hne; exact no_val (by rw [← HT.out]; omega) (by rw [← HT.out]; exact hne))
          have hg : (0 : Int) ≤ nf 0 t.data.toList := by omega
          generalize nf 0 t.data.toList = g at *
          clear hlt
          by_cases hv : Lib.itoa ((g : Int)) = t.data.toList
          · have hne := str_eq_true hv
            have HVV := Lib.hid hv
            clear hv
            go_wp2_with (go_at_call 25; refine (l1Num_any _ _ (by omega) (by omega)).mono ?_; rintro e w' ⟨rfl, kk, rfl⟩)
            go_ret2
            exact read_yes (below_drewN _ _ _) rfl (by omega) (by omega) HVV.out
          · have hne := str_eq_false hv
            have HVV := Lib.hid (HV.out hv)
            clear hv
            go_wp2_with (go_at_call 25; refine (l1Num_any _ _ (by omega) (by omega)).mono ?_; rintro e w' ⟨rfl, kk, rfl⟩)
            go_ret2
            exact read_end (below_drewN _ _ _) rfl HVV.out
    · refine (l1In_no _ _ _ _ (by omega)).mono ?_
      rintro e w' ⟨rfl, rfl⟩
      have HN := Lib.hid (no_size HT.out (by omega))
      clear hsz hlen
      go_wp2
      go_ret2
      exact read_end (Below.refl _ _) rfl HN.out
  · clear hb
    go_enter Tryd.func29, Tryd.ntmps29
    go_wp2_with fail
    have hlen := HT.out
    by_cases hsz : 1 ≤ t.size ∧ t.size ≤ 6
    · obtain ⟨hz1, hz2⟩ := hsz
      refine (l1In_yes _ _ _ _ (by omega) (by omega)).mono ?_
      rintro e w' ⟨rfl, rfl⟩
      clear hlen
      go_wp2
      go_loop [5, 6] (fun n i => ∃ k : Nat, k ≤ t.size ∧ i = .int .i64 k ∧ n = .int .i64 (nf 0 (t.data.toList.take k)) ∧ allD (t.data.toList.take k)) (fun _ i => t.size - (intOf i).toNat)
      case atStart => exact ⟨0, Nat.zero_le _, rfl, rfl, by intro c hc; simp at hc⟩
      case round =>
        obtain ⟨k, hk, rfl, rfl, hd⟩ := hrel
        have hb := nf_lt 6 (t.data.toList.take k) hd (by simp; omega)
        have HD := Lib.hid hd
        clear hd
        by_cases hlt : k < t.size
        · have HM := Lib.hid (getElem_mem_list t k hlt)
          have hc2 : (t[k].toNat : Int) < 256 := by have := t[k].toNat_lt; omega
          have hg : (0 : Int) ≤ nf 0 (t.data.toList.take k) := by omega
          by_cases hd1 : t[k].toNat < 48
          · have hdd : decide ((t[k].toNat : Int) < 48) = true := by simp; omega
            go_wp2
            go_ret2
            exact read_end (Below.refl _ _) rfl (no_digit (by rw [← HT.out]; exact HM.out) (.inl hd1))
          · have hdd : decide ((t[k].toNat : Int) < 48) = false := by simp; omega
            by_cases hd2 : 57 < t[k].toNat
            · have hdd2 : decide (57 < (t[k].toNat : Int)) = true := by simp; omega
              go_wp2
              go_ret2
              exact read_end (Below.refl _ _) rfl (no_digit (by rw [← HT.out]; exact HM.out) (.inr hd2))
            · have hdd2 : decide (57 < (t[k].toNat : Int)) = false := by simp; omega
              have HN : Hid ((nf 0 (t.data.toList.take (k + 1)) : Int) = 10 * (nf 0 (t.data.toList.take k) : Int) + ((t[k].toNat : Int) - 48)) := Lib.hid (by rw [take_snoc t k hlt, nf_snoc]; omega)
              have HA := Lib.hid (allD_take HD.out (take_snoc t k hlt) ⟨by omega, by omega⟩)
              have hb2 : nf 0 (t.data.toList.take k) < 1000000 := hb
              clear hb
              generalize nf 0 (t.data.toList.take k) = g at *
              go_wp2
              go_round
              case rel => exact ⟨k + 1, by omega, by go_num, by rw [HN.out], HA.out⟩
              case measure => simp [intOf]; omega
        · obtain rfl : k = t.size := by omega
          have e1 : t.data.toList.take t.size = t.data.toList := List.take_of_length_le (by rw [len_list]; omega)
          rw [e1] at hb HD ⊢
          have hb2 : nf 0 t.data.toList < 1000000 := hb
          clear hb
          have HV : Hid (Lib.itoa (nf 0 t.data.toList : Int) ≠ t.data.toList → NoNum t.data.toList) := Lib.hid (by intro hne; exact no_val (by rw [← HT.out]; omega) (by rw [← HT.out]; exact hne))
          have hg : (0 : Int) ≤ nf 0 t.data.toList := by omega
          generalize nf 0 t.data.toList = g at *
          clear hlt
          by_cases hv : Lib.itoa ((g : Int)) = t.data.toList
          · have hne := str_eq_true hv
            have HVV := Lib.hid hv
            clear hv
            go_wp2_with (go_at_call 25; refine (l1Num_any _ _ (by omega) (by omega)).mono ?_; rintro e w' ⟨rfl, kk, rfl⟩)
            go_ret2
            exact read_yes (below_drewN _ _ _) rfl (by omega) (by omega) HVV.out
          · have hne := str_eq_false hv
            have HVV := Lib.hid (HV.out hv)
            clear hv
            go_wp2_with (go_at_call 25; refine (l1Num_any _ _ (by omega) (by omega)).mono ?_; rintro e w' ⟨rfl, kk, rfl⟩)
            go_ret2
            exact read_end (below_drewN _ _ _) rfl HVV.out
    · refine (l1In_no _ _ _ _ (by omega)).mono ?_
      rintro e w' ⟨rfl, rfl⟩
      have HN := Lib.hid (no_size HT.out (by omega))
      clear hsz hlen
      go_wp2
      go_ret2
      exact read_end (Below.refl _ _) rfl HN.out

end Go.Proofs.YtgnmkmnodmlacaaDoor
