/- The model's l10Level, by its contract. -/
import Derived.Test.YthmcjmjkmmbepaaSrtH
import Derived.Test.YthmcjmjkmmbepaaMtP
import Derived.Test.YthmcjmjkmmbepaaFenB
import Derived.Laws.BitsLemmas
namespace Go.Proofs.Ythmcjmjkmmbepaa
open Go.RowKit P El Mt
set_option linter.unusedVariables false

attribute [local go_sem ↓ high] builtin_append_held

theorem l1LeastL_any (x y : Int) (W : World) :
    Calls Try.prog 77 #[.int .i64 x, .int .i64 y] W fun e w' => e = .returned (.int .i64 (if x < y then x else y)) ∧ w' = W := by
  by_cases h : x < y
  · have hz : decide (x < y) = true := decide_eq_true h
    rw [if_pos h]
    go_enter Try.func77, Try.ntmps77
    go_wp2_with fail
    go_ret
    exact ⟨rfl, rfl⟩
  · have hz : decide (x < y) = false := decide_eq_false h
    rw [if_neg h]
    go_enter Try.func77, Try.ntmps77
    go_wp2_with fail
    go_ret
    exact ⟨rfl, rfl⟩

theorem sub_flat {w : World} {b o c : Nat} {L : List Int} (h : FlatAt w (.slice (some ⟨b, o, none⟩) L.length c) L.length (ints L)) {q e : Nat} (hq : q + e ≤ L.length) : FlatAt w (.slice (some ⟨b, o + q, none⟩) e (c - q)) e (ints ((L.drop q).take e)) := by
  obtain ⟨a0, c0, e0, hc, h1⟩ := h
  simp at e0
  obtain ⟨rfl, rfl⟩ := e0
  refine ⟨some ⟨b, o + q, none⟩, _, rfl, by omega, fun j u hu => ?_⟩
  have hj : j < ((L.drop q).take e).length := by have := (List.getElem?_eq_some_iff.1 hu).1; rw [ints_length] at this; exact this
  have hje : j < e := by simp at hj; omega
  have hu2 : (ints L)[q + j]? = some u := by
    rw [← hu]
    unfold ints
    rw [List.map_take, List.map_drop, List.getElem?_take_of_lt hje, List.getElem?_drop]
  obtain ⟨b2, o2, e2, hb2, hcc⟩ := h1 _ _ hu2
  simp at e2
  obtain ⟨rfl, rfl⟩ := e2
  exact ⟨b, o + q, rfl, hb2, by rw [Nat.add_assoc]; exact hcc⟩

set_option maxRecDepth 100000 in
set_option maxHeartbeats 1000000 in
theorem l10Level_any (b o c : Nat) (l : List Int) (d : Nat) (w : World) (hv : FlatAt w (.slice (some ⟨b, o, none⟩) l.length c) l.length (ints l)) (hn : l.length ≤ 128) (hd : 0 < d) (hd2 : d ≤ 1048576) :
    Calls Try.prog 119 #[.slice (some ⟨b, o, none⟩) l.length c, .int .i64 (d : Int)] w (RowI (lv l d) w) := by
  have HV := Lib.hid hv
  have hlc : l.length ≤ c := by obtain ⟨a0, c0, e0, h, _⟩ := hv; simp at e0; omega
  clear hv
  have HB0 : Hid (Below w.heap.size w (w.alloc (.cells #[] 3))) := Lib.hid ((Below.refl _ _).alloc (Nat.le_refl _) _)
  have HS0 := Lib.hid (Held.start w w.heap.size (Nat.le_refl _))
  go_enter Try.func119, Try.ntmps119
  go_wp2_with fail
  go_loopw [5, 6] (fun u iv wr => ∃ i q : Nat, iv = .int .i64 (q : Int) ∧ q = d * i ∧ q ≤ l.length + d ∧ (i = 0 ∨ d * (i - 1) < l.length) ∧ Held w.heap.size wr u (lvTo l d i) ∧ Below w.heap.size w wr) (fun _ iv _ => l.length + d - (intOf iv).toNat)
  case atStart => exact ⟨0, 0, rfl, (Nat.mul_zero d).symm, Nat.zero_le _, .inl rfl, HS0.out, HB0.out⟩
  case round =>
    obtain ⟨i, q, rfl, hq, hql, hi, hr, hb⟩ := hrel
    have HR := Lib.hid hr
    have HB := Lib.hid hb
    clear hr hb HS0 HB0
    by_cases hlt : q < l.length
    · have hltz : (q : Int) < (l.length : Int) := by omega
      obtain ⟨t, ht⟩ : ∃ t, t = min (q + d) l.length := ⟨_, rfl⟩
      obtain ⟨q2, hq2⟩ : ∃ q2, q2 = q + d := ⟨_, rfl⟩
      have HLE : Hid (∀ W, Calls Try.prog 77 #[.int .i64 (q2 : Int), .int .i64 (l.length : Int)] W fun e w' => e = .returned (.int .i64 (t : Int)) ∧ w' = W) := Lib.hid (fun W => by
        have h := l1LeastL_any (q2 : Int) (l.length : Int) W
        rwa [show (if (q2 : Int) < (l.length : Int) then (q2 : Int) else (l.length : Int)) = (t : Int) by split <;> omega] at h)
      have hw1 : IntKind.i64.wrap ((q : Int) + (d : Int)) = (q2 : Int) := by rw [IntKind.wrap_i64]; omega
      have hqt : q ≤ t := by omega
      have htl : t ≤ l.length := by omega
      have htc : t ≤ c := by omega
      obtain ⟨e, he⟩ : ∃ e, e = t - q := ⟨_, rfl⟩
      have hbk : bk l d i = (l.drop q).take e := by rw [bk, ← hq, List.take_eq_take_iff]; simp; omega
      have hbl : (bk l d i).length = e := by rw [bk_len, ← hq]; omega
      have HSRT : Hid (∀ W1, Below w.heap.size w W1 → Calls Try.prog 67 #[.slice (some ⟨b, o + q, none⟩) e (c - q)] W1 fun e2 w' => ∃ g cg, e2 = .returned (.slice (some ⟨g, 0, none⟩) e cg) ∧ e ≤ cg ∧ W1.heap.size ≤ g ∧ CellRow w' g (ints (srt (bk l d i))) ∧ Below W1.heap.size W1 w') := Lib.hid (fun W1 h1 => by
        have hf := sub_flat (HV.out.below h1) (q := q) (e := e) (by omega)
        rw [← hbk] at hf
        have h := l2SortedH_big b (o + q) (c - q) (bk l d i) W1 (by rw [hbl]; exact hf) (by rw [hbl]; omega)
        rw [hbl] at h
        refine h.mono ?_
        rintro e2 w' ⟨g, cg, rfl, h1, h2, h3, _, h4⟩
        exact ⟨g, cg, rfl, h1, h2, h3, h4⟩)
      have HNX : Hid (q + d = d * (i + 1) ∧ lvTo l d (i + 1) = lvTo l d i ++ srt (bk l d i) ∧ d * (i + 1 - 1) < l.length ∧ (srt (bk l d i)).length = e) := Lib.hid ⟨by rw [Nat.mul_succ, ← hq], by rw [lvTo], by rw [Nat.add_sub_cancel, ← hq]; exact hlt, by rw [srt_length, hbl]⟩
      have HLL : Hid ((lvTo l d i).length ≤ 128) := Lib.hid (by rw [lvTo_len]; omega)
      have he2 : t - q = e := he.symm
      have HW : Hid (w.heap.size ≤ wr.heap.size) := Lib.hid HB.out.size
      have HS1 := Lib.hid (HSRT.out wr HB.out)
      have HQ2 : Hid (q2 = q + d) := Lib.hid hq2
      clear hq2 hbk hbl ht he hq hi HSRT
      go_wp2_with fail
      refine (HLE.out _).mono ?_
      rintro e3 w1 ⟨rfl, rfl⟩
      go_wp2_with fail
      refine HS1.out.mono ?_
      rintro e3 w2 ⟨g, cg, rfl, hcg, hg, hrow, hb2⟩
      obtain ⟨v2, w3, hrun, hheld, hbel⟩ := appendMany w.heap.size _ (lvTo l d i) g 0 cg (srt (bk l d i)) w2 (HR.out.below hb2) (by have := hb2.size; have := HW.out; omega) (by have := HLL.out; have := HNX.out.2.2.2; omega) (fun j u hu => by rw [Nat.zero_add]; exact (hrow.2 j u hu).1)
      rw [← HNX.out.2.1] at hheld
      rw [HNX.out.2.2.2] at hrun
      have HH := Lib.hid hheld
      have HB3 := Lib.hid ((HB.out.trans (hb2.mono HW.out)).trans hbel)
      clear hcg hg hrow hb2 hheld hbel HR HB HS1
      go_wp2_with fail
      go_roundw
      case rel => exact ⟨i + 1, q2, by first | rfl | go_num, by rw [HQ2.out]; exact HNX.out.1, by have := HQ2.out; omega, .inr HNX.out.2.2.1, HH.out, HB3.out⟩
      case measure => have := HQ2.out; simp [intOf]; omega
    · have hltz : ¬ (q : Int) < (l.length : Int) := by omega
      have HE : Hid (lvTo l d i = lv l d) := Lib.hid (by
        rw [lv]
        congr 1
        unfold nb
        rcases hi with rfl | hi
        · rw [Nat.mul_zero] at hq
          rw [show l.length = 0 by omega]
          exact (Nat.div_eq_of_lt (by omega)).symm
        · obtain ⟨j, rfl⟩ : ∃ j, i = j + 1 := ⟨i - 1, by
            cases i with
            | zero => rw [Nat.mul_zero] at hq; omega
            | succ i => omega⟩
          rw [Nat.add_sub_cancel] at hi
          have h2 : d * (j + 1) = d * j + d := Nat.mul_succ _ _
          have h3 : d * (j + 1 + 1) = d * j + d + d := by rw [Nat.mul_succ, h2]
          exact (Nat.div_eq_of_lt_le (by rw [Nat.mul_comm, h2]; omega) (by rw [Nat.mul_comm, h3]; omega)).symm)
      rw [HE.out] at HR
      obtain ⟨g, cg, hu, hg, hcg, hrow⟩ := HR.out.row
      subst hu
      have HRES : Hid (RowI (lv l d) w (.returned (.slice (some ⟨g, 0, none⟩) (lv l d).length cg)) wr) := Lib.hid ⟨g, cg, rfl, hcg, hg, hrow, HB.out⟩
      clear hg hcg hrow HR hi hq
      go_wp2_with fail
      go_ret
      exact HRES.out

end Go.Proofs.Ythmcjmjkmmbepaa
