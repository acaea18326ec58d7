/- The model's pivot (l9Pivot) and MedianOfMedians, by contracts. -/
import Derived.Test.YtagibgphegoagaaSKth
import Derived.Test.YtagibgphegoagaaGrp
namespace Go.Proofs.Ytagibgphegoagaa
open Go.RowKit P El Qk Sl
set_option linter.unusedVariables false
attribute [local go_sem ↓ high] builtin_append_held

theorem leastP_any (x y : Int) (W : World) :
    Calls Try.prog 73 #[.int .i64 x, .int .i64 y] W fun e w' => e = .returned (.int .i64 (min x y)) ∧ w' = W := by
  by_cases h : x < y
  · have hm : min x y = x := by omega
    have hd : decide (x < y) = true := decide_eq_true h
    rw [hm]
    go_enter Try.func73, Try.ntmps73
    go_wp2_with fail
    go_ret
    exact ⟨rfl, rfl⟩
  · have hm : min x y = y := by omega
    have hd : decide (x < y) = false := decide_eq_false h
    rw [hm]
    go_enter Try.func73, Try.ntmps73
    go_wp2_with fail
    go_ret
    exact ⟨rfl, rfl⟩

/-- The word of the outer loop. -/
structure PivW (R : Int) (w W : World) (L : List Int) (b o c : Nat) : Prop where
  run : momF L = R
  ne : 0 < L.length
  l64 : L.length ≤ 64
  row : FlatAt W (.slice (some ⟨b, o, none⟩) L.length c) L.length (ints L)
  b : Below w.heap.size w W
/-- The word of the inner loop: the medians of k groups. -/
structure PivI (W0 W : World) (L : List Int) (k : Nat) (v : Value) : Prop where
  held : Held W0.heap.size W v (medsTo L k)
  b : Below W0.heap.size W0 W
def lenP : Value → Nat | .slice _ n _ => n | _ => 0

set_option maxRecDepth 100000 in
set_option maxHeartbeats 8000000 in
theorem l9Pivot_any (b o c : Nat) (l : List Int) (w : World) (hv : FlatAt w (.slice (some ⟨b, o, none⟩) l.length c) l.length (ints l)) (h64 : l.length ≤ 64) (h0 : l ≠ []) :
    Calls Try.prog 124 #[.slice (some ⟨b, o, none⟩) l.length c] w fun e w' => e = .returned (.int .i64 (momF l)) ∧ Below w.heap.size w w' := by
  have HW0 : Hid (PivW (momF l) w w l b o c) := Lib.hid ⟨rfl, List.length_pos_iff.2 h0, h64, hv, Below.refl _ _⟩
  clear hv h64 h0
  generalize momF l = R at *
  go_enter Try.func124, Try.ntmps124
  go_wp2_with fail
  go_loopw [0, 3, 4, 5] (fun lv _ _ _ wr => ∃ (L : List Int) (b o c : Nat), lv = .slice (some ⟨b, o, none⟩) L.length c ∧ PivW R w wr L b o c) (fun lv _ _ _ _ => lenP lv)
  case atStart => exact ⟨l, b, o, c, rfl, HW0.out⟩
  case round =>
    clear HW0
    obtain ⟨L, b1, o1, c1, rfl, hw⟩ := hrel
    have HW := Lib.hid hw
    have h64 := hw.l64
    have hL0 := hw.ne
    clear hw
    by_cases h5 : 5 < L.length
    · have h5z : (5 : Int) < (L.length : Int) := by omega
      have h5d : decide ((5 : Int) < (L.length : Int)) = true := decide_eq_true h5z
      have HI0 : Hid (PivI wr (wr.alloc (.cells #[] 3)) L 0 (.slice (some ⟨wr.heap.size, 0, none⟩) 0 0)) := Lib.hid ⟨Held.start wr wr.heap.size (Nat.le_refl _), (Below.refl _ _).alloc (Nat.le_refl _) _⟩
      have HROW := Lib.hid (fun W (h : Below wr.heap.size wr W) => HW.out.row.below h)
      have HBW := Lib.hid (fun W (h : Below wr.heap.size wr W) => HW.out.b.trans (h.mono HW.out.b.size))
      have HRUN : Hid (momF (medsTo L (groups L.length)) = R) := Lib.hid (by rw [← momF_big h5]; exact HW.out.run)
      have hLc : L.length ≤ c1 := by obtain ⟨a0, c0, e0, hc, _⟩ := HW.out.row; simp at e0; obtain ⟨_, rfl⟩ := e0; exact hc
      clear HW
      go_wp2_with fail
      go_loopw [3, 4, 5] (fun mv iv _ ws => ∃ k : Nat, iv = .int .i64 ((5 * k : Nat) : Int) ∧ k ≤ groups L.length ∧ PivI wr ws L k mv) (fun _ iv _ _ => 70 - (intOf iv).toNat)
      case atStart => exact ⟨0, rfl, Nat.zero_le _, HI0.out⟩
      case round =>
        obtain ⟨k, rfl, hk, hi⟩ := hrel
        have HI := Lib.hid hi
        clear hi HI0
        obtain ⟨i, hik⟩ : ∃ i, i = 5 * k := ⟨_, rfl⟩
        rw [← hik]
        have HIK := Lib.hid hik
        by_cases hlt : i < L.length
        · have hltz : (i : Int) < (L.length : Int) := by omega
          have hltd : decide ((i : Int) < (L.length : Int)) = true := decide_eq_true hltz
          obtain ⟨j, hj⟩ : ∃ j, j = min (i + 5) L.length := ⟨_, rfl⟩
          obtain ⟨i2, hi2⟩ : ∃ i2, i2 = i + 5 := ⟨_, rfl⟩
          obtain ⟨n, hn⟩ : ∃ n, n = j - i := ⟨_, rfl⟩
          obtain ⟨d, hd⟩ : ∃ d, d = c1 - i := ⟨_, rfl⟩
          obtain ⟨n1, hn1⟩ : ∃ n1, n1 = n - 1 := ⟨_, rfl⟩
          obtain ⟨m, hm⟩ : ∃ m, m = n1 / 2 := ⟨_, rfl⟩
          have hnl : (grp L k).length = n := by rw [grp_length, ← hik]; omega
          have ew1 : IntKind.i64.wrap ((i : Int) + 5) = (i2 : Int) := by rw [IntKind.wrap_i64]; omega
          have HLE := Lib.hid (fun W => leastP_any (i2 : Int) (L.length : Int) W)
          have emin : min (i2 : Int) (L.length : Int) = (j : Int) := by omega
          rw [emin] at HLE
          have ej : j - i = n := hn.symm
          have ed : c1 - i = d := hd.symm
          have hij : i < j := by omega
          have hij1 : i ≤ j := by omega
          have hij2 : ¬ i = j := by omega
          have hij3 : ¬ j = i := by omega
          have hic : ¬ i = c1 := by omega
          have hic2 : ¬ c1 = i := by omega
          have hjc : j ≤ c1 := by omega
          have hjL : j ≤ L.length := by omega
          have hic3 : i ≤ c1 := by omega
          have en1 : IntKind.i64.wrap ((n : Int) - 1) = (n1 : Int) := by rw [IntKind.wrap_i64]; omega
          have en2 : (n1 : Int) / 2 = (m : Int) := by omega
          have en3 : IntKind.i64.wrap (m : Int) = (m : Int) := by rw [IntKind.wrap_i64]; omega
          have hmn : (m : Int) < (n : Int) := by omega
          have HSR := Lib.hid (fun W (h : FlatAt W (.slice (some ⟨b1, o1, none⟩) L.length c1) L.length (ints L)) => l2Sorted_any b1 (o1 + i) d (grp L k) W (by rw [hik]; exact grp_part h k d (by rw [hnl]; omega)) (by rw [hnl]; omega))
          rw [hnl] at HSR
          have hsl : m < (srt (grp L k)).length := by rw [srt_length, hnl]; omega
          have HX : Hid ((srt (grp L k)).getD m 0 = lmed (grp L k)) := Lib.hid (by unfold lmed; rw [hnl, hm, hn1])
          have HSL : Hid ((srt (grp L k)).length = n) := Lib.hid (by rw [srt_length, hnl])
          have hmed := medsTo_length L k
          have HN5 : Hid (i < 65 ∧ k + 1 ≤ groups L.length ∧ 5 * (k + 1) = i2 ∧ i2 = i + 5) := Lib.hid ⟨by omega, by unfold groups; omega, by omega, by omega⟩
          have hk1 : k ≤ 1048576 := by omega
          clear hj hn hd hn1 hm hnl emin hi2 hik hlt hk
          go_wp2_with fail
          refine (HLE.out _).mono ?_
          rintro e w2 ⟨rfl, rfl⟩
          go_wp2_with fail
          refine (HSR.out _ (HROW.out _ HI.out.b)).mono ?_
          rintro e w3 ⟨g, cap, rfl, hcap, hg, hrow, hb3⟩
          obtain ⟨x, hx⟩ : ∃ x, x = lmed (grp L k) := ⟨_, rfl⟩
          have h1 := at_getD hsl
          rw [HX.out, ← hx] at h1
          obtain ⟨hcx, _⟩ := hrow.2 _ _ (ints_at h1)
          rw [HSL.out] at hcap ⊢
          have hheld := HI.out.held.below hb3
          obtain ⟨g', c', w4, hrun, hh4, hb4, _, _⟩ := appD _ _ (medsTo L k) x w3 hheld (by have := HI.out.b.size; have := hb3.size; omega) (by rw [hmed]; omega)
          rw [hmed] at hh4
          have HNX := Lib.hid (PivI.mk (by rw [medsTo_succ, ← hx]; exact hh4 : Held _ w4 (.slice (some ⟨g', 0, none⟩) (k + 1) c') (medsTo L (k + 1))) ((HI.out.b.trans (hb3.mono HI.out.b.size)).trans hb4))
          rw [hmed] at hrun
          obtain ⟨_, gm, cm, rfl⟩ := id HI.out.held
          rw [hmed] at hrun ⊢
          clear hrow hb3 hg hh4 hb4 h1 hx hheld HSR HLE HX HSL hsl HI hmed
          go_wp2_with fail
          go_roundw
          case rel => exact ⟨k + 1, by rw [HN5.out.2.2.1], HN5.out.2.1, HNX.out⟩
          case measure => have := HN5.out; simp [intOf]; omega
        · have hltz : ¬ (i : Int) < (L.length : Int) := by omega
          have hltd : decide ((i : Int) < (L.length : Int)) = false := decide_eq_false hltz
          have hkg : k = groups L.length := by unfold groups at hk ⊢; omega
          have hg0 : 0 < groups L.length := by unfold groups; omega
          have hgl := groups_lt h5
          obtain ⟨_, gm, cm, rfl⟩ := id HI.out.held
          obtain ⟨_, _, ee, _, hcm, hrm⟩ := HI.out.held.row
          simp at ee
          obtain ⟨rfl, rfl⟩ := ee
          have HNX : Hid (PivW R w wr (medsTo L k) gm 0 cm) := Lib.hid ⟨by rw [hkg]; exact HRUN.out, by rw [medsTo_length]; omega, by rw [medsTo_length]; omega, hrm.flat hcm, HBW.out _ HI.out.b⟩
          have HLT : Hid ((medsTo L k).length < L.length) := Lib.hid (by rw [medsTo_length]; omega)
          clear HI hcm hrm hkg hg0 hgl hk hik hlt
          go_wp2_with fail
          go_roundw
          case rel => exact ⟨_, gm, 0, cm, rfl, HNX.out⟩
          case measure => exact HLT.out
    · have h5z : ¬ (5 : Int) < (L.length : Int) := by omega
      have h5d : decide ((5 : Int) < (L.length : Int)) = false := decide_eq_false h5z
      obtain ⟨n, hn⟩ : ∃ n, n = L.length - 1 := ⟨_, rfl⟩
      obtain ⟨m, hm⟩ : ∃ m, m = (L.length - 1) / 2 := ⟨_, rfl⟩
      have ew1 : IntKind.i64.wrap ((L.length : Int) - 1) = (n : Int) := by rw [IntKind.wrap_i64]; omega
      have ew2 : (n : Int) / 2 = (m : Int) := by omega
      have ew3 : IntKind.i64.wrap (m : Int) = (m : Int) := by rw [IntKind.wrap_i64]; omega
      have hmz : (m : Int) < (L.length : Int) := by omega
      have HSR := Lib.hid (l2Sorted_any b1 o1 c1 L wr HW.out.row h64)
      have hKs : m < (srt L).length := by rw [srt_length]; omega
      have HRX : Hid ((srt L).getD m 0 = R) := Lib.hid (by have := HW.out.run; rw [momF_small h5] at this; rw [← this, hm]; rfl)
      have HB := Lib.hid HW.out.b
      clear HW hn hm h5
      go_wp2_with fail
      refine HSR.out.mono ?_
      rintro e w2 ⟨g, cap, rfl, hcap, hg, hrow, hb2⟩
      have HB2 := Lib.hid (HB.out.trans (hb2.mono HB.out.size))
      have h1 := at_getD hKs
      rw [HRX.out] at h1
      rw [srt_length] at hcap ⊢
      obtain ⟨hcx, _⟩ := hrow.2 _ _ (ints_at h1)
      clear hb2 hrow hg h1 HB HSR hKs HRX
      go_wp2_with fail
      go_ret
      exact ⟨rfl, HB2.out⟩

end Go.Proofs.Ytagibgphegoagaa
