/- The model's split by a pivot (l9Split), by its contract. -/
import Derived.Test.YtagibgphegoagaaSDu3
import Derived.Test.YtagibgphegoagaaSelP
namespace Go.Proofs.Ytagibgphegoagaa
open Go.RowKit P El Qk Sl
set_option linter.unusedVariables false
attribute [local go_sem ↓ high] builtin_append_held

set_option maxRecDepth 100000 in
set_option maxHeartbeats 8000000 in
theorem l9Split_any (b o c : Nat) (l : List Int) (p : Int) (w : World) (hv : FlatAt w (.slice (some ⟨b, o, none⟩) l.length c) l.length (ints l)) (hn : l.length ≤ 1048576) :
    Calls Try.prog 123 #[.slice (some ⟨b, o, none⟩) l.length c, .int .i64 p] w fun e w' => ∃ ga ca gb cb gc cc, e = .returned (.tuple #[.slice (some ⟨ga, 0, none⟩) (lowF l p).length ca, .slice (some ⟨gb, 0, none⟩) (midF l p p).length cb, .slice (some ⟨gc, 0, none⟩) (highF l p).length cc]) ∧
      Du3 w.heap.size (.slice (some ⟨ga, 0, none⟩) (lowF l p).length ca) (.slice (some ⟨gb, 0, none⟩) (midF l p p).length cb) (.slice (some ⟨gc, 0, none⟩) (highF l p).length cc) (lowF l p) (midF l p p) (highF l p) w w' := by
  obtain ⟨a', c', he, _, hh⟩ := hv
  simp at he
  obtain ⟨rfl, rfl⟩ := he
  have H := Lib.hid hh
  clear hh
  go_enter Try.func123, Try.ntmps123
  go_wp2_with fail
  have HD0 : Hid (Du3 w.heap.size (.slice (some ⟨w.heap.size, 0, none⟩) 0 0) (.slice (some ⟨w.heap.size + 1, 0, none⟩) 0 0) (.slice (some ⟨w.heap.size + 1 + 1, 0, none⟩) 0 0) [] [] [] w (((w.alloc (.cells #[] 3)).alloc (.cells #[] 3)).alloc (.cells #[] 3))) := Lib.hid (by
    have z1 : (w.alloc (.cells #[] 3)).heap.size = w.heap.size + 1 := by simp
    have z2 : ((w.alloc (.cells #[] 3)).alloc (.cells #[] 3)).heap.size = w.heap.size + 1 + 1 := by simp
    have a1 := (Held.start w w.heap.size (Nat.le_refl _)).alloc (.cells #[] 3) |>.alloc (.cells #[] 3)
    have a2 := (Held.start (w.alloc (.cells #[] 3)) w.heap.size (by omega)).alloc (.cells #[] 3)
    have a3 := Held.start ((w.alloc (.cells #[] 3)).alloc (.cells #[] 3)) w.heap.size (by omega)
    rw [z1] at a2
    rw [z2] at a3
    exact ⟨a1, a2, a3, fun g x y => by simp [Value.ownBlock] at x y; omega, fun g x y => by simp [Value.ownBlock] at x y; omega, fun g x y => by simp [Value.ownBlock] at x y; omega,
      (((Below.refl _ w).alloc (Nat.le_refl _) _).alloc (by omega) _).alloc (by omega) _⟩)
  have HFL := Lib.hid (fun (f : Int → Bool) k => filt_len (l := l) f k)
  go_loopw [7, 8, 9, 10] (fun lv mv tv iv wr => ∃ k : Nat, iv = .int .i64 (k : Int) ∧ k ≤ l.length ∧ Du3 w.heap.size lv mv tv (lowF (l.take k) p) (midF (l.take k) p p) (highF (l.take k) p) w wr) (fun _ _ _ iv _ => l.length - (intOf iv).toNat)
  case atStart => exact ⟨0, rfl, Nat.zero_le _, HD0.out⟩
  case round =>
    obtain ⟨k, rfl, hk, hd⟩ := hrel
    have HD := Lib.hid hd
    have hws := hd.bl.size
    clear hd HD0
    by_cases hlt : k < l.length
    · have hltz : (k : Int) < (l.length : Int) := by omega
      have hld : decide ((k : Int) < (l.length : Int)) = true := decide_eq_true hltz
      obtain ⟨x, hx⟩ : ∃ x, l[k]? = some x := ⟨_, List.getElem?_eq_getElem hlt⟩
      obtain ⟨b', o', e, hbb, hcell⟩ := H.out _ _ (ints_at hx)
      simp at e
      obtain ⟨rfl, rfl⟩ := e
      have hw1 : wr.cell? ⟨b, o + k, none⟩ = some (.int .i64 x) := (HD.out.bl.cell (p := ⟨b, o + k, none⟩) hbb).trans hcell
      have f1 := HFL.out (fun e => decide (e < p)) k
      have f2 := HFL.out (fun e => decide (p ≤ e ∧ e ≤ p)) k
      have f3 := HFL.out (fun e => decide (p < e)) k
      have HX := Lib.hid hx
      have hpq := Int.le_refl p
      clear hcell hx
      by_cases h1 : x < p
      · have hd1 : decide (x < p) = true := decide_eq_true h1
        obtain ⟨g', c', w2, hrun, hd2⟩ := HD.out.low hws (Nat.le_trans f1 hn) x
        have HN : Hid (Du3 w.heap.size (.slice (some ⟨g', 0, none⟩) ((lowF (l.take k) p).length + 1) c') _ _ (lowF (l.take (k + 1)) p) (midF (l.take (k + 1)) p p) (highF (l.take (k + 1)) p) w w2) := Lib.hid (by
          have e1 : lowF (l.take (k + 1)) p = lowF (l.take k) p ++ [x] := filt_yes HX.out hd1
          have e2 : midF (l.take (k + 1)) p p = midF (l.take k) p p := filt_no HX.out (decide_eq_false (by omega))
          have e3 : highF (l.take (k + 1)) p = highF (l.take k) p := filt_no HX.out (decide_eq_false (by omega))
          rw [e1, e2, e3]; exact hd2)
        clear f1 f2 f3 hd2 hpq
        go_wp2_with fail
        go_roundw
        case rel => exact ⟨k + 1, by go_num, by omega, HN.out⟩
        case measure => simp [intOf]; omega
      · have hd1 : decide (x < p) = false := decide_eq_false h1
        by_cases h2 : p < x
        · have hd2' : decide (p < x) = true := decide_eq_true h2
          obtain ⟨g', c', w2, hrun, hd2⟩ := HD.out.high hws (Nat.le_trans f3 hn) x
          have HN : Hid (Du3 w.heap.size _ _ (.slice (some ⟨g', 0, none⟩) ((highF (l.take k) p).length + 1) c') (lowF (l.take (k + 1)) p) (midF (l.take (k + 1)) p p) (highF (l.take (k + 1)) p) w w2) := Lib.hid (by
            have e1 : lowF (l.take (k + 1)) p = lowF (l.take k) p := filt_no HX.out hd1
            have e2 : midF (l.take (k + 1)) p p = midF (l.take k) p p := filt_no HX.out (decide_eq_false (by omega))
            have e3 : highF (l.take (k + 1)) p = highF (l.take k) p ++ [x] := filt_yes HX.out hd2'
            rw [e1, e2, e3]; exact hd2)
          clear f1 f2 f3 hd2 hpq
          go_wp2_with fail
          go_roundw
          case rel => exact ⟨k + 1, by go_num, by omega, HN.out⟩
          case measure => simp [intOf]; omega
        · have hd2' : decide (p < x) = false := decide_eq_false h2
          obtain ⟨g', c', w2, hrun, hd2⟩ := HD.out.mid hws (Nat.le_trans f2 hn) x
          have HN : Hid (Du3 w.heap.size _ (.slice (some ⟨g', 0, none⟩) ((midF (l.take k) p p).length + 1) c') _ (lowF (l.take (k + 1)) p) (midF (l.take (k + 1)) p p) (highF (l.take (k + 1)) p) w w2) := Lib.hid (by
            have e1 : lowF (l.take (k + 1)) p = lowF (l.take k) p := filt_no HX.out hd1
            have e2 : midF (l.take (k + 1)) p p = midF (l.take k) p p ++ [x] := filt_yes HX.out (decide_eq_true (by omega))
            have e3 : highF (l.take (k + 1)) p = highF (l.take k) p := filt_no HX.out hd2'
            rw [e1, e2, e3]; exact hd2)
          clear f1 f2 f3 hd2 hpq
          go_wp2_with fail
          go_roundw
          case rel => exact ⟨k + 1, by go_num, by omega, HN.out⟩
          case measure => simp [intOf]; omega
    · have hltz : ¬ (k : Int) < (l.length : Int) := by omega
      have hld : decide ((k : Int) < (l.length : Int)) = false := decide_eq_false hltz
      obtain rfl : k = l.length := by omega
      rw [List.take_length] at HD
      clear HFL
      obtain ⟨A, hA⟩ : ∃ A, A = lowF l p := ⟨_, rfl⟩
      obtain ⟨B, hB⟩ : ∃ B, B = midF l p p := ⟨_, rfl⟩
      obtain ⟨C, hC⟩ : ∃ C, C = highF l p := ⟨_, rfl⟩
      rw [← hA, ← hB, ← hC] at HD
      have HA := Lib.hid hA
      have HB := Lib.hid hB
      have HC := Lib.hid hC
      clear hA hB hC
      obtain ⟨_, ga, ca, rfl⟩ := id HD.out.a
      obtain ⟨_, gb, cb, rfl⟩ := id HD.out.b
      obtain ⟨_, gc, cc, rfl⟩ := id HD.out.c
      go_wp2_with fail
      go_ret3
      obtain rfl := HA.out
      obtain rfl := HB.out
      obtain rfl := HC.out
      exact ⟨ga, ca, gb, cb, gc, cc, rfl, HD.out⟩

end Go.Proofs.Ytagibgphegoagaa
