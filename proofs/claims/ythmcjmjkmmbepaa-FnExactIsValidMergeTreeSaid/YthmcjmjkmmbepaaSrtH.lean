/- The model's l2Sorted, its list the caller's own: a part of it can be appended to. -/
import Derived.Test.YthmcjmjkmmbepaaOwnH
import Derived.Test.YthmcjmjkmmbepaaInsP
import Derived.BigRegion
import Derived.Laws.BitsLemmas
namespace Go.Proofs.Ythmcjmjkmmbepaa
open Go.RowKit P El
set_option linter.unusedVariables false

/-- Block g is a row of cap numbers. -/
def Blk0 (W : World) (g cap : Nat) : Prop := ∃ cur, W.heap[g]? = some (.cells cur 3 (0, 0)) ∧ cap ≤ maxLen ∧ cur.size = cap * 1
theorem Blk0.set {W : World} {g cap : Nat} (h : Blk0 W g cap) (k : Nat) (u : Value) : Blk0 (W.setCell ⟨g, k, none⟩ u) g cap := by
  obtain ⟨cur, h1, h2, h3⟩ := h
  exact ⟨cur.setIfInBounds k u, by simp [World.setCell, Array.getElem?_modify, h1], h2, by simpa using h3⟩
theorem Blk0.part {W : World} {base g cap n : Nat} {L : List Int} (h : Blk0 W g cap) (hr : CellRow W g (ints L)) (hg : base ≤ g) (hn : n ≤ L.length) (hc : L.length ≤ cap) : Held base W (.slice (some ⟨g, 0, none⟩) n cap) (L.take n) := by
  obtain ⟨cur, h1, h2, h3⟩ := h
  have hl : (L.take n).length = n := by rw [List.length_take]; omega
  refine ⟨⟨by rw [ints_length]; omega, .inr ⟨g, cap, cur, by rw [hl], hg, h1, by omega, h2, h3, ?_⟩⟩, g, cap, by rw [hl]⟩
  rw [hl, Nat.mul_one]
  apply List.ext_getElem?
  intro j
  by_cases hj : j < n
  · rw [List.getElem?_take_of_lt hj, Array.getElem?_toList]
    have hx : (ints (L.take n))[j]? = (ints L)[j]? := by unfold ints; rw [List.map_take, List.getElem?_take_of_lt hj]
    rw [hx]
    have hj2 : j < (ints L).length := by rw [ints_length]; omega
    rw [List.getElem?_eq_getElem hj2]
    have := (hr.2 j _ (List.getElem?_eq_getElem hj2)).1
    rw [cell_of_row W g j _ _ (0, 0) h1] at this
    exact this
  · rw [List.getElem?_eq_none (by rw [List.length_take]; omega), List.getElem?_eq_none (by rw [ints_length, hl]; omega)]
theorem Blk0.of_held {base g cap : Nat} {W : World} {n : Nat} {L : List Int} (h : Held base W (.slice (some ⟨g, 0, none⟩) n cap) L) : Blk0 W g cap := by
  obtain ⟨⟨_, h1⟩, g', c', e⟩ := h
  rcases h1 with ⟨e2, _⟩ | ⟨g2, c2, cur, e2, _, h3, _, h5, h6, _⟩
  · simp at e2
  · simp at e2
    obtain ⟨rfl, _, rfl⟩ := e2
    exact ⟨cur, h3, h5, h6⟩

/-- The element back in its hole: the insertion done. -/
theorem ins_holeH {M H : List Int} {i k c m c' m' : Nat} (hi : i < M.length) (h : sh (M.getD i 0) 1 M i c m = (H, k, c', m')) : (insAt 1 i (M, c, m)).1 = H.set k (M.getD i 0) := by
  rw [insAt_of (S := (M, c, m)) h]
  split
  · rename_i e
    have := sh_hole (M.getD i 0) 1 M i c m hi (by rw [h]; exact e)
    rw [h] at this
    simp only at this ⊢
    rw [this, e, set_getD hi]
  · rfl

/-- The outer loop's word. -/
structure SrtOH (base g cap : Nat) (l : List Int) (i : Nat) (M : List Int) (w W : World) : Prop where
  run : ∃ c m, (insN 1 i (l.length - i) (M, c, m)).1 = srt l
  len : M.length = l.length
  le : i ≤ 128
  row : CellRow W g (ints M)
  b : Below base w W
  blk : Blk0 W g cap
/-- The inner loop's word: H, the list with its hole at k. -/
structure SrtKH (base g cap : Nat) (x : Int) (i : Nat) (M : List Int) (c m k : Nat) (H : List Int) (w W : World) : Prop where
  run : ∃ c' m', sh x 1 H k c' m' = sh x 1 M i c m
  len : H.length = M.length
  le : k ≤ i
  row : CellRow W g (ints (H.set k x))
  b : Below base w W
  blk : Blk0 W g cap

set_option maxRecDepth 100000 in
set_option maxHeartbeats 4000000 in
theorem l2SortedH_big (b o cc : Nat) (l : List Int) (w : World) (hv : FlatAt w (.slice (some ⟨b, o, none⟩) l.length cc) l.length (ints l)) (h64 : l.length ≤ 128) :
    Calls Try.prog 67 #[.slice (some ⟨b, o, none⟩) l.length cc] w (fun e w' => ∃ g cap, e = .returned (.slice (some ⟨g, 0, none⟩) l.length cap) ∧ l.length ≤ cap ∧ w.heap.size ≤ g ∧ CellRow w' g (ints (srt l)) ∧ Blk0 w' g cap ∧ Below w.heap.size w w') := by
  have HOWN := Lib.hid (l1OwnH_any b o cc l w hv (by omega))
  clear hv
  go_enter Try.func67, Try.ntmps67
  go_wp2_with fail
  refine (HOWN.out).mono ?_
  rintro e w2 ⟨g, cap, rfl, hheld, hb2⟩
  have hblk := Blk0.of_held hheld
  obtain ⟨_, _, ee, hg, hcap, hrow⟩ := hheld.row
  simp at ee
  obtain ⟨rfl, rfl⟩ := ee
  have HS0 : Hid (SrtOH w.heap.size g cap l 1 l w w2) := Lib.hid ⟨⟨0, 0, rfl⟩, rfl, by omega, hrow, hb2, hblk⟩
  have HG := Lib.hid hg
  clear hb2 hrow HOWN hg hheld hblk
  go_wp2_with fail
  go_loopw [4, 5, 6] (fun iv _ _ wr => ∃ (i : Nat) (M : List Int), 1 ≤ i ∧ iv = .int .i64 i ∧ SrtOH w.heap.size g cap l i M w wr) (fun iv _ _ _ => l.length - (intOf iv).toNat)
  case atStart => exact ⟨1, l, Nat.le_refl _, rfl, HS0.out⟩
  case round =>
    obtain ⟨i, M, hi1, rfl, ho⟩ := hrel
    have HO := Lib.hid ho
    have hi64 := ho.le
    have hlM := ho.len
    clear ho HS0
    by_cases hlt : i < l.length
    · obtain ⟨x, hx⟩ : ∃ x, x = M.getD i 0 := ⟨_, rfl⟩
      obtain ⟨c, m, hrun⟩ := HO.out.run
      have HRUN : Hid ((insN 1 (i + 1) (l.length - (i + 1)) (insAt 1 i (M, c, m))).1 = srt l) := Lib.hid (by
        rw [show l.length - i = l.length - (i + 1) + 1 by omega, insN_succ] at hrun; exact hrun)
      have HK0 : Hid (SrtKH w.heap.size g cap x i M c m i M w wr) := Lib.hid ⟨⟨c, m, rfl⟩, rfl, Nat.le_refl _, by rw [hx, set_getD (by omega)]; exact HO.out.row, HO.out.b, HO.out.blk⟩
      have HX := Lib.hid hx
      have HLM := Lib.hid hlM
      clear hx hlM hrun
      go_wp2_with fail
      go_loopw [5, 6] (fun kv _ ws => ∃ (k : Nat) (H : List Int), kv = .int .i64 k ∧ SrtKH w.heap.size g cap x i M c m k H w ws) (fun kv _ _ => (intOf kv).toNat)
      case atStart => exact ⟨i, M, rfl, HK0.out⟩
      case round =>
        obtain ⟨k, H, rfl, hk⟩ := hrel
        have HK := Lib.hid hk
        have hki := hk.le
        clear hk HK0
        -- what follows when the place is found
        have HEND : Hid (∀ n c1, sh x 1 M i c m = (H, k, c1) → SrtOH w.heap.size g cap l (i + 1) (H.set k x) w (wr.drewN n)) := Lib.hid (fun n c1 hr => by
          obtain ⟨c1, m1⟩ := c1
          have hh := ins_holeH (M := M) (H := H) (i := i) (k := k) (c := c) (m := m) (c' := c1) (m' := m1) (by have := HLM.out; omega) (by first | exact hr | (rw [← HX.out]; exact hr))
          rw [← HX.out] at hh
          refine ⟨?_, by have h1 := HK.out.len; have h2 := HLM.out; rw [List.length_set]; omega, by omega, HK.out.row.same rfl (Nat.le_refl _), HK.out.b.trans ⟨rfl, rfl, rfl, Nat.le_refl _, fun _ _ => rfl⟩, HK.out.blk⟩
          have hr2 := HRUN.out
          rw [← hh]
          generalize insAt 1 i (M, c, m) = T at *
          obtain ⟨N, c2, m2⟩ := T
          exact ⟨c2, m2, hr2⟩)
        cases k with
        | zero =>
          have HE : Hid (∀ n, SrtOH w.heap.size g cap l (i + 1) (H.set 0 x) w (wr.drewN n)) := Lib.hid (fun n => by
            obtain ⟨c', m', hr⟩ := HK.out.run
            rw [sh_end c' m' (by omega)] at hr
            exact HEND.out n _ hr.symm)
          have hg0 : decide ((0 : Int) < 0) = false := by decide
          clear HEND
          go_wp2_with fail
          go_quiet (fail)
          go_wp2_with fail
          go_roundw
          case rel => exact ⟨i + 1, _, by omega, by go_num, HE.out nq⟩
          case measure => simp [intOf]; omega
        | succ j =>
          obtain ⟨y, hy⟩ : ∃ y, y = H.getD j 0 := ⟨_, rfl⟩
          have hjH : j + 1 < H.length := by rw [HK.out.len, HLM.out]; omega
          obtain ⟨hcj, hfj⟩ := HK.out.row.2 j _ (ints_at (at_getD (by rw [List.length_set]; omega)))
          obtain ⟨hck, hfk⟩ := HK.out.row.2 (j + 1) _ (ints_at (at_getD (by rw [List.length_set]; exact hjH)))
          rw [getD_set_other (by omega), ← hy] at hcj
          rw [getD_set_same hjH] at hck
          have hwk : IntKind.i64.wrap (((j + 1 : Nat) : Int) - 1) = (j : Int) := by rw [IntKind.wrap_i64]; omega
          obtain ⟨k1, hk1⟩ : ∃ k1, k1 = j + 1 := ⟨_, rfl⟩
          rw [← hk1] at hwk hck hfk HK HEND hki hjH ⊢
          have HK1 := Lib.hid hk1
          have hg0 : decide ((0 : Int) < (k1 : Int)) = true := decide_eq_true (by omega)
          have hkpos : (0 : Int) < (k1 : Int) := by omega
          have hkpos' : 0 < k1 := by omega
          have hjz : (j : Int) < l.length := by omega
          have hk1z : (k1 : Int) < l.length := by omega
          have HY := Lib.hid hy
          have hne1 : ¬ j = k1 := by omega
          have hne2 : ¬ k1 = j := by omega
          clear hy hk1
          by_cases hxy : x < y
          · have hgt : decide (x < y) = true := decide_eq_true hxy
            have HN : Hid (∀ n, SrtKH w.heap.size g cap x i M c m j (H.set k1 y) w (((wr.drewN n).setCell ⟨g, j, none⟩ (.int .i64 x)).setCell ⟨g, k1, none⟩ (.int .i64 y))) := Lib.hid (fun n => by
              obtain ⟨c', m', hr⟩ := HK.out.run
              have hkk := HK1.out
              have hjk : k1 - 1 = j := by omega
              have hrow : CellRow (((wr.drewN n).setCell ⟨g, j, none⟩ (.int .i64 x)).setCell ⟨g, k1, none⟩ (.int .i64 y)) g (ints (((H.set k1 x).set j x).set k1 y)) := by
                rw [← ints_set, ← ints_set]
                exact ((HK.out.row.same (w' := wr.drewN n) rfl (Nat.le_refl _)).set j _ (by rw [ints_length, List.length_set]; omega)).set k1 _ (by rw [List.length_set, ints_length, List.length_set]; exact hjH)
              have e : ((H.set k1 x).set j x).set k1 y = (H.set k1 y).set j x := by
                rw [List.set_comm x y (by omega), List.set_set]
              rw [e] at hrow
              refine ⟨⟨c' + 1, m' + 1, ?_⟩, by rw [List.length_set]; exact HK.out.len, by omega, hrow, ((HK.out.b.trans ⟨rfl, rfl, rfl, Nat.le_refl _, fun _ _ => rfl⟩ : Below w.heap.size w (wr.drewN n)).setCell (p := ⟨g, j, none⟩) HG.out _).setCell (p := ⟨g, k1, none⟩) HG.out _, (Blk0.set (W := wr.drewN n) HK.out.blk _ _).set _ _⟩
              rw [← hr, sh_go c' m' (by omega) (by omega) (by rw [hjk, ← HY.out]; exact hxy), hjk, ← HY.out])
            clear HEND
            go_wp2_with fail
            go_quiet (fail)
            go_wp2_with fail
            go_roundw
            case rel => exact ⟨j, _, rfl, HN.out nq⟩
            case measure => have := HK1.out; simp [intOf]; omega
          · have hgt : decide (x < y) = false := decide_eq_false hxy
            have HE : Hid (∀ n, SrtOH w.heap.size g cap l (i + 1) (H.set k1 x) w (wr.drewN n)) := Lib.hid (fun n => by
              obtain ⟨c', m', hr⟩ := HK.out.run
              have hkk := HK1.out
              have hjk : k1 - 1 = j := by omega
              rw [sh_stop c' m' (by omega) (by omega) (by rw [hjk, ← HY.out]; exact hxy)] at hr
              exact HEND.out n _ hr.symm)
            clear HEND
            go_wp2_with fail
            go_quiet (fail)
            go_wp2_with fail
            go_roundw
            case rel => exact ⟨i + 1, _, by omega, by go_num, HE.out nq⟩
            case measure => simp [intOf]; omega
    · have HRES : Hid (CellRow wr g (ints (srt l)) ∧ Blk0 wr g cap ∧ Below w.heap.size w wr) := Lib.hid (by
        obtain ⟨c, m, hr⟩ := HO.out.run
        rw [show l.length - i = 0 by omega] at hr
        have hr2 : M = srt l := hr
        exact ⟨by rw [← hr2]; exact HO.out.row, HO.out.blk, HO.out.b⟩)
      clear hlM
      go_wp2_with fail
      go_ret
      exact ⟨g, cap, rfl, hcap, HG.out, HRES.out⟩

end Go.Proofs.Ythmcjmjkmmbepaa
