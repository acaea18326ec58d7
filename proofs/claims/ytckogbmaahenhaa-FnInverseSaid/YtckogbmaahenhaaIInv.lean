/- InversePermutation, the program's and the model's, by one contract. -/
import Derived.Test.YtckogbmaahenhaaIPermV
import Derived.Test.YtckogbmaahenhaaSPermV
import Derived.Test.YtckogbmaahenhaaRetI
namespace Go.Proofs.Ytckogbmaahenhaa
open Go.RowKit P

set_option maxRecDepth 100000 in
set_option maxHeartbeats 4000000 in
theorem implInv_any (v : Value) (l : List Int) (w : World) (hv : FlatAt w v l.length (ints l)) (hn : l.length ≤ 1048576) :
    Calls Try.prog 22 #[v] w (RetI (invF l) w) := by
  have HV := Lib.hid hv
  obtain ⟨a, c, rfl, _, h⟩ := hv
  have H := Lib.hid h
  clear h
  by_cases hok : OkP l
  · have hd : decide (OkP l) = true := decide_eq_true hok
    have HOK := Lib.hid hok
    rw [invF_yes hok]
    clear hok
    have hmk := fun W => makeInts l.length hn W
    go_enter Try.func22, Try.ntmps22
    go_wp2_with fail
    refine (implValidPerm_any _ l w HV.out hn).mono ?_
    rw [hd]
    rintro e w1 ⟨rfl, hb1⟩
    have HB1 := Lib.hid hb1
    have hmk1 := hmk w1
    have HROW := Lib.hid (heap_alloc_new w1 (.cells (ints (List.replicate l.length 0)).toArray 3))
    have HB2 : Hid (Below w1.heap.size w1 (w1.alloc (.cells (ints (List.replicate l.length 0)).toArray 3))) := Lib.hid ((Below.refl _ _).alloc (Nat.le_refl _) _)
    clear hb1 hmk hd
    go_wp2_with fail
    go_loopw [5, 6, 16] (fun _ _ i wr => ∃ k : Nat, k ≤ l.length ∧ i = .int .i64 k ∧ RowIs wr w1.heap.size 3 (ints (invTo l k)) ∧ Below w1.heap.size w1 wr) (fun _ _ i _ => l.length - (intOf i).toNat)
    case atStart => exact ⟨0, Nat.zero_le _, rfl, by rw [invTo_zero]; exact HROW.out, HB2.out⟩
    case round =>
      obtain ⟨k, hk, rfl, hr, hb⟩ := hrel
      have HR := Lib.hid hr
      have HB := Lib.hid hb
      clear hr hb hmk1 HROW HB2
      by_cases hlt : k < l.length
      · obtain ⟨p, hp⟩ : ∃ p, l[k]? = some p := ⟨_, List.getElem?_eq_getElem hlt⟩
        obtain ⟨b, o, rfl, hbb, hc1⟩ := H.out _ _ (ints_at hp)
        have hw1 : wr.cell? ⟨b, o + k, none⟩ = some (.int .i64 p) := (HB.out.cell (p := ⟨b, o + k, none⟩) (Nat.lt_of_lt_of_le hbb HB1.out.size)).trans ((HB1.out.cell (p := ⟨b, o + k, none⟩) hbb).trans hc1)
        have hv := HOK.out.at hp
        obtain ⟨e, rfl⟩ : ∃ e : Nat, p = e := ⟨p.toNat, by omega⟩
        have he : e < l.length := by omega
        have HP := Lib.hid hp
        obtain ⟨u, hu⟩ : ∃ u, (invTo l k)[e]? = some u := ⟨_, List.getElem?_eq_getElem (by rw [invTo_length]; exact he)⟩
        have hg1 : wr.cell? ⟨w1.heap.size, e, none⟩ = some (.int .i64 u) := (HR.out.cell _).trans (ints_at hu)
        have hf1 := HR.out.frozen e
        clear hc1 hp hv hu
        go_wp2
        go_roundw
        case rel => exact ⟨k + 1, by omega, by go_num, by rw [← invTo_set HOK.out HP.out, ← ints_set]; exact HR.out.stored e _, HB.out.setCell (p := ⟨w1.heap.size, e, none⟩) (Nat.le_refl _) _⟩
        case measure => simp [intOf]; omega
      · obtain rfl : k = l.length := by omega
        have HRES : Hid (RetI (invTo l l.length, true) w (.returned (.tuple #[.slice (some ⟨w1.heap.size, 0, none⟩) l.length l.length, .bool true])) wr) :=
          Lib.hid ⟨w1.heap.size, l.length, by rw [invTo_length], by rw [invTo_length]; exact Nat.le_refl _, HB1.out.size, CellRow.of_row HR.out, HB1.out.trans (HB.out.mono HB1.out.size)⟩
        go_wp2_with fail
        go_ret2
        exact HRES.out
  · have hd : decide (OkP l) = false := decide_eq_false hok
    rw [invF_no hok]
    clear hok
    go_enter Try.func22, Try.ntmps22
    go_wp2_with fail
    refine (implValidPerm_any _ l w HV.out hn).mono ?_
    rw [hd]
    rintro e w1 ⟨rfl, hb1⟩
    have HRES := Lib.hid (RetI.none w w1 hb1)
    clear hb1 hd
    go_wp2_with fail
    go_ret2
    exact HRES.out

set_option maxRecDepth 100000 in
set_option maxHeartbeats 4000000 in
theorem l3Inverse_any (v : Value) (l : List Int) (w : World) (hv : FlatAt w v l.length (ints l)) (hok : OkP l) :
    Calls Try.prog 69 #[v] w (RowI (invTo l l.length) w) := by
  have hn : l.length ≤ 1048576 := by have := hok.1; omega
  obtain ⟨a, c, rfl, _, h⟩ := hv
  have H := Lib.hid h
  have HOK := Lib.hid hok
  clear h hok
  have hmk := makeInts l.length hn
  have hrow := heap_alloc_new w (.cells (ints (List.replicate l.length 0)).toArray 3)
  have hb0 : Below w.heap.size w (w.alloc (.cells (ints (List.replicate l.length 0)).toArray 3)) := (Below.refl _ _).alloc (Nat.le_refl _) _
  have HROW := Lib.hid hrow
  have HB0 := Lib.hid hb0
  clear hrow hb0
  go_enter Try.func69, Try.ntmps69
  go_wp2
  go_loopw [4] (fun i wr => ∃ k : Nat, k ≤ l.length ∧ i = .int .i64 k ∧ RowIs wr w.heap.size 3 (ints (invTo l k)) ∧ Below w.heap.size w wr) (fun i _ => l.length - (intOf i).toNat)
  case atStart => exact ⟨0, Nat.zero_le _, rfl, by rw [invTo_zero]; exact HROW.out, HB0.out⟩
  case round =>
    obtain ⟨k, hk, rfl, hr, hb⟩ := hrel
    have HR := Lib.hid hr
    have HB := Lib.hid hb
    clear hr hb hmk HROW HB0
    by_cases hlt : k < l.length
    · obtain ⟨p, hp⟩ : ∃ p, l[k]? = some p := ⟨_, List.getElem?_eq_getElem hlt⟩
      obtain ⟨b, o, rfl, hbb, hc1⟩ := H.out _ _ (ints_at hp)
      have hw1 : wr.cell? ⟨b, o + k, none⟩ = some (.int .i64 p) := (HB.out.cell (p := ⟨b, o + k, none⟩) hbb).trans hc1
      have hv := HOK.out.at hp
      obtain ⟨e, rfl⟩ : ∃ e : Nat, p = e := ⟨p.toNat, by omega⟩
      have he : e < l.length := by omega
      have HP := Lib.hid hp
      obtain ⟨u, hu⟩ : ∃ u, (invTo l k)[e]? = some u := ⟨_, List.getElem?_eq_getElem (by rw [invTo_length]; exact he)⟩
      have hg1 : wr.cell? ⟨w.heap.size, e, none⟩ = some (.int .i64 u) := (HR.out.cell _).trans (ints_at hu)
      have hf1 := HR.out.frozen e
      clear hc1 hp hv hu
      go_wp2
      go_roundw
      case rel => exact ⟨k + 1, by omega, by go_num, by rw [← invTo_set HOK.out HP.out, ← ints_set]; exact HR.out.stored e _, HB.out.setCell (p := ⟨w.heap.size, e, none⟩) (Nat.le_refl _) _⟩
      case measure => simp [intOf]; omega
    · obtain rfl : k = l.length := by omega
      have HRES : Hid (RowI (invTo l l.length) w (.returned (.slice (some ⟨w.heap.size, 0, none⟩) l.length l.length)) wr) :=
        Lib.hid ⟨w.heap.size, l.length, by rw [invTo_length], by rw [invTo_length]; exact Nat.le_refl _, Nat.le_refl _, CellRow.of_row HR.out, HB.out⟩
      go_wp2
      go_ret
      exact HRES.out

set_option maxRecDepth 100000 in
theorem specInv_any (v : Value) (l : List Int) (w : World) (hv : FlatAt w v l.length (ints l)) (hn : l.length ≤ 1048576) :
    Calls Try.prog 23 #[v] w (RetI (invF l) w) := by
  have HV := Lib.hid hv
  clear hv
  by_cases hok : OkP l
  · have hd : decide (OkP l) = true := decide_eq_true hok
    have HOK := Lib.hid hok
    rw [invF_yes hok]
    clear hok
    go_enter Try.func23, Try.ntmps23
    go_wp2_with fail
    refine (l3Good_any _ l w HV.out hn).mono ?_
    rw [hd]
    rintro e w1 ⟨rfl, hb1⟩
    have HV1 := Lib.hid (HV.out.below hb1)
    have HB1 := Lib.hid hb1
    clear hb1 HV hd
    go_wp2_with fail
    refine (l3Inverse_any _ l w1 HV1.out HOK.out).mono ?_
    rintro e w2 ⟨g, c, rfl, hc, hg, hr, hb⟩
    have HRES : Hid (RetI (invTo l l.length, true) w (.returned (.tuple #[.slice (some ⟨g, 0, none⟩) (invTo l l.length).length c, .bool true])) w2) :=
      Lib.hid ⟨g, c, rfl, hc, Nat.le_trans HB1.out.size hg, hr, HB1.out.trans (hb.mono HB1.out.size)⟩
    clear hc hg hr hb
    go_wp2_with fail
    go_ret2
    exact HRES.out
  · have hd : decide (OkP l) = false := decide_eq_false hok
    rw [invF_no hok]
    clear hok
    go_enter Try.func23, Try.ntmps23
    go_wp2_with fail
    refine (l3Good_any _ l w HV.out hn).mono ?_
    rw [hd]
    rintro e w1 ⟨rfl, hb1⟩
    have HRES := Lib.hid (RetI.none w w1 hb1)
    clear hb1 hd
    go_wp2_with fail
    go_ret2
    exact HRES.out

end Go.Proofs.Ytckogbmaahenhaa
