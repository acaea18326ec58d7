/- The model's l3Sorting and SortingPermutation, by their contracts. -/
import Derived.Test.YtckogbmaahenhaaStabI
import Derived.Test.YtckogbmaahenhaaInsR
import Derived.Test.YtckogbmaahenhaaList
import Derived.BigRegion
import Derived.BigQuiet
import Derived.Deep.QuietTactic
import Derived.Laws.BitsLemmas
namespace Go.Proofs.Ytckogbmaahenhaa
open Go.RowKit P

/-- The sorting permutation, and whether there is one. -/
def sortF (l : List Int) : List Int × Bool := if OkL l then (sortTo l l.length, true) else ([], false)
theorem sortF_yes {l : List Int} (h : OkL l) : sortF l = (sortTo l l.length, true) := if_pos h
theorem sortF_no {l : List Int} (h : ¬ OkL l) : sortF l = ([], false) := if_neg h
theorem sortF_len (l : List Int) : (sortF l).1.length ≤ 1048576 := by
  unfold sortF; split
  · rename_i h; simp only [sortTo_length]; have := h.1; omega
  · simp

attribute [local go_sem ↓ high] builtin_append_held

set_option maxRecDepth 100000 in
set_option maxHeartbeats 8000000 in
theorem l3Sorting_any (v : Value) (l : List Int) (w : World) (hv : FlatAt w v l.length (ints l)) (hn : l.length ≤ 64) :
    Calls Try.prog 84 #[v] w (RowI (sortTo l l.length) w) := by
  obtain ⟨a, c, rfl, _, h⟩ := hv
  have H := Lib.hid h
  clear h
  have HS := Lib.hid (Held.start w w.heap.size (Nat.le_refl _))
  have HB0 : Hid (Below w.heap.size w (w.alloc (.cells #[] 3))) := Lib.hid ((Below.refl _ _).alloc (Nat.le_refl _) _)
  go_enter Try.func84, Try.ntmps84
  go_wp2_with fail
  go_loopw [3, 4, 5] (fun out i _ wr => ∃ k : Nat, k ≤ l.length ∧ i = .int .i64 k ∧ Held w.heap.size wr out (sortTo l k) ∧ Below w.heap.size w wr) (fun _ i _ _ => l.length - (intOf i).toNat)
  case atStart => exact ⟨0, Nat.zero_le _, rfl, HS.out, HB0.out⟩
  case round =>
    obtain ⟨n, hnl, rfl, hO, hb⟩ := hrel
    have HO := Lib.hid hO
    have HB := Lib.hid hb
    clear hO hb HS HB0
    by_cases hlt : n < l.length
    · obtain ⟨go, co, rfl, hgo, hco, hrow⟩ := HO.out.row
      obtain ⟨O, hOe⟩ : ∃ O, O = sortTo l n := ⟨_, rfl⟩
      have hOl : O.length = n := by rw [hOe, sortTo_length]
      have HOF : Hid (Stab.Of (keyOf l) (iota n) O) := Lib.hid (by rw [hOe]; exact sortTo_of l n)
      rw [← hOe] at hrow hco ⊢
      have HROW := Lib.hid hrow
      have HOE := Lib.hid hOe
      have HOL := Lib.hid hOl
      obtain ⟨q, hq⟩ : ∃ q, q = l.getD n 0 := ⟨_, rfl⟩
      have hln := at_getD hlt
      rw [← hq] at hln
      obtain ⟨b, o, rfl, hbb, hcn⟩ := H.out _ _ (ints_at hln)
      have hcq : wr.cell? ⟨b, o + n, none⟩ = some (.int .i64 q) := (HB.out.cell (p := ⟨b, o + n, none⟩) hbb).trans hcn
      have HKQ : Hid (keyOf l (n : Int) = q) := Lib.hid (by unfold keyOf; rw [Int.toNat_natCast]; exact hq.symm)
      have HO20 : O.length ≤ 64 := by omega
      clear hrow hOe hOl hq hln hcn HO
      go_wp2_with fail
      go_loopw [5] (fun kv ws => ∃ (k m : Nat), k ≤ O.length ∧ kv = .int .i64 k ∧ (∀ y ∈ O.drop k, q < keyOf l y) ∧ ws = wr.drewN m) (fun kv _ => (intOf kv).toNat)
      case atStart => exact ⟨O.length, 0, Nat.le_refl _, rfl, by simp, rfl⟩
      case round =>
        obtain ⟨k, m, hk, rfl, hup, rfl⟩ := hrel
        have HUP := Lib.hid hup
        clear hup
        -- what follows when the place is found
        have HEND : Hid (∀ (k : Nat), k ≤ O.length → (∀ y ∈ O.drop k, q < keyOf l y) → (∀ y ∈ O.take k, keyOf l y ≤ q) → O.take k ++ [(n : Int)] ++ O.drop k = sortTo l (n + 1)) := Lib.hid (fun k hk h1 h2 =>
          sortTo_uniq (ins_of HOF.out hk (fun x hx => by rw [HKQ.out]; exact h2 x hx) (fun x hx => by rw [HKQ.out]; exact h1 x hx)))
        cases k with
        | zero =>
          have HE := Lib.hid (HEND.out 0 (Nat.zero_le _) HUP.out (by simp))
          have hg : decide ((0 : Int) < 0) = false := by decide
          go_wp2_with fail
          go_quiet (fail)
          have HR2 : Hid (CellRow ((wr.drewN m).drewN nq) go (ints O)) := Lib.hid (HROW.out.same rfl (Nat.le_refl _))
          have HB2 : Hid (Below w.heap.size w ((wr.drewN m).drewN nq)) := Lib.hid (HB.out.trans ⟨rfl, rfl, rfl, Nat.le_refl _, fun _ _ => rfl⟩)
          generalize (wr.drewN m).drewN nq = w2 at HR2 HB2 ⊢
          obtain ⟨v3, v3', v3'', w3, w3', w3'', v1, v1', v1'', v2, v2', v2'', w1, w1', w1'', wz, wz', wz'', I⟩ := inserts go co 0 0 co O.length (n : Int) O w2 HR2.out (Nat.zero_le _) (by omega) rfl (fun _ => rfl)
          obtain ⟨a1, a2, a3, b1, b2, b3, c1, c2, c3, ha, hb, hc⟩ := I
          rw [HE.out] at ha hb hc
          have hws := HB2.out.size
          have HA : Hid (Held w.heap.size w3 v3 (sortTo l (n + 1)) ∧ Below w.heap.size w w3) := Lib.hid ⟨ha.1.lower hws, HB2.out.trans (ha.2.mono hws)⟩
          have HBb : Hid (Held w.heap.size w3' v3' (sortTo l (n + 1)) ∧ Below w.heap.size w w3') := Lib.hid ⟨hb.1.lower hws, HB2.out.trans (hb.2.mono hws)⟩
          have HC : Hid (Held w.heap.size w3'' v3'' (sortTo l (n + 1)) ∧ Below w.heap.size w w3'') := Lib.hid ⟨hc.1.lower hws, HB2.out.trans (hc.2.mono hws)⟩
          clear ha hb hc HE HUP hcq HROW HR2 HB2
          go_wp2_with fail
          go_region
          all_goals (
            go_wp2_with fail
            go_roundw
            case rel => first | exact ⟨n + 1, by omega, by go_num, HA.out.1, HA.out.2⟩ | exact ⟨n + 1, by omega, by go_num, HBb.out.1, HBb.out.2⟩ | exact ⟨n + 1, by omega, by go_num, HC.out.1, HC.out.2⟩
            case measure => simp [intOf]; omega)
        | succ k =>
          have hkO : k < O.length := by omega
          obtain ⟨x, hx⟩ : ∃ x, x = O.getD k 0 := ⟨_, rfl⟩
          have hOk := at_getD hkO
          rw [← hx] at hOk
          have hxm : x ∈ iota n := (HOF.out.mem x).1 (List.mem_of_getElem? hOk)
          have hxr := iota_mem.1 hxm
          obtain ⟨j, rfl⟩ : ∃ j : Nat, x = j := ⟨x.toNat, by omega⟩
          have hjl : j < l.length := by omega
          obtain ⟨p, hp⟩ : ∃ p, p = l.getD j 0 := ⟨_, rfl⟩
          have hlj := at_getD hjl
          rw [← hp] at hlj
          obtain ⟨b', o', e', _, hcj⟩ := H.out _ _ (ints_at hlj)
          simp at e'
          obtain ⟨rfl, rfl⟩ := e'
          have hcp : wr.cell? ⟨b, o + j, none⟩ = some (.int .i64 p) := (HB.out.cell (p := ⟨b, o + j, none⟩) hbb).trans hcj
          have hck := (HROW.out.2 _ _ (ints_at hOk)).1
          have HKP : Hid (keyOf l (j : Int) = p) := Lib.hid (by unfold keyOf; rw [Int.toNat_natCast]; exact hp.symm)
          have HOKK := Lib.hid hOk
          have hwk : IntKind.i64.wrap (((k + 1 : Nat) : Int) - 1) = (k : Int) := by rw [IntKind.wrap_i64]; omega
          have hkz : (k : Int) < O.length := by omega
          have hjz : (j : Int) < l.length := by omega
          have hk0 : (0 : Int) < ((k + 1 : Nat) : Int) := by omega
          clear hx hOk hxm hxr hp hlj hcj
          by_cases hqp : q < p
          · have HUP2 := Lib.hid (up_step HUP.out HOKK.out (by rw [HKP.out]; exact hqp))
            go_wp2_with fail
            go_quiet (fail)
            go_wp2_with fail
            go_roundw
            case rel => exact ⟨k, m + nq, by omega, by go_num, HUP2.out, by trivial⟩
            case measure => simp [intOf]
          · have HE := Lib.hid (HEND.out (k + 1) (by omega) HUP.out (low_all HOF.out HOKK.out (by rw [HKP.out]; omega)))
            go_wp2_with fail
            go_quiet (fail)
            have HR2 : Hid (CellRow ((wr.drewN m).drewN nq) go (ints O)) := Lib.hid (HROW.out.same rfl (Nat.le_refl _))
            have HB2 : Hid (Below w.heap.size w ((wr.drewN m).drewN nq)) := Lib.hid (HB.out.trans ⟨rfl, rfl, rfl, Nat.le_refl _, fun _ _ => rfl⟩)
            generalize (wr.drewN m).drewN nq = w2 at HR2 HB2 ⊢
            clear hck hcp hwk hk0 HOKK HKP HOF
            obtain ⟨k1, hk1⟩ : ∃ k1, k1 = k + 1 := ⟨_, rfl⟩
            have hcast : (k : Int) + 1 = (k1 : Int) := by omega
            rw [← hk1] at HE HUP
            rw [hcast]
            have hk1O : k1 ≤ O.length := by omega
            clear hk1 hkO hkz hk hcast
            by_cases hco2 : co = k1
            · subst hco2
              obtain ⟨v3, v3', v3'', w3, w3', w3'', v1, v1', v1'', v2, v2', v2'', w1, w1', w1'', wz, wz', wz'', I⟩ := inserts go co co 0 0 0 (n : Int) O w2 HR2.out hk1O (by omega) (by omega) (fun h => by omega)
              obtain ⟨a1, a2, a3, b1, b2, b3, c1, c2, c3, ha, hb, hc⟩ := I
              rw [HE.out] at ha hb hc
              have hws := HB2.out.size
              have HA : Hid (Held w.heap.size w3 v3 (sortTo l (n + 1)) ∧ Below w.heap.size w w3) := Lib.hid ⟨ha.1.lower hws, HB2.out.trans (ha.2.mono hws)⟩
              have HBb : Hid (Held w.heap.size w3' v3' (sortTo l (n + 1)) ∧ Below w.heap.size w w3') := Lib.hid ⟨hb.1.lower hws, HB2.out.trans (hb.2.mono hws)⟩
              have HC : Hid (Held w.heap.size w3'' v3'' (sortTo l (n + 1)) ∧ Below w.heap.size w w3'') := Lib.hid ⟨hc.1.lower hws, HB2.out.trans (hc.2.mono hws)⟩
              clear ha hb hc HE HUP hcq HROW HR2 HB2
              go_wp2_with fail
              go_region
              all_goals (
                go_wp2_with fail
                go_roundw
                case rel => first | exact ⟨n + 1, by omega, by go_num, HA.out.1, HA.out.2⟩ | exact ⟨n + 1, by omega, by go_num, HBb.out.1, HBb.out.2⟩ | exact ⟨n + 1, by omega, by go_num, HC.out.1, HC.out.2⟩
                case measure => simp [intOf]; omega)
            · obtain ⟨v3, v3', v3'', w3, w3', w3'', v1, v1', v1'', v2, v2', v2'', w1, w1', w1'', wz, wz', wz'', I⟩ := inserts go co k1 k1 (co - k1) (O.length - k1) (n : Int) O w2 HR2.out hk1O (by omega) rfl (fun _ => rfl)
              obtain ⟨a1, a2, a3, b1, b2, b3, c1, c2, c3, ha, hb, hc⟩ := I
              rw [HE.out] at ha hb hc
              have hws := HB2.out.size
              have HA : Hid (Held w.heap.size w3 v3 (sortTo l (n + 1)) ∧ Below w.heap.size w w3) := Lib.hid ⟨ha.1.lower hws, HB2.out.trans (ha.2.mono hws)⟩
              have HBb : Hid (Held w.heap.size w3' v3' (sortTo l (n + 1)) ∧ Below w.heap.size w w3') := Lib.hid ⟨hb.1.lower hws, HB2.out.trans (hb.2.mono hws)⟩
              have HC : Hid (Held w.heap.size w3'' v3'' (sortTo l (n + 1)) ∧ Below w.heap.size w w3'') := Lib.hid ⟨hc.1.lower hws, HB2.out.trans (hc.2.mono hws)⟩
              clear ha hb hc HE HUP hcq HROW HR2 HB2
              go_wp2_with fail
              go_region
              all_goals (
                go_wp2_with fail
                go_roundw
                case rel => first | exact ⟨n + 1, by omega, by go_num, HA.out.1, HA.out.2⟩ | exact ⟨n + 1, by omega, by go_num, HBb.out.1, HBb.out.2⟩ | exact ⟨n + 1, by omega, by go_num, HC.out.1, HC.out.2⟩
                case measure => simp [intOf]; omega)
    · obtain rfl : n = l.length := by omega
      obtain ⟨g, cg, rfl, hg, hcg, hrow⟩ := HO.out.row
      have HRES : Hid (RowI (sortTo l l.length) w (.returned (.slice (some ⟨g, 0, none⟩) (sortTo l l.length).length cg)) wr) := Lib.hid ⟨g, cg, rfl, hcg, hg, hrow, HB.out⟩
      clear hg hcg hrow HO
      go_wp2_with fail
      go_ret
      exact HRES.out

set_option maxRecDepth 100000 in
theorem specSortP_any (v : Value) (l : List Int) (w : World) (hv : FlatAt w v l.length (ints l)) (hn : l.length ≤ 1048576) :
    Calls Try.prog 40 #[v] w (RetI (sortF l) w) := by
  have HV := Lib.hid hv
  clear hv
  by_cases hok : OkL l
  · have hd : decide (OkL l) = true := decide_eq_true hok
    have HF := Lib.hid (sortF_yes hok)
    have h64 := hok.1
    have HI := Lib.hid (fun W (h : FlatAt W v l.length (ints l)) => by have := l2List_any _ l W h hn; rw [hd] at this; exact this)
    clear hok hd
    go_enter Try.func40, Try.ntmps40
    go_wp2_with fail
    refine (HI.out _ HV.out).mono ?_
    rintro e w1 ⟨rfl, hb1⟩
    have HV1 := Lib.hid (HV.out.below hb1)
    have HB1 := Lib.hid hb1
    clear hb1 HV
    go_wp2_with fail
    refine (l3Sorting_any _ l w1 HV1.out h64).mono ?_
    rintro e w2 ⟨g, c, rfl, hc, hg, hr, hb⟩
    have HRES : Hid (RetI (sortF l) w (.returned (.tuple #[.slice (some ⟨g, 0, none⟩) (sortTo l l.length).length c, .bool true])) w2) :=
      Lib.hid (by rw [HF.out]; exact ⟨g, c, rfl, hc, Nat.le_trans HB1.out.size hg, hr, HB1.out.trans (hb.mono HB1.out.size)⟩)
    clear hc hg hr hb
    go_wp2_with fail
    go_ret2
    exact HRES.out
  · have hd : decide (OkL l) = false := decide_eq_false hok
    have HF := Lib.hid (sortF_no hok)
    have HI := Lib.hid (fun W (h : FlatAt W v l.length (ints l)) => by have := l2List_any _ l W h hn; rw [hd] at this; exact this)
    clear hok hd
    go_enter Try.func40, Try.ntmps40
    go_wp2_with fail
    refine (HI.out _ HV.out).mono ?_
    rintro e w1 ⟨rfl, hb1⟩
    have HRES : Hid (RetI (sortF l) w (.returned (.tuple #[.slice (some ⟨w1.heap.size, 0, none⟩) 0 0, .bool false])) (w1.alloc (.cells #[] 3))) := Lib.hid (by rw [HF.out]; exact RetI.none w w1 hb1)
    clear hb1
    go_wp2_with fail
    go_ret2
    exact HRES.out

end Go.Proofs.Ytckogbmaahenhaa
