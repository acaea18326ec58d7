/- The model's PermutationCycles, by its contract. -/
import Derived.Test.YtjmmhakmidddoaaHeldR
import Derived.Test.YtjmmhakmidddoaaSGood
namespace Go.Proofs.Ytjmmhakmidddoaa
open Go.RowKit P
attribute [local go_sem ↓ high] builtin_append_held

/-- The cycles, as lists of numbers. -/
def cycF (l : List Int) : List (List Int) × Bool := if OkP l then ((cyc l l.length).map nats, true) else ([], false)
theorem cycF_yes {l : List Int} (h : OkP l) : cycF l = ((cyc l l.length).map nats, true) := if_pos h
theorem cycF_no {l : List Int} (h : ¬ OkP l) : cycF l = ([], false) := if_neg h

/-- The outer loop's word at i. -/
structure SCycAt (p : List Int) (V : Nat) (w : World) (i : Nat) (ov : Value) (W : World) : Prop where
  le : i ≤ p.length
  row : RowIs W V 4 (bools (markV p.length (vis p i)))
  out : ∃ X, X.map CRow.L = cyc p i ∧ HeldR w.heap.size W ov X ∧ ¬ Blk ov X V
  b : Below w.heap.size w W
structure SCycWay (p : List Int) (V i : Nat) (w0 : World) (acc : List Nat) (k f : Nat) (cv : Value) (w : World) : Prop where
  way : OnWay p (vis p i) i acc k f
  held : Held w0.heap.size w cv (nats acc)
  row : RowIs w V 4 (bools (markV p.length (vis p i ++ acc)))
  but : But V w0 w

set_option maxRecDepth 100000 in
set_option maxHeartbeats 4000000 in
theorem specCyc_any (v : Value) (l : List Int) (w : World) (hv : FlatAt w v l.length (ints l)) (hn : l.length ≤ 1048576) :
    Calls Try.prog 20 #[v] w (RetSS (cycF l) w) := by
  have HV := Lib.hid hv
  obtain ⟨a, c, rfl, _, hx0⟩ := hv
  have HX0 := Lib.hid hx0
  clear hx0
  have HB0 : Hid (Below w.heap.size w (w.alloc (.cells #[] 24))) := Lib.hid ((Below.refl _ _).alloc (Nat.le_refl _) _)
  by_cases hok : OkP l
  · have hd : decide (OkP l) = true := decide_eq_true hok
    have HI := Lib.hid (fun W (h : FlatAt W (.slice a l.length c) l.length (ints l)) => by have := l3Good_any _ l W h hn; rw [hd] at this; exact this)
    have HF : Hid (cycF l = ((cyc l l.length).map nats, true)) := Lib.hid (cycF_yes hok)
    have HP := Lib.hid hok
    have hp64 := hok.1
    clear hok hd
    go_enter Try.func20, Try.ntmps20
    go_wp2_with fail
    refine (HI.out _ (HV.out.below HB0.out)).mono ?_
    rintro e w1 ⟨rfl, hb1⟩
    have HO1 := Lib.hid ((HeldR.start w w.heap.size (Nat.le_refl _)).below hb1)
    have HB1 := Lib.hid (HB0.out.trans (hb1.mono HB0.out.size))
    clear hb1 HB0 HV HI
    have hmk := makeBools l.length hn
    have HO2 := Lib.hid (HO1.out.below ((Below.refl _ _).alloc (Nat.le_refl _) (.cells (bools (List.replicate l.length false)).toArray 4)))
    have HB2 := Lib.hid (HB1.out.alloc HB1.out.size (.cells (bools (List.replicate l.length false)).toArray 4))
    have HR2 : Hid (RowIs (w1.alloc (.cells (bools (List.replicate l.length false)).toArray 4)) w1.heap.size 4 (bools (List.replicate l.length false))) := Lib.hid (heap_alloc_new w1 _)
    have hwV : w.heap.size ≤ w1.heap.size := HB1.out.size
    have HBV : Hid (¬ Blk (.slice (some ⟨w.heap.size, 0, none⟩) 0 0) [] w1.heap.size) := Lib.hid (fun h => Nat.lt_irrefl _ (HO1.out.lt h).2)
    generalize hVe : w1.heap.size = V at *
    go_wp2_with fail
    clear hVe
    go_loopw [4, 6, 7, 8] (fun ov iv _ _ wr => ∃ i : Nat, iv = .int .i64 i ∧ SCycAt l V w i ov wr) (fun _ iv _ _ _ => l.length - (intOf iv).toNat)
    case atStart => exact ⟨0, rfl, Nat.zero_le _, by rw [show vis l 0 = [] from rfl, markV_nil]; exact HR2.out, ⟨[], rfl, HO2.out, HBV.out⟩, HB2.out⟩
    case round =>
      obtain ⟨i, rfl, hc⟩ := hrel
      have HC := Lib.hid hc
      clear hc hmk HO1 HO2 HR2 HB1 HB2 HBV
      by_cases hlt : i < l.length
      · have hsz : V < wr.heap.size := HC.out.row.lt
        have hwr : w.heap.size ≤ wr.heap.size := HC.out.b.size
        have HVI := Lib.hid (vis_all HP.out i HC.out.le)
        have HW0 : Hid (SCycWay l V i wr [] i 65 (.slice (some ⟨wr.heap.size, 0, none⟩) 0 0) (wr.alloc (.cells #[] 3))) := Lib.hid
          ⟨OnWay.start HVI.out.1 HVI.out.2.1 hlt, Held.start wr wr.heap.size (Nat.le_refl _), by rw [List.append_nil]; exact (heap_alloc_old _ _ hsz).trans HC.out.row, But.alloc _ _ _⟩
        clear HVI
        go_wp2_with fail
        generalize wr = w0 at *
        go_loopw [7, 8] (fun cv ev w' => ∃ acc k f, ev = .int .i64 (k : Nat) ∧ SCycWay l V i w0 acc k f cv w') (fun cv _ _ => 65 - lenOf cv)
        case atStart => exact ⟨[], i, 65, rfl, HW0.out⟩
        case round =>
          obtain ⟨acc, k, f, rfl, hw⟩ := hrel
          have HW := Lib.hid hw
          clear hw HW0
          have hkl : k < l.length := HW.out.way.next
          have hcell := HW.out.row.cell k
          have hfr := HW.out.row.frozen k
          by_cases hk : k ∈ vis l i ++ acc
          · have hc2 : wr.cell? ⟨V, k, none⟩ = some (.bool true) := hcell.trans (bools_at (by rw [markV_at hkl, decide_eq_true hk]))
            have HA := Lib.hid (HW.out.way.done hk)
            obtain ⟨g, cg, rfl, hg, hcg, hrow⟩ := HW.out.held.row
            rw [nats_length] at *
            obtain ⟨X, hX, hH, hnB⟩ := HC.out.out
            have hbW : Below w.heap.size w wr := HC.out.b.trans (HW.out.but.below hwV hwr)
            have hH2 : HeldR w.heap.size wr u4 X := hH.but HW.out.but hnB
            have hXl : X.length ≤ l.length := by
              have h1 := vis_all HP.out i HC.out.le
              have h2 := P.length_le_of_small h1.1 h1.2.1
              have h3 := h1.2.2.2.2.2.1
              rw [← hX] at h3; simp at h3; omega
            cases acc with
            | nil =>
              have hiv : i ∈ vis l i := P.orb_nil.1 HA.out.symm
              have HN : Hid (SCycAt l V w (i + 1) u4 wr) := Lib.hid ⟨hlt, by rw [vis_old hiv]; have := HW.out.row; rwa [List.append_nil] at this, ⟨X, by rw [cyc_old hiv]; exact hX, hH2, hnB⟩, hbW⟩
              clear hcell hfr hk hg hcg hrow hX hH hH2 hnB hbW hiv HW HC
              go_wp2_with fail
              go_roundw
              case rel => exact ⟨i + 1, by go_num, HN.out⟩
              case measure => simp [intOf]; omega
            | cons y acc =>
              have hiv : ¬ i ∈ vis l i := fun h => by have := (P.orb_nil (p := l)).2 h; rw [← HA.out] at this; simp at this
              have hfresh : ¬ Blk u4 X g := fun h => by have := (hH.lt h).2; omega
              obtain ⟨v2, w2, hrun, hR2, hb2, hk2, hbl2⟩ := appendRow w.heap.size u4 X ⟨g, cg, y :: acc⟩ wr hH2 hbW.size (by show w.heap.size ≤ g; omega) hcg hrow hfresh (by omega)
              have hVw : V < wr.heap.size := HW.out.row.lt
              have HN : Hid (SCycAt l V w (i + 1) v2 w2) := Lib.hid ⟨hlt, by rw [vis_succ, ← HA.out]; exact (hk2 V hVw (fun e => hnB (.inl e))).trans HW.out.row,
                ⟨X ++ [⟨g, cg, y :: acc⟩], by rw [List.map_append, hX, cyc_new hiv, ← HA.out]; rfl, hR2, fun h => by
                  rcases h with h | ⟨x, hx, ex⟩
                  · rcases hbl2 V h with h | h
                    · exact hnB (.inl h)
                    · omega
                  · rcases List.mem_append.1 hx with h | h
                    · exact hnB (.inr ⟨x, h, ex⟩)
                    · simp at h; subst h; simp at ex; omega⟩, hbW.trans hb2⟩
              have hlpos : (0 : Int) < ((y :: acc).length : Int) := by simp
              simp only [slv] at hrun
              generalize (y :: acc).length = n1 at *
              clear hcell hfr hk hg hcg hrow hX hH hH2 hnB hbW hiv HW HC hfresh hR2 hb2 hk2 hbl2 HA
              go_wp2_with fail
              go_roundw
              case rel => exact ⟨i + 1, by go_num, HN.out⟩
              case measure => simp [intOf]; omega
          · have hc2 : wr.cell? ⟨V, k, none⟩ = some (.bool false) := hcell.trans (bools_at (by rw [markV_at hkl, decide_eq_false hk]))
            have HGO := Lib.hid (HW.out.way.go HP.out hk)
            have hv := HP.out.val HW.out.way.next
            obtain ⟨e, he⟩ : ∃ e : Nat, l.getD k 0 = e := ⟨(l.getD k 0).toNat, by omega⟩
            have hpk : l[k]? = some (e : Int) := by rw [← he]; exact at_getD HW.out.way.next
            obtain ⟨bp, o, rfl, hbp, hcpk⟩ := HX0.out _ _ (ints_at hpk)
            have hroom := HW.out.way.room
            obtain ⟨wA, hw1⟩ : ∃ wA, wA = wr.setCell ⟨V, k, none⟩ (.bool true) := ⟨_, rfl⟩
            have hrow1 : RowIs wA V 4 (bools (markV l.length (vis l i ++ (acc ++ [k])))) := by
              have h1 := HW.out.row.stored k (.bool true)
              rw [bools_set, markV_set, List.append_assoc] at h1
              rw [hw1]; exact h1
            have hbut1 : But V w0 wA := by rw [hw1]; exact HW.out.but.setCell k _
            have hheld1 : Held w0.heap.size wA u7 (nats acc) := HW.out.held.same (fun j _ hj => by rw [hw1]; exact Below.heap_setCell _ _ _ _ (by show j ≠ V; omega)) (by rw [hw1]; exact ((Below.refl _ wr).setCell (p := ⟨V, k, none⟩) (Nat.le_refl _) _).size)
            obtain ⟨v2, w2, hrun, hheld2, hbel2, _⟩ := appendOne2 w0.heap.size _ (nats acc) (k : Int) wA hheld1 hbut1.size (by rw [nats_length]; omega)
            have hbut2 := hbut1.then hbel2
            have hcp2 : w2.cell? ⟨bp, o + k, none⟩ = some (.int .i64 (e : Int)) := ((HC.out.b.trans (hbut2.below hwV hwr)).cell (p := ⟨bp, o + k, none⟩) hbp).trans hcpk
            have hlen2 : lenOf v2 = acc.length + 1 := by rw [hheld2.lenOf]; simp [nats]
            have hlen1 := hheld1.lenOf
            rw [nats_length] at hlen1
            have hemod : (l.getD k 0).toNat = e := by rw [he]; simp
            have HN : Hid (SCycWay l V i w0 (acc ++ [k]) e (f - 1) v2 w2) := Lib.hid ⟨by rw [← hemod]; exact HGO.out, by rw [nats_append]; exact hheld2, hrow1.below hbel2 hsz, hbut2⟩
            have HL2 := Lib.hid hlen2
            have HL1 := Lib.hid hlen1
            have HROOM := Lib.hid hroom
            have hsz1 : wA.heap.size = wr.heap.size := by rw [hw1]; simp
            rw [hsz1, hw1] at hrun
            clear hsz1 hcell hk HGO hv he hpk hroom hw1 hrow1 hbut1 hheld1 hheld2 hbel2 hbut2 hlen2 hlen1 hemod HW HC hcpk hbp
            go_wp2_with fail
            go_roundw
            case rel => exact ⟨_, _, _, rfl, HN.out⟩
            case measure => show 65 - lenOf v2 < 65 - lenOf u7; rw [HL1.out, HL2.out]; have := HROOM.out; omega
      · obtain rfl : i = l.length := by have := HC.out.le; omega
        obtain ⟨X, hX, hH, _⟩ := HC.out.out
        have HRES : Hid (RetSS (cycF l) w (.returned (.tuple #[u4, .bool true])) wr) := Lib.hid (by
          rw [HF.out]
          exact hH.ret (by rw [← hX, List.map_map]; rfl) HC.out.b)
        clear hX hH HC
        go_wp2_with fail
        go_ret2
        exact HRES.out
  · have hd : decide (OkP l) = false := decide_eq_false hok
    have HI := Lib.hid (fun W (h : FlatAt W (.slice a l.length c) l.length (ints l)) => by have := l3Good_any _ l W h hn; rw [hd] at this; exact this)
    have HF : Hid (cycF l = ([], false)) := Lib.hid (cycF_no hok)
    clear hok hd
    go_enter Try.func20, Try.ntmps20
    go_wp2_with fail
    refine (HI.out _ (HV.out.below HB0.out)).mono ?_
    rintro e w1 ⟨rfl, hb1⟩
    have HRES : Hid (RetSS (cycF l) w (.returned (.tuple #[.slice (some ⟨w.heap.size, 0, none⟩) 0 0, .bool false])) w1) := Lib.hid (by rw [HF.out]; exact RetSS.none w w (Below.refl _ _) w1 (hb1.mono (by simp)))
    clear hb1 HI
    go_wp2_with fail
    go_ret2
    exact HRES.out

end Go.Proofs.Ytjmmhakmidddoaa
