/- The program's SortingPermutation, by its contract: the whole. -/
import Derived.Test.YtagibgphegoagaaArr
import Derived.Test.YtagibgphegoagaaSortF
import Derived.Test.YtagibgphegoagaaStabPos
namespace Go.Proofs.Ytagibgphegoagaa
open Go.RowKit Go.Sort Go.Lib StC P

theorem compareI_any (x y : Int) (W : World) : Calls Try.prog 133 #[.int .i64 x, .int .i64 y] W fun e w' => e = .returned (.int .i64 (compareInt x y)) ∧ w' = W := by
  by_cases h1 : x < y
  · have hd : Hid (compareInt x y = -1) := Lib.hid (by unfold compareInt; rw [if_pos h1])
    go_enter Try.func133, Try.ntmps133
    go_wp2
    go_ret
    exact ⟨by rw [hd.out]; rfl, rfl⟩
  · by_cases h2 : y < x
    · have hd : Hid (compareInt x y = 1) := Lib.hid (by unfold compareInt; rw [if_neg h1, if_pos h2])
      go_enter Try.func133, Try.ntmps133
      go_wp2
      go_ret
      exact ⟨by rw [hd.out]; rfl, rfl⟩
    · have hd : Hid (compareInt x y = 0) := Lib.hid (by unfold compareInt; rw [if_neg h1, if_neg h2])
      go_enter Try.func133, Try.ntmps133
      go_wp2
      go_ret
      exact ⟨by rw [hd.out]; rfl, rfl⟩

/-- The comparison of indices by the numbers that they stand for. -/
def cfL {NN : Nat} (l : List Int) (x y : Fin (NN + 1)) : Int := compareInt (l.getD x.val 0) (l.getD y.val 0)
theorem ltL {NN : Nat} (l : List Int) (x y : Fin (NN + 1)) : ltOf (cfL l) x y = decide (l.getD x.val 0 < l.getD y.val 0) := by
  unfold ltOf cfL compareInt
  by_cases h1 : l.getD x.val 0 < l.getD y.val 0
  · rw [if_pos h1]; simp only [h1]; rfl
  · rw [if_neg h1]
    by_cases h2 : l.getD y.val 0 < l.getD x.val 0
    · rw [if_pos h2]; simp only [h1]; rfl
    · rw [if_neg h2]; simp only [h1]; rfl
theorem swoL {NN : Nat} (l : List Int) : SWO (ltOf (cfL (NN := NN) l)) where
  irrefl x := by rw [ltL]; simp
  trans x y z h1 h2 := by rw [ltL] at *; simp only [decide_eq_true_eq] at *; omega
  ntrans x y z h1 h2 := by rw [ltL] at *; simp only [decide_eq_false_iff_not] at *; omega

theorem filter_vals {NN : Nat} (p : Int → Bool) (L : List (Fin (NN + 1))) : (valsF L).filter p = valsF (L.filter fun x => p (x.val : Int)) := by
  unfold valsF; rw [List.filter_map]; rfl
theorem stab_ofL {NN : Nat} {l : List Int} {M : List (Fin (NN + 1))} (h : St (ltOf (cfL l)) (fins NN) M) : Stab.Of (keyOf l) (iota (NN + 1)) (valsF M) := by
  have hk : ∀ x : Fin (NN + 1), keyOf l (x.val : Int) = l.getD x.val 0 := fun x => by unfold keyOf; rw [Int.toNat_natCast]
  refine ⟨?_, fun q => ?_⟩
  · unfold valsF
    rw [List.pairwise_map]
    refine h.sorted.imp fun {a b} hh => ?_
    rw [ltL] at hh
    rw [hk, hk]
    simp only [decide_eq_false_iff_not] at hh
    omega
  · rw [← valsF_fins, filter_vals, filter_vals]
    congr 1
    by_cases hq : ∃ z : Fin (NN + 1), l.getD z.val 0 = q
    · obtain ⟨z, hz⟩ := hq
      have e : (fun x : Fin (NN + 1) => keyOf l (x.val : Int) == q) = tie (ltOf (cfL l)) z := by
        funext x
        rw [hk]
        unfold tie
        rw [ltL, ltL, hz]
        generalize l.getD x.val 0 = y
        by_cases h1 : y = q
        · rw [h1]; simp
        · have h2 : (y == q) = false := by simpa using h1
          rw [h2]
          by_cases h3 : q < y
          · simp [h3]
          · have h4 : y < q := by omega
            simp [h4]
      have := h.same z
      rw [e]; exact this
    · have e : ∀ L : List (Fin (NN + 1)), L.filter (fun x => keyOf l (x.val : Int) == q) = [] := fun L => by
        rw [List.filter_eq_nil_iff]
        intro x _
        rw [hk]
        intro hx
        exact hq ⟨x, by simpa using hx⟩
      rw [e, e]

set_option maxRecDepth 100000 in
set_option maxHeartbeats 4000000 in
theorem byElement_any (a : Option Addr) (c box : Nat) (l : List Int) (x y : Nat) (W : World) (hbox : W.cell? ⟨box, 0, none⟩ = some (.slice a l.length c)) (H : ∀ (j : Nat) z, l[j]? = some z → ∃ b o, a = some ⟨b, o, none⟩ ∧ W.cell? ⟨b, o + j, none⟩ = some (.int .i64 z)) (hx : x < l.length) (hy : y < l.length) :
    Calls Try.prog 132 #[.int .i64 (x : Int), .int .i64 (y : Int), .pointer (some ⟨box, 0, none⟩)] W fun e w' => e = .returned (.int .i64 (compareInt (l.getD x 0) (l.getD y 0))) ∧ ∃ q os', w' = grow (W.drewN q) os' := by
  obtain ⟨b, o, rfl, hcx⟩ := H _ _ (at_getD hx)
  obtain ⟨b', o', e', hcy⟩ := H _ _ (at_getD hy)
  simp at e'
  obtain ⟨rfl, rfl⟩ := e'
  have HC := Lib.hid (fun W' => compareI_any (l.getD x 0) (l.getD y 0) W')
  have hxz : (x : Int) < l.length := by omega
  have hyz : (y : Int) < l.length := by omega
  generalize l.getD x 0 = p at *
  generalize l.getD y 0 = q at *
  generalize compareInt p q = r at *
  clear H hx hy
  go_enter Try.func132, Try.ntmps132
  go_wp2_with fail
  go_quiet (first | (go_at_call 133; refine Calls.quiet_of_same (HC.out _)))
  go_wp2_with fail
  go_ret
  exact ⟨rfl, nq, #[], by rw [grow_empty]⟩

set_option maxRecDepth 100000 in
set_option maxHeartbeats 4000000 in
theorem implSortP_any (v : Value) (l : List Int) (w : World) (hv : FlatAt w v l.length (ints l)) (hn : l.length ≤ 1048576) :
    Calls Try.prog 84 #[v] w (RetI (sortF l) w) := by
  obtain ⟨a, c, rfl, _⟩ := id hv
  have hB0 : Below w.heap.size w (w.alloc (.cells #[.slice a l.length c] 34)) := (Below.refl _ _).alloc (Nat.le_refl _) _
  have HB0 := Lib.hid hB0
  have hbox := cell_one_new w (.slice a l.length c) 34
  have HV := Lib.hid (hv.below hB0)
  obtain ⟨a', c', he, _, h⟩ := hv
  simp at he
  obtain ⟨rfl, rfl⟩ := he
  have HCELL : Hid (∀ (j : Nat) z, l[j]? = some z → ∃ b o, a = some ⟨b, o, none⟩ ∧ b < w.heap.size ∧ w.cell? ⟨b, o + j, none⟩ = some (.int .i64 z)) := Lib.hid (fun j z hj => h _ _ (ints_at hj))
  clear hB0 h
  obtain ⟨W0, hW0⟩ : ∃ W0, W0 = w.alloc (.cells #[.slice a l.length c] 34) := ⟨_, rfl⟩
  have hbx : W0.cell? ⟨w.heap.size, 0, none⟩ = some (.slice a l.length c) := by rw [hW0]; simp
  have hlt : w.heap.size < W0.heap.size := by rw [hW0]; simp
  rw [← hW0] at HB0 HV
  by_cases hok : OkL l
  · have hd : decide (OkL l) = true := decide_eq_true hok
    have HI := Lib.hid (fun W (h : FlatAt W (.slice a l.length c) l.length (ints l)) => by have := implValidList_any _ l W h hn; rw [hd] at this; exact this)
    have HF := Lib.hid (sortF_yes hok)
    have HID := Lib.hid (fun W => identity_any l.length W hn)
    have eg : ∀ args w, (callFunc 132 args).run Try.prog w = .ok (.enter 132 args) w := enters_of Try.func132 (by kernel_rfl) rfl
    have EG := Lib.hid eg
    clear hok hd hbox eg
    go_enter Try.func84, Try.ntmps84
    go_wp2_with fail
    rw [← hW0]
    refine (HI.out _ HV.out).mono ?_
    rintro e w1 ⟨rfl, hb1⟩
    have hbx1 : w1.cell? ⟨w.heap.size, 0, none⟩ = some (.slice a l.length c) := (hb1.cell (p := ⟨w.heap.size, 0, none⟩) hlt).trans hbx
    have hlt1 : w.heap.size < w1.heap.size := Nat.lt_of_lt_of_le hlt hb1.size
    have HB1 := Lib.hid (HB0.out.trans (hb1.mono HB0.out.size))
    clear hb1 HI HV hbx hlt HB0 hW0
    go_wp2_with fail
    refine (HID.out _).mono ?_
    rintro e w2 ⟨rfl, hrow, hb2⟩
    have HBX2 : Hid (w2.cell? ⟨w.heap.size, 0, none⟩ = some (.slice a l.length c)) := Lib.hid ((hb2.cell (p := ⟨w.heap.size, 0, none⟩) hlt1).trans hbx1)
    have hlt2 : w.heap.size < w2.heap.size := Nat.lt_of_lt_of_le hlt1 hb2.size
    have HB2 := Lib.hid (HB1.out.trans (hb2.mono HB1.out.size))
    have HR2 := Lib.hid (CellRow.of_row hrow)
    clear hrow hb2 hbx1 HID
    by_cases hz : l.length = 0
    · have HFZ : Hid (sortF l = ([], true)) := Lib.hid (by rw [HF.out, hz]; rfl)
      rw [hz] at HR2 HBX2 ⊢
      have HA := Lib.hid (arrange0_any w1.heap.size 0 (.func (.func 132) #[] #[.pointer (some ⟨w.heap.size, 0, none⟩)]) w2 HR2.out.1)
      clear hz
      go_wp2_with fail
      refine (HA.out).mono ?_
      rintro e w3 ⟨g, cg, rfl, hcg, hg, hrow, hb3⟩
      have HRES : Hid (RetI (sortF l) w (.returned (.tuple #[.slice (some ⟨g, 0, none⟩) 0 cg, .bool true])) w3) := Lib.hid (by rw [HFZ.out]; exact ⟨g, cg, rfl, hcg, Nat.le_trans HB2.out.size hg, hrow, HB2.out.trans (hb3.mono HB2.out.size)⟩)
      clear hcg hg hrow hb3 HA
      go_wp2_with fail
      go_ret2
      exact HRES.out
    · obtain ⟨NN, hNN⟩ : ∃ NN, l.length = NN + 1 := ⟨l.length - 1, by omega⟩
      have HNN := Lib.hid hNN
      have HA := Lib.hid (arrangeN_any l.length hNN (cfL l) (swoL l) 132 #[.pointer (some ⟨w.heap.size, 0, none⟩)] EG.out w1.heap.size l.length w2 HR2.out hn (fun W hW x y =>
          byElement_any a c w.heap.size l x.val y.val W ((hW.cell (p := ⟨w.heap.size, 0, none⟩) hlt2).trans HBX2.out) (fun j z hj => by
            obtain ⟨b, o, e, h1, h2⟩ := HCELL.out j z hj
            exact ⟨b, o, e, (hW.cell (p := ⟨b, o + j, none⟩) (show b < w2.heap.size by omega)).trans ((HB2.out.cell (p := ⟨b, o + j, none⟩) h1).trans h2)⟩) (by omega) (by omega)) (Nat.le_refl _))
      clear hz hNN
      go_wp2_with fail
      refine (HA.out).mono ?_
      rintro e w3 ⟨g, cg, M, rfl, hcg, hg, hrow, hM, hb3⟩
      have hst := stab_ofL hM
      rw [← HNN.out] at hst
      have hu := sortTo_uniq hst
      have hlen := sortTo_length l l.length
      rw [hu] at hrow
      have HRES : Hid (RetI (sortF l) w (.returned (.tuple #[.slice (some ⟨g, 0, none⟩) l.length cg, .bool true])) w3) := Lib.hid (by
        rw [HF.out]; exact ⟨g, cg, by rw [hlen], by rw [hlen]; exact hcg, Nat.le_trans HB2.out.size hg, hrow, HB2.out.trans (hb3.mono HB2.out.size)⟩)
      clear hcg hg hrow hM hb3 HA hst hu hlen
      go_wp2_with fail
      go_ret2
      exact HRES.out
  · have hd : decide (OkL l) = false := decide_eq_false hok
    have HI := Lib.hid (fun W (h : FlatAt W (.slice a l.length c) l.length (ints l)) => by have := implValidList_any _ l W h hn; rw [hd] at this; exact this)
    have HF := Lib.hid (sortF_no hok)
    clear hok hd hbox
    go_enter Try.func84, Try.ntmps84
    go_wp2_with fail
    rw [← hW0]
    refine (HI.out _ HV.out).mono ?_
    rintro e w1 ⟨rfl, hb1⟩
    have HRES : Hid (RetI (sortF l) w (.returned (.tuple #[.slice (some ⟨w1.heap.size, 0, none⟩) 0 0, .bool false])) (w1.alloc (.cells #[] 3))) := Lib.hid (by rw [HF.out]; exact RetI.none w w1 (HB0.out.trans (hb1.mono HB0.out.size)))
    clear hb1
    go_wp2_with fail
    go_ret2
    exact HRES.out

end Go.Proofs.Ytagibgphegoagaa
