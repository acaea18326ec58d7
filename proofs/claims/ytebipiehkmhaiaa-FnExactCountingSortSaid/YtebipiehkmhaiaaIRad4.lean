/- The program's CountingSort, by its contract. -/
import Derived.Test.YtebipiehkmhaiaaIRad
namespace Go.Proofs.Ytebipiehkmhaiaa
open Go.RowKit Rx P
set_option linter.unusedVariables false

theorem isRange_any (a z : Int) (W : World) :
    Calls Try.prog 93 #[.int .i64 a, .int .i64 z] W fun e w' => e = .returned (.bool (decide ((-100000 ≤ a ∧ a ≤ 100000) ∧ a ≤ z ∧ z ≤ a + 1000))) ∧ w' = W := by
  have HO := Lib.hid (fun W => isOutside_any a W)
  by_cases hk : -100000 ≤ a ∧ a ≤ 100000
  · have hko : outK a = false := by unfold outK; simp; omega
    rw [hko] at HO
    have ew : IntKind.i64.wrap (a + 1000) = a + 1000 := by rw [IntKind.wrap_i64]; omega
    by_cases h1 : a ≤ z
    · have hd : decide ((-100000 ≤ a ∧ a ≤ 100000) ∧ a ≤ z ∧ z ≤ a + 1000) = decide (z ≤ a + 1000) := by rw [decide_eq_decide]; omega
      rw [hd]
      clear hk hko hd
      go_enter Try.func93, Try.ntmps93
      go_wp2_with fail
      refine (HO.out _).mono ?_
      rintro e w1 ⟨rfl, rfl⟩
      go_wp2_with fail
      go_ret
      exact ⟨rfl, rfl⟩
    · have hd : decide ((-100000 ≤ a ∧ a ≤ 100000) ∧ a ≤ z ∧ z ≤ a + 1000) = false := decide_eq_false (by omega)
      rw [hd]
      clear hk hko hd
      go_enter Try.func93, Try.ntmps93
      go_wp2_with fail
      refine (HO.out _).mono ?_
      rintro e w1 ⟨rfl, rfl⟩
      go_wp2_with fail
      go_ret
      exact ⟨rfl, rfl⟩
  · have hko : outK a = true := by unfold outK; simp; omega
    rw [hko] at HO
    have hd : decide ((-100000 ≤ a ∧ a ≤ 100000) ∧ a ≤ z ∧ z ≤ a + 1000) = false := decide_eq_false fun h => hk h.1
    rw [hd]
    clear hk hko hd
    go_enter Try.func93, Try.ntmps93
    go_wp2_with fail
    refine (HO.out _).mono ?_
    rintro e w1 ⟨rfl, rfl⟩
    go_wp2_with fail
    go_ret
    exact ⟨rfl, rfl⟩

/-- Out of the range. -/
def outC (a z : Int) (p : Int × Int) : Bool := decide (p.1 < a) || decide (z < p.1)

set_option maxRecDepth 100000 in
theorem outC_any (a z : Int) (g1 g2 : Nat) (p : Int × Int) (W : World) (c1 : W.cell? ⟨g1, 0, none⟩ = some (.int .i64 a)) (c2 : W.cell? ⟨g2, 0, none⟩ = some (.int .i64 z)) :
    Calls Try.prog 95 #[.agg #[.int .i64 p.1, .int .i64 p.2], .pointer (some ⟨g1, 0, none⟩), .pointer (some ⟨g2, 0, none⟩)] W fun e w' => e = .returned (.bool (outC a z p)) ∧ Below W.heap.size W w' := by
  obtain ⟨k, t⟩ := p
  have HB : Hid (Below W.heap.size W (W.alloc (.cells #[.int .i64 k, .int .i64 t] 45))) := Lib.hid ((Below.refl _ W).alloc (Nat.le_refl _) _)
  have hlt1 : g1 < W.heap.size := World.block_lt_of_cell? W _ c1
  have hlt2 : g2 < W.heap.size := World.block_lt_of_cell? W _ c2
  by_cases h1 : k < a
  · have hd : Hid (outC a z (k, t) = true) := Lib.hid (by unfold outC; simp [h1])
    have h1d : decide (k < a) = true := decide_eq_true h1
    rw [hd.out]
    go_enter Try.func95, Try.ntmps95
    go_wp2_with fail
    go_ret
    exact ⟨rfl, HB.out⟩
  · have hd : Hid (outC a z (k, t) = decide (z < k)) := Lib.hid (by unfold outC; simp [h1])
    have h1d : decide (k < a) = false := decide_eq_false h1
    rw [hd.out]
    go_enter Try.func95, Try.ntmps95
    go_wp2_with fail
    go_ret
    exact ⟨rfl, HB.out⟩

theorem shift_any (a x : Int) (g1 : Nat) (W : World) (n : Nat) (c1 : W.cell? ⟨g1, 0, none⟩ = some (.int .i64 a)) (hn : x - a = (n : Int)) (h : n ≤ 1000) :
    Calls Try.prog 96 #[.int .i64 x, .pointer (some ⟨g1, 0, none⟩)] W fun e w' => e = .returned (.int .i64 (n : Int)) ∧ Below W.heap.size W w' := by
  have ew : IntKind.i64.wrap (x - a) = (n : Int) := by rw [IntKind.wrap_i64]; omega
  clear hn
  go_enter Try.func96, Try.ntmps96
  go_wp2_with fail
  go_ret
  exact ⟨by first | rfl | rw [ew] | (rw [← ew]; rfl), Below.refl _ _⟩

theorem enters_c1 : ∀ args w, (callFunc 95 args).run Try.prog w = .ok (.enter 95 args) w := enters_of Try.func95 (by kernel_rfl) rfl
theorem enters_c2 : ∀ args w, (callFunc 96 args).run Try.prog w = .ok (.enter 96 args) w := enters_of Try.func96 (by kernel_rfl) rfl

theorem stb_bk {l : List (Int × Int)} {a z : Int} (h : OkC l a z) : bk (fun p : Int × Int => (p.1 - a).toNat) l 1001 = stb l := by
  refine stb_eq ?_
  have hr : ∀ x ∈ l, (x.1 - a).toNat < 1001 := fun x hx => by have h1 := h.2.2 x hx; have h2 := h.2.1.2; omega
  have h1 := bk_of (f := fun p : Int × Int => (p.1 - a).toNat) hr
  generalize bk (fun p : Int × Int => (p.1 - a).toNat) l 1001 = M at *
  obtain ⟨hs, hq⟩ := h1
  have hm : ∀ x ∈ M, x ∈ l := fun x hx => (Stab.Of.mem ⟨hs, hq⟩ x).1 hx
  refine ⟨?_, fun q => ?_⟩
  · refine List.Pairwise.imp_of_mem ?_ hs
    intro x y hx hy hxy
    have h1 := h.2.2 x (hm x hx)
    have h2 := h.2.2 y (hm y hy)
    have hxy2 : (((x.1 - a).toNat : Nat) : Int) ≤ (((y.1 - a).toNat : Nat) : Int) := hxy
    omega
  · have e : ∀ m : List (Int × Int), (∀ x ∈ m, x ∈ l) → m.filter (fun p => p.1 == q) = m.filter (fun p => (((p.1 - a).toNat : Nat) : Int) == q - a) := fun m hml => by
      refine List.filter_congr fun x hx => ?_
      have h1 := h.2.2 x (hml x hx)
      by_cases hxq : x.1 = q
      · have e1 : (((x.1 - a).toNat : Nat) : Int) = q - a := by omega
        rw [e1, hxq]; simp only [BEq.rfl]
      · have e1 : ¬ (((x.1 - a).toNat : Nat) : Int) = q - a := by omega
        have e2 : ((((x.1 - a).toNat : Nat) : Int) == q - a) = false := by simp only [beq_eq_false_iff_ne, ne_eq]; exact e1
        have e3 : (x.1 == q) = false := by simpa using hxq
        rw [e2, e3]
    rw [e _ hm, e l fun x hx => hx]
    exact hq _

set_option maxRecDepth 100000 in
set_option maxHeartbeats 8000000 in
theorem implCs_any (b' o c : Nat) (l : List (Int × Int)) (a z : Int) (w : World) (hv : FlatAt w (.slice (some ⟨b', o, none⟩) l.length c) l.length (recs l)) (hn : l.length ≤ 1048576) :
    Calls Try.prog 33 #[.slice (some ⟨b', o, none⟩) l.length c, .int .i64 a, .int .i64 z] w (RetCE (csAll l a z) w) := by
  obtain ⟨W0, hW0⟩ : ∃ W0, W0 = (w.alloc (.cells #[.int .i64 a] 3)).alloc (.cells #[.int .i64 z] 3) := ⟨_, rfl⟩
  obtain ⟨hbox, hcells⟩ := digit_boxes a z w
  rw [← hW0] at hbox hcells
  have HB0 := Lib.hid hbox
  have HCELL := Lib.hid hcells
  obtain ⟨k1, k2⟩ := hcells W0 (Below.refl _ _)
  have HV := Lib.hid (implValidRecs_any _ l W0 (hv.below hbox) hn)
  have HRG := Lib.hid (fun W => isRange_any a z W)
  have HNONE : Hid (¬ OkC l a z → ∀ w1, Below w.heap.size w w1 → RetCE (csAll l a z) w (.returned (.tuple #[.slice none 0 0, .bool false])) w1) := Lib.hid (fun h w1 hb => by rw [csAll_no h]; exact RetCE.none0 w w1 hb)
  by_cases hok : OkR l
  · rw [decide_eq_true hok] at HV
    by_cases hrg : (-100000 ≤ a ∧ a ≤ 100000) ∧ a ≤ z ∧ z ≤ a + 1000
    · rw [decide_eq_true hrg] at HRG
      have HCF := Lib.hid (fun W (hW : Below W0.heap.size W0 W) => containsFR (outC a z) 95 #[.pointer (some ⟨w.heap.size, 0, none⟩), .pointer (some ⟨w.heap.size + 1, 0, none⟩)] enters_c1 (.slice (some ⟨b', o, none⟩) l.length c) l W ((hv.below hbox).below hW) (by omega)
        (fun W2 x hx hW2 => outC_any a z w.heap.size (w.heap.size + 1) x W2 (HCELL.out W2 (hW.trans (hW2.mono hW.size))).1 (HCELL.out W2 (hW.trans (hW2.mono hW.size))).2))
      by_cases hall : ∀ p ∈ l, a ≤ p.1 ∧ p.1 ≤ z
      · have hokc : OkC l a z := ⟨hok, hrg, hall⟩
        have hany : l.any (outC a z) = false := List.any_eq_false.2 fun x hx => by have := hall x hx; unfold outC; simp; omega
        rw [hany] at HCF
        have HDI := Lib.hid (fun W (hW : Below W0.heap.size W0 W) => distributed_any (fun k => (k - a).toNat) 96 #[.pointer (some ⟨w.heap.size, 0, none⟩)] enters_c2 (.slice (some ⟨b', o, none⟩) l.length c) l W ((hv.below hbox).below hW) hn (fun p hp => by have := hall p hp; omega)
          (fun W2 x hx hW2 => by
            obtain ⟨q, hq, rfl⟩ := List.mem_map.1 hx
            have := hall q hq
            exact shift_any a q.1 w.heap.size W2 (q.1 - a).toNat (HCELL.out W2 (hW.trans (hW2.mono hW.size))).1 (by omega) (by omega)))
        simp only [stb_bk hokc] at HDI
        rw [csAll_yes hokc]
        have HSL := Lib.hid (stb_len l)
        generalize stb l = M at *
        clear hok hrg hall hokc hany hv hbox hcells HNONE
        go_enter Try.func33, Try.ntmps33
        go_wp2_with fail
        rw [← hW0]
        clear hW0
        refine HV.out.mono ?_
        rintro e w1 ⟨rfl, hb1⟩
        have HB1 := Lib.hid hb1
        obtain ⟨d1, d2⟩ := HCELL.out w1 hb1
        clear hb1 HV k1 k2
        go_wp2_with fail
        refine (HRG.out _).mono ?_
        rintro e w1' ⟨rfl, rfl⟩
        clear HRG
        go_wp2_with fail
        refine (HCF.out _ HB1.out).mono ?_
        rintro e w2 ⟨rfl, hb2⟩
        have HB2 := Lib.hid (HB1.out.trans (hb2.mono HB1.out.size))
        clear hb2 HCF HB1 d1 d2
        go_wp2_with fail
        refine (HDI.out _ HB2.out).mono ?_
        rintro e w3 ⟨g, cg, rfl, hcg, hg, hrow, hb3⟩
        have HRES : Hid (RetCE (M, true) w (.returned (.tuple #[.slice (some ⟨g, 0, none⟩) M.length cg, .bool true])) w3) := Lib.hid (by
          have h1 := HB0.out.trans (HB2.out.mono HB0.out.size)
          exact .inl ⟨g, cg, rfl, hcg, Nat.le_trans h1.size hg, hrow, h1.trans (hb3.mono h1.size)⟩)
        clear hcg hg hrow hb3 HDI HB2 HB0
        go_wp2_with fail
        go_ret2
        exact HRES.out
      · have hany : l.any (outC a z) = true := by
          rw [List.any_eq_true]
          by_cases hex : ∃ x ∈ l, outC a z x = true
          · exact hex
          · exact absurd (fun p hp => by
              have h1 : outC a z p ≠ true := fun h => hex ⟨p, hp, h⟩
              unfold outC at h1
              simp at h1
              omega) hall
        rw [hany] at HCF
        have HN := Lib.hid (HNONE.out fun h => hall h.2.2)
        clear hok hrg hall hany hv hbox hcells HNONE
        go_enter Try.func33, Try.ntmps33
        go_wp2_with fail
        rw [← hW0]
        clear hW0
        refine HV.out.mono ?_
        rintro e w1 ⟨rfl, hb1⟩
        have HB1 := Lib.hid hb1
        obtain ⟨d1, d2⟩ := HCELL.out w1 hb1
        clear hb1 HV k1 k2
        go_wp2_with fail
        refine (HRG.out _).mono ?_
        rintro e w1' ⟨rfl, rfl⟩
        clear HRG
        go_wp2_with fail
        refine (HCF.out _ HB1.out).mono ?_
        rintro e w2 ⟨rfl, hb2⟩
        have HRES := Lib.hid (HN.out w2 (HB0.out.trans ((HB1.out.trans (hb2.mono HB1.out.size)).mono HB0.out.size)))
        clear hb2 HCF HB1 d1 d2 HN HB0
        go_wp2_with fail
        go_ret2
        exact HRES.out
    · rw [decide_eq_false hrg] at HRG
      have HN := Lib.hid (HNONE.out fun h => hrg h.2.1)
      clear hok hrg hv hbox hcells HNONE
      go_enter Try.func33, Try.ntmps33
      go_wp2_with fail
      rw [← hW0]
      clear hW0
      refine HV.out.mono ?_
      rintro e w1 ⟨rfl, hb1⟩
      have HRES := Lib.hid (HN.out w1 (HB0.out.trans (hb1.mono HB0.out.size)))
      obtain ⟨d1, d2⟩ := HCELL.out w1 hb1
      clear hb1 HV k1 k2 HN HB0
      go_wp2_with fail
      refine (HRG.out _).mono ?_
      rintro e w1' ⟨rfl, rfl⟩
      go_wp2_with fail
      go_ret2
      exact HRES.out
  · rw [decide_eq_false hok] at HV
    have HN := Lib.hid (HNONE.out fun h => hok h.1)
    clear hok hv hbox hcells HNONE
    go_enter Try.func33, Try.ntmps33
    go_wp2_with fail
    rw [← hW0]
    clear hW0
    refine HV.out.mono ?_
    rintro e w1 ⟨rfl, hb1⟩
    have HRES := Lib.hid (HN.out w1 (HB0.out.trans (hb1.mono HB0.out.size)))
    clear hb1 HV k1 k2 HN HB0
    go_wp2_with fail
    go_ret2
    exact HRES.out

end Go.Proofs.Ytebipiehkmhaiaa
