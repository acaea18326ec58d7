/- The program's OrderDefect, by its contract. -/
import Derived.Test.YtipdfmedbcafpaaITrip
import Derived.Test.YtipdfmedbcafpaaOrdC
import Derived.Test.YtipdfmedbcafpaaCfB
namespace Go.Proofs.Ytipdfmedbcafpaa
open Go.RowKit

/-- The variable that the closures share: block B holds the table. -/
structure Tab (w : World) (B : Nat) (v : Value) (M : List (List Bool)) : Prop where
  lt : B < w.heap.size
  cell : w.cell? ⟨B, 0, none⟩ = some v
  rows : RowsAt w v (M.map bools)

theorem Tab.below {w w' : World} {B : Nat} {v : Value} {M : List (List Bool)} (h : Tab w B v M) (hb : Below w.heap.size w w') : Tab w' B v M :=
  ⟨Nat.lt_of_lt_of_le h.lt hb.size, (hb.cell (p := ⟨B, 0, none⟩) h.lt).trans h.cell, h.rows.below hb⟩

set_option maxRecDepth 100000 in
theorem less_any (B : Nat) (v : Value) (M : List (List Bool)) (w : World) (hT : Tab w B v M) (hsq : ∀ x ∈ M, x.length = M.length) (i k : Nat) (hi : i < M.length) (hk : k < M.length) :
    Calls Try.prog 61 #[.int .i64 (i : Int), .int .i64 (k : Int), .pointer (some ⟨B, 0, none⟩)] w fun e w' => e = .returned (.bool (at2 M i k)) ∧ w' = w := by
  obtain ⟨_, hcell, a, c, rfl, hc0, hH⟩ := hT
  have hlen : (M.map bools).length = M.length := by simp
  rw [hlen] at hcell
  obtain ⟨b, o, b2, o2, c2, rfl, h1, h2⟩ := rel_el hH hsq hi hk
  have hiz : (i : Int) < (M.length : Int) := by omega
  have hkz : (k : Int) < (M.length : Int) := by omega
  generalize at2 M i k = x at *
  clear hH hsq hc0 hlen
  go_enter Try.func61, Try.ntmps61
  go_wp2_with fail
  go_ret
  exact ⟨rfl, rfl⟩

set_option maxRecDepth 100000 in
theorem tie_any (B : Nat) (v : Value) (M : List (List Bool)) (w : World) (hT : Tab w B v M) (hsq : ∀ x ∈ M, x.length = M.length) (i k : Nat) (hi : i < M.length) (hk : k < M.length) :
    Calls Try.prog 62 #[.int .i64 (i : Int), .int .i64 (k : Int), .pointer (some ⟨B, 0, none⟩)] w fun e w' => e = .returned (.bool (tie2 M i k)) ∧ w' = w := by
  obtain ⟨_, hcell, a, c, rfl, hc0, hH⟩ := hT
  have hlen : (M.map bools).length = M.length := by simp
  rw [hlen] at hcell
  obtain ⟨b, o, b2, o2, c2, rfl, h1, h2⟩ := rel_el hH hsq hi hk
  obtain ⟨b', o', b3, o3, c3, he, h3, h4⟩ := rel_el hH hsq hk hi
  obtain rfl : b = b' := congrArg Addr.block (Option.some.inj he)
  obtain rfl : o = o' := congrArg Addr.off (Option.some.inj he)
  have hiz : (i : Int) < (M.length : Int) := by omega
  have hkz : (k : Int) < (M.length : Int) := by omega
  unfold tie2
  generalize at2 M i k = x at *
  generalize at2 M k i = y at *
  clear hH hsq hc0 hlen he
  cases x
  · go_enter Try.func62, Try.ntmps62
    go_wp2_with fail
    go_ret
    exact ⟨by simp, rfl⟩
  · go_enter Try.func62, Try.ntmps62
    go_wp2_with fail
    go_ret
    exact ⟨by simp, rfl⟩

/-- The headers of a table's rows. -/
theorem heads {w : World} {v : Value} {ls : List (List Value)} (h : RowsAt w v ls) : ∃ us : List Value, us.length = ls.length ∧ FlatAt w v us.length us ∧ ∀ (j : Nat) u, us[j]? = some u → ∃ cs, ls[j]? = some cs ∧ FlatAt w u cs.length cs := by
  obtain ⟨a, c, rfl, hc, h⟩ := h
  cases ls with
  | nil => exact ⟨[], rfl, ⟨a, c, rfl, hc, fun j u hu => by simp at hu⟩, fun j u hu => by simp at hu⟩
  | cons l0 lr =>
    obtain ⟨b, o, u0, rfl, hb, _, _⟩ := h 0 l0 rfl
    refine ⟨(List.range (l0 :: lr).length).map fun j => (w.cell? ⟨b, o + j, none⟩).getD .nilFunc, by simp, ⟨some ⟨b, o, none⟩, c, by simp, by simpa using hc, fun j u hu => ?_⟩, fun j u hu => ?_⟩
    · have hj : j < (l0 :: lr).length := by have := (List.getElem?_eq_some_iff.1 hu).1; simpa using this
      obtain ⟨b', o', u', he, _, hcell, _⟩ := h j _ (List.getElem?_eq_getElem hj)
      obtain rfl : b = b' := congrArg Addr.block (Option.some.inj he)
      obtain rfl : o = o' := congrArg Addr.off (Option.some.inj he)
      rw [List.getElem?_map, List.getElem?_range hj] at hu
      simp [hcell] at hu
      exact ⟨b, o, rfl, hb, by rw [hcell, hu]⟩
    · have hj : j < (l0 :: lr).length := by have := (List.getElem?_eq_some_iff.1 hu).1; simpa using this
      obtain ⟨b', o', u', he, _, hcell, hf⟩ := h j _ (List.getElem?_eq_getElem hj)
      obtain rfl : b = b' := congrArg Addr.block (Option.some.inj he)
      obtain rfl : o = o' := congrArg Addr.off (Option.some.inj he)
      rw [List.getElem?_map, List.getElem?_range hj] at hu
      simp [hcell] at hu
      subst hu
      exact ⟨_, List.getElem?_eq_getElem hj, hf⟩

def oddRow (n : Nat) : Value → Bool
  | .slice _ m _ => m != n
  | _ => true

theorem odd_any (n B m c0 c : Nat) (a0 a : Option Addr) (W : World) (hc : W.cell? ⟨B, 0, none⟩ = some (.slice a0 n c0)) :
    Calls Try.prog 116 #[.slice a m c, .pointer (some ⟨B, 0, none⟩)] W fun e w' => e = .returned (.bool (m != n)) ∧ w' = W := by
  by_cases h : m = n
  · subst h
    have hq : ((m : Int) != (m : Int)) = false := by simp
    go_enter Try.func116, Try.ntmps116
    go_wp2_with fail
    go_ret
    exact ⟨by simp, rfl⟩
  · have hq : ((m : Int) != (n : Int)) = true := by simp; omega
    have hv : Hid ((m != n) = true) := Lib.hid (by simpa using h)
    clear h
    go_enter Try.func116, Try.ntmps116
    go_wp2_with fail
    go_ret
    exact ⟨by rw [hv.out]; first | rfl | (show Ending.returned (.bool ((m : Int) != (n : Int))) = _; rw [hq]), rfl⟩

set_option maxRecDepth 100000 in
theorem square_any (v : Value) (M : List (List Bool)) (w : World) (hv : RowsAt w v (M.map bools)) (hn : M.length ≤ 100) :
    Calls Try.prog 60 #[v] w fun e w' => e = .returned (.bool (decide (∀ x ∈ M, x.length = M.length))) ∧ Below w.heap.size w w' := by
  have eg : ∀ args w, (callFunc 116 args).run Try.prog w = .ok (.enter 116 args) w := enters_of Try.func116 (by kernel_rfl) rfl
  obtain ⟨us, hul, huf, hue⟩ := heads hv
  obtain ⟨a, c, rfl, hc0, _⟩ := hv
  have hlen : (M.map bools).length = M.length := by simp
  rw [hlen] at hul hc0 huf ⊢
  have HB := Lib.hid (show Below w.heap.size w (w.alloc (.cells #[.slice a M.length c] 24)) from (Below.refl _ w).alloc (Nat.le_refl _) _)
  have HC := Lib.hid (containsFB (oddRow M.length) 116 #[.pointer (some ⟨w.heap.size, 0, none⟩)] eg (.slice a M.length c) us (w.alloc (.cells #[.slice a M.length c] 24)) (huf.below HB.out) (by omega) (fun W x hx hb => by
    obtain ⟨j, hj⟩ := List.mem_iff_getElem?.1 hx
    obtain ⟨cs, _, hf⟩ := hue j x hj
    obtain ⟨a2, c2, rfl, _, _⟩ := hf
    exact (odd_any M.length w.heap.size cs.length c c2 a a2 W ((hb.cell (p := ⟨w.heap.size, 0, none⟩) (by simp)).trans (by simp))).mono fun e w' h => ⟨h.1, h.2 ▸ Below.refl _ _⟩))
  have HV : Hid ((!us.any (oddRow M.length)) = decide (∀ x ∈ M, x.length = M.length)) := Lib.hid (by
    by_cases h : ∀ x ∈ M, x.length = M.length
    · rw [decide_eq_true h, List.any_eq_false.2 (fun u hu => by
        obtain ⟨j, hj⟩ := List.mem_iff_getElem?.1 hu
        obtain ⟨cs, hcs, hf⟩ := hue j u hj
        obtain ⟨a2, c2, rfl, _, _⟩ := hf
        rw [List.getElem?_map] at hcs
        cases hm : M[j]? with
        | none => rw [hm] at hcs; simp at hcs
        | some x =>
          rw [hm] at hcs
          obtain rfl := Option.some.inj hcs
          have := h x (List.mem_of_getElem? hm)
          simp [oddRow, bools_length, this])]; rfl
    · rw [decide_eq_false h]
      have : us.any (oddRow M.length) = true := by
        apply Classical.byContradiction
        intro hc
        refine h fun x hx => ?_
        obtain ⟨j, hj⟩ := List.mem_iff_getElem?.1 hx
        have hjl : j < us.length := by have := (List.getElem?_eq_some_iff.1 hj).1; omega
        obtain ⟨cs, hcs, hf⟩ := hue j us[j] (List.getElem?_eq_getElem hjl)
        rw [List.getElem?_map, hj] at hcs
        obtain rfl := Option.some.inj hcs
        obtain ⟨a2, c2, he, _, _⟩ := hf
        have := List.any_eq_false.1 (by simpa using hc) us[j] (List.getElem_mem hjl)
        rw [he] at this
        simpa [oddRow, bools_length] using this
      rw [this]; rfl)
  clear huf hue hc0 eg hul
  go_enter Try.func60, Try.ntmps60
  go_wp2_with fail
  refine (HC.out).mono ?_
  rintro e w1 ⟨rfl, hb⟩
  have HB2 := Lib.hid (HB.out.trans (hb.mono HB.out.size))
  clear hb
  go_wp2_with fail
  go_ret
  exact ⟨by rw [← HV.out]; rfl, HB2.out⟩

set_option maxRecDepth 100000 in
set_option maxHeartbeats 4000000 in
theorem implOrd_any (v : Value) (M : List (List Bool)) (w : World) (hv : RowsAt w v (M.map bools)) (hn : M.length ≤ 1048576) :
    Calls Try.prog 18 #[v] w (OrdC M w) := by
  have hv0 := hv
  obtain ⟨a, c, rfl, hc0, _⟩ := hv0
  have hlen : (M.map bools).length = M.length := by simp
  rw [hlen] at hv hc0 ⊢
  have HB0 := Lib.hid (show Below w.heap.size w (w.alloc (.cells #[.slice a M.length c] 24)) from (Below.refl _ w).alloc (Nat.le_refl _) _)
  have HT0 : Hid (Tab (w.alloc (.cells #[.slice a M.length c] 24)) w.heap.size (.slice a M.length c) M) := Lib.hid ⟨by simp, by simp, hv.below HB0.out⟩
  have eg1 : ∀ args w, (callFunc 61 args).run Try.prog w = .ok (.enter 61 args) w := enters_of Try.func61 (by kernel_rfl) rfl
  have eg2 : ∀ args w, (callFunc 62 args).run Try.prog w = .ok (.enter 62 args) w := enters_of Try.func62 (by kernel_rfl) rfl
  have HBAD : Hid (¬ OkM M → ∀ W, Below w.heap.size w W → OrdC M w (.returned (.tuple #[.slice (some ⟨W.heap.size, 0, none⟩) 0 0, .bool false])) (W.alloc (.cells #[] 3))) := Lib.hid (fun hok W hb =>
    ⟨W.heap.size, 0, [], by rw [decide_eq_false hok]; rfl, Nat.le_refl _, hb.size, CellRow.of_row (heap_alloc_new W _), .inr ⟨hok, rfl⟩, hb.alloc hb.size _⟩)
  clear hv hc0
  by_cases h1 : M.length < 1
  · have h1z : (M.length : Int) < 1 := by omega
    have hq := HBAD.out (fun h => by have := h.1.1; omega) _ HB0.out
    have es : (w.alloc (.cells #[.slice a M.length c] 24)).heap.size = w.heap.size + 1 := by simp
    rw [es] at hq
    have HQ := Lib.hid hq
    clear hq es
    go_enter Try.func18, Try.ntmps18
    go_wp2_with fail
    go_ret2
    exact HQ.out
  · have h1z : ¬ (M.length : Int) < 1 := by omega
    by_cases h2 : 12 < M.length
    · have h2z : (12 : Int) < (M.length : Int) := by omega
      have hq := HBAD.out (fun h => by have := h.1.2; omega) _ HB0.out
      have es : (w.alloc (.cells #[.slice a M.length c] 24)).heap.size = w.heap.size + 1 := by simp
      rw [es] at hq
      have HQ := Lib.hid hq
      clear hq es
      go_enter Try.func18, Try.ntmps18
      go_wp2_with fail
      go_ret2
      exact HQ.out
    · have h2z : ¬ (12 : Int) < (M.length : Int) := by omega
      have HSQ := Lib.hid (square_any (.slice a M.length c) M _ HT0.out.rows (by omega))
      by_cases hsq : ∀ x ∈ M, x.length = M.length
      · have hok : OkM M := ⟨⟨by omega, by omega⟩, hsq⟩
        have HGOOD : Hid (∀ W W2 g cap L, Below w.heap.size w W → W.heap.size ≤ g → L.length ≤ cap → CellRow W2 g (ints L) → DefectOf M L → Below W.heap.size W W2 → OrdC M w (.returned (.tuple #[.slice (some ⟨g, 0, none⟩) L.length cap, .bool true])) W2) := Lib.hid (fun W W2 g cap L hb hg hcap hrow hf hb2 =>
          ⟨g, cap, L, by rw [decide_eq_true hok], hcap, Nat.le_trans hb.size hg, hrow, .inl ⟨hok, hf⟩, hb.trans (hb2.mono hb.size)⟩)
        rw [decide_eq_true hsq] at HSQ
        have HSQ2 := Lib.hid hsq
        clear hsq hok HBAD
        go_enter Try.func18, Try.ntmps18
        go_wp2_with fail
        refine (HSQ.out).mono ?_
        rintro e w1 ⟨rfl, hb⟩
        have HB1 := Lib.hid (HB0.out.trans (hb.mono HB0.out.size))
        have HT1 := Lib.hid (HT0.out.below hb)
        clear hb HT0 HB0 HSQ
        go_wp2_with fail
        go_loop [7, 27] (fun _ s => ∃ i' : Nat, i' ≤ M.length ∧ s = .int .i64 i' ∧ (∀ x : Nat, x < i' → pIrr M x = false)) (fun _ s => M.length - (intOf s).toNat)
        case atStart => exact ⟨0, Nat.zero_le _, rfl, fun x hx => by omega⟩
        case round =>
          obtain ⟨i, hi, rfl, hall1⟩ := hrel
          have A1 := Lib.hid hall1
          clear hall1
          by_cases hil : i < M.length
          · have hilz : (i : Int) < (M.length : Int) := by omega
            have HC := Lib.hid (less_any w.heap.size _ M w1 HT1.out HSQ2.out i i hil hil)
            have HPV : Hid (pIrr M i = at2 M i i) := Lib.hid rfl
            have HQ : Hid (pIrr M i = true → OrdC M w (.returned (.tuple #[.slice (some ⟨w1.heap.size, 0, none⟩) 1 1, .bool true])) (w1.alloc (.cells #[.int .i64 (i : Int)] 3))) := Lib.hid (fun hp =>
              HGOOD.out w1 _ w1.heap.size 1 [(i : Int)] HB1.out (Nat.le_refl _) (Nat.le_refl _) (CellRow.of_row (heap_alloc_new w1 _)) ⟨[(i : Int)], .inl ⟨i, hil, hp, rfl, A1.out⟩, .inl ⟨by simp, rfl⟩⟩ ((Below.refl _ w1).alloc (Nat.le_refl _) _))
            generalize at2 M i i = x at HC HPV
            cases x
            · go_wp2_with fail
              refine (HC.out).mono ?_
              rintro e w2 ⟨rfl, rfl⟩
              go_wp2_with fail
              go_round
              case rel =>
                refine ⟨i + 1, by omega, by go_num, fun x hx => ?_⟩
                by_cases e : x < i
                · exact A1.out x e
                · obtain rfl : x = i := by omega
                  exact HPV.out
              case measure => simp [intOf]; omega
            · go_wp2_with fail
              refine (HC.out).mono ?_
              rintro e w2 ⟨rfl, rfl⟩
              go_wp2_with fail
              go_ret2
              exact HQ.out HPV.out
          · have hilz : ¬ (i : Int) < (M.length : Int) := by omega
            obtain rfl : i = M.length := by omega
            have HP := Lib.hid (pair_any (at2 M) 61 #[.pointer (some ⟨w.heap.size, 0, none⟩)] eg1 M.length (by omega) w1 (fun i k hi hk => less_any w.heap.size _ M w1 HT1.out HSQ2.out i k hi hk))
            have F1 : Hid (First1 (pIrr M) M.length []) := Lib.hid (.inr ⟨rfl, A1.out⟩)
            clear A1
            go_wp2_with fail
            refine (HP.out).mono ?_
            rintro e w2 ⟨g2, cap2, L2, rfl, hcap2, hg2, hrow2, hf2, hb2⟩
            have HB2 := Lib.hid (HB1.out.trans (hb2.mono HB1.out.size))
            have HT2 := Lib.hid (HT1.out.below hb2)
            by_cases hL2 : L2 = []
            · subst hL2
              have F2 : Hid (First2 (pAsy M) M.length []) := Lib.hid hf2
              clear hcap2 hg2 hrow2 hf2 hb2 HP
              have HP3 := Lib.hid (triple_any (at2 M) 61 #[.pointer (some ⟨w.heap.size, 0, none⟩)] eg1 M.length (by omega) w2 (fun i k hi hk => less_any w.heap.size _ M w2 HT2.out HSQ2.out i k hi hk))
              go_wp2_with fail
              refine (HP3.out).mono ?_
              rintro e w3 ⟨g3, cap3, L3, rfl, hcap3, hg3, hrow3, hf3, hb3⟩
              have HB3 := Lib.hid (HB2.out.trans (hb3.mono HB2.out.size))
              have HT3 := Lib.hid (HT2.out.below hb3)
              by_cases hL3 : L3 = []
              · subst hL3
                have F3 : Hid (FirstT (pTra M) M.length []) := Lib.hid hf3
                clear hcap3 hg3 hrow3 hf3 hb3 HP3
                have HP4 := Lib.hid (triple_any (tie2 M) 62 #[.pointer (some ⟨w.heap.size, 0, none⟩)] eg2 M.length (by omega) w3 (fun i k hi hk => tie_any w.heap.size _ M w3 HT3.out HSQ2.out i k hi hk))
                go_wp2_with fail
                refine (HP4.out).mono ?_
                rintro e w4 ⟨g4, cap4, L4, rfl, hcap4, hg4, hrow4, hf4, hb4⟩
                have HQ := Lib.hid (HGOOD.out w3 w4 g4 cap4 L4 HB3.out hg4 hcap4 hrow4 ⟨[], F1.out, .inr ⟨rfl, [], F2.out, .inr ⟨rfl, [], F3.out, .inr ⟨rfl, hf4⟩⟩⟩⟩ hb4)
                clear hcap4 hg4 hrow4 hf4 hb4 HP4
                go_wp2_with fail
                go_ret2
                exact HQ.out
              · have hl : (0 : Int) < (L3.length : Int) := by have := List.length_pos_iff.2 hL3; omega
                have HQ := Lib.hid (HGOOD.out w2 w3 g3 cap3 L3 HB2.out hg3 hcap3 hrow3 ⟨[], F1.out, .inr ⟨rfl, [], F2.out, .inr ⟨rfl, L3, hf3, .inl ⟨hL3, rfl⟩⟩⟩⟩ hb3)
                clear hcap3 hg3 hrow3 hf3 hb3 hL3 HP3
                go_wp2_with fail
                go_ret2
                exact HQ.out
            · have hl : (0 : Int) < (L2.length : Int) := by have := List.length_pos_iff.2 hL2; omega
              have HQ := Lib.hid (HGOOD.out w1 w2 g2 cap2 L2 HB1.out hg2 hcap2 hrow2 ⟨[], F1.out, .inr ⟨rfl, L2, hf2, .inl ⟨hL2, rfl⟩⟩⟩ hb2)
              clear hcap2 hg2 hrow2 hf2 hb2 hL2 HP
              go_wp2_with fail
              go_ret2
              exact HQ.out
      · have HN := Lib.hid (HBAD.out (fun h => hsq h.2))
        rw [decide_eq_false hsq] at HSQ
        clear hsq
        go_enter Try.func18, Try.ntmps18
        go_wp2_with fail
        refine (HSQ.out).mono ?_
        rintro e w1 ⟨rfl, hb⟩
        have HQ := Lib.hid (HN.out w1 (HB0.out.trans (hb.mono HB0.out.size)))
        clear hb
        go_wp2_with fail
        go_ret2
        exact HQ.out

end Go.Proofs.Ytipdfmedbcafpaa
