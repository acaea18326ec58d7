/- The model's check of records (l2Records) and its stable arrangement (l2Stable), by their contracts. -/
import Derived.Test.YtnjabdlhgmaeiaaRecs
import Derived.Test.YtnjabdlhgmaeiaaStab
import Derived.Test.YtnjabdlhgmaeiaaIn
import Derived.Deep.RegionWith
namespace Go.Proofs.Ytnjabdlhgmaeiaa
open Go.RowKit

/-- A valid record list. -/
def OkR (l : List (Int × Int)) : Prop := l.length ≤ 64 ∧ ∀ p ∈ l, (-100000 ≤ p.1 ∧ p.1 ≤ 100000) ∧ (0 ≤ p.2 ∧ p.2 ≤ 999)
instance (l : List (Int × Int)) : Decidable (OkR l) := by unfold OkR; exact inferInstance

set_option maxRecDepth 100000 in
theorem l2Records_any (v : Value) (l : List (Int × Int)) (w : World) (hv : FlatAt w v l.length (recs l)) (hn : l.length ≤ 1048576) :
    Calls Try.prog 72 #[v] w fun e w' => e = .returned (.bool (decide (OkR l))) ∧ Below w.heap.size w w' := by
  obtain ⟨a, c, rfl, _, h⟩ := hv
  have H := Lib.hid h
  clear h
  go_enter Try.func72, Try.ntmps72
  go_wp2_with fail
  go_loopw [3] (fun i wr => ∃ k : Nat, k ≤ l.length ∧ k ≤ 65 ∧ i = .int .i64 k ∧ (∀ p ∈ l.take k, (-100000 ≤ p.1 ∧ p.1 ≤ 100000) ∧ (0 ≤ p.2 ∧ p.2 ≤ 999)) ∧ Below w.heap.size w wr) (fun i _ => l.length - (intOf i).toNat)
  case atStart => exact ⟨0, Nat.zero_le _, by omega, rfl, by simp, Below.refl _ _⟩
  case round =>
    obtain ⟨k, hk, hk65, rfl, hall, hb⟩ := hrel
    have HB := Lib.hid hb
    have HALL := Lib.hid hall
    clear hb hall
    by_cases hlt : k < l.length
    · by_cases h64 : k ≤ 64
      · obtain ⟨p, hp⟩ : ∃ p, l[k]? = some p := ⟨_, List.getElem?_eq_getElem hlt⟩
        obtain ⟨b, o, rfl, hbb, hc1, hc2⟩ := recs_el H.out hp
        have hw1 : wr.cell? ⟨b, o + k * 2, none⟩ = some (.int .i64 p.1) := (HB.out.cell (p := ⟨b, o + k * 2, none⟩) hbb).trans hc1
        have hw2 : wr.cell? ⟨b, o + k * 2 + 1, none⟩ = some (.int .i64 p.2) := (HB.out.cell (p := ⟨b, o + k * 2 + 1, none⟩) hbb).trans hc2
        have HP := Lib.hid hp
        clear hc1 hc2 hp
        by_cases h1 : -100000 ≤ p.1 ∧ p.1 ≤ 100000
        · have HI1 := Lib.hid (fun W => l1In_yes p.1 (-100000) 100000 W h1.1 h1.2)
          by_cases h2 : 0 ≤ p.2 ∧ p.2 ≤ 999
          · have HI2 := Lib.hid (fun W => l1In_yes p.2 0 999 W h2.1 h2.2)
            go_wp2_with fail
            refine (HI1.out _).mono ?_
            rintro e w1 ⟨rfl, rfl⟩
            go_wp2_with fail
            refine (HI2.out _).mono ?_
            rintro e w1 ⟨rfl, rfl⟩
            go_wp2_with fail
            go_roundw
            case rel =>
              refine ⟨k + 1, by omega, by omega, by go_num, ?_, HB.out⟩
              intro q hq
              rw [List.take_add_one, HP.out] at hq
              rcases List.mem_append.1 hq with h | h
              · exact HALL.out q h
              · simp at h; subst h; exact ⟨h1, h2⟩
            case measure => simp [intOf]; omega
          · have HI2 := Lib.hid (fun W => l1In_no p.2 0 999 W (by omega))
            have HN : Hid (decide (OkR l) = false) := Lib.hid (decide_eq_false fun h => h2 (h.2 p (List.mem_of_getElem? HP.out)).2)
            clear h1 h2
            go_wp2_with fail
            refine (HI1.out _).mono ?_
            rintro e w1 ⟨rfl, rfl⟩
            go_wp2_with fail
            refine (HI2.out _).mono ?_
            rintro e w1 ⟨rfl, rfl⟩
            go_wp2_with fail
            go_ret
            exact ⟨by rw [HN.out]; rfl, HB.out⟩
        · have HI1 := Lib.hid (fun W => l1In_no p.1 (-100000) 100000 W (by omega))
          have HN : Hid (decide (OkR l) = false) := Lib.hid (decide_eq_false fun h => h1 (h.2 p (List.mem_of_getElem? HP.out)).1)
          clear h1
          go_wp2_with fail
          refine (HI1.out _).mono ?_
          rintro e w1 ⟨rfl, rfl⟩
          go_wp2_with fail
          go_ret
          exact ⟨by rw [HN.out]; rfl, HB.out⟩
      · have HN : Hid (decide (OkR l) = false) := Lib.hid (decide_eq_false fun h => by have := h.1; omega)
        have hq : decide ((l.length : Int) ≤ 64) = false := decide_eq_false (by omega)
        go_wp2_with fail
        go_ret
        exact ⟨by rw [HN.out]; first | rfl | (rw [← hq]; rfl), HB.out⟩
    · obtain rfl : k = l.length := by omega
      rw [List.take_length] at HALL
      have HN : Hid (decide (OkR l) = decide ((l.length : Int) ≤ 64)) := Lib.hid (by
        by_cases h : l.length ≤ 64
        · rw [decide_eq_true (show OkR l from ⟨h, HALL.out⟩), decide_eq_true (by omega)]
        · rw [decide_eq_false (fun h' : OkR l => h h'.1), decide_eq_false (by omega)])
      go_wp2_with fail
      go_ret
      exact ⟨by rw [HN.out]; rfl, HB.out⟩

/-- The model's stable arrangement. -/
def StableC (l : List (Int × Int)) (w : World) (e : Ending) (w' : World) : Prop :=
  ∃ g cap L, e = .returned (.slice (some ⟨g, 0, none⟩) l.length cap) ∧ l.length ≤ cap ∧ w.heap.size ≤ g ∧ CellRow w' g (recs L) ∧ Stab.Of (·.1) l L ∧ Below w.heap.size w w'

attribute [local go_sem ↓ high] builtin_append_held

theorem recs_one (l : List (Int × Int)) : ∀ u ∈ recs l, u.oneCell' = true := by
  intro u hu
  unfold recs at hu
  obtain ⟨p, _, hp⟩ := List.mem_flatMap.1 hu
  simp at hp
  rcases hp with rfl | rfl <;> rfl

theorem infoRecA : (Try.prog.info? 50).map (fun i => (i.zero, i.size, i.bytes)) = some (some (.agg #[.int .i64 0, .int .i64 0]), 2, 16) := by kernel_rfl

/-- 'append([]Record{}, list...)': a copy in a new row. -/
theorem appendRecs (b o c : Nat) (l : List (Int × Int)) (w : World) (hv : FlatAt w (.slice (some ⟨b, o, none⟩) l.length c) l.length (recs l)) (hn : l.length ≤ 1048576) :
    ∃ g cap w', (heldAppend #[34, 34] 34 #[.slice (some ⟨w.heap.size, 0, none⟩) 0 0, .slice (some ⟨b, o, none⟩) l.length c]).run Try.prog (w.alloc (.cells #[] 50)) = .ok (.slice (some ⟨g, 0, none⟩) l.length cap) w' ∧
      l.length ≤ cap ∧ w.heap.size ≤ g ∧ CellRow w' g (recs l) ∧ Below w.heap.size w w' := by
  obtain ⟨i0, hi, hz0, hz1, hz2⟩ := info_parts infoRecA
  obtain ⟨a, c', he, hc, h⟩ := hv
  simp at he
  obtain ⟨rfl, rfl⟩ := he
  have hb0 : Below w.heap.size w (w.alloc (.cells #[] 50)) := (Below.refl _ _).alloc (Nat.le_refl _) _
  obtain ⟨v', w1, hrun, hown, hgrow, hnil⟩ := run_append_own (P := Try.prog) (w := w.alloc (.cells #[] 50)) w.heap.size 34 34 50 i0 (.agg #[.int .i64 0, .int .i64 0]) 2 16 Try.underlying34 hi hz0 hz1 hz2 rfl (by decide)
    (.slice (some ⟨w.heap.size, 0, none⟩) 0 0) 0 [] (World.ownsRow_made w #[] 0 (Nat.le_refl _) (by decide) rfl) ⟨b, o, none⟩ l.length c (recs l) (recs_length l) (fun j u hu => by
      obtain ⟨b', o', e, hb, hcell⟩ := h j u hu
      obtain rfl : b = b' := congrArg Addr.block (Option.some.inj e)
      obtain rfl : o = o' := congrArg Addr.off (Option.some.inj e)
      have e : (⟨b, o, none⟩ : Addr).add j = ⟨b, o + j, none⟩ := by
        unfold Addr.add; split
        · rename_i h; subst h; rfl
        · rfl
      rw [e]
      exact (hb0.cell (p := ⟨b, o + j, none⟩) hb).trans hcell) (recs_one l) (by unfold maxLen; omega) (by omega) (by simp)
  have hv' : ∃ g cap, v' = .slice (some ⟨g, 0, none⟩) l.length cap := by
    rcases hown.2 with ⟨e, hz⟩ | ⟨g, cap, cur, e, _⟩
    · have := (hnil.1 e).1
      simp at this
    · exact ⟨g, cap, by rw [e, Nat.zero_add]⟩
  obtain ⟨g, cap, rfl⟩ := hv'
  rw [Nat.zero_add, List.nil_append] at hown
  obtain ⟨h1, h2, h3⟩ := CellRow.of_own hown
  exact ⟨g, cap, w1, hrun, h2, h1, h3, hb0.grown hgrow (by simp) (fun j e => by
    have e' : some w.heap.size = some j := e
    injection e' with e'
    omega)⟩

set_option maxRecDepth 100000 in
set_option maxHeartbeats 2000000 in
theorem l2Stable_any (b o c : Nat) (l : List (Int × Int)) (w : World) (hv : FlatAt w (.slice (some ⟨b, o, none⟩) l.length c) l.length (recs l)) (hn : l.length ≤ 1048576) :
    Calls Try.prog 69 #[.slice (some ⟨b, o, none⟩) l.length c] w (StableC l w) := by
  obtain ⟨g, cap, w1, hrun, hcap, hg, hrow, hb1⟩ := appendRecs b o c l w hv hn
  have HROW := Lib.hid hrow
  have HB1 := Lib.hid hb1
  have HG := Lib.hid hg
  clear hv hrow hb1 hg
  go_enter Try.func69, Try.ntmps69
  go_wp2_with fail
  go_loopw [4] (fun i wr => ∃ (n : Nat) (L : List (Int × Int)), 1 ≤ n ∧ (n ≤ l.length ∨ n = 1) ∧ i = .int .i64 n ∧ L.length = l.length ∧ CellRow wr g (recs L) ∧ Stab.Same (·.1) l L ∧ Stab.Asc (·.1) L n ∧ But g w1 wr) (fun i _ => l.length - (intOf i).toNat)
  case atStart => exact ⟨1, l, Nat.le_refl _, .inr rfl, rfl, rfl, HROW.out, fun _ => rfl, Stab.Asc.one l, But.refl _ _⟩
  case round =>
    obtain ⟨n, L, h1n, hnl, rfl, hL, hrow, hsame, hasc, hb⟩ := hrel
    have HR := Lib.hid hrow
    have HS := Lib.hid hsame
    have HA := Lib.hid hasc
    have HB := Lib.hid hb
    clear hrow hsame hasc hb
    by_cases hlt : n < l.length
    · go_wp2_with fail
      go_loopw [5] (fun k ws => ∃ (j : Nat) (M : List (Int × Int)), j ≤ n ∧ k = .int .i64 j ∧ M.length = l.length ∧ CellRow ws g (recs M) ∧ Stab.Same (·.1) l M ∧ Stab.Up (·.1) M n j ∧ But g w1 ws) (fun k _ => (intOf k).toNat)
      case atStart => exact ⟨n, L, Nat.le_refl _, rfl, hL, HR.out, HS.out, Stab.Up.start HA.out, HB.out⟩
      case round =>
        obtain ⟨j, M, hjn, rfl, hM, hrow, hsame, hup, hb⟩ := hrel
        have HR2 := Lib.hid hrow
        have HS2 := Lib.hid hsame
        have HU2 := Lib.hid hup
        have HB2 := Lib.hid hb
        clear hrow hsame hup hb
        cases j with
        | zero =>
          have HA2 : Hid (Stab.Asc (·.1) M (n + 1)) := Lib.hid (Stab.Up.stop0 HU2.out)
          go_wp2_with fail
          go_quiet (fail)
          go_wp2_with fail
          go_roundw
          case rel => exact ⟨n + 1, M, by omega, .inl (by omega), by go_num, hM, HR2.out.same rfl (Nat.le_refl _), HS2.out, HA2.out, HB2.out.drewN _⟩
          case measure => simp [intOf]; omega
        | succ j =>
          have hj : j < M.length := by omega
          have hj1 : j + 1 < M.length := by omega
          obtain ⟨u, hu⟩ : ∃ u, M[j]? = some u := ⟨_, List.getElem?_eq_getElem hj⟩
          obtain ⟨v, hv⟩ : ∃ v, M[j + 1]? = some v := ⟨_, List.getElem?_eq_getElem hj1⟩
          obtain ⟨hu1, hu2⟩ := recs_at hu
          obtain ⟨hv1, hv2⟩ := recs_at hv
          obtain ⟨hcu1, _⟩ := HR2.out.2 _ _ hu1
          obtain ⟨hcv1, _⟩ := HR2.out.2 _ _ hv1
          have HU := Lib.hid hu
          have HV := Lib.hid hv
          clear hu hv hu1 hu2 hv1 hv2
          by_cases hgt : v.1 < u.1
          · go_wp2_with fail
            go_quiet (fail)
            obtain ⟨wq, hq⟩ : ∃ wq, wq = wr.drewN nq := ⟨_, rfl⟩
            rw [← hq]
            have HR3 : Hid (CellRow wq g (recs M)) := Lib.hid (by rw [hq]; exact HR2.out.same rfl (Nat.le_refl _))
            have HB3 : Hid (But g w1 wq) := Lib.hid (by rw [hq]; exact HB2.out.drewN _)
            clear hq hcu1 hcv1 HR2 HB2
            obtain ⟨hu1, hu2⟩ := recs_at HU.out
            obtain ⟨hv1, hv2⟩ := recs_at HV.out
            obtain ⟨hcu1, hfu1⟩ := HR3.out.2 _ _ hu1
            obtain ⟨hcu2, hfu2⟩ := HR3.out.2 _ _ hu2
            obtain ⟨hcv1, hfv1⟩ := HR3.out.2 _ _ hv1
            obtain ⟨hcv2, hfv2⟩ := HR3.out.2 _ _ hv2
            have hgl := HR3.out.1
            clear hu1 hu2 hv1 hv2
            go_wp2_with fail
            go_roundw
            case rel =>
              have hsz := recs_length M
              have hrow : CellRow ((((wq.setCell ⟨g, j * 2, none⟩ (.int .i64 v.1)).setCell ⟨g, j * 2 + 1, none⟩ (.int .i64 v.2)).setCell ⟨g, (j + 1) * 2, none⟩ (.int .i64 u.1)).setCell ⟨g, (j + 1) * 2 + 1, none⟩ (.int .i64 u.2)) g (recs (Stab.swap M j u v)) := by
                unfold Stab.swap
                rw [← recs_set (M.set j v) (j + 1) u (by rw [List.length_set]; exact hj1), ← recs_set M j v hj]
                exact (((HR3.out.set (j * 2) _ (by omega)).set (j * 2 + 1) _ (by simp; omega)).set ((j + 1) * 2) _ (by simp; omega)).set ((j + 1) * 2 + 1) _ (by simp; omega)
              exact ⟨j, Stab.swap M j u v, by omega, rfl, by rw [Stab.swap_length]; exact hM, hrow.same (heap_alloc_old _ _ hrow.1) (by simp), Stab.Same.swap HS2.out HU.out HV.out hgt, Stab.Up.step HU2.out hjn HU.out HV.out hgt,
                ((((HB3.out.setCell (j * 2) _).setCell (j * 2 + 1) _).setCell ((j + 1) * 2) _).setCell ((j + 1) * 2 + 1) _).trans (But.alloc g _ _)⟩
            case measure => simp [intOf]
          · have HA2 : Hid (Stab.Asc (·.1) M (n + 1)) := Lib.hid (Stab.Up.stop HU2.out hjn HU.out HV.out (by omega))
            go_wp2_with fail
            go_quiet (fail)
            go_wp2_with fail
            go_roundw
            case rel => exact ⟨n + 1, M, by omega, .inl (by omega), by go_num, hM, HR2.out.same rfl (Nat.le_refl _), HS2.out, HA2.out, HB2.out.drewN _⟩
            case measure => simp [intOf]; omega
    · have HO : Hid (Stab.Of (·.1) l L) := Lib.hid (Stab.Of.done HS.out (fun p q x y hp hq hx hy => HA.out p q x y hp (by
        rcases hnl with h | h
        · omega
        · omega) hx hy))
      go_wp2_with fail
      go_ret
      exact ⟨g, cap, L, rfl, hcap, HG.out, HR.out, HO.out, HB1.out.trans (HB.out.below HG.out HB1.out.size)⟩

end Go.Proofs.Ytnjabdlhgmaeiaa
