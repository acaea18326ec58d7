/- The model's stable arrangement (l2Stable), by its contract. -/
import Derived.Test.YtebipiehkmhaiaaOkR
namespace Go.Proofs.Ytebipiehkmhaiaa
open Go.RowKit

attribute [local go_sem ↓ high] builtin_append_held

set_option maxRecDepth 100000 in
set_option maxHeartbeats 2000000 in
theorem l2Stable_any (b o c : Nat) (l : List (Int × Int)) (w : World) (hv : FlatAt w (.slice (some ⟨b, o, none⟩) l.length c) l.length (recs l)) (hn : l.length ≤ 1048576) :
    Calls Try.prog 98 #[.slice (some ⟨b, o, none⟩) l.length c] w (StableC l w) := by
  obtain ⟨g, cap, w1, hrun, hcap, hg, hrow, hb1⟩ := appendRecs b o c l w hv hn
  have HROW := Lib.hid hrow
  have HB1 := Lib.hid hb1
  have HG := Lib.hid hg
  clear hv hrow hb1 hg
  go_enter Try.func98, Try.ntmps98
  go_wp2_with fail
  go_loopw [4] (fun i wr => ∃ (n : Nat) (L : List (Int × Int)), 1 ≤ n ∧ (n ≤ l.length ∨ n = 1) ∧ i = .int .i64 n ∧ L.length = l.length ∧ CellRow wr g (recs L) ∧ Stab.Same (·.1) l L ∧ Stab.Asc (·.1) L n ∧ But g w1 wr) (fun i _ => l.length - (intOf i).toNat)
  case atStart => exact ⟨1, l, Nat.le_refl _, .inr rfl, rfl, rfl, HROW.out, fun _ => rfl, Stab.Asc.one l, But.refl _ _⟩
  case round =>
    obtain ⟨n, L, h1n, hnl, rfl, hL, hrow, hsame, hasc, hb⟩ := hrel
    have HR := Lib.hid hrow
    have HS := Lib.hid hsame
    have HA := Lib.hid hasc
    have HB := Lib.hid hb
    clear hrow hsame hasc hb
    by_cases hlt : n < l.length
    · go_wp2_with fail
      go_loopw [5] (fun k ws => ∃ (j : Nat) (M : List (Int × Int)), j ≤ n ∧ k = .int .i64 j ∧ M.length = l.length ∧ CellRow ws g (recs M) ∧ Stab.Same (·.1) l M ∧ Stab.Up (·.1) M n j ∧ But g w1 ws) (fun k _ => (intOf k).toNat)
      case atStart => exact ⟨n, L, Nat.le_refl _, rfl, hL, HR.out, HS.out, Stab.Up.start HA.out, HB.out⟩
      case round =>
        obtain ⟨j, M, hjn, rfl, hM, hrow, hsame, hup, hb⟩ := hrel
        have HR2 := Lib.hid hrow
        have HS2 := Lib.hid hsame
        have HU2 := Lib.hid hup
        have HB2 := Lib.hid hb
        clear hrow hsame hup hb
        cases j with
        | zero =>
          have HA2 : Hid (Stab.Asc (·.1) M (n + 1)) := Lib.hid (Stab.Up.stop0 HU2.out)
          go_wp2_with fail
          go_quiet (fail)
          go_wp2_with fail
          go_roundw
          case rel => exact ⟨n + 1, M, by omega, .inl (by omega), by go_num, hM, HR2.out.same rfl (Nat.le_refl _), HS2.out, HA2.out, HB2.out.drewN _⟩
          case measure => simp [intOf]; omega
        | succ j =>
          have hj : j < M.length := by omega
          have hj1 : j + 1 < M.length := by omega
          obtain ⟨u, hu⟩ : ∃ u, M[j]? = some u := ⟨_, List.getElem?_eq_getElem hj⟩
          obtain ⟨v, hv⟩ : ∃ v, M[j + 1]? = some v := ⟨_, List.getElem?_eq_getElem hj1⟩
          obtain ⟨hu1, hu2⟩ := recs_at hu
          obtain ⟨hv1, hv2⟩ := recs_at hv
          obtain ⟨hcu1, _⟩ := HR2.out.2 _ _ hu1
          obtain ⟨hcv1, _⟩ := HR2.out.2 _ _ hv1
          have HU := Lib.hid hu
          have HV := Lib.hid hv
          clear hu hv hu1 hu2 hv1 hv2
          by_cases hgt : v.1 < u.1
          · go_wp2_with fail
            go_quiet (fail)
            obtain ⟨wq, hq⟩ : ∃ wq, wq = wr.drewN nq := ⟨_, rfl⟩
            rw [← hq]
            have HR3 : Hid (CellRow wq g (recs M)) := Lib.hid (by rw [hq]; exact HR2.out.same rfl (Nat.le_refl _))
            have HB3 : Hid (But g w1 wq) := Lib.hid (by rw [hq]; exact HB2.out.drewN _)
            clear hq hcu1 hcv1 HR2 HB2
            obtain ⟨hu1, hu2⟩ := recs_at HU.out
            obtain ⟨hv1, hv2⟩ := recs_at HV.out
            obtain ⟨hcu1, hfu1⟩ := HR3.out.2 _ _ hu1
            obtain ⟨hcu2, hfu2⟩ := HR3.out.2 _ _ hu2
            obtain ⟨hcv1, hfv1⟩ := HR3.out.2 _ _ hv1
            obtain ⟨hcv2, hfv2⟩ := HR3.out.2 _ _ hv2
            have hgl := HR3.out.1
            clear hu1 hu2 hv1 hv2
            go_wp2_with fail
            go_roundw
            case rel =>
              have hsz := recs_length M
              have hrow : CellRow ((((wq.setCell ⟨g, j * 2, none⟩ (.int .i64 v.1)).setCell ⟨g, j * 2 + 1, none⟩ (.int .i64 v.2)).setCell ⟨g, (j + 1) * 2, none⟩ (.int .i64 u.1)).setCell ⟨g, (j + 1) * 2 + 1, none⟩ (.int .i64 u.2)) g (recs (Stab.swap M j u v)) := by
                unfold Stab.swap
                rw [← recs_set (M.set j v) (j + 1) u (by rw [List.length_set]; exact hj1), ← recs_set M j v hj]
                exact (((HR3.out.set (j * 2) _ (by omega)).set (j * 2 + 1) _ (by simp; omega)).set ((j + 1) * 2) _ (by simp; omega)).set ((j + 1) * 2 + 1) _ (by simp; omega)
              exact ⟨j, Stab.swap M j u v, by omega, rfl, by rw [Stab.swap_length]; exact hM, hrow.same (heap_alloc_old _ _ hrow.1) (by simp), Stab.Same.swap HS2.out HU.out HV.out hgt, Stab.Up.step HU2.out hjn HU.out HV.out hgt,
                ((((HB3.out.setCell (j * 2) _).setCell (j * 2 + 1) _).setCell ((j + 1) * 2) _).setCell ((j + 1) * 2 + 1) _).trans (But.alloc g _ _)⟩
            case measure => simp [intOf]
          · have HA2 : Hid (Stab.Asc (·.1) M (n + 1)) := Lib.hid (Stab.Up.stop HU2.out hjn HU.out HV.out (by omega))
            go_wp2_with fail
            go_quiet (fail)
            go_wp2_with fail
            go_roundw
            case rel => exact ⟨n + 1, M, by omega, .inl (by omega), by go_num, hM, HR2.out.same rfl (Nat.le_refl _), HS2.out, HA2.out, HB2.out.drewN _⟩
            case measure => simp [intOf]; omega
    · have HO : Hid (Stab.Of (·.1) l L) := Lib.hid (Stab.Of.done HS.out (fun p q x y hp hq hx hy => HA.out p q x y hp (by
        rcases hnl with h | h
        · omega
        · omega) hx hy))
      go_wp2_with fail
      go_ret
      exact ⟨g, cap, L, rfl, hcap, HG.out, HR.out, HO.out, HB1.out.trans (HB.out.below HG.out HB1.out.size)⟩

end Go.Proofs.Ytebipiehkmhaiaa
