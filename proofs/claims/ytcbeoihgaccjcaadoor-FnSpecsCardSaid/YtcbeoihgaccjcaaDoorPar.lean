/- The model's ParseSpecs, by its contract. -/
import Derived.Test.YtcbeoihgaccjcaaDoorIPar
import Derived.Test.YtcbeoihgaccjcaaDoorSplitS
import Derived.Test.YtcbeoihgaccjcaaDoorOwnFlat
import Derived.Deep.LoopGhost
import Derived.Deep.CutRange
namespace Go.Proofs.YtcbeoihgaccjcaaDoor
open Go.RowKit

attribute [local go_sem ↓ high] builtin_append_held

/-- One byte of a key, read loosely. -/
def looseStep (j : Nat) (q : Key4) (b : UInt8) : Key4 :=
  if j = 0 ∧ 48 ≤ b.toNat ∧ b.toNat ≤ 57 then ((b.toNat : Int) - 48, q.2) else if b = 110 then (q.1, true, q.2.2) else if b = 100 then (q.1, q.2.1, true, q.2.2.2) else if b = 102 then (q.1, q.2.1, q.2.2.1, true) else q
def looseL (l : List UInt8) : Nat → Key4
  | 0 => (-1, false, false, false)
  | j + 1 => looseStep j (looseL l j) (l.getD j 0)
def loose (x : ByteArray) : Key4 := looseL x.data.toList x.size

theorem loose_key {x : ByteArray} {q : Key4} (h : 0 ≤ q.1 ∧ q.1 ≤ 5) (hx : x.data.toList = keyText q) : loose x = q := by
  have hl : x.size = (keyText q).length := by rw [← hx]; exact Array.length_toList.symm
  unfold loose
  rw [hx, hl]
  obtain ⟨n, a, b, c⟩ := q
  have h0 : 0 ≤ n := h.1
  have h5 : n ≤ 5 := h.2
  have : n = 0 ∨ n = 1 ∨ n = 2 ∨ n = 3 ∨ n = 4 ∨ n = 5 := by omega
  rcases this with rfl | rfl | rfl | rfl | rfl | rfl <;> cases a <;> cases b <;> cases c <;> (simp only [keyText]; rw [Lib.decDigits_one (by decide)]; decide)

theorem loose_all {P : List ByteArray} {ks : List Key4} (hok : OkS ks) (h : AllKeys P ks) : P.map loose = ks := by
  refine List.ext_getElem (by simp [h.1]) fun j h1 h2 => ?_
  have hj : j < P.length := by simpa using h1
  simp only [List.getElem_map]
  have hb := hok.2 ks[j] (List.getElem_mem h2)
  exact loose_key hb ((keyIs_text hb.1).1 (h.2 j _ _ (List.getElem?_eq_getElem hj) (List.getElem?_eq_getElem h2)))

theorem cell_four_new (w : World) (x y z u : Value) (t : TypeId) : ∀ j v, [x, y, z, u][j]? = some v → (w.alloc (.cells #[x, y, z, u] t)).cell? ((⟨w.heap.size, 0, none⟩ : Addr).add j) = some v := by
  intro j v hu
  have hrow : RowIs (w.alloc (.cells #[x, y, z, u] t)) w.heap.size t [x, y, z, u] := heap_alloc_new w _
  have e : (⟨w.heap.size, 0, none⟩ : Addr).add j = ⟨w.heap.size, j, none⟩ := by
    unfold Addr.add; simp; omega
  rw [e, hrow.cell j]
  exact hu

theorem own_same {w w' : World} {base : Nat} {e : TypeId} {size n : Nat} {v : Value} {xs : List Value} (h : w.ownsRow base e size v n xs) (hs : ∀ g, v.ownBlock = some g → w'.heap[g]? = w.heap[g]?) : w'.ownsRow base e size v n xs := by
  refine ⟨h.1, ?_⟩
  rcases h.2 with hn | ⟨g, cap, cur, rfl, h1, hg, rest⟩
  · exact .inl hn
  · exact .inr ⟨g, cap, cur, rfl, h1, (hs g rfl).trans hg, rest⟩

/-- 'append(out, k)' of one key to a row of its own: only that row moves. -/
theorem appendKey (base : Nat) (v : Value) (L : List Key4) (q : Key4) (w : World) (h : w.ownsRow base 32 4 v L.length (keys L)) (hb : base ≤ w.heap.size) (hn : L.length ≤ 1048576) :
    ∃ v' w', (heldAppend #[24, 24] 24 #[v, .slice (some ⟨w.heap.size, 0, none⟩) 1 1]).run Tryd.prog (w.alloc (.cells #[.int .i64 q.1, .bool q.2.1, .bool q.2.2.1, .bool q.2.2.2] 32)) = .ok v' w' ∧
      w'.ownsRow base 32 4 v' (L ++ [q]).length (keys (L ++ [q])) ∧ Below base w w' ∧
      (∀ k, k < w.heap.size → v.ownBlock ≠ some k → w'.heap[k]? = w.heap[k]?) ∧ (∀ q, v'.ownBlock = some q → v.ownBlock = some q ∨ w.heap.size ≤ q) := by
  obtain ⟨i0, hi, hz0, hz1, hz2⟩ := info_parts infoKeySpec3
  obtain ⟨v', w', hrun, hown, hgrow, hnil, hob⟩ := run_append_own_at (P := Tryd.prog) (w := w.alloc (.cells #[.int .i64 q.1, .bool q.2.1, .bool q.2.2.1, .bool q.2.2.2] 32)) base 24 24 32 i0 (.agg #[.int .i64 0, .bool false, .bool false, .bool false]) 4 16 Tryd.underlying24 hi hz0 hz1 hz2 rfl (by decide)
    _ L.length (keys L) (World.ownsRow.alloc h _) ⟨w.heap.size, 0, none⟩ 1 1 [.int .i64 q.1, .bool q.2.1, .bool q.2.2.1, .bool q.2.2.2] rfl (cell_four_new w _ _ _ _ _) (by simp [Value.oneCell']) (by unfold maxLen; omega) (by omega) (by simp; omega)
  refine ⟨v', w', hrun, ?_, ((Below.refl base w).alloc hb _).grown hgrow (by simp; omega) (fun j e => (h.lt j e).1), fun k hk hne => ?_, fun q hq => ?_⟩
  · rw [keys_append, List.length_append]
    exact hown
  · rw [hgrow.block k (by simp; omega) (Ne.symm hne)]
    exact ((Below.refl w.heap.size w).alloc (Nat.le_refl _) _).block k hk
  · rcases hob with e | e
    · exact .inl (by rw [← e]; exact hq)
    · rw [hq] at e
      have := Option.some.inj e
      simp at this
      exact .inr (by omega)

def rowK (q : Key4) : List Value := [.int .i64 q.1, .bool q.2.1, .bool q.2.2.1, .bool q.2.2.2]

set_option maxRecDepth 100000 in
set_option maxHeartbeats 40000000 in
theorem specPar_any (s : ByteArray) (w : World) (hs : s.size ≤ 1048576) :
    Calls Tryd.prog 12 #[.string s] w (ParC s w) := by
  have HB0 := Lib.hid (show Below w.heap.size w (w.alloc (.cells #[] 32)) from (Below.refl _ w).alloc (Nat.le_refl _) _)
  by_cases h40 : s.size ≤ 40
  · have h40z : ¬ (40 : Int) < (s.size : Int) := by omega
    obtain ⟨P, hP⟩ : ∃ P, P = pieces s 44 := ⟨_, rfl⟩
    have HSP := Lib.hid (fun W => l1Split_any s 44 W (by omega))
    rw [← hP] at HSP
    have hn1 : 1 ≤ P.length := by rw [hP]; exact pieces_pos s 44
    have hn2 : P.length ≤ 41 := by rw [hP]; have := pieces_len s 44; omega
    have HSM : Hid (∀ (j : Nat) x, P[j]? = some x → x.size ≤ 40) := Lib.hid (fun j x hx => by rw [hP] at hx; have := pieces_le s 44 j x hx; omega)
    have HPE := Lib.hid hP
    clear hP
    have HOWN0 : Hid ((w.alloc (.cells #[] 32)).ownsRow w.heap.size 32 4 (.slice (some ⟨w.heap.size, 0, none⟩) 0 0) 0 (keys [])) := Lib.hid (World.ownsRow_made w #[] 0 (Nat.le_refl _) (by decide) rfl)
    go_enter Tryd.func12, Tryd.ntmps12
    go_wp2_with fail
    refine (HSP.out _).mono ?_
    rintro e w1 ⟨v, rfl, hown, hb⟩
    obtain ⟨gp, cp, rfl, hgp, hcp, hrow⟩ := strsAt_own' hn1 hown
    have hgp2 : w.heap.size + 1 ≤ gp := by simpa using hgp
    have HB1 := Lib.hid (HB0.out.trans (hb.mono HB0.out.size))
    have RP1 := Lib.hid hrow
    have HOWN1 := Lib.hid (own_same HOWN0.out (fun g hg => hb.block g (World.ownsRow.lt HOWN0.out g hg).2))
    clear hown hb hrow HSP HOWN0 hgp
    go_wp2_with fail
    go_loopw [4, 6] (fun o i wr => ∃ (k : Nat) (ov : Value), k ≤ P.length ∧ i = .int .i64 k ∧ ov = o ∧ wr.ownsRow w.heap.size 32 4 ov ((P.take k).map loose).length (keys ((P.take k).map loose)) ∧ ov.ownBlock ≠ some gp ∧ CellRow wr gp (strs P) ∧ Below w.heap.size w wr) (fun _ i _ => P.length - (intOf i).toNat)
    case atStart => exact ⟨0, _, Nat.zero_le _, rfl, rfl, HOWN1.out, by simp [Value.ownBlock]; omega, RP1.out, HB1.out⟩
    case round =>
      obtain ⟨k, ov, hk, rfl, rfl, hown, hne, hrow, hb⟩ := hrel
      obtain ⟨wo, rfl⟩ : ∃ wo, wo = wr := ⟨_, rfl⟩
      have HOWN := Lib.hid hown
      have HNE := Lib.hid hne
      have HRP := Lib.hid hrow
      have HB := Lib.hid hb
      clear hown hne hrow hb HOWN1 RP1 HB1
      by_cases hlt : k < P.length
      · have hltz : (k : Int) < (P.length : Int) := by omega
        obtain ⟨x, hx⟩ : ∃ x, P[k]? = some x := ⟨_, List.getElem?_eq_getElem hlt⟩
        have hxs := HSM.out k x hx
        have HX := Lib.hid hx
        obtain ⟨w2, hw2⟩ : ∃ w2, w2 = wo.alloc (.cells #[.int .i64 (-1), .bool false, .bool false, .bool false] 32) := ⟨_, rfl⟩
        have HA : Hid (Below wo.heap.size wo w2) := Lib.hid (by rw [hw2]; exact (Below.refl _ wo).alloc (Nat.le_refl _) _)
        have HRK : Hid (RowIs w2 wo.heap.size 32 (rowK (looseL x.data.toList 0))) := Lib.hid (by rw [hw2]; exact heap_alloc_new wo _)
        have hcx0 := (HRP.out.2 k _ (strs_at hx)).1
        clear hx
        go_wp2_with fail
        rw [← hw2]
        clear hw2
        go_loopg [8] x.size (fun kx i wr => ∃ j : Nat, j ≤ x.size ∧ x.size - j ≤ kx ∧ i = .int .i64 j ∧ RowIs wr wo.heap.size 32 (rowK (looseL x.data.toList j)) ∧ But wo.heap.size w2 wr)
        case atStart => exact ⟨0, Nat.zero_le _, Nat.le_refl _, rfl, HRK.out, But.refl _ _⟩
        case round =>
          obtain ⟨j, hj, hkx, rfl, hrk, hbut⟩ := hrel
          have hgk : gp < wo.heap.size := HRP.out.1
          have HRPi : Hid (CellRow wr gp (strs P)) := Lib.hid ((HRP.out.below HA.out hgk).but hbut (by omega))
          have hcx : wr.cell? ⟨gp, k, none⟩ = some (.string x) := (HRPi.out.2 k _ (strs_at HX.out)).1
          have HRK2 := Lib.hid hrk
          have HBT := Lib.hid hbut
          have hk0 : wr.cell? ⟨wo.heap.size, 0, none⟩ = some (.int .i64 (looseL x.data.toList j).1) := hrk.cell 0
          have hk1 : wr.cell? ⟨wo.heap.size, 1, none⟩ = some (.bool (looseL x.data.toList j).2.1) := hrk.cell 1
          have hk2 : wr.cell? ⟨wo.heap.size, 2, none⟩ = some (.bool (looseL x.data.toList j).2.2.1) := hrk.cell 2
          have hk3 : wr.cell? ⟨wo.heap.size, 3, none⟩ = some (.bool (looseL x.data.toList j).2.2.2) := hrk.cell 3
          have hf0 := hrk.frozen 0
          have hf1 := hrk.frozen 1
          have hf2 := hrk.frozen 2
          have hf3 := hrk.frozen 3
          clear hrk hbut
          by_cases hjl : j < x.size
          · have hjlz : (j : Int) < (x.size : Int) := by omega
            have hby := x[j].toNat_lt
            have HG : Hid (x.data.toList.getD j 0 = x[j]) := Lib.hid (by
              have : x.data.toList[j]? = some x.data[j] := by rw [Array.getElem?_toList]; exact Array.getElem?_eq_getElem hjl
              simp [List.getD, this]; rfl)
            have HNX : Hid (looseL x.data.toList (j + 1) = looseStep j (looseL x.data.toList j) (x.data.toList.getD j 0)) := Lib.hid rfl
            go_upto_region 13 with fail
            go_cut [39] from 24 to 65 (fun sd wx => sd = .bool (decide (j = 0 ∧ 48 ≤ x[j].toNat ∧ x[j].toNat ≤ 57)) ∧ wx = wr)
            case first =>
              by_cases hj0 : j = 0
              · have hjz : ((j : Int) == 0) = true := by rw [hj0]; rfl
                have HJ0 := Lib.hid hj0
                clear hj0
                by_cases hlo : 48 ≤ x[j].toNat
                · have hloz : (48 : Int) ≤ (x[j].toNat : Int) := by omega
                  have HLO := Lib.hid hlo
                  by_cases hhi : x[j].toNat ≤ 57
                  · have hhiz : (x[j].toNat : Int) ≤ 57 := by omega
                    have HHI := Lib.hid hhi
                    go_wp2_with fail
                    go_meet
                    exact ⟨by rw [decide_eq_true (show j = 0 ∧ 48 ≤ x[j].toNat ∧ x[j].toNat ≤ 57 from ⟨HJ0.out, HLO.out, HHI.out⟩)], rfl⟩
                  · have hhiz : ¬ (x[j].toNat : Int) ≤ 57 := by omega
                    have HHI := Lib.hid hhi
                    go_wp2_with fail
                    go_meet
                    exact ⟨by rw [decide_eq_false (show ¬ (j = 0 ∧ 48 ≤ x[j].toNat ∧ x[j].toNat ≤ 57) from fun h => HHI.out h.2.2)], rfl⟩
                · have hloz : ¬ (48 : Int) ≤ (x[j].toNat : Int) := by omega
                  have HLO := Lib.hid hlo
                  go_wp2_with fail
                  go_meet
                  exact ⟨by rw [decide_eq_false (show ¬ (j = 0 ∧ 48 ≤ x[j].toNat ∧ x[j].toNat ≤ 57) from fun h => HLO.out h.2.1)], rfl⟩
              · have hjz : ((j : Int) == 0) = false := by rw [beq_eq_false_iff_ne]; omega
                have HJ0 := Lib.hid hj0
                clear hj0
                go_wp2_with fail
                go_meet
                exact ⟨by rw [decide_eq_false (show ¬ (j = 0 ∧ 48 ≤ x[j].toNat ∧ x[j].toNat ≤ 57) from fun h => HJ0.out h.1)], rfl⟩
            case rest =>
              obtain ⟨rfl, rfl⟩ := hcut
              by_cases hdg : j = 0 ∧ 48 ≤ x[j].toNat ∧ x[j].toNat ≤ 57
              · have w8 : IntKind.u8.wrap ((x[j].toNat : Int) - 48) = (x[j].toNat : Int) - 48 := by simp [IntKind.wrap, IntKind.bits, IntKind.signed]; omega
                have w64 : IntKind.i64.wrap ((x[j].toNat : Int) - 48) = (x[j].toNat : Int) - 48 := by rw [IntKind.wrap_i64]; omega
                have HD := Lib.hid hdg
                rw [decide_eq_true hdg]
                clear hdg
                have HST : Hid (looseL x.data.toList (j + 1) = ((x[j].toNat : Int) - 48, (looseL x.data.toList j).2)) := Lib.hid (by
                  show looseStep j (looseL x.data.toList j) (x.data.toList.getD j 0) = _
                  rw [HG.out]
                  unfold looseStep
                  rw [if_pos HD.out])
                clear HG
                go_wp2_with fail
                go_roundg (x.size - (j + 1))
                case measure => omega
                case rel =>
                  refine ⟨j + 1, by omega, Nat.le_refl _, by go_num, ?_, HBT.out.setCell 0 _⟩
                  rw [HST.out]
                  exact HRK2.out.stored 0 _

              · have HD := Lib.hid hdg
                rw [decide_eq_false hdg]
                clear hdg
                by_cases hb110 : x[j].toNat = 110
                · have hz110 : ((x[j].toNat : Int) == 110) = true := by rw [hb110]; rfl
                  have hx110 : x[j] = 110 := UInt8.toNat_inj.1 hb110
                  have HST : Hid (looseL x.data.toList (j + 1) = ((looseL x.data.toList j).1, true, (looseL x.data.toList j).2.2)) := Lib.hid (by
                    show looseStep j (looseL x.data.toList j) (x.data.toList.getD j 0) = _
                    rw [HG.out]
                    unfold looseStep
                    rw [if_neg HD.out]; rw [if_pos hx110])
                  clear HG
                  go_wp2_with fail
                  go_roundg (x.size - (j + 1))
                  case measure => omega
                  case rel =>
                    refine ⟨j + 1, by omega, Nat.le_refl _, by go_num, ?_, HBT.out.setCell 1 _⟩
                    rw [HST.out]
                    exact HRK2.out.stored 1 _
                · have hz110 : ((x[j].toNat : Int) == 110) = false := by rw [beq_eq_false_iff_ne]; omega
                  by_cases hb100 : x[j].toNat = 100
                  · have hz100 : ((x[j].toNat : Int) == 100) = true := by rw [hb100]; rfl
                    have hx100 : x[j] = 100 := UInt8.toNat_inj.1 hb100
                    have HST : Hid (looseL x.data.toList (j + 1) = ((looseL x.data.toList j).1, (looseL x.data.toList j).2.1, true, (looseL x.data.toList j).2.2.2)) := Lib.hid (by
                      show looseStep j (looseL x.data.toList j) (x.data.toList.getD j 0) = _
                      rw [HG.out]
                      unfold looseStep
                      rw [if_neg HD.out]; rw [if_neg (by intro e; rw [e] at hb110; exact hb110 rfl)]; rw [if_pos hx100])
                    clear HG
                    go_wp2_with fail
                    go_roundg (x.size - (j + 1))
                    case measure => omega
                    case rel =>
                      refine ⟨j + 1, by omega, Nat.le_refl _, by go_num, ?_, HBT.out.setCell 2 _⟩
                      rw [HST.out]
                      exact HRK2.out.stored 2 _
                  · have hz100 : ((x[j].toNat : Int) == 100) = false := by rw [beq_eq_false_iff_ne]; omega
                    by_cases hb102 : x[j].toNat = 102
                    · have hz102 : ((x[j].toNat : Int) == 102) = true := by rw [hb102]; rfl
                      have hx102 : x[j] = 102 := UInt8.toNat_inj.1 hb102
                      have HST : Hid (looseL x.data.toList (j + 1) = ((looseL x.data.toList j).1, (looseL x.data.toList j).2.1, (looseL x.data.toList j).2.2.1, true)) := Lib.hid (by
                        show looseStep j (looseL x.data.toList j) (x.data.toList.getD j 0) = _
                        rw [HG.out]
                        unfold looseStep
                        rw [if_neg HD.out]; rw [if_neg (by intro e; rw [e] at hb110; exact hb110 rfl)]; rw [if_neg (by intro e; rw [e] at hb100; exact hb100 rfl)]; rw [if_pos hx102])
                      clear HG
                      go_wp2_with fail
                      go_roundg (x.size - (j + 1))
                      case measure => omega
                      case rel =>
                        refine ⟨j + 1, by omega, Nat.le_refl _, by go_num, ?_, HBT.out.setCell 3 _⟩
                        rw [HST.out]
                        exact HRK2.out.stored 3 _
                    · have hz102 : ((x[j].toNat : Int) == 102) = false := by rw [beq_eq_false_iff_ne]; omega
                      have HST : Hid (looseL x.data.toList (j + 1) = (looseL x.data.toList j)) := Lib.hid (by
                        show looseStep j (looseL x.data.toList j) (x.data.toList.getD j 0) = _
                        rw [HG.out]
                        unfold looseStep
                        rw [if_neg HD.out]; rw [if_neg (by intro e; rw [e] at hb110; exact hb110 rfl)]; rw [if_neg (by intro e; rw [e] at hb100; exact hb100 rfl)]; rw [if_neg (by intro e; rw [e] at hb102; exact hb102 rfl)])
                      clear HG
                      go_wp2_with fail
                      go_roundg (x.size - (j + 1))
                      case measure => omega
                      case rel =>
                        refine ⟨j + 1, by omega, Nat.le_refl _, by go_num, ?_, HBT.out⟩
                        rw [HST.out]
                        exact HRK2.out

          · have hjlz : ¬ (j : Int) < (x.size : Int) := by omega
            obtain rfl : j = x.size := by omega
            have HLOO : Hid (looseL x.data.toList x.size = loose x) := Lib.hid rfl
            have HOi : Hid (wr.ownsRow w.heap.size 32 4 ov ((P.take k).map loose).length (keys ((P.take k).map loose))) := Lib.hid (own_same HOWN.out (fun g hg => by
              have hl := (World.ownsRow.lt HOWN.out g hg).2
              exact (HBT.out.block g (Nat.lt_of_lt_of_le hl HA.out.size) (by omega)).trans (HA.out.block g hl)))
            have hsz2 : w2.heap.size ≤ wr.heap.size := HBT.out.size
            have hsz1 : wo.heap.size ≤ w2.heap.size := HA.out.size
            have hsz0 : w.heap.size ≤ wo.heap.size := HB.out.size
            have HBi : Hid (Below w.heap.size w wr) := Lib.hid ((HB.out.trans (HA.out.mono hsz0)).trans (HBT.out.below hsz0 (by omega)))
            obtain ⟨v', w6, hrun, hown6, hbel, hfr, hob⟩ := appendKey w.heap.size ov ((P.take k).map loose) (looseL x.data.toList x.size) wr HOi.out (by omega) (by simp; omega)
            have HTK : Hid ((P.take k).map loose ++ [looseL x.data.toList x.size] = (P.take (k + 1)).map loose) := Lib.hid (by rw [List.take_add_one, HX.out, HLOO.out]; simp)
            have HO6 : Hid (w6.ownsRow w.heap.size 32 4 v' ((P.take (k + 1)).map loose).length (keys ((P.take (k + 1)).map loose))) := Lib.hid (by rw [← HTK.out]; exact hown6)
            have HB6 := Lib.hid (HBi.out.trans hbel)
            have HR6 : Hid (CellRow w6 gp (strs P)) := Lib.hid (HRPi.out.same (hfr gp HRPi.out.1 HNE.out) (by
              have := hbel.size; exact this))
            have HN6 : Hid (v'.ownBlock ≠ some gp) := Lib.hid (fun e => by
              rcases hob gp e with h | h
              · exact HNE.out h
              · have := HRP.out.1; omega)
            clear hown6 hbel hfr hob HOi HBi HRPi
            go_wp2_with fail
            go_roundw
            case rel => exact ⟨k + 1, v', by omega, by go_num, rfl, HO6.out, HN6.out, HR6.out, HB6.out⟩
            case measure => simp [intOf]; omega
      · have hltz : ¬ (k : Int) < (P.length : Int) := by omega
        obtain rfl : k = P.length := by omega
        have HOO : Hid (wo.ownsRow w.heap.size 32 4 ov (P.map loose).length (keys (P.map loose))) := Lib.hid (by have := HOWN.out; rwa [List.take_length] at this)
        have hlen : (P.map loose).length = P.length := by simp
        obtain ⟨g, cap, rfl, hg, hcap, hrow⟩ : ∃ g cap, ov = .slice (some ⟨g, 0, none⟩) (P.map loose).length cap ∧ w.heap.size ≤ g ∧ (P.map loose).length ≤ cap ∧ CellRow wo g (keys (P.map loose)) := by
          obtain ⟨m, hm⟩ : ∃ m, (P.map loose).length = m + 1 := ⟨P.length - 1, by omega⟩
          have h := HOO.out
          rw [hm] at h
          obtain ⟨g, cap, rfl⟩ := ownsRow_succ h
          obtain ⟨h1, h2, h3⟩ := CellRow.of_own h
          exact ⟨g, cap, by rw [hm], h1, by omega, h3⟩
        have HROW := Lib.hid hrow
        obtain ⟨O, hO⟩ : ∃ O, O = P.map loose := ⟨_, rfl⟩
        rw [← hO] at hlen hcap HROW ⊢
        have HO := Lib.hid hO
        have HLEN := Lib.hid hlen
        clear hlen
        have HUNI : Hid (∀ ks', ParsedOf s ks' → O = ks') := Lib.hid (fun ks' h => by
          rw [HO.out]
          exact loose_all h.1 (by rw [HPE.out]; exact (parsed_iff h.1).1 h.2))
        have HC := Lib.hid (l2Specs_any (.slice (some ⟨g, 0, none⟩) O.length cap) O wo (HROW.out.flat hcap) (by have := HLEN.out; omega))
        clear hrow hO HOWN HOO HRP HNE
        by_cases hok : OkS O
        · have HT := Lib.hid (fun W (h : FlatAt W (.slice (some ⟨g, 0, none⟩) O.length cap) O.length (keys O)) => l2Text_any (.slice (some ⟨g, 0, none⟩) O.length cap) O W h (by have := HLEN.out; omega) hok.2)
          rw [decide_eq_true hok] at HC
          by_cases heq : specText O = s.data.toList
          · have hq : (specText O == s.toList) = true := str_eq_true heq
            have HPA : Hid (ParsedOf s O) := Lib.hid ⟨hok, heq⟩
            clear hok heq
            go_wp2_with fail
            refine (HC.out).mono ?_
            rintro e w3 ⟨rfl, hb3⟩
            have HR3 := Lib.hid (HROW.out.below hb3 HROW.out.1)
            have HB3 := Lib.hid (HB.out.trans (hb3.mono HB.out.size))
            clear hb3
            go_wp2_with fail
            refine (HT.out _ (HR3.out.flat hcap)).mono ?_
            rintro e w4 ⟨rfl, hb4⟩
            have HQ : Hid (ParC s w (.returned (.tuple #[.slice (some ⟨g, 0, none⟩) O.length cap, .bool true])) w4) := Lib.hid ⟨g, cap, O, true, rfl, hcap, hg, HR3.out.below hb4 HR3.out.1, .inl ⟨rfl, HPA.out⟩, HB3.out.trans (hb4.mono HB3.out.size)⟩
            clear hb4
            go_wp2_with fail
            go_ret2
            exact HQ.out
          · have hq : (specText O == s.toList) = false := str_eq_false heq
            have HNO : Hid (∀ ks', ¬ ParsedOf s ks') := Lib.hid (fun ks' h => by
              have e := HUNI.out ks' h
              subst e
              exact heq h.2)
            clear hok heq
            go_wp2_with fail
            refine (HC.out).mono ?_
            rintro e w3 ⟨rfl, hb3⟩
            have HR3 := Lib.hid (HROW.out.below hb3 HROW.out.1)
            have HB3 := Lib.hid (HB.out.trans (hb3.mono HB.out.size))
            clear hb3
            go_wp2_with fail
            refine (HT.out _ (HR3.out.flat hcap)).mono ?_
            rintro e w4 ⟨rfl, hb4⟩
            have HQ := Lib.hid (parC_none (HB3.out.trans (hb4.mono HB3.out.size)) HNO.out)
            clear hb4
            go_wp2_with fail
            go_ret2
            exact HQ.out
        · rw [decide_eq_false hok] at HC
          have HNO : Hid (∀ ks', ¬ ParsedOf s ks') := Lib.hid (fun ks' h => by
            have e := HUNI.out ks' h
            subst e
            exact hok h.1)
          clear hok
          go_wp2_with fail
          refine (HC.out).mono ?_
          rintro e w3 ⟨rfl, hb3⟩
          have HQ := Lib.hid (parC_none (HB.out.trans (hb3.mono HB.out.size)) HNO.out)
          clear hb3
          go_wp2_with fail
          go_ret2
          exact HQ.out
  · have h40z : (40 : Int) < (s.size : Int) := by omega
    have HNO : Hid (∀ ks', ¬ ParsedOf s ks') := Lib.hid (fun ks' h => by have := parsed_small h; omega)
    have HQ := Lib.hid (parC_none (Below.refl w.heap.size w) HNO.out)
    go_enter Tryd.func12, Tryd.ntmps12
    go_wp2_with fail
    go_ret2
    exact HQ.out

end Go.Proofs.YtcbeoihgaccjcaaDoor
