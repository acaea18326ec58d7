/- The model's RadixPass, by its contract. -/
import Derived.Test.YtebipiehkmhaiaaSRad
import Derived.Test.YtebipiehkmhaiaaInsC
namespace Go.Proofs.Ytebipiehkmhaiaa
open Go.RowKit Rx P
set_option linter.unusedVariables false
attribute [local go_sem ↓ high] builtin_append_held

set_option maxRecDepth 100000 in
set_option maxHeartbeats 8000000 in
theorem l8Pass_any (b' o c : Nat) (l : List (Int × Int)) (b p : Nat) (w : World) (hv : FlatAt w (.slice (some ⟨b', o, none⟩) l.length c) l.length (recs l)) (h64 : l.length ≤ 64) (hk : ∀ q ∈ l, -100000 ≤ q.1 ∧ q.1 ≤ 100000) (hb : 2 ≤ b) (hb2 : b ≤ 256) (hp : p ≤ 17) :
    Calls Try.prog 109 #[.slice (some ⟨b', o, none⟩) l.length c, .int .i64 (b : Int), .int .i64 (p : Int)] w (RowOfC (bk (dgR b p) l b) w) := by
  have HREAD : Hid (∀ (k : Nat) q, l[k]? = some q → b' < w.heap.size ∧ w.cell? ⟨b', o + k * 2, none⟩ = some (.int .i64 q.1) ∧ w.cell? ⟨b', o + k * 2 + 1, none⟩ = some (.int .i64 q.2)) := Lib.hid (fun k q hq => by
    obtain ⟨a0, c0, e0, _, h⟩ := hv
    simp at e0
    obtain ⟨rfl, rfl⟩ := e0
    obtain ⟨b2, o2, e2, h1, h2, h3⟩ := recs_el h hq
    obtain rfl : b' = b2 := congrArg Addr.block (Option.some.inj e2)
    obtain rfl : o = o2 := congrArg Addr.off (Option.some.inj e2)
    exact ⟨h1, h2, h3⟩)
  have HD : Hid (∀ q ∈ l, ∀ W, Calls Try.prog 108 #[.int .i64 q.1, .int .i64 (b : Int), .int .i64 (p : Int)] W fun e w' => e = .returned (.int .i64 (dgR b p q : Nat)) ∧ w' = W) := Lib.hid (fun q hq W => l8Digit_any q.1 (sk q.1) b p W (sk_eq (hk q hq).1) hb hb2 hp (sk_le (hk q hq).2))
  obtain ⟨M, hM⟩ : ∃ M, M = bk (dgR b p) l b := ⟨_, rfl⟩
  have HM : Hid (∀ O, Stab.Of (fun a => (dgR b p a : Int)) l O → O = M) := Lib.hid (fun O hO => by rw [hM]; exact hO.uniq (bk_of (f := dgR b p) fun x _ => dg_lt (by omega) p _))
  rw [← hM]
  have HS0 := Lib.hid (HeldC.start w w.heap.size (Nat.le_refl _))
  have HB0 : Hid (Below w.heap.size w (w.alloc (.cells #[] 45))) := Lib.hid ((Below.refl _ _).alloc (Nat.le_refl _) _)
  clear hM hv hk hb hb2 hp
  generalize dgR b p = f at *
  go_enter Try.func109, Try.ntmps109
  go_wp2_with fail
  go_loopw [7, 8, 9] (fun out iv _ wr => ∃ (i : Nat) (O : List (Int × Int)), i ≤ l.length ∧ iv = .int .i64 i ∧ HeldC w.heap.size wr out O ∧ Stab.Of (fun a => (f a : Int)) (l.take i) O ∧ Below w.heap.size w wr) (fun _ iv _ _ => l.length - (intOf iv).toNat)
  case atStart => exact ⟨0, [], Nat.zero_le _, rfl, HS0.out, ⟨List.Pairwise.nil, fun _ => rfl⟩, HB0.out⟩
  case round =>
    obtain ⟨i, O, hil, rfl, hO, hof, hb⟩ := hrel
    have HO := Lib.hid hO
    have HB := Lib.hid hb
    have HOF := Lib.hid hof
    have hOl : O.length = i := by rw [hof.length, List.length_take]; omega
    obtain ⟨go, co, rfl, hgo, hco, hrow⟩ := HO.out.row
    have HROW := Lib.hid hrow
    clear hO hb hof hrow HS0 HB0
    by_cases hlt : i < l.length
    · obtain ⟨⟨x, y⟩, hx⟩ : ∃ q, l[i]? = some q := ⟨_, List.getElem?_eq_getElem hlt⟩
      obtain ⟨hbb, hcx0, hcy0⟩ := HREAD.out i _ hx
      have hxm := List.mem_of_getElem? hx
      have HTK : Hid (l.take (i + 1) = l.take i ++ [(x, y)]) := Lib.hid (by rw [List.take_add_one, hx]; rfl)
      have HDX := Lib.hid (HD.out (x, y) hxm)
      have HMEM : Hid (∀ q ∈ O, q ∈ l) := Lib.hid (fun q hq => List.mem_of_mem_take ((HOF.out.mem q).1 hq))
      have HCX0 : Hid (∀ W, Below w.heap.size w W → W.cell? ⟨b', o + i * 2, none⟩ = some (.int .i64 x) ∧ W.cell? ⟨b', o + i * 2 + 1, none⟩ = some (.int .i64 y)) := Lib.hid (fun W hW => ⟨(hW.cell (p := ⟨b', o + i * 2, none⟩) hbb).trans hcx0, (hW.cell (p := ⟨b', o + i * 2 + 1, none⟩) hbb).trans hcy0⟩)
      have hiz : (i : Int) < l.length := by omega
      have hO64 : O.length ≤ 64 := by omega
      have HOL := Lib.hid hOl
      simp only at HDX
      clear hx hxm hcx0 hcy0 hOl
      go_wp2_with fail
      go_loopw [9] (fun kv ws => ∃ (k : Nat), k ≤ O.length ∧ kv = .int .i64 k ∧ (∀ t q, k ≤ t → O[t]? = some q → (f (x, y) : Int) < (f q : Int)) ∧ CellRow ws go (recs O) ∧ Below w.heap.size w ws) (fun kv _ => (intOf kv).toNat)
      case atStart => exact ⟨O.length, Nat.le_refl _, rfl, fun t q ht hq => by rw [List.getElem?_eq_none ht] at hq; simp at hq, HROW.out, HB.out⟩
      case round =>
        obtain ⟨k, hk, rfl, hgt, hrow, hb⟩ := hrel
        have HGT := Lib.hid hgt
        have HR := Lib.hid hrow
        have HBW := Lib.hid hb
        clear hgt hrow hb HROW HB
        -- what stands behind the loop
        have HEND : Hid ((k = 0 ∨ ∃ q, O[k - 1]? = some q ∧ (f q : Int) ≤ (f (x, y) : Int)) → Stab.Of (fun a => (f a : Int)) (l.take (i + 1)) (O.take k ++ [(x, y)] ++ O.drop k)) := Lib.hid (fun h => by
          rw [HTK.out]; exact of_insert HOF.out hk HGT.out h)
        obtain ⟨cx1, cx2⟩ := HCX0.out wr HBW.out
        have hkz : (k : Int) ≤ (O.length : Int) := by omega
        cases k with
        | zero =>
          have HN := Lib.hid (HEND.out (.inl rfl))
          clear HEND HGT HDX HD HMEM HTK HOF
          go_wp2_with fail
          go_quiet (fail)
          have HR2 : Hid (CellRow (wr.drewN nq) go (recs O)) := Lib.hid (HR.out.same rfl (Nat.le_refl _))
          have HB2 : Hid (Below w.heap.size w (wr.drewN nq)) := Lib.hid (HBW.out.trans ⟨rfl, rfl, rfl, Nat.le_refl _, fun _ _ => rfl⟩)
          generalize wr.drewN nq = w2 at HR2 HB2 ⊢
          obtain ⟨cx3, cx4⟩ := HCX0.out w2 HB2.out
          have hlb2 : b' < w2.heap.size := Nat.lt_of_lt_of_le hbb HB2.out.size
          clear HR HBW HO cx1 cx2
          by_cases hco2 : co = 0
          · skip
            subst hco2
            obtain ⟨v3, v3', v3'', w3, w3', w3'', v1, v1', v1'', v2, v2', v2'', w1, w1', w1'', wz, wz', wz'', I⟩ := insertsC go 0 0 0 0 0 x y O w2 HR2.out hk (by omega) (by omega) (fun h => by omega)
            obtain ⟨a1, a2, a3, b1, b2, b3, c1, c2, c3, ha, hb, hc, blate⟩ := I
            have hws := HB2.out.size
            obtain ⟨cx5, cx6⟩ := HCX0.out w1 (HB2.out.trans (blate.mono hws))
            have HA : Hid (HeldC w.heap.size w3 v3 (O.take (0) ++ [(x, y)] ++ O.drop (0)) ∧ Below w.heap.size w w3) := Lib.hid ⟨ha.1.lower hws, HB2.out.trans (ha.2.mono hws)⟩
            have HBb : Hid (HeldC w.heap.size w3' v3' (O.take (0) ++ [(x, y)] ++ O.drop (0)) ∧ Below w.heap.size w w3') := Lib.hid ⟨hb.1.lower hws, HB2.out.trans (hb.2.mono hws)⟩
            have HC : Hid (HeldC w.heap.size w3'' v3'' (O.take (0) ++ [(x, y)] ++ O.drop (0)) ∧ Below w.heap.size w w3'') := Lib.hid ⟨hc.1.lower hws, HB2.out.trans (hc.2.mono hws)⟩
            clear ha hb hc HR2 HB2 blate
            go_wp2_with fail
            go_region
            all_goals (
              go_wp2_with fail
              go_roundw
              case rel => first | exact ⟨i + 1, _, by omega, by go_num, HA.out.1, HN.out, HA.out.2⟩ | exact ⟨i + 1, _, by omega, by go_num, HBb.out.1, HN.out, HBb.out.2⟩ | exact ⟨i + 1, _, by omega, by go_num, HC.out.1, HN.out, HC.out.2⟩
              case measure => simp [intOf]; omega)
          · obtain ⟨v3, v3', v3'', w3, w3', w3'', v1, v1', v1'', v2, v2', v2'', w1, w1', w1'', wz, wz', wz'', I⟩ := insertsC go co 0 0 co O.length x y O w2 HR2.out hk (by omega) (by omega) (fun _ => by omega)
            obtain ⟨a1, a2, a3, b1, b2, b3, c1, c2, c3, ha, hb, hc, blate⟩ := I
            have hws := HB2.out.size
            obtain ⟨cx5, cx6⟩ := HCX0.out w1 (HB2.out.trans (blate.mono hws))
            have HA : Hid (HeldC w.heap.size w3 v3 (O.take (0) ++ [(x, y)] ++ O.drop (0)) ∧ Below w.heap.size w w3) := Lib.hid ⟨ha.1.lower hws, HB2.out.trans (ha.2.mono hws)⟩
            have HBb : Hid (HeldC w.heap.size w3' v3' (O.take (0) ++ [(x, y)] ++ O.drop (0)) ∧ Below w.heap.size w w3') := Lib.hid ⟨hb.1.lower hws, HB2.out.trans (hb.2.mono hws)⟩
            have HC : Hid (HeldC w.heap.size w3'' v3'' (O.take (0) ++ [(x, y)] ++ O.drop (0)) ∧ Below w.heap.size w w3'') := Lib.hid ⟨hc.1.lower hws, HB2.out.trans (hc.2.mono hws)⟩
            clear ha hb hc HR2 HB2 blate
            go_wp2_with fail
            go_region
            all_goals (
              go_wp2_with fail
              go_roundw
              case rel => first | exact ⟨i + 1, _, by omega, by go_num, HA.out.1, HN.out, HA.out.2⟩ | exact ⟨i + 1, _, by omega, by go_num, HBb.out.1, HN.out, HBb.out.2⟩ | exact ⟨i + 1, _, by omega, by go_num, HC.out.1, HN.out, HC.out.2⟩
              case measure => simp [intOf]; omega)
        | succ j =>
          obtain ⟨k1, hk1⟩ : ∃ k1, k1 = j + 1 := ⟨_, rfl⟩
          rw [← hk1] at hk HGT HEND hkz ⊢
          have hkj : (k1 : Int) - 1 = (j : Int) := by omega
          have hjO : j < O.length := by omega
          obtain ⟨⟨s, t⟩, hq⟩ : ∃ q, O[j]? = some q := ⟨_, List.getElem?_eq_getElem hjO⟩
          obtain ⟨cs1, _⟩ := HR.out.2 _ _ (recs_at hq).1
          have hqm := HMEM.out _ (List.mem_of_getElem? hq)
          have HDQ := Lib.hid (HD.out (s, t) hqm)
          simp only at HDQ cs1
          obtain ⟨u, hu⟩ : ∃ u, u = f (s, t) := ⟨_, rfl⟩
          obtain ⟨v, hv⟩ : ∃ v, v = f (x, y) := ⟨_, rfl⟩
          rw [← hu] at HDQ
          rw [← hv] at HDX HGT
          have hk1p : decide ((0 : Int) < (k1 : Int)) = true := decide_eq_true (by omega)
          have hk1p2 : (0 : Int) < (k1 : Int) := by omega
          have hk1p3 : decide (0 < k1) = true := decide_eq_true (by omega)
          have hjz : (j : Int) < (O.length : Int) := by omega
          by_cases hvu : v < u
          · have hd : decide ((v : Int) < (u : Int)) = true := decide_eq_true (by omega)
            have hd2 : decide (v < u) = true := decide_eq_true hvu
            have HGT2 : Hid (∀ t' q, j ≤ t' → O[t']? = some q → (f (x, y) : Int) < (f q : Int)) := Lib.hid (fun t' q ht hq' => by
              rw [← hv]
              by_cases e : t' = j
              · subst e
                rw [hq] at hq'
                obtain rfl := Option.some.inj hq'
                rw [← hu]; omega
              · exact HGT.out t' q (by omega) hq')
            have HR2 : Hid (∀ n, CellRow (wr.drewN n) go (recs O)) := Lib.hid (fun n => HR.out.same rfl (Nat.le_refl _))
            have HB2 : Hid (∀ n, Below w.heap.size w (wr.drewN n)) := Lib.hid (fun n => HBW.out.trans ⟨rfl, rfl, rfl, Nat.le_refl _, fun _ _ => rfl⟩)
            have hjk : Hid (j + 1 = k1) := Lib.hid hk1.symm
            clear hk1 hq hqm hu hv HGT HR HBW HEND
            go_wp2_with fail
            go_quiet (first | (go_at_call 108; with_reducible exact Calls.quiet_of_same (HDQ.out _)) | (go_at_call 108; with_reducible exact Calls.quiet_of_same (HDX.out _)))
            go_wp2_with fail
            go_roundw
            case rel => exact ⟨j, by omega, by go_num, HGT2.out, HR2.out _, HB2.out _⟩
            case measure => have := hjk.out; simp [intOf]; omega
          · have hd : decide ((v : Int) < (u : Int)) = false := decide_eq_false (by omega)
            have hd2 : decide (v < u) = false := decide_eq_false hvu
            have HN := Lib.hid (HEND.out (.inr ⟨(s, t), by rw [hk1, Nat.add_sub_cancel]; exact hq, by rw [← hu, ← hv]; omega⟩))
            have hjk : Hid (j + 1 = k1) := Lib.hid hk1.symm
            clear hk1 hq hqm hu hv HGT HEND
            go_wp2_with fail
            go_quiet (first | (go_at_call 108; with_reducible exact Calls.quiet_of_same (HDQ.out _)) | (go_at_call 108; with_reducible exact Calls.quiet_of_same (HDX.out _)))
            have HR2 : Hid (CellRow (wr.drewN nq) go (recs O)) := Lib.hid (HR.out.same rfl (Nat.le_refl _))
            have HB2 : Hid (Below w.heap.size w (wr.drewN nq)) := Lib.hid (HBW.out.trans ⟨rfl, rfl, rfl, Nat.le_refl _, fun _ _ => rfl⟩)
            generalize wr.drewN nq = w2 at HR2 HB2 ⊢
            obtain ⟨cx3, cx4⟩ := HCX0.out w2 HB2.out
            have hlb2 : b' < w2.heap.size := Nat.lt_of_lt_of_le hbb HB2.out.size
            clear HR HBW HO cx1 cx2 HDX HDQ HD HMEM HTK HOF cs1
            by_cases hco2 : co = k1
            · skip
              subst hco2
              obtain ⟨v3, v3', v3'', w3, w3', w3'', v1, v1', v1'', v2, v2', v2'', w1, w1', w1'', wz, wz', wz'', I⟩ := insertsC go co co 0 0 0 x y O w2 HR2.out hk (by omega) (by omega) (fun h => by omega)
              obtain ⟨a1, a2, a3, b1, b2, b3, c1, c2, c3, ha, hb, hc, blate⟩ := I
              have hws := HB2.out.size
              obtain ⟨cx5, cx6⟩ := HCX0.out w1 (HB2.out.trans (blate.mono hws))
              have HA : Hid (HeldC w.heap.size w3 v3 (O.take (co) ++ [(x, y)] ++ O.drop (co)) ∧ Below w.heap.size w w3) := Lib.hid ⟨ha.1.lower hws, HB2.out.trans (ha.2.mono hws)⟩
              have HBb : Hid (HeldC w.heap.size w3' v3' (O.take (co) ++ [(x, y)] ++ O.drop (co)) ∧ Below w.heap.size w w3') := Lib.hid ⟨hb.1.lower hws, HB2.out.trans (hb.2.mono hws)⟩
              have HC : Hid (HeldC w.heap.size w3'' v3'' (O.take (co) ++ [(x, y)] ++ O.drop (co)) ∧ Below w.heap.size w w3'') := Lib.hid ⟨hc.1.lower hws, HB2.out.trans (hc.2.mono hws)⟩
              clear ha hb hc HR2 HB2 blate
              go_wp2_with fail
              go_region
              all_goals (
                go_wp2_with fail
                go_roundw
                case rel => first | exact ⟨i + 1, _, by omega, by go_num, HA.out.1, HN.out, HA.out.2⟩ | exact ⟨i + 1, _, by omega, by go_num, HBb.out.1, HN.out, HBb.out.2⟩ | exact ⟨i + 1, _, by omega, by go_num, HC.out.1, HN.out, HC.out.2⟩
                case measure => simp [intOf]; omega)
            · obtain ⟨v3, v3', v3'', w3, w3', w3'', v1, v1', v1'', v2, v2', v2'', w1, w1', w1'', wz, wz', wz'', I⟩ := insertsC go co k1 (k1 * 2) (co - k1) (O.length - k1) x y O w2 HR2.out hk (by omega) (by omega) (fun _ => by omega)
              obtain ⟨a1, a2, a3, b1, b2, b3, c1, c2, c3, ha, hb, hc, blate⟩ := I
              have hws := HB2.out.size
              obtain ⟨cx5, cx6⟩ := HCX0.out w1 (HB2.out.trans (blate.mono hws))
              have HA : Hid (HeldC w.heap.size w3 v3 (O.take (k1) ++ [(x, y)] ++ O.drop (k1)) ∧ Below w.heap.size w w3) := Lib.hid ⟨ha.1.lower hws, HB2.out.trans (ha.2.mono hws)⟩
              have HBb : Hid (HeldC w.heap.size w3' v3' (O.take (k1) ++ [(x, y)] ++ O.drop (k1)) ∧ Below w.heap.size w w3') := Lib.hid ⟨hb.1.lower hws, HB2.out.trans (hb.2.mono hws)⟩
              have HC : Hid (HeldC w.heap.size w3'' v3'' (O.take (k1) ++ [(x, y)] ++ O.drop (k1)) ∧ Below w.heap.size w w3'') := Lib.hid ⟨hc.1.lower hws, HB2.out.trans (hc.2.mono hws)⟩
              clear ha hb hc HR2 HB2 blate
              go_wp2_with fail
              go_region
              all_goals (
                go_wp2_with fail
                go_roundw
                case rel => first | exact ⟨i + 1, _, by omega, by go_num, HA.out.1, HN.out, HA.out.2⟩ | exact ⟨i + 1, _, by omega, by go_num, HBb.out.1, HN.out, HBb.out.2⟩ | exact ⟨i + 1, _, by omega, by go_num, HC.out.1, HN.out, HC.out.2⟩
                case measure => simp [intOf]; omega)
    · obtain rfl : i = l.length := by omega
      have HRES : Hid (RowOfC M w (.returned (.slice (some ⟨go, 0, none⟩) O.length co)) wr) := Lib.hid (by
        have e := HM.out O (by have := HOF.out; rw [List.take_length] at this; exact this)
        have hr := HROW.out
        have h1 := hco
        rw [e] at hr h1 ⊢
        exact ⟨go, co, rfl, h1, hgo, hr, HB.out⟩)
      clear hOl HOF HROW HO HB HM HD HREAD
      go_wp2_with fail
      go_ret
      exact HRES.out

end Go.Proofs.Ytebipiehkmhaiaa
