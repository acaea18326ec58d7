/- The model's PatiencePiles, by its contract. -/
import Derived.Test.YtjlldjekjnlcaaaPpAt
import Derived.Test.YtjlldjekjnlcaaaList
import Derived.BigRegion
import Derived.BigQuiet
import Derived.BigGuardPart
import Derived.Deep.QuietTactic
import Derived.Laws.BitsLemmas
namespace Go.Proofs.Ytjlldjekjnlcaaa
open Go.RowKit P Iv
set_option linter.unusedVariables false

attribute [local go_sem ↓ high] builtin_append_held

set_option maxRecDepth 100000 in
set_option maxHeartbeats 4000000 in
theorem specPp_any (v : Value) (l : List Int) (w : World) (hv : FlatAt w v l.length (ints l)) (hn : l.length ≤ 1048576) :
    Calls Try.prog 45 #[v] w (RetSSE (ppF l) w) := by
  have HV := Lib.hid hv
  obtain ⟨a, c, rfl, _⟩ := hv
  by_cases hok : OkL l
  · have hd : decide (OkL l) = true := decide_eq_true hok
    have HI := Lib.hid (fun W (h : FlatAt W (.slice a l.length c) l.length (ints l)) => by have := l2List_any _ l W h hn; rw [hd] at this; exact this)
    have HF := Lib.hid (ppF_yes hok)
    have hl64 := hok.1
    clear hok hd
    go_enter Try.func45, Try.ntmps45
    go_wp2_with fail
    refine (HI.out _ HV.out).mono ?_
    rintro e w1 ⟨rfl, hb1⟩
    have HB1 := Lib.hid hb1
    have HE := Lib.hid (fun j x (hj : l[j]? = some x) => by
      obtain ⟨a0, c0, e0, _, h⟩ := HV.out.below hb1
      simp at e0
      obtain ⟨rfl, rfl⟩ := e0
      obtain ⟨b, o, e, hb, hh⟩ := h _ _ (ints_at hj)
      exact (⟨b, o, e, hb, hh⟩ : ∃ b o, a = some ⟨b, o, none⟩ ∧ b < w1.heap.size ∧ w1.cell? ⟨b, o + j, none⟩ = some (.int .i64 x)))
    have HP0 : Hid (PpAt w1 (w1.alloc (.cells #[] 24)) (.slice (some ⟨w1.heap.size, 0, none⟩) 0 0) [] (deal (l.take 0))) := Lib.hid ⟨⟨HeldZ.start w1 w1.heap.size (Nat.le_refl _), by simp⟩, rfl, (Below.refl _ _).alloc (Nat.le_refl _) _, _, _, rfl⟩
    clear hb1 HI HV
    go_wp2_with fail
    go_loopw [4, 5, 6] (fun ps i _ wr => ∃ (k : Nat) (X : List ZRow), k ≤ l.length ∧ i = .int .i64 k ∧ PpAt w1 wr ps X (deal (l.take k))) (fun _ i _ _ => l.length - (intOf i).toNat)
    case atStart => exact ⟨0, [], Nat.zero_le _, rfl, HP0.out⟩
    case round =>
      obtain ⟨k, X, hk, rfl, hp⟩ := hrel
      have HP := Lib.hid hp
      obtain ⟨g, c, rfl⟩ := hp.nn
      have hXl := hp.len
      have hsm := deal_small (l := l) hk
      have hxk : X.length ≤ k := by omega
      have hx64 : X.length ≤ 64 := by omega
      have HSM := Lib.hid hsm.2
      obtain ⟨M, hM⟩ : ∃ M, M = deal (l.take k) := ⟨_, rfl⟩
      have HPL := Lib.hid (fun p hp => (deal_good (l.take k)).2 p hp)
      rw [← hM] at HP HSM HPL
      have hgl := (hp.held.r.lt (.inl (by simp [Value.ownBlock]) : BlkZ (.slice (some ⟨g, 0, none⟩) X.length c) X g)).2
      have HMM := Lib.hid hM
      clear hp HP0 hXl hsm hM
      by_cases hlt : k < l.length
      · obtain ⟨e, he⟩ : ∃ e, l[k]? = some e := ⟨_, List.getElem?_eq_getElem hlt⟩
        obtain ⟨b, o, rfl, hbb, hcx0⟩ := HE.out _ _ he
        have hcx : wr.cell? ⟨b, o + k, none⟩ = some (.int .i64 e) := (HP.out.bel.cell (p := ⟨b, o + k, none⟩) hbb).trans hcx0
        have hbw : b < wr.heap.size := Nat.lt_of_lt_of_le hbb HP.out.bel.size
        have HDT : Hid (deal (l.take (k + 1)) = put e M) := Lib.hid (by rw [deal_take he, HMM.out])
        have HCX := Lib.hid hcx
        have HCXO := Lib.hid hcx0
        clear he hcx0
        obtain ⟨wo, hwo⟩ : ∃ wo, wo = wr := ⟨_, rfl⟩
        rw [← hwo] at HP hcx hbw hgl HCX ⊢
        clear hwo
        go_wp2_with fail
        go_loopw [6] (fun i w2 => ∃ (j t : Nat), j ≤ X.length ∧ i = .int .i64 j ∧ Hid (∀ j' q, j' < j → M[j']? = some q → q.getLastD 0 < e) ∧ w2 = wo.drewN t) (fun i _ => X.length - (intOf i).toNat)
        case atStart => exact ⟨0, 0, Nat.zero_le _, rfl, Lib.hid (fun j' q h _ => by omega), rfl⟩
        case round =>
          obtain ⟨j, t0, hj, rfl, HL, rfl⟩ := hrel
          by_cases hjl : j < X.length
          · obtain ⟨x, hx⟩ : ∃ x, X[j]? = some x := ⟨_, List.getElem?_eq_getElem hjl⟩
            have hMx := HP.out.row hx
            have hpile := HPL.out _ (List.mem_of_getElem? hMx)
            have hxs := HSM.out _ (List.mem_of_getElem? hMx)
            obtain ⟨n1, hn1⟩ : ∃ n1, x.L.length = n1 + 1 := ⟨x.L.length - 1, by have := List.length_pos_iff.2 hpile.1; omega⟩
            have hct := HP.out.top hx hn1
            obtain ⟨t, ht⟩ : ∃ t, t = x.L.getLastD 0 := ⟨_, rfl⟩
            rw [← ht] at hct
            obtain ⟨hcs, _, hxg⟩ := HP.out.cell hx hx64
            have HX := Lib.hid hx
            have HMX := Lib.hid hMx
            have HT := Lib.hid ht
            obtain ⟨n, hn⟩ : ∃ n, n = x.L.length := ⟨_, rfl⟩
            have HNL := Lib.hid hn
            rw [← hn] at hcs hn1 hxs
            have hnz : IntKind.i64.wrap ((n : Int) - 1) = (n1 : Int) := by rw [IntKind.wrap_i64]; omega
            have hn1n : n1 < n := by omega
            have hns : n ≤ 64 := by omega
            have hnx : n ≤ x.c := by rw [hn]; exact (HP.out.held.r.rows x (List.mem_of_getElem? hx)).2.1
            have hjz : (j : Int) < X.length := by omega
            have HN := Lib.hid hn1
            clear hx hMx hpile hn hn1 ht hxs
            by_cases hd : t < e
            · have hge : decide (t < e) = true := decide_eq_true hd
              have HL2 : Hid (∀ j' q, j' < j + 1 → M[j']? = some q → q.getLastD 0 < e) := Lib.hid (fun j' q h1 h2 => by
                by_cases h3 : j' = j
                · subst h3
                  rw [HMX.out] at h2
                  obtain rfl := Option.some.inj h2
                  rw [← HT.out]; omega
                · exact HL.out j' q (by omega) h2)
              clear hd
              go_wp2_with fail
              go_quiet (fail)
              go_wp2_with fail
              go_roundw
              case rel => exact ⟨j + 1, t0 + nq, by omega, by go_num, HL2, by trivial⟩
              case measure => simp [intOf]; omega
            · have hge : decide (t < e) = false := decide_eq_false hd
              have HPUT : Hid (put e M = M.set j (x.L ++ [e])) := Lib.hid (put_at HMX.out (fun j' q h1 h2 => HL.out j' q h1 h2) (by rw [← HT.out]; omega))
              have hjne : decide (j = X.length) = false := decide_eq_false (by omega)
              have hjni : ((j : Int) == (X.length : Int)) = false := by simp; omega
              clear hd
              go_wp2_with fail
              go_quiet (fail)
              obtain ⟨W, hW⟩ : ∃ W, W = (wo.drewN t0).drewN nq := ⟨_, rfl⟩
              rw [← hW]
              have HPW : Hid (PpAt w1 W (.slice (some ⟨g, 0, none⟩) X.length c) X M) := Lib.hid (by rw [hW]; exact (HP.out.drewN _).drewN _)
              have hcxW : W.cell? ⟨b, o + k, none⟩ = some (.int .i64 e) := by rw [hW]; exact HCX.out
              have hbW : b < W.heap.size := by rw [hW]; exact hbw
              obtain ⟨hcsW, hglW, hxgW⟩ := HPW.out.cell HX.out hx64
              rw [← HNL.out] at hcsW
              obtain ⟨g', c', w3, hrun, hat, hcg, hfg, hgw⟩ := HPW.out.drew.onto HX.out e (by rw [← HNL.out]; omega)
              have hrun2 : (heldAppend #[24, 24] 24 #[.slice (some ⟨x.g, 0, none⟩) n x.c, .slice (some ⟨W.heap.size, 0, none⟩) 1 1]).run Try.prog (W.alloc (.cells #[.int .i64 e] 3)).drew = .ok (.slice (some ⟨g', 0, none⟩) (n + 1) c') w3 := by rw [HNL.out]; exact hrun
              rw [← HNL.out] at hat hcg
              have HAT := Lib.hid hat
              clear hW hrun hat hcs hct hcx hbw hgl hxg
              go_wp2_with fail
              go_region
              all_goals (
                go_wp2_with fail
                go_roundw
                case rel => exact ⟨k + 1, _, by omega, by go_num, by rw [HDT.out, HPUT.out]; first | exact HAT.out | exact HAT.out.drew⟩
                case measure => simp [intOf]; omega)
          · obtain rfl : j = X.length := by omega
            have HNEW : Hid (put e M = M ++ [[e]]) := Lib.hid (put_new (fun q hq => by
              obtain ⟨j', hj'⟩ := List.mem_iff_getElem?.1 hq
              have := (List.getElem?_eq_some_iff.1 hj').1
              exact HL.out j' q (by have := HP.out.len; omega) hj'))
            have heqn : decide (X.length = X.length) = true := by simp
            go_wp2_with fail
            go_quiet (fail)
            obtain ⟨W, hW⟩ : ∃ W, W = (wo.drewN t0).drewN nq := ⟨_, rfl⟩
            rw [← hW]
            have HPW : Hid (PpAt w1 W (.slice (some ⟨g, 0, none⟩) X.length c) X M) := Lib.hid (by rw [hW]; exact (HP.out.drewN _).drewN _)
            have hcxW : W.cell? ⟨b, o + k, none⟩ = some (.int .i64 e) := by rw [hW]; exact HCX.out
            have hbW : b < W.heap.size := by rw [hW]; exact hbw
            obtain ⟨v2, w2, hrun1, he⟩ := HPW.out.empty hx64
            obtain ⟨g2, c2, rfl⟩ := he.nn
            have hX1 : (X ++ [(⟨W.heap.size, 0, []⟩ : ZRow)]).length = X.length + 1 := by simp
            rw [hX1] at hrun1
            have HE2 := Lib.hid he
            have hx2 : (X ++ [(⟨W.heap.size, 0, []⟩ : ZRow)])[X.length]? = some ⟨W.heap.size, 0, []⟩ := by simp
            have HX2 := Lib.hid hx2
            have hcxV : w2.cell? ⟨b, o + k, none⟩ = some (.int .i64 e) := by
              have h0 := HCXO.out
              exact (he.bel.cell (p := ⟨b, o + k, none⟩) hbb).trans h0
            have hbV : b < w2.heap.size := Nat.lt_of_lt_of_le hbb he.bel.size
            rw [hX1] at he
            obtain ⟨hcsV, hglV, hxgV⟩ := (show PpAt w1 w2 (.slice (some ⟨g2, 0, none⟩) (X ++ [(⟨W.heap.size, 0, []⟩ : ZRow)]).length c2) _ _ from by rw [hX1]; exact he).cell HX2.out (by rw [hX1]; omega)
            obtain ⟨g', c', w3, hrun3, hat, hcg, hfg, hgw⟩ := (show PpAt w1 w2 (.slice (some ⟨g2, 0, none⟩) (X ++ [(⟨W.heap.size, 0, []⟩ : ZRow)]).length c2) _ _ from by rw [hX1]; exact he).drew.onto HX2.out e (by simp)
            have hrun2 : (heldAppend #[24, 24] 24 #[.slice (some ⟨W.heap.size, 0, none⟩) 0 0, .slice (some ⟨w2.heap.size, 0, none⟩) 1 1]).run Try.prog (w2.alloc (.cells #[.int .i64 e] 3)).drew = .ok (.slice (some ⟨g', 0, none⟩) 1 c') w3 := hrun3
            have hcsV2 : w2.cell? ⟨g2, X.length, none⟩ = some (.slice (some ⟨W.heap.size, 0, none⟩) 0 0) := hcsV
            have hcg2 : w3.cell? ⟨g2, X.length, none⟩ = some (.slice (some ⟨W.heap.size, 0, none⟩) 0 0) := hcg
            have hss : (M ++ [[]]).set X.length ([] ++ [e]) = M ++ [[e]] := by
              have hl := HP.out.len
              rw [List.set_append_right _ _ (by omega), show X.length - M.length = 0 by omega]; rfl
            have HAT : Hid (PpAt w1 (w3.setCell ⟨g2, X.length, none⟩ (.slice (some ⟨g', 0, none⟩) 1 c')) (.slice (some ⟨g2, 0, none⟩) (X.length + 1) c2) ((X ++ [(⟨W.heap.size, 0, []⟩ : ZRow)]).set X.length ⟨g', c', [] ++ [e]⟩) (M ++ [[e]])) := Lib.hid (by
              rw [hX1] at hat
              rw [← hss]
              exact hat)
            have hx1z : X.length < X.length + 1 := by omega
            clear hW hcx hbw hgl he hx2 hcsV hrun3 hat hcg hX1 hss
            go_wp2_with fail
            go_region
            all_goals (
              go_wp2_with fail
              go_roundw
              case rel => exact ⟨k + 1, _, by omega, by go_num, by rw [HDT.out, HNEW.out]; first | exact HAT.out | exact HAT.out.drew⟩
              case measure => simp [intOf]; omega)
      · obtain rfl : k = l.length := by omega
        have HRES : Hid (RetSSE (ppF l) w (.returned (.tuple #[.slice (some ⟨g, 0, none⟩) X.length c, .bool true])) wr) := Lib.hid (by
          rw [HF.out]
          have hm := HP.out.map
          rw [HMM.out, List.take_length] at hm
          exact (HP.out.held.r.lower HB1.out.size).ret hm (HB1.out.trans (HP.out.bel.mono HB1.out.size)) true)
        go_wp2_with fail
        go_ret2
        exact HRES.out
  · have hd : decide (OkL l) = false := decide_eq_false hok
    have HI := Lib.hid (fun W (h : FlatAt W (.slice a l.length c) l.length (ints l)) => by have := l2List_any _ l W h hn; rw [hd] at this; exact this)
    have HF := Lib.hid (ppF_no hok)
    clear hok hd
    go_enter Try.func45, Try.ntmps45
    go_wp2_with fail
    refine (HI.out _ HV.out).mono ?_
    rintro e w1 ⟨rfl, hb1⟩
    have HRES := Lib.hid (RetSSE.nil (w := w) HF.out hb1)
    clear hb1 HI
    go_wp2_with fail
    go_ret2
    exact HRES.out

end Go.Proofs.Ytjlldjekjnlcaaa
