/- The program's PatiencePiles, by its contract. -/
import Derived.Test.YtjlldjekjnlcaaaPpAt
import Derived.Test.YtjlldjekjnlcaaaIList
import Derived.BigRegion
import Derived.BigQuiet
import Derived.Deep.QuietTactic
import Derived.Laws.BitsLemmas
namespace Go.Proofs.Ytjlldjekjnlcaaa
open Go.RowKit P Iv
set_option linter.unusedVariables false

attribute [local go_sem ↓ high] builtin_append_held

set_option maxRecDepth 100000 in
set_option maxHeartbeats 4000000 in
theorem implPp_any (v : Value) (l : List Int) (w : World) (hv : FlatAt w v l.length (ints l)) (hn : l.length ≤ 1048576) :
    Calls Try.prog 31 #[v] w (RetSSE (ppF l) w) := by
  have HV := Lib.hid hv
  obtain ⟨a, c, rfl, _⟩ := hv
  by_cases hok : OkL l
  · have hd : decide (OkL l) = true := decide_eq_true hok
    have HI := Lib.hid (fun W (h : FlatAt W (.slice a l.length c) l.length (ints l)) => by have := implValidList_any _ l W h hn; rw [hd] at this; exact this)
    have HF := Lib.hid (ppF_yes hok)
    have hl64 := hok.1
    clear hok hd
    go_enter Try.func31, Try.ntmps31
    go_wp2_with fail
    refine wp_scope_straight ?_
    go_wp2_with fail
    refine (HI.out _ HV.out).mono ?_
    rintro e w1 ⟨rfl, hb1⟩
    have HB1 := Lib.hid hb1
    have HE := Lib.hid (fun j x (hj : l[j]? = some x) => by
      obtain ⟨a0, c0, e0, _, h⟩ := HV.out.below hb1
      simp at e0
      obtain ⟨rfl, rfl⟩ := e0
      obtain ⟨b, o, e, hb, hh⟩ := h _ _ (ints_at hj)
      exact (⟨b, o, e, hb, hh⟩ : ∃ b o, a = some ⟨b, o, none⟩ ∧ b < w1.heap.size ∧ w1.cell? ⟨b, o + j, none⟩ = some (.int .i64 x)))
    have HP0 : Hid (PpAt w1 (w1.alloc (.cells #[] 24)) (.slice (some ⟨w1.heap.size, 0, none⟩) 0 0) [] (deal (l.take 0))) := Lib.hid ⟨⟨HeldZ.start w1 w1.heap.size (Nat.le_refl _), by simp⟩, rfl, (Below.refl _ _).alloc (Nat.le_refl _) _, _, _, rfl⟩
    clear hb1 HI HV
    go_wp2_with fail
    refine wp_label ?_
    go_wp2_with fail
    go_loopw [4, 6, 7, 8, 15] (fun ps _ _ _ i wr => ∃ (k : Nat) (X : List ZRow), k ≤ l.length ∧ i = .int .i64 k ∧ PpAt w1 wr ps X (deal (l.take k))) (fun _ _ _ _ i _ => l.length - (intOf i).toNat)
    case atStart => exact ⟨0, [], Nat.zero_le _, rfl, HP0.out⟩
    case round =>
      obtain ⟨k, X, hk, rfl, hp⟩ := hrel
      have HP := Lib.hid hp
      obtain ⟨g, c, rfl⟩ := hp.nn
      have hXl := hp.len
      have hsm := deal_small (l := l) hk
      have hx64 : X.length ≤ 64 := by omega
      have HSM := Lib.hid hsm.2
      obtain ⟨M, hM⟩ : ∃ M, M = deal (l.take k) := ⟨_, rfl⟩
      have HPL := Lib.hid (fun p hp => (deal_good (l.take k)).2 p hp)
      rw [← hM] at HP HSM HPL
      have hgl := (hp.held.r.lt (.inl (by simp [Value.ownBlock]) : BlkZ (.slice (some ⟨g, 0, none⟩) X.length c) X g)).2
      have HMM := Lib.hid hM
      clear hp HP0 hXl hsm hM
      by_cases hlt : k < l.length
      · obtain ⟨e, he⟩ : ∃ e, l[k]? = some e := ⟨_, List.getElem?_eq_getElem hlt⟩
        obtain ⟨b, o, rfl, hbb, hcx0⟩ := HE.out _ _ he
        have hcx : wr.cell? ⟨b, o + k, none⟩ = some (.int .i64 e) := (HP.out.bel.cell (p := ⟨b, o + k, none⟩) hbb).trans hcx0
        have HDT : Hid (deal (l.take (k + 1)) = put e M) := Lib.hid (by rw [deal_take he, HMM.out])
        clear he hcx0
        go_wp2_with fail
        go_loopw [7, 8, 21] (fun _ _ i w2 => ∃ (j : Nat), j ≤ X.length ∧ i = .int .i64 j ∧ Hid (∀ j' q, j' < j → M[j']? = some q → q.getLastD 0 < e) ∧ w2 = wr) (fun _ _ i _ => X.length - (intOf i).toNat)
        case atStart => exact ⟨0, Nat.zero_le _, rfl, Lib.hid (fun j' q h _ => by omega), rfl⟩
        case round =>
          obtain ⟨j, hj, rfl, HL, rfl⟩ := hrel
          by_cases hjl : j < X.length
          · obtain ⟨x, hx⟩ : ∃ x, X[j]? = some x := ⟨_, List.getElem?_eq_getElem hjl⟩
            have hMx := HP.out.row hx
            have hpile := HPL.out _ (List.mem_of_getElem? hMx)
            have hxs := HSM.out _ (List.mem_of_getElem? hMx)
            obtain ⟨n1, hn1⟩ : ∃ n1, x.L.length = n1 + 1 := ⟨x.L.length - 1, by have := List.length_pos_iff.2 hpile.1; omega⟩
            obtain ⟨hr1, hr2, hr3⟩ := HP.out.held.r.rows x (List.mem_of_getElem? hx)
            obtain ⟨t, ht⟩ : ∃ t, t = x.L.getLastD 0 := ⟨_, rfl⟩
            have hct : wr.cell? ⟨x.g, n1, none⟩ = some (.int .i64 t) := by
              have h1 : x.L[n1]? = some t := by
                rw [ht, List.getLastD_eq_getLast?, List.getLast?_eq_getElem?, hn1, Nat.add_sub_cancel, List.getElem?_eq_getElem (by omega)]; rfl
              exact (hr3.2 _ _ (ints_at h1)).1
            have hcs : wr.cell? ⟨g, j, none⟩ = some (.slice (some ⟨x.g, 0, none⟩) x.L.length x.c) := by
              have h1 := HP.out.held.r.own.cellAt j (by omega)
              rw [h1, List.getElem?_map, hx]; rfl
            have hxg := hr3.1
            obtain ⟨g', c', w1', hrun, hat, hcg, hfg, hgw⟩ := HP.out.onto hx e (by omega)
            have HAT := Lib.hid hat
            have HMX := Lib.hid hMx
            have HT := Lib.hid ht
            obtain ⟨n, hn⟩ : ∃ n, n = x.L.length := ⟨_, rfl⟩
            rw [← hn] at hcs hrun hcg HAT hn1 hxs hr2
            have hnz : IntKind.i64.wrap ((n : Int) - 1) = (n1 : Int) := by rw [IntKind.wrap_i64]; omega
            have hn1n : n1 < n := by omega
            have hns : n ≤ 64 := by omega
            have HN := Lib.hid hn1
            clear hx hMx hpile hn hn1 hr1 hr3 ht hat hxs
            by_cases hd : e ≤ t
            · have hge : decide (e ≤ t) = true := decide_eq_true hd
              have HPUT : Hid (put e M = M.set j (x.L ++ [e])) := Lib.hid (put_at HMX.out (fun j' q h1 h2 => HL.out j' q h1 h2) (by rw [← HT.out]; exact hd))
              clear hd
              go_wp2_with fail
              go_roundw
              case rel => exact ⟨k + 1, _, by omega, by go_num, by rw [HDT.out, HPUT.out]; exact HAT.out⟩
              case measure => simp [intOf]; omega
            · have hge : decide (e ≤ t) = false := decide_eq_false hd
              have HL2 : Hid (∀ j' q, j' < j + 1 → M[j']? = some q → q.getLastD 0 < e) := Lib.hid (fun j' q h1 h2 => by
                by_cases h3 : j' = j
                · subst h3
                  rw [HMX.out] at h2
                  obtain rfl := Option.some.inj h2
                  rw [← HT.out]; omega
                · exact HL.out j' q (by omega) h2)
              clear hd
              go_wp2_with fail
              go_roundw
              case rel => exact ⟨j + 1, by omega, by go_num, HL2, by trivial⟩
              case measure => simp [intOf]; omega
          · have HNEW : Hid (put e M = M ++ [[e]]) := Lib.hid (put_new (fun q hq => by
              obtain ⟨j', hj'⟩ := List.mem_iff_getElem?.1 hq
              have := (List.getElem?_eq_some_iff.1 hj').1
              exact HL.out j' q (by have := HP.out.len; omega) hj'))
            obtain ⟨v', w', hrun, hfr⟩ := HP.out.fresh e hx64
            have HFR := Lib.hid hfr
            clear hfr
            go_wp2_with fail
            go_roundw
            case rel => exact ⟨k + 1, _, by omega, by go_num, by rw [HDT.out, HNEW.out]; exact HFR.out⟩
            case measure => simp [intOf]; omega
      · obtain rfl : k = l.length := by omega
        have HRES : Hid (RetSSE (ppF l) w (.returned (.tuple #[.slice (some ⟨g, 0, none⟩) X.length c, .bool true])) wr) := Lib.hid (by
          rw [HF.out]
          have hm := HP.out.map
          rw [HMM.out, List.take_length] at hm
          exact (HP.out.held.r.lower HB1.out.size).ret hm (HB1.out.trans (HP.out.bel.mono HB1.out.size)) true)
        go_wp2_with fail
        go_ret2
        exact HRES.out
  · have hd : decide (OkL l) = false := decide_eq_false hok
    have HI := Lib.hid (fun W (h : FlatAt W (.slice a l.length c) l.length (ints l)) => by have := implValidList_any _ l W h hn; rw [hd] at this; exact this)
    have HF := Lib.hid (ppF_no hok)
    clear hok hd
    go_enter Try.func31, Try.ntmps31
    go_wp2_with fail
    refine wp_scope_straight ?_
    go_wp2_with fail
    refine (HI.out _ HV.out).mono ?_
    rintro e w1 ⟨rfl, hb1⟩
    have HRES := Lib.hid (RetSSE.nil (w := w) HF.out hb1)
    clear hb1 HI
    go_wp2_with fail
    go_ret2
    exact HRES.out

end Go.Proofs.Ytjlldjekjnlcaaa
