/- The model's PartitionHoare, by its contract. -/
import Derived.Test.YtipdfmedbcafpaaQuickA
import Derived.Test.YtipdfmedbcafpaaSExch
import Derived.Test.YtipdfmedbcafpaaOwnI
import Derived.Test.YtipdfmedbcafpaaRet12
namespace Go.Proofs.Ytipdfmedbcafpaa
open Go.RowKit P El Qk
set_option linter.unusedVariables false

set_option maxRecDepth 100000 in
set_option maxHeartbeats 8000000 in
theorem specHoa_any (b o c : Nat) (l : List Int) (w : World) (hv : FlatAt w (.slice (some ⟨b, o, none⟩) l.length c) l.length (ints l)) (hn : l.length ≤ 1048576) :
    Calls Try.prog 40 #[.slice (some ⟨b, o, none⟩) l.length c] w (RetI1 (hoAll l) w) := by
  have HV := Lib.hid (l2List_any _ l w hv hn)
  have HNONE : Hid (¬ (OkL l ∧ 0 < l.length) → ∀ w1, Below w.heap.size w w1 → RetI1 (hoAll l) w (.returned (.tuple #[.slice (some ⟨w1.heap.size, 0, none⟩) 0 0, .int .i64 0, .bool false])) (w1.alloc (.cells #[] 3))) := Lib.hid (fun h w1 hb => by rw [hoAll_no h]; exact RetI1.none w w1 hb)
  by_cases hok : OkL l
  · rw [decide_eq_true hok] at HV
    have h64 := hok.1
    by_cases h0 : l.length = 0
    · have HN := Lib.hid (HNONE.out (fun h => by omega))
      obtain rfl := List.eq_nil_of_length_eq_zero h0
      clear hok HNONE hv h0
      rw [List.length_nil] at HV ⊢
      go_enter Try.func40, Try.ntmps40
      go_wp2_with fail
      refine HV.out.mono ?_
      rintro e w1 ⟨rfl, hb1⟩
      have HRES := Lib.hid (HN.out w1 hb1)
      clear hb1 HV HN
      go_wp2_with fail
      go_ret3
      exact HRES.out
    · have hl0 : 0 < l.length := by omega
      have h0z : ((l.length : Int) == 0) = false := beq_eq_false_iff_ne.2 (by omega)
      have h0z2 : ¬ (l.length : Int) = 0 := by omega
      have hlz : (0 : Int) < l.length := by omega
      have HF := Lib.hid (hoAll_yes ⟨hok, hl0⟩)
      have HOWN := Lib.hid (fun W (h : FlatAt W (.slice (some ⟨b, o, none⟩) l.length c) l.length (ints l)) => l1Own_any b o c l W h hn)
      have HSW := Lib.hid (fun (g cap i k : Nat) (M : List Int) W (h : CellRow W g (ints M)) (hM : M.length = l.length) (hi : i < l.length) (hk : k < l.length) => sexch_any (c := cap) (n := l.length) i k W (Seg.of_row h) hM hn hi hk)
      obtain ⟨x, hx⟩ : ∃ x, x = l.getD 0 0 := ⟨_, rfl⟩
      have HH0 := Lib.hid (Hoa.start hl0)
      obtain ⟨R, hR⟩ : ∃ R, hoF l = R := ⟨_, rfl⟩
      have HR0 : Hid (hoN x (l.length + 1) l 0 l.length = R) := Lib.hid (by rw [← hR, hx]; rfl)
      rw [← hx] at HH0
      rw [hR] at HF
      have HC0 : Hid (w.cell? ⟨b, o, none⟩ = some (.int .i64 x) ∧ b < w.heap.size) := Lib.hid (by
        obtain ⟨a', c', he, _, hh⟩ := hv
        simp at he
        obtain ⟨rfl, rfl⟩ := he
        obtain ⟨b', o', e, hbb, hcell⟩ := hh 0 _ (ints_at (at_getD hl0))
        simp at e
        obtain ⟨rfl, rfl⟩ := e
        rw [hx]; exact ⟨hcell, hbb⟩)
      have HFV := Lib.hid hv
      clear hok hv hR hx HNONE h0
      go_enter Try.func40, Try.ntmps40
      go_wp2_with fail
      refine HV.out.mono ?_
      rintro e w1 ⟨rfl, hb1⟩
      have HV1 : Hid (∀ t, FlatAt (w1.drewN t) (.slice (some ⟨b, o, none⟩) l.length c) l.length (ints l)) := Lib.hid (fun t => (HFV.out.below hb1).below ⟨rfl, rfl, rfl, Nat.le_refl _, fun _ _ => rfl⟩)
      have HB1 : Hid (∀ t, Below w.heap.size w (w1.drewN t)) := Lib.hid (fun t => hb1.trans ⟨rfl, rfl, rfl, Nat.le_refl _, fun _ _ => rfl⟩)
      have hc1 : w1.cell? ⟨b, o, none⟩ = some (.int .i64 x) := (hb1.cell (p := ⟨b, o, none⟩) HC0.out.2).trans HC0.out.1
      clear hb1 HV HFV
      go_wp2_with fail
      refine (HOWN.out _ (HV1.out 0)).mono ?_
      rintro e w2 ⟨g, cap, rfl, hcap, hg, hrow, hb2⟩
      have hc2 : w2.cell? ⟨b, o, none⟩ = some (.int .i64 x) := (((HB1.out 0).trans (hb2.mono (HB1.out 0).size)).cell (p := ⟨b, o, none⟩) HC0.out.2).trans HC0.out.1
      all_goals
        have HG : Hid (w.heap.size ≤ g) := Lib.hid (Nat.le_trans (HB1.out 0).size hg)
        have HCAP := Lib.hid hcap
        have HR3 := Lib.hid hrow
        have HB3 := Lib.hid ((HB1.out 0).trans (hb2.mono (HB1.out 0).size))
        clear hb2 hrow HOWN HV1 hg hcap HB1 HC0 hc1
        go_wp2_with fail
        go_loopw [7, 8] (fun iv kv wr => ∃ (f a k : Nat) (M : List Int), iv = .int .i64 ((a : Int) - 1) ∧ kv = .int .i64 (k : Int) ∧ k < f ∧ hoN x f M a k = R ∧ Hoa l x M a k ∧ CellRow wr g (ints M) ∧ Below w.heap.size w wr) (fun _ kv _ => (intOf kv).toNat)
        case atStart => exact ⟨l.length + 1, 0, l.length, l, rfl, rfl, by omega, HR0.out, HH0.out, HR3.out, HB3.out⟩
        case round =>
          obtain ⟨f, a, k, M, rfl, rfl, hf, hr, hH, hgr, hb⟩ := hrel
          obtain ⟨f, rfl⟩ : ∃ f', f = f' + 1 := ⟨f - 1, by omega⟩
          have HRR := Lib.hid hr
          have HH := Lib.hid hH
          have HGR := Lib.hid hgr
          have HB := Lib.hid hb
          have HML : Hid (M.length = l.length) := Lib.hid hH.perm.length_eq
          obtain ⟨hau, hul, hup, hux, hdk, hdn, hdx⟩ := hH.facts
          have hkl := hH.kle
          have HGO := Lib.hid (fun (h : ¬ dnF x M k ≤ upF x M a) => And.intro ((hoN_go (f := f) h).symm.trans HRR.out) (hH.step h))
          have HSTOP := Lib.hid (fun (h : dnF x M k ≤ upF x M a) => (hoN_stop (f := f) h).symm.trans HRR.out)
          generalize upF x M a = u at *
          generalize dnF x M k = d at *
          have HUP := Lib.hid hup
          have HUX := Lib.hid hux
          have HDN := Lib.hid hdn
          have HDX := Lib.hid hdx
          have hal : a < l.length := by omega
          obtain ⟨k1, hk1⟩ : ∃ k1, k1 = k - 1 := ⟨_, rfl⟩
          have hkk : k1 + 1 = k := by omega
          have HKK := Lib.hid hkk
          have hk1d : d ≤ k1 := by omega
          have hk1l : k1 < l.length := by omega
          have hwk : IntKind.i64.wrap ((k : Int) - 1) = (k1 : Int) := by rw [IntKind.wrap_i64]; omega
          have hkf : k ≤ f := by omega
          clear hr hH hgr hb HR0 HH0 HR3 HB3 hup hux hdn hdx hk1 hkk hf
          go_wp2_with fail
          go_loopw [7] (fun iv ws => ∃ j : Nat, iv = .int .i64 (j : Int) ∧ a ≤ j ∧ j ≤ u ∧ ws = wr) (fun iv _ => l.length - (intOf iv).toNat)
          case atStart => exact ⟨a, int_eq (by omega), Nat.le_refl _, hau, rfl⟩
          case round =>
            obtain ⟨j, rfl, haj, hju, rfl⟩ := hrel
            have hjl : j < l.length := by omega
            have hjz : (j : Int) < l.length := by omega
            obtain ⟨y, hy⟩ : ∃ y, y = M.getD j 0 := ⟨_, rfl⟩
            obtain ⟨hcy, _⟩ := HGR.out.2 j _ (ints_at (at_getD (by rw [HML.out]; exact hjl)))
            rw [← hy] at hcy
            by_cases hlt : j < u
            · have hyx : y < x := by rw [hy]; exact HUP.out j haj hlt
              have hd : decide (y < x) = true := decide_eq_true hyx
              clear hy
              go_wp2_with fail
              go_roundw
              case rel => exact ⟨j + 1, by go_num, by omega, by omega, by first | rfl | trivial⟩
              case measure => simp [intOf]; omega
            · obtain rfl : j = u := by omega
              have hyx : ¬ y < x := by have := HUX.out; rw [hy]; omega
              have hd : decide (y < x) = false := decide_eq_false hyx
              clear hy
              go_wp2_with fail
              go_loopw [8] (fun kv ws => ∃ m : Nat, kv = .int .i64 (m : Int) ∧ d ≤ m ∧ m ≤ k1 ∧ ws = wr) (fun kv _ => (intOf kv).toNat)
              case atStart => exact ⟨k1, by first | rfl | exact int_eq (by have := HKK.out; omega), hk1d, Nat.le_refl _, rfl⟩
              case round =>
                obtain ⟨m, rfl, hdm, hmk, rfl⟩ := hrel
                have hml : m < l.length := by omega
                have hmz : (m : Int) < l.length := by omega
                obtain ⟨z, hz⟩ : ∃ z, z = M.getD m 0 := ⟨_, rfl⟩
                obtain ⟨hcz, _⟩ := HGR.out.2 m _ (ints_at (at_getD (by rw [HML.out]; exact hml)))
                rw [← hz] at hcz
                by_cases hlt2 : d < m
                · have hzx : x < z := by rw [hz]; exact HDN.out m hlt2 (by have := HKK.out; omega)
                  have hd2 : decide (x < z) = true := decide_eq_true hzx
                  have hm1 : 1 ≤ m := by omega
                  clear hz
                  go_wp2_with fail
                  go_roundw
                  case rel => exact ⟨m - 1, int_eq (by omega), by omega, by omega, by first | rfl | trivial⟩
                  case measure => simp [intOf]; omega
                · obtain rfl : m = d := by omega
                  have hzx : ¬ x < z := by have := HDX.out; rw [hz]; omega
                  have hd2 : decide (x < z) = false := decide_eq_false hzx
                  clear hz
                  by_cases hst : m ≤ j
                  · have hge : (m : Int) ≤ (j : Int) := by omega
                    have hged : decide (m ≤ j) = true := decide_eq_true hst
                    have HE := Lib.hid (HSTOP.out hst)
                    have HRES : Hid (RetI1 (hoAll l) w (.returned (.tuple #[.slice (some ⟨g, 0, none⟩) l.length cap, .int .i64 ((m : Int) + 1), .bool true])) wr) := Lib.hid (by
                      rw [HF.out, ← HE.out]
                      exact ⟨g, cap, by simp only; rw [HML.out]; rfl, by simp only; rw [HML.out]; exact HCAP.out, HG.out, HGR.out, HB.out⟩)
                    clear HGO HSTOP
                    go_wp2_with fail
                    go_ret3
                    exact HRES.out
                  · have hge : ¬ (m : Int) ≤ (j : Int) := by omega
                    have hged : decide (m ≤ j) = false := decide_eq_false hst
                    have HE := Lib.hid (HGO.out hst)
                    have HS := Lib.hid (HSW.out g cap j m M wr HGR.out HML.out hjl hml)
                    clear HGO HSTOP HSW
                    go_wp2_with fail
                    refine HS.out.mono ?_
                    rintro e w4 ⟨rfl, hr4, hb4⟩
                    have HR4 := Lib.hid hr4.row
                    have HB4 := Lib.hid (HB.out.trans (hb4.below HG.out HB.out.size))
                    clear hr4 hb4 HS
                    go_wp2_with fail
                    go_roundw
                    case rel => exact ⟨f, j + 1, m, _, int_eq (by omega), rfl, by omega, HE.out.1, HE.out.2, HR4.out, HB4.out⟩
                    case measure => simp [intOf]; omega
  · rw [decide_eq_false hok] at HV
    have HN := Lib.hid (HNONE.out (fun h => hok h.1))
    clear hok HNONE hv
    go_enter Try.func40, Try.ntmps40
    go_wp2_with fail
    refine HV.out.mono ?_
    rintro e w1 ⟨rfl, hb1⟩
    have HRES := Lib.hid (HN.out w1 hb1)
    clear hb1 HV HN
    go_wp2_with fail
    go_ret3
    exact HRES.out

end Go.Proofs.Ytipdfmedbcafpaa
