/- The model's BubblePasses, by its contract. -/
import Derived.Test.YtjmmhakmidddoaaOwnI
import Derived.Test.YtjmmhakmidddoaaRet12
import Derived.Test.YtjmmhakmidddoaaInsP
import Derived.BigRegion
import Derived.Laws.BitsLemmas
namespace Go.Proofs.Ytjmmhakmidddoaa
open Go.RowKit P El
set_option linter.unusedVariables false

/-- Between two passes. -/
structure BubO (base g : Nat) (l : List Int) (L : List Int) (p s : Nat) (w W : World) : Prop where
  run : ∃ f, bubN f L p s = bubF l ∧ invs L < f
  len : L.length = l.length
  inv : invs L + s = invs l
  ps : p ≤ s
  row : CellRow W g (ints L)
  b : Below base w W
/-- In a pass. -/
structure BubK (base g : Nat) (l L : List Int) (s k : Nat) (M : List Int) (q : Nat) (w W : World) : Prop where
  run : passN k (l.length - 1 - k) (M, q) = passF (L, s)
  len : M.length = l.length
  le : k ≤ l.length
  inv : invs M + q = invs l
  row : CellRow W g (ints M)
  b : Below base w W

set_option maxRecDepth 100000 in
set_option maxHeartbeats 4000000 in
theorem specBub_any (b o c : Nat) (l : List Int) (w : World) (hv : FlatAt w (.slice (some ⟨b, o, none⟩) l.length c) l.length (ints l)) (hn : l.length ≤ 1048576) :
    Calls Try.prog 48 #[.slice (some ⟨b, o, none⟩) l.length c] w (RetI2 (bubAll l) w) := by
  have HV := Lib.hid hv
  clear hv
  by_cases hok : OkL l
  · have hd : decide (OkL l) = true := decide_eq_true hok
    have HI := Lib.hid (fun W (h : FlatAt W (.slice (some ⟨b, o, none⟩) l.length c) l.length (ints l)) => by have := l2List_any _ l W h hn; rw [hd] at this; exact this)
    have HOWN := Lib.hid (fun W (h : FlatAt W (.slice (some ⟨b, o, none⟩) l.length c) l.length (ints l)) => l1Own_any b o c l W h hn)
    have HF := Lib.hid (bubAll_yes hok)
    have h64 := hok.1
    have hiv : invs l ≤ 4096 := by have := invs_le l; have := Nat.mul_le_mul h64 h64; omega
    clear hok hd
    go_enter Try.func48, Try.ntmps48
    go_wp2_with fail
    refine (HI.out _ HV.out).mono ?_
    rintro e w1 ⟨rfl, hb1⟩
    have HV1 := Lib.hid (HV.out.below hb1)
    have HB1 := Lib.hid hb1
    clear hb1 HV HI
    go_wp2_with fail
    refine (HOWN.out _ HV1.out).mono ?_
    rintro e w2 ⟨g, cap, rfl, hcap, hg, hrow, hb2⟩
    have HS0 : Hid (BubO w1.heap.size g l l 0 0 w1 w2) := Lib.hid ⟨⟨invs l + 1, rfl, by omega⟩, rfl, rfl, Nat.le_refl _, hrow, hb2⟩
    have HG := Lib.hid hg
    have HWG : Hid (w.heap.size ≤ g) := Lib.hid (Nat.le_trans HB1.out.size hg)
    clear hb2 hrow HOWN HV1 hg
    go_wp2_with fail
    go_loopw [7, 8, 9, 10, 11] (fun pv qv _ _ _ wr => ∃ (L : List Int) (p s : Nat), pv = .int .i64 p ∧ qv = .int .i64 s ∧ BubO w1.heap.size g l L p s w1 wr) (fun pv _ _ _ _ _ => invs l + 1 - (intOf pv).toNat)
    case atStart => exact ⟨l, 0, 0, rfl, rfl, HS0.out⟩
    case round =>
      obtain ⟨L, p, s, rfl, rfl, ho⟩ := hrel
      have HO := Lib.hid ho
      have hps := ho.ps
      have hsl : s ≤ invs l := by have := ho.inv; omega
      have HK0 : Hid (BubK w1.heap.size g l L s 0 L s w1 wr) := Lib.hid ⟨by show _ = passN 0 (L.length - 1) (L, s); rw [ho.len]; rfl, ho.len, Nat.zero_le _, ho.inv, ho.row, ho.b⟩
      clear ho HS0
      go_wp2_with fail
      go_loopw [8, 10, 11] (fun qv kv _ ws => ∃ (k : Nat) (M : List Int) (q : Nat), qv = .int .i64 q ∧ kv = .int .i64 k ∧ BubK w1.heap.size g l L s k M q w1 ws) (fun _ kv _ _ => l.length - (intOf kv).toNat)
      case atStart => exact ⟨0, L, s, rfl, rfl, HK0.out⟩
      case round =>
        obtain ⟨k, M, q, rfl, rfl, hk⟩ := hrel
        have HK := Lib.hid hk
        have hkl := hk.le
        have hq : q ≤ invs l := by have := hk.inv; omega
        clear hk HK0
        have hwk : IntKind.i64.wrap ((k : Int) + 1) = ((k + 1 : Nat) : Int) := by rw [IntKind.wrap_i64]; omega
        by_cases hlt : k + 1 < l.length
        · have HNX := Lib.hid (pass_next hlt HK.out.run HK.out.len HK.out.inv)
          obtain ⟨x, hx⟩ : ∃ x, x = M.getD k 0 := ⟨_, rfl⟩
          obtain ⟨y, hy⟩ : ∃ y, y = M.getD (k + 1) 0 := ⟨_, rfl⟩
          obtain ⟨hcx, hfx⟩ := HK.out.row.2 k _ (ints_at (at_getD (by rw [HK.out.len]; omega)))
          obtain ⟨hcy, hfy⟩ := HK.out.row.2 (k + 1) _ (ints_at (at_getD (by rw [HK.out.len]; omega)))
          rw [← hx] at hcx
          rw [← hy] at hcy
          have HX := Lib.hid hx
          have HY := Lib.hid hy
          have hkz : (k : Int) < l.length := by omega
          have hk1z : ((k + 1 : Nat) : Int) < l.length := by omega
          clear hx hy
          by_cases hd : y < x
          · have hgt : decide (y < x) = true := decide_eq_true hd
            have HE := Lib.hid (HNX.out.1 (by rw [← HX.out, ← HY.out]; exact hd))
            have HRW : Hid (∀ n, CellRow (((wr.drewN n).setCell ⟨g, k, none⟩ (.int .i64 y)).setCell ⟨g, k + 1, none⟩ (.int .i64 x)) g (ints (swapped M k (k + 1)))) := Lib.hid (fun n => by
              have h0 : CellRow (wr.drewN n) g (ints M) := HK.out.row.same rfl (Nat.le_refl _)
              have h1 := (h0.set k (.int .i64 y) (by rw [ints_length, HK.out.len]; omega)).set (k + 1) (.int .i64 x) (by rw [List.length_set, ints_length, HK.out.len]; omega)
              rw [ints_set, ints_set] at h1
              have e : (M.set k y).set (k + 1) x = swapped M k (k + 1) := by unfold swapped; rw [← HX.out, ← HY.out]
              rw [e] at h1; exact h1)
            have HN : Hid (∀ n, BubK w1.heap.size g l L s (k + 1) (swapped M k (k + 1)) (q + 1) w1 (((wr.drewN n).setCell ⟨g, k, none⟩ (.int .i64 y)).setCell ⟨g, k + 1, none⟩ (.int .i64 x))) := Lib.hid (fun n =>
              ⟨HE.out.1, HE.out.2.1, by omega, HE.out.2.2, HRW.out n, (((HK.out.b.trans ⟨rfl, rfl, rfl, Nat.le_refl _, fun _ _ => rfl⟩ : Below w1.heap.size w1 (wr.drewN n))).setCell (p := ⟨g, k, none⟩) HG.out _).setCell (p := ⟨g, k + 1, none⟩) HG.out _⟩)
            clear HNX HE HRW
            go_wp2_with fail
            go_quiet (fail)
            go_wp2_with fail
            go_roundw
            case rel => exact ⟨k + 1, _, q + 1, by go_num, by go_num, HN.out nq⟩
            case measure => simp [intOf]; omega
          · have hgt : decide (y < x) = false := decide_eq_false hd
            have HN : Hid (∀ n, BubK w1.heap.size g l L s (k + 1) M q w1 (wr.drewN n)) := Lib.hid (fun n =>
              ⟨HNX.out.2 (by rw [← HX.out, ← HY.out]; exact hd), HK.out.len, by omega, HK.out.inv, HK.out.row.same rfl (Nat.le_refl _), HK.out.b.trans ⟨rfl, rfl, rfl, Nat.le_refl _, fun _ _ => rfl⟩⟩)
            clear HNX
            go_wp2_with fail
            go_quiet (fail)
            go_wp2_with fail
            go_roundw
            case rel => exact ⟨k + 1, _, q, rfl, by go_num, HN.out nq⟩
            case measure => simp [intOf]; omega
        · have hlz : ¬ ((k + 1 : Nat) : Int) < l.length := by omega
          have HP : Hid ((M, q) = passF (L, s)) := Lib.hid (by
            have hr := HK.out.run
            rw [show l.length - 1 - k = 0 by omega] at hr; exact hr)
          have HPI := Lib.hid (passF_inv (L, s))
          rw [← HP.out] at HPI
          by_cases hqs : q = s
          · have HRES : Hid (RetI2 (bubAll l) w (.returned (.tuple #[.slice (some ⟨g, 0, none⟩) l.length cap, .int .i64 ((p : Int) + 1), .int .i64 (q : Int), .bool true])) wr) := Lib.hid (by
              obtain ⟨f, hf1, hf2⟩ := HO.out.run
              obtain ⟨f', rfl⟩ : ∃ f', f = f' + 1 := ⟨f - 1, by omega⟩
              have hs : (passF (L, s)).2 = s := by rw [← HP.out]; exact hqs
              have hM : M = L := by have := (passF_same (S := (L, s)) hs).1; rw [← HP.out] at this; exact this
              rw [bubN_stop hs] at hf1
              rw [HF.out, ← hf1]
              have hl := HO.out.len
              refine ⟨g, cap, ?_, by simp only; rw [hl]; exact hcap, HWG.out, by simp only; rw [← hM]; exact HK.out.row, HB1.out.trans (HK.out.b.mono HB1.out.size)⟩
              simp only
              rw [hl, hqs]; rfl)
            have hbe : ((q : Int) == s) = true := by simp; omega
            subst hqs
            go_wp2_with fail
            refine bodyPost_ret (v := .tuple #[.slice (some ⟨g, 0, none⟩) l.length cap, .int .i64 ((p : Int) + 1), .int .i64 (q : Int), .bool true]) (by simp [results, Try.results48, go_sem]) rfl ?_
            exact HRES.out
          · have hbe : ((q : Int) == s) = false := by simp; omega
            have HN : Hid (BubO w1.heap.size g l M (p + 1) q w1 wr) := Lib.hid (by
              obtain ⟨f, hf1, hf2⟩ := HO.out.run
              obtain ⟨f', rfl⟩ : ∃ f', f = f' + 1 := ⟨f - 1, by omega⟩
              have hs : ¬ (passF (L, s)).2 = s := by rw [← HP.out]; exact hqs
              rw [bubN_go hs, ← HP.out] at hf1
              obtain ⟨_, hi1, hi2⟩ := HPI.out
              simp only at hi1 hi2
              exact ⟨⟨f', hf1, by omega⟩, HK.out.len, HK.out.inv, by omega, HK.out.row, HK.out.b⟩)
            have hpm : p + 1 ≤ invs l := by
              have := HN.out.ps; have := HN.out.inv; omega
            go_wp2_with fail
            go_roundw
            case rel => exact ⟨M, p + 1, q, by go_num, rfl, HN.out⟩
            case measure => simp [intOf]; omega
  · have hd : decide (OkL l) = false := decide_eq_false hok
    have HI := Lib.hid (fun W (h : FlatAt W (.slice (some ⟨b, o, none⟩) l.length c) l.length (ints l)) => by have := l2List_any _ l W h hn; rw [hd] at this; exact this)
    have HF := Lib.hid (bubAll_no hok)
    clear hok hd
    go_enter Try.func48, Try.ntmps48
    go_wp2_with fail
    refine (HI.out _ HV.out).mono ?_
    rintro e w1 ⟨rfl, hb1⟩
    have HRES : Hid (RetI2 (bubAll l) w (.returned (.tuple #[.slice (some ⟨w1.heap.size, 0, none⟩) 0 0, .int .i64 0, .int .i64 0, .bool false])) (w1.alloc (.cells #[] 3))) := Lib.hid (by rw [HF.out]; exact RetI2.none w w1 hb1)
    clear hb1 HI
    go_wp2_with fail
    refine bodyPost_ret (v := .tuple #[.slice (some ⟨w1.heap.size, 0, none⟩) 0 0, .int .i64 0, .int .i64 0, .bool false]) (by simp [results, Try.results48, go_sem]) rfl ?_
    exact HRES.out

end Go.Proofs.Ytjmmhakmidddoaa
