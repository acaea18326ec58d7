/- The program's BubblePasses, by its contract. -/
import Derived.Test.YtjmmhakmidddoaaISwap
import Derived.Test.YtjmmhakmidddoaaIList
import Derived.Test.YtjmmhakmidddoaaRet12
import Derived.Test.YtjmmhakmidddoaaInsP
import Derived.Scope
import Derived.WalkMore
namespace Go.Proofs.Ytjmmhakmidddoaa
open Go.RowKit P El
set_option linter.unusedVariables false

/-- In a part of a pass. -/
structure SwpK (base s g cap : Nat) (l : List Int) (q0 k0 k : Nat) (M : List Int) (q : Nat) (w W : World) : Prop where
  run : passN k (l.length - 1 - k) (M, q) = passN k0 (l.length - 1 - k0) (l, q0)
  len : M.length = l.length
  le : k ≤ l.length
  qb : q ≤ q0 + k
  cnt : Cnt base s g cap M 0 0 q W
  b : But2 s g w W

set_option maxRecDepth 100000 in
set_option maxHeartbeats 4000000 in
theorem swapPairsFrom_any {base s g cap : Nat} {l : List Int} {q0 : Nat} (k0 st : Nat) (hst : st = k0 + 1) (w : World) (h : Cnt base s g cap l 0 0 q0 w) (h64 : l.length ≤ 64) (hq0 : q0 ≤ 100000) (hk0 : k0 + 1 < l.length) :
    Calls Try.prog 88 #[.pointer (some ⟨s, 0, none⟩), .int .i64 (st : Int)] w fun e w' =>
      e = .returned (.tuple #[]) ∧ CntP base s g cap (passN k0 (l.length - 1 - k0) (l, q0)).1 0 0 (passN k0 (l.length - 1 - k0) (l, q0)).2 w w' := by
  have HK0 : Hid (SwpK base s g cap l q0 k0 k0 l q0 w w) := Lib.hid ⟨rfl, rfl, by omega, by omega, h, But2.refl _ _ _⟩
  have HST := Lib.hid hst
  clear h hst
  go_enter Try.func88, Try.ntmps88
  go_wp2_with fail
  go_loopw [4] (fun iv wr => ∃ (k : Nat) (M : List Int) (q : Nat), iv = .int .i64 ((k + 1 : Nat) : Int) ∧ SwpK base s g cap l q0 k0 k M q w wr) (fun iv _ => l.length + 1 - (intOf iv).toNat)
  case atStart => exact ⟨k0, l, q0, by rw [HST.out], HK0.out⟩
  case round =>
    obtain ⟨k, M, q, rfl, hk⟩ := hrel
    have HK := Lib.hid hk
    have hkl := hk.le
    have hqb := hk.qb
    have hlM := hk.len
    obtain ⟨hs0, _⟩ := hk.cnt.c0
    rw [hlM] at hs0
    clear hk HK0
    have hwk : IntKind.i64.wrap (((k + 1 : Nat) : Int) - 1) = (k : Int) := by rw [IntKind.wrap_i64]; omega
    have hwk2 : IntKind.i64.wrap (((k + 1 : Nat) : Int) + 1) = ((k + 2 : Nat) : Int) := by rw [IntKind.wrap_i64]; omega
    obtain ⟨k1, hk1⟩ : ∃ k1, k1 = k + 1 := ⟨_, rfl⟩
    obtain ⟨k2, hk2⟩ : ∃ k2, k2 = k + 2 := ⟨_, rfl⟩
    rw [← hk1] at hwk hwk2 ⊢
    rw [← hk2] at hwk2
    have HK1 := Lib.hid hk1
    have HK2 := Lib.hid hk2
    have hkk : k1 ≤ 65 := by omega
    by_cases hlt : k1 < l.length
    · have hk1M : k1 < M.length := by omega
      have hkM : k < M.length := by omega
      have HSTEP : Hid (passN (k + 1) (l.length - 1 - (k + 1)) (pairAt k (M, q)) = passN k0 (l.length - 1 - k0) (l, q0)) := Lib.hid (by
        have hr := HK.out.run
        rw [show l.length - 1 - k = l.length - 1 - (k + 1) + 1 by omega, passN_succ] at hr; exact hr)
      obtain ⟨x, hx⟩ : ∃ x, x = M.getD k 0 := ⟨_, rfl⟩
      obtain ⟨y, hy⟩ : ∃ y, y = M.getD k1 0 := ⟨_, rfl⟩
      obtain ⟨hcx, hfx⟩ := HK.out.cnt.at hkM
      obtain ⟨hcy, hfy⟩ := HK.out.cnt.at hk1M
      rw [← hx] at hcx
      rw [← hy] at hcy
      have HX := Lib.hid hx
      have HY := Lib.hid hy
      have HSW := Lib.hid (fun n => swap_any k k1 (wr.drewN n) (HK.out.cnt.drewN n) (by omega) hkM hk1M (by omega))
      have hkz : (k : Int) < l.length := by omega
      have hk1z : (k1 : Int) < l.length := by omega
      clear hx hy hk1 hk2 hlM
      by_cases hd : y < x
      · have hgt : decide (y < x) = true := decide_eq_true hd
        have HE : Hid (passN (k + 1) (l.length - 1 - (k + 1)) (swapped M k k1, q + 1) = passN k0 (l.length - 1 - k0) (l, q0)) := Lib.hid (by
          have := HSTEP.out
          rw [pairAt_yes (by rw [← HK1.out, ← HX.out, ← HY.out]; exact hd), ← HK1.out] at this; rw [← HK1.out]; exact this)
        go_wp2_with fail
        go_quiet (fail)
        go_wp2_with fail
        refine (HSW.out nq).mono ?_
        rintro e w4 ⟨rfl, hcn, hb⟩
        have HN : Hid (SwpK base s g cap l q0 k0 (k + 1) (swapped M k k1) (q + 1) w w4) := Lib.hid
          ⟨HE.out, by rw [swapped_length]; exact HK.out.len, by have := HK1.out; omega, by omega, hcn, (HK.out.b.drewN nq).trans hb⟩
        clear hcn hb HSW HSTEP HE
        go_wp2_with fail
        go_roundw
        case rel => exact ⟨k + 1, _, q + 1, by rw [HK2.out], HN.out⟩
        case measure => have := HK1.out; have := HK2.out; simp [intOf]; omega
      · have hgt : decide (y < x) = false := decide_eq_false hd
        have HN : Hid (∀ n, SwpK base s g cap l q0 k0 (k + 1) M q w (wr.drewN n)) := Lib.hid (fun n => by
          have := HSTEP.out
          rw [pairAt_no (by rw [← HK1.out, ← HX.out, ← HY.out]; exact hd)] at this
          exact ⟨this, HK.out.len, by have := HK1.out; omega, by omega, HK.out.cnt.drewN n, HK.out.b.drewN n⟩)
        clear HSW HSTEP
        go_wp2_with fail
        go_quiet (fail)
        go_wp2_with fail
        go_roundw
        case rel => exact ⟨k + 1, _, q, by rw [HK2.out], HN.out nq⟩
        case measure => have := HK1.out; have := HK2.out; simp [intOf]; omega
    · have hlz : ¬ (k1 : Int) < l.length := by omega
      have HRES : Hid (CntP base s g cap (passN k0 (l.length - 1 - k0) (l, q0)).1 0 0 (passN k0 (l.length - 1 - k0) (l, q0)).2 w wr) := Lib.hid (by
        have hr := HK.out.run
        rw [show l.length - 1 - k = 0 by omega] at hr
        have hr2 : (M, q) = passN k0 (l.length - 1 - k0) (l, q0) := hr
        rw [← hr2]
        exact ⟨HK.out.cnt, HK.out.b⟩)
      clear hk1 hk2 hlM
      go_wp2_with fail
      go_end0
      exact ⟨rfl, HRES.out⟩

/-- Between two passes. -/
structure BubI (base s g cap : Nat) (l : List Int) (L : List Int) (p q : Nat) (w W : World) : Prop where
  run : ∃ f, bubN f L p q = bubF l ∧ invs L < f
  len : L.length = l.length
  inv : invs L + q = invs l
  ps : p ≤ q
  cnt : Cnt base s g cap L 0 0 q W
  b : Below base w W

set_option maxRecDepth 100000 in
set_option maxHeartbeats 4000000 in
theorem implBub_any (b o c : Nat) (l : List Int) (w : World) (hv : FlatAt w (.slice (some ⟨b, o, none⟩) l.length c) l.length (ints l)) (hn : l.length ≤ 1048576) :
    Calls Try.prog 47 #[.slice (some ⟨b, o, none⟩) l.length c] w (RetI2 (bubAll l) w) := by
  have HV := Lib.hid hv
  clear hv
  by_cases hok : OkL l
  · have hd : decide (OkL l) = true := decide_eq_true hok
    have HI := Lib.hid (fun W (h : FlatAt W (.slice (some ⟨b, o, none⟩) l.length c) l.length (ints l)) => by have := implValidList_any _ l W h hn; rw [hd] at this; exact this)
    have HCL := Lib.hid (fun W (h : FlatAt W (.slice (some ⟨b, o, none⟩) l.length c) l.length (ints l)) => counted_any b o c l W h hn)
    have HF := Lib.hid (bubAll_yes hok)
    have h64 := hok.1
    have hiv : invs l ≤ 4096 := by have := invs_le l; have := Nat.mul_le_mul h64 h64; omega
    clear hok hd
    go_enter Try.func47, Try.ntmps47
    go_wp2_with fail
    refine wp_scope_straight ?_
    go_wp2_with fail
    refine (HI.out _ HV.out).mono ?_
    rintro e w1 ⟨rfl, hb1⟩
    have HV1 := Lib.hid (HV.out.below hb1)
    have HB1 := Lib.hid hb1
    clear hb1 HV HI
    go_wp2_with fail
    refine (HCL.out _ HV1.out).mono ?_
    rintro e w2 ⟨s, g, cap, rfl, hcn, hb2⟩
    have HS0 : Hid (BubI w1.heap.size s g cap l l 0 0 w1 w2) := Lib.hid ⟨⟨invs l + 1, rfl, by omega⟩, rfl, rfl, Nat.le_refl _, hcn, hb2⟩
    clear hb2 hcn HCL HV1
    go_wp2_with fail
    refine wp_label ?_
    go_wp2_with fail
    go_loopw [7, 8] (fun pv _ wr => ∃ (L : List Int) (p q : Nat), pv = .int .i64 p ∧ BubI w1.heap.size s g cap l L p q w1 wr) (fun pv _ _ => invs l + 1 - (intOf pv).toNat)
    case atStart => exact ⟨l, 0, 0, rfl, HS0.out⟩
    case round =>
      obtain ⟨L, p, q, rfl, ho⟩ := hrel
      have HO := Lib.hid ho
      have hps := ho.ps
      have hsl : q ≤ invs l := by have := ho.inv; omega
      have hlL := ho.len
      have HP0 : Hid (passN 0 (l.length - 1 - 0) (L, q) = passF (L, q)) := Lib.hid (by show _ = passN 0 (L.length - 1) (L, q); rw [hlL]; rfl)
      obtain ⟨hs0, _, _, hs3, _⟩ := ho.cnt.c0
      have HLL := Lib.hid hlL
      rw [hlL] at hs0
      clear ho HS0 hlL
      go_wp2_with fail
      go_loopw [8] (fun iv ws => ∃ (k m : Nat), iv = .int .i64 ((k + 1 : Nat) : Int) ∧ k ≤ l.length ∧ passN k (l.length - 1 - k) (L, q) = passF (L, q) ∧ ws = wr.drewN m) (fun iv _ => l.length + 1 - (intOf iv).toNat)
      case atStart => exact ⟨0, 0, rfl, Nat.zero_le _, HP0.out, rfl⟩
      case round =>
        obtain ⟨k, m, rfl, hkl, hr, rfl⟩ := hrel
        have HR := Lib.hid hr
        clear hr HP0
        have HNX := Lib.hid (fun h : k + 1 < l.length => pass_next h HR.out HO.out.len HO.out.inv)
        have hwk : IntKind.i64.wrap (((k + 1 : Nat) : Int) - 1) = (k : Int) := by rw [IntKind.wrap_i64]; omega
        have hwk2 : IntKind.i64.wrap (((k + 1 : Nat) : Int) + 1) = ((k + 2 : Nat) : Int) := by rw [IntKind.wrap_i64]; omega
        obtain ⟨k1, hk1⟩ : ∃ k1, k1 = k + 1 := ⟨_, rfl⟩
        obtain ⟨k2, hk2⟩ : ∃ k2, k2 = k + 2 := ⟨_, rfl⟩
        have HSW := Lib.hid (fun n (h : k1 < l.length) => swapPairsFrom_any k k1 hk1 (wr.drewN n) (HO.out.cnt.drewN n) (by rw [HLL.out]; exact h64) (by omega) (by rw [HLL.out]; omega))
        rw [HLL.out, HR.out] at HSW
        rw [← hk1] at hwk hwk2 HNX ⊢
        rw [← hk2] at hwk2
        have HK1 := Lib.hid hk1
        have HK2 := Lib.hid hk2
        have hkk : k1 ≤ 65 := by omega
        by_cases hlt : k1 < l.length
        · have hk1M : k1 < L.length := by rw [HLL.out]; exact hlt
          have hkM : k < L.length := by omega
          obtain ⟨x, hx⟩ : ∃ x, x = L.getD k 0 := ⟨_, rfl⟩
          obtain ⟨y, hy⟩ : ∃ y, y = L.getD k1 0 := ⟨_, rfl⟩
          obtain ⟨hcx, hfx⟩ := HO.out.cnt.at hkM
          obtain ⟨hcy, hfy⟩ := HO.out.cnt.at hk1M
          rw [← hx] at hcx
          rw [← hy] at hcy
          have HX := Lib.hid hx
          have HY := Lib.hid hy
          have hkz : (k : Int) < l.length := by omega
          have hk1z : (k1 : Int) < l.length := by omega
          clear hx hy hk1 hk2
          by_cases hd : y < x
          · have hgt : decide (y < x) = true := decide_eq_true hd
            have HSWN := Lib.hid (fun n => HSW.out n hlt)
            have HPI := Lib.hid (passF_inv (L, q))
            have HGT : Hid (q < (passF (L, q)).2) := Lib.hid (by
              have h1 := (HNX.out hlt).1 (by rw [← HX.out, ← HY.out]; exact hd)
              have h2 := passN_inv (l.length - 1 - k1) k1 (swapped L k k1, q + 1) (by simp only [swapped_length]; rw [HLL.out]; omega)
              rw [h1.1] at h2
              have := h2.2.2
              simp only at this
              omega)
            clear HSW HNX
            go_wp2_with fail
            go_quiet (fail)
            go_wp2_with fail
            refine (HSWN.out _).mono ?_
            rintro e w4 ⟨rfl, hcn, hb⟩
            have HN : Hid (BubI w1.heap.size s g cap l (passF (L, q)).1 (p + 1) (passF (L, q)).2 w1 w4) := Lib.hid (by
              obtain ⟨f, hf1, hf2⟩ := HO.out.run
              obtain ⟨f', rfl⟩ : ∃ f', f = f' + 1 := ⟨f - 1, by omega⟩
              have hg := HGT.out
              have hs : ¬ (passF (L, q)).2 = q := by omega
              rw [bubN_go hs] at hf1
              obtain ⟨hi0, hi1, hi2⟩ := HPI.out
              have hi0' : (passF (L, q)).1.Perm L := hi0
              have hi1' : invs (passF (L, q)).1 + (passF (L, q)).2 = invs L + q := hi1
              have hinv := HO.out.inv
              have hsz := HO.out.b.size
              exact ⟨⟨f', hf1, by omega⟩, by rw [hi0'.length_eq]; exact HLL.out, by omega, by omega, hcn, HO.out.b.trans ((But2.drewN (But2.refl s g wr) _).trans hb |>.below hcn.bs hcn.bg hsz)⟩)
            have hpm : p + 1 ≤ invs l := by have := HN.out.ps; have := HN.out.inv; omega
            generalize passF (L, q) = R at *
            clear hcn hb HSWN hs0 hs3
            go_wp2_with fail
            go_roundw
            case rel => exact ⟨R.1, p + 1, R.2, by go_num, HN.out⟩
            case measure => simp [intOf]; omega
          · have hgt : decide (y < x) = false := decide_eq_false hd
            have HE := Lib.hid ((HNX.out hlt).2 (by rw [← HX.out, ← HY.out]; exact hd))
            clear HSW HNX
            go_wp2_with fail
            go_quiet (fail)
            go_wp2_with fail
            go_roundw
            case rel => exact ⟨k + 1, m + nq, by rw [HK2.out], by have := HK1.out; omega, by rw [← HK1.out]; exact HE.out, by trivial⟩
            case measure => have := HK1.out; have := HK2.out; simp [intOf]; omega
        · have hlz : ¬ (k1 : Int) < l.length := by omega
          have HRES : Hid (∀ n, RetI2 (bubAll l) w (.returned (.tuple #[.slice (some ⟨g, 0, none⟩) l.length cap, .int .i64 ((p : Int) + 1), .int .i64 (q : Int), .bool true])) (wr.drewN n)) := Lib.hid (fun n => by
            obtain ⟨f, hf1, hf2⟩ := HO.out.run
            obtain ⟨f', rfl⟩ : ∃ f', f = f' + 1 := ⟨f - 1, by omega⟩
            have hP : (L, q) = passF (L, q) := by
              have hr := HR.out
              rw [show l.length - 1 - k = 0 by omega] at hr; exact hr
            have hs : (passF (L, q)).2 = q := by rw [← hP]
            rw [bubN_stop hs] at hf1
            rw [HF.out, ← hf1]
            have hl := HO.out.len
            refine ⟨g, cap, ?_, HO.out.cnt.cap, Nat.le_trans HB1.out.size HO.out.cnt.bg, HO.out.cnt.row.same rfl (Nat.le_refl _), (HB1.out.trans (HO.out.b.mono HB1.out.size)).trans ⟨rfl, rfl, rfl, Nat.le_refl _, fun _ _ => rfl⟩⟩
            simp only
            rw [hl]; rfl)
          clear hk1 hk2 HSW HNX
          go_wp2_with fail
          go_quiet (fail)
          go_wp2_with fail
          rw [Exit.noGoto_ret]
          refine bodyPost_ret (v := .tuple #[.slice (some ⟨g, 0, none⟩) l.length cap, .int .i64 ((p : Int) + 1), .int .i64 (q : Int), .bool true]) (by simp [results, Try.results47, go_sem]) rfl ?_
          first | exact HRES.out _ | (rw [World.drewN_drewN]; exact HRES.out _)
  · have hd : decide (OkL l) = false := decide_eq_false hok
    have HI := Lib.hid (fun W (h : FlatAt W (.slice (some ⟨b, o, none⟩) l.length c) l.length (ints l)) => by have := implValidList_any _ l W h hn; rw [hd] at this; exact this)
    have HF := Lib.hid (bubAll_no hok)
    clear hok hd
    go_enter Try.func47, Try.ntmps47
    go_wp2_with fail
    refine wp_scope_straight ?_
    go_wp2_with fail
    refine (HI.out _ HV.out).mono ?_
    rintro e w1 ⟨rfl, hb1⟩
    have HRES : Hid (RetI2 (bubAll l) w (.returned (.tuple #[.slice (some ⟨w1.heap.size, 0, none⟩) 0 0, .int .i64 0, .int .i64 0, .bool false])) (w1.alloc (.cells #[] 3))) := Lib.hid (by rw [HF.out]; exact RetI2.none w w1 hb1)
    clear hb1 HI
    go_wp2_with fail
    rw [Exit.noGoto_ret]
    refine bodyPost_ret (v := .tuple #[.slice (some ⟨w1.heap.size, 0, none⟩) 0 0, .int .i64 0, .int .i64 0, .bool false]) (by simp [results, Try.results47, go_sem]) rfl ?_
    exact HRES.out

end Go.Proofs.Ytjmmhakmidddoaa
