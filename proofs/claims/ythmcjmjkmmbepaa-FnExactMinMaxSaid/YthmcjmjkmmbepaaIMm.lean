/- The program's MinMax (pairs by slices.Chunk), by its contract. -/
import Derived.Test.YthmcjmjkmmbepaaIMl
import Derived.Test.YthmcjmjkmmbepaaRes4
import Derived.Deep.RegionHeld3
namespace Go.Proofs.Ythmcjmjkmmbepaa
open Go.RowKit Go.Shelf P El Qk Sl
set_option linter.unusedVariables false

attribute [local go_sem] Oper.semAt_some

theorem cell_alloc {w : World} {a : Addr} {v : Value} (h : w.cell? a = some v) (o : Obj) : (w.alloc o).cell? a = some v :=
  (World.cell?_of_block (w := w) (Below.heap_alloc w o a.block (World.block_lt_of_cell? w a h))).trans h

theorem ext_leave {F : Fence} {n : Nat} {base s g cap c : Nat} {L : List Int} {w w1 : World} {bl bh : Nat} {tmps : Array Value} {D : Nat} {lo hi : Int} (hK : w1.heap[D]? = some (.deferred (some []))) (hD : w.heap.size ≤ D) (hv : ExV base s g cap L w bl bh c lo hi w1) (hm : MM L L.length lo hi) (hc : c = mmC L.length) (h2 : tmps.getD 2 undef = .int .i64 lo) (h3 : tmps.getD 3 undef = .int .i64 hi) :
    LeavesInM F n Try.prog Try.f55 tmps (fun e w' => ∃ lo hi, e = .returned (.tuple #[.int .i64 lo, .int .i64 hi]) ∧ MM L L.length lo hi ∧ Cnt base s g cap L (mmC L.length) 0 0 w' ∧ But2 s g w w') [{ target := .collected D, args := #[] }] .returning w1 := by
  subst hc
  have h1 := hv.ls
  have h4 := hv.lg
  refine ⟨by simp, .inl ⟨D, _, rfl, run_takeDeferred hK, ?_⟩⟩
  refine ⟨_, results_tmp2 rfl _ _ _, lo, hi, by rw [h2, h3], hm, ?_, ?_⟩
  · exact hv.cnt.same (World.putObj_heap_other (by omega)) (World.putObj_heap_other (by omega)) (by simp [World.putObj])
  · exact ⟨hv.but.os, hv.but.tape, hv.but.output, Nat.le_trans hv.but.size (by simp [World.putObj]), fun k hk a b => (World.putObj_heap_other (by omega)).trans (hv.but.block k hk a b)⟩

def tailOf : Option Code → Code
  | some (.seq _ (.seq _ (.seq _ c))) => c
  | _ => .skip
def condOf : Option Code → Code
  | some (.seq _ (.seq _ (.seq c _))) => c
  | _ => .skip
def r3Of : Option Code → Code
  | some (.seq _ (.seq _ (.seq (.seq _ (.cond _ (.seq r _) _)) _))) => r
  | _ => .skip

set_option maxRecDepth 100000 in
set_option maxHeartbeats 4000000 in
theorem ext_tail {base s g cap : Nat} {L : List Int} (w : World) (bl bh o N c k cc : Nat) (lo hi : Int) (t10 t11 t12 t13 t14 t15 t16 t17 t18 t19 t20 t21 t22 t23 t24 t25 t26 t27 t28 t29 t30 t31 t32 t33 t34 t35 t36 t37 t38 t39 t40 t41 : Value) (W : World)
    (hv : ExV base s g cap L w bl bh cc lo hi W) (hm : MM L k lo hi) (hN : N ≤ c) (hev : N % 2 = 0) (ho : N = 0 ∨ o = k) (hk : k + N = L.length) (hcc : cc + 3 * (N / 2) = mmC L.length) (hc : cc ≤ 1000) (h64 : L.length ≤ 64) (hoc : o ≤ 64) :
    (tailOf Try.f55.body).wpIn Fence.wide 5 Try.prog (bodyPostM Fence.wide 5 Try.prog Try.f55 (fun e w' => ∃ lo hi, e = .returned (.tuple #[.int .i64 lo, .int .i64 hi]) ∧ MM L L.length lo hi ∧ Cnt base s g cap L (mmC L.length) 0 0 w' ∧ But2 s g w w')) { tmps := #[.pointer (some ⟨s, 0, none⟩), .pointer (some ⟨w.heap.size, 0, none⟩), .int .i64 0, .int .i64 0, .pointer (some ⟨bl, 0, none⟩), .pointer (some ⟨bh, 0, none⟩), .slice (some ⟨g, o, none⟩) N c, undef, undef, undef, t10, t11, t12, t13, t14, t15, t16, t17, t18, t19, t20, t21, t22, t23, t24, t25, t26, t27, t28, t29, t30, t31, t32, t33, t34, t35, t36, t37, t38, t39, t40, t41, undef, undef, undef, undef, undef, undef, undef, undef, undef, undef, undef, undef, undef, undef, undef, undef, undef, undef, undef, undef, undef, undef, undef, undef, undef, undef, undef, undef, undef, undef], defers := [] } W := by
  simp only [tailOf, Try.f55]
  have HL := Lib.hid (fun Q => ext_loop w bl bh o N c k cc t10 t11 t12 t13 t14 t15 t16 t17 t18 t19 t20 t21 t22 t23 t24 t25 t26 t27 t28 t29 t30 t31 t32 t33 t34 t35 t36 t37 t38 t39 t40 t41 W Q ⟨lo, hi, hv, hm⟩ hN hev ho hk hc h64 hoc)
  have hz := hv.but.size
  have HC := Lib.hid hcc
  clear hv hm hN hev ho hk hcc hc h64 hoc
  gi_wp2
  refine ⟨trivial, ?_⟩
  refine ((callsIn_wide).2 (chunk_any _ _ _ 2 _ (by omega))).mono ?_
  rintro e w1 ⟨rfl, rfl⟩
  gi_wp2
  refine HL.out _ ?_
  rintro D W' hD ⟨lo, hi, hv, hm⟩ hK
  have HV' := Lib.hid hv
  have HM' := Lib.hid hm
  have HK' := Lib.hid hK
  have c1 := hv.lb.cell
  have c2 := hv.hb.cell
  clear hv hm hK HL
  gi_wp2
  refine wpIn_wide.2 ?_
  go_region_held3 (fun w2 => w2.cell? ⟨bl, 0, none⟩ = some (.int .i64 lo) ∧ w2.cell? ⟨bh, 0, none⟩ = some (.int .i64 hi)) (go_keep) (fail)
  gi_wp2
  exact ext_leave HK'.out (Nat.le_trans hz hD) HV'.out.drew HM'.out HC.out rfl rfl

set_option maxRecDepth 100000 in
set_option maxHeartbeats 4000000 in
theorem ext_r3 {base s g cap : Nat} {L : List Int} {K : Act → World → Prop} {Q : Exit → Act → World → Prop} (w : World) (bl bh N C : Nat) (x0 x1 lx hx : Int) (t10 t11 t12 t13 t14 t15 t16 t17 t18 t19 t20 t21 t22 t23 t24 t25 t26 t27 t28 t29 t30 : Value) (W1 : World)
    (HV : Hid (ExV base s g cap L w bl bh 0 x0 x0 W1)) (hx1 : x1 = L.getD 1 0) (hlx : lx = min x0 x1) (hhx : hx = max x0 x1) (hL2 : 1 < L.length) (hN0 : (0 : Int) < (N : Int))
    (hK : Hid (∀ (t31 t32 t33 t34 t35 t36 t37 t38 t39 : Value) W', Hid (ExV base s g cap L w bl bh 1 lx hx W') → K { tmps := #[.pointer (some ⟨s, 0, none⟩), .pointer (some ⟨w.heap.size, 0, none⟩), .int .i64 0, .int .i64 0, .pointer (some ⟨bl, 0, none⟩), .pointer (some ⟨bh, 0, none⟩), .slice (some ⟨g, 1, none⟩) N C, undef, undef, undef, t10, t11, t12, t13, t14, t15, t16, t17, t18, t19, t20, t21, t22, t23, t24, t25, t26, t27, t28, t29, t30, t31, t32, t33, t34, t35, t36, t37, t38, t39, undef, undef, undef, undef, undef, undef, undef, undef, undef, undef, undef, undef, undef, undef, undef, undef, undef, undef, undef, undef, undef, undef, undef, undef, undef, undef, undef, undef, undef, undef, undef, undef], defers := [] } W')) :
    (r3Of Try.f55.body).wpIn Fence.wide 5 Try.prog (Exit.then K Q) { tmps := #[.pointer (some ⟨s, 0, none⟩), .pointer (some ⟨w.heap.size, 0, none⟩), .int .i64 0, .int .i64 0, .pointer (some ⟨bl, 0, none⟩), .pointer (some ⟨bh, 0, none⟩), .slice (some ⟨g, 1, none⟩) N C, undef, undef, undef, t10, t11, t12, t13, t14, t15, t16, t17, t18, t19, t20, t21, t22, t23, t24, t25, t26, t27, t28, t29, t30, undef, undef, undef, undef, undef, undef, undef, undef, undef, undef, undef, undef, undef, undef, undef, undef, undef, undef, undef, undef, undef, undef, undef, undef, undef, undef, undef, undef, undef, undef, undef, undef, undef, undef, undef, undef, undef, undef, undef, undef, undef], defers := [] } W1 := by
  simp only [r3Of, Try.f55]
  have cb1 := HV.out.cb.cell
  have cl1 := HV.out.lb.cell
  have cg1 := (HV.out.cnt.at (k := 1) hL2).1
  rw [← hx1] at cg1
  have hg1 : ∀ (lo hi : Int) (W : World), ExV base s g cap L w bl bh 1 lo hi W → W.cell? ⟨g, 1, none⟩ = some (.int .i64 x1) := fun lo hi W h => by
    have := (h.cnt.at (k := 1) hL2).1
    rw [← hx1] at this; exact this
  have HC3 : Hid (∀ (R : Ending → World → Prop), (∀ W2, W2.cell? ⟨bl, 0, none⟩ = some (.int .i64 x0) → W2.frozen? ⟨bl, 0, none⟩ = false → W2.cell? ⟨bh, 0, none⟩ = some (.int .i64 x0) → W2.frozen? ⟨bh, 0, none⟩ = false → (W2.setCell ⟨bl, 0, none⟩ (.int .i64 lx)).cell? ⟨bh, 0, none⟩ = some (.int .i64 x0) → (W2.setCell ⟨bl, 0, none⟩ (.int .i64 lx)).frozen? ⟨bh, 0, none⟩ = false → (W2.setCell ⟨bh, 0, none⟩ (.int .i64 hx)).cell? ⟨bl, 0, none⟩ = some (.int .i64 x0) → (W2.setCell ⟨bh, 0, none⟩ (.int .i64 hx)).frozen? ⟨bl, 0, none⟩ = false → W2.cell? ⟨w.heap.size, 0, none⟩ = some (.pointer (some ⟨s, 0, none⟩)) → W2.cell? ⟨g, 1, none⟩ = some (.int .i64 x1) → (W2.setCell ⟨bl, 0, none⟩ (.int .i64 lx)).cell? ⟨w.heap.size, 0, none⟩ = some (.pointer (some ⟨s, 0, none⟩)) → (W2.setCell ⟨bl, 0, none⟩ (.int .i64 lx)).cell? ⟨g, 1, none⟩ = some (.int .i64 x1) → (W2.setCell ⟨bh, 0, none⟩ (.int .i64 hx)).cell? ⟨w.heap.size, 0, none⟩ = some (.pointer (some ⟨s, 0, none⟩)) → (W2.setCell ⟨bh, 0, none⟩ (.int .i64 hx)).cell? ⟨g, 1, none⟩ = some (.int .i64 x1) → ((W2.setCell ⟨bl, 0, none⟩ (.int .i64 lx)).setCell ⟨bh, 0, none⟩ (.int .i64 hx)).cell? ⟨w.heap.size, 0, none⟩ = some (.pointer (some ⟨s, 0, none⟩)) → ((W2.setCell ⟨bl, 0, none⟩ (.int .i64 lx)).setCell ⟨bh, 0, none⟩ (.int .i64 hx)).cell? ⟨g, 1, none⟩ = some (.int .i64 x1) → ((W2.setCell ⟨bh, 0, none⟩ (.int .i64 hx)).setCell ⟨bl, 0, none⟩ (.int .i64 lx)).cell? ⟨w.heap.size, 0, none⟩ = some (.pointer (some ⟨s, 0, none⟩)) → ((W2.setCell ⟨bh, 0, none⟩ (.int .i64 hx)).setCell ⟨bl, 0, none⟩ (.int .i64 lx)).cell? ⟨g, 1, none⟩ = some (.int .i64 x1) → Hid (ExV base s g cap L w bl bh 1 lx hx ((W2.setCell ⟨bl, 0, none⟩ (.int .i64 lx)).setCell ⟨bh, 0, none⟩ (.int .i64 hx)) ∧ ExV base s g cap L w bl bh 1 lx hx ((W2.setCell ⟨bh, 0, none⟩ (.int .i64 hx)).setCell ⟨bl, 0, none⟩ (.int .i64 lx))) → R (.returned (.tuple #[.int .i64 lx, .int .i64 hx])) W2) → Calls Try.prog 57 #[.pointer (some ⟨s, 0, none⟩), .int .i64 x0, .int .i64 x1] W1.drew R) := Lib.hid (fun R hR => by
    refine (inOrder_any x0 x1 W1.drew HV.out.drew.cnt (by omega)).mono ?_
    rintro e W2 ⟨rfl, hp⟩
    rw [← hlx, ← hhx]
    have hV := (HV.out.drew.call hp).1
    have hA := hV.setl lx
    have hB := hV.seth hx
    exact hR W2 hV.lb.cell hV.lb.frozen hV.hb.cell hV.hb.frozen hA.hb.cell hA.hb.frozen hB.lb.cell hB.lb.frozen hV.cb.cell (hg1 _ _ _ hV) hA.cb.cell (hg1 _ _ _ hA) hB.cb.cell (hg1 _ _ _ hB) (hA.seth hx).cb.cell (hg1 _ _ _ (hA.seth hx)) (hB.setl lx).cb.cell (hg1 _ _ _ (hB.setl lx)) (Lib.hid ⟨hA.seth hx, hB.setl lx⟩))
  have HV1 := HV
  clear HV hg1 hlx hhx hx1 hL2
  refine wpIn_wide.2 ?_
  refine wp_region_noPanic ?_
  go_region_with (go_at_call 57; refine HC3.out _ ?_; rintro W2 f1 f2 f3 f4 f5 f6 f7 f8 k1 k2 k3 k4 k5 k6 k7 k8 k9 k10 HN2)
  all_goals refine NoPanic.normal ?_
  all_goals clear HC3 cb1 cl1 cg1
  all_goals first | exact hK.out _ _ _ _ _ _ _ _ _ _ (Lib.hid HN2.out.1.drew) | exact hK.out _ _ _ _ _ _ _ _ _ _ (Lib.hid HN2.out.2.drew) | exact hK.out _ _ _ _ _ _ _ _ _ _ (Lib.hid HN2.out.1) | exact hK.out _ _ _ _ _ _ _ _ _ _ (Lib.hid HN2.out.2)

set_option maxRecDepth 100000 in
set_option maxHeartbeats 4000000 in
theorem ext_cond {base s g cap : Nat} {L : List Int} {K : Act → World → Prop} {Q : Exit → Act → World → Prop} (w : World) (bl bh o N C : Nat) (x0 : Int) (t10 t11 t12 t13 t14 t15 t16 t17 t18 t19 t20 t21 t22 t23 t24 t25 t26 : Value) (W1 : World)
    (HV : Hid (ExV base s g cap L w bl bh 0 x0 x0 W1)) (HX0 : Hid (x0 = L.getD 0 0)) (hNL : L.length = N + 1) (hNC : N ≤ C) (ho : N = 0 ∨ o = 1) (ho64 : o ≤ 64) (h64 : L.length ≤ 64)
    (hK : Hid (∀ (o N c k cc : Nat) (lo hi : Int) (t27 t28 t29 t30 t31 t32 t33 t34 t35 t36 t37 t38 t39 t40 t41 : Value) (W' : World), ExV base s g cap L w bl bh cc lo hi W' → MM L k lo hi → N ≤ c → N % 2 = 0 → (N = 0 ∨ o = k) → k + N = L.length → cc + 3 * (N / 2) = mmC L.length → cc ≤ 1000 → o ≤ 64 → K { tmps := #[.pointer (some ⟨s, 0, none⟩), .pointer (some ⟨w.heap.size, 0, none⟩), .int .i64 0, .int .i64 0, .pointer (some ⟨bl, 0, none⟩), .pointer (some ⟨bh, 0, none⟩), .slice (some ⟨g, o, none⟩) N c, undef, undef, undef, t10, t11, t12, t13, t14, t15, t16, t17, t18, t19, t20, t21, t22, t23, t24, t25, t26, t27, t28, t29, t30, t31, t32, t33, t34, t35, t36, t37, t38, t39, t40, t41, undef, undef, undef, undef, undef, undef, undef, undef, undef, undef, undef, undef, undef, undef, undef, undef, undef, undef, undef, undef, undef, undef, undef, undef, undef, undef, undef, undef, undef, undef], defers := [] } W')) :
    (condOf Try.f55.body).wpIn Fence.wide 5 Try.prog (Exit.then K Q) { tmps := #[.pointer (some ⟨s, 0, none⟩), .pointer (some ⟨w.heap.size, 0, none⟩), .int .i64 0, .int .i64 0, .pointer (some ⟨bl, 0, none⟩), .pointer (some ⟨bh, 0, none⟩), .slice (some ⟨g, o, none⟩) N C, undef, undef, undef, t10, t11, t12, t13, t14, t15, t16, t17, t18, t19, t20, t21, t22, t23, t24, t25, t26, undef, undef, undef, undef, undef, undef, undef, undef, undef, undef, undef, undef, undef, undef, undef, undef, undef, undef, undef, undef, undef, undef, undef, undef, undef, undef, undef, undef, undef, undef, undef, undef, undef, undef, undef, undef, undef, undef, undef, undef, undef, undef, undef, undef, undef], defers := [] } W1 := by
  simp only [condOf, Try.f55]
  have HX1 : Hid (MM L 1 x0 x0) := Lib.hid (by rw [HX0.out]; exact MM.one L)
  have hN64 : N ≤ 63 := by omega
  by_cases hpar : N % 2 = 1
  · have ho1 : o = 1 := by omega
    subst ho1
    obtain ⟨x1, hx1⟩ : ∃ x1, x1 = L.getD 1 0 := ⟨_, rfl⟩
    obtain ⟨lx, hlx⟩ : ∃ z, z = min x0 x1 := ⟨_, rfl⟩
    obtain ⟨hx, hhx⟩ : ∃ z, z = max x0 x1 := ⟨_, rfl⟩
    have HX2 : Hid (MM L 2 lx hx) := Lib.hid (by rw [hlx, hhx, HX0.out, hx1]; exact MM.two L)
    have hN0 : (0 : Int) < (N : Int) := by omega
    have ht : ((N : Nat) : Int).tmod 2 = 1 := by rw [Int.tmod_eq_emod_of_nonneg (by omega)]; omega
    have hd : decide (((N : Nat) : Int).tmod 2 = 1) = true := by rw [ht]; rfl
    have HR := Lib.hid (fun K' Q' T27 T28 T29 T30 hk => ext_r3 (K := K') (Q := Q') w bl bh N C x0 x1 lx hx t10 t11 t12 t13 t14 t15 t16 t17 t18 t19 t20 t21 t22 t23 t24 t25 t26 T27 T28 T29 T30 W1 HV hx1 hlx hhx (by omega) hN0 hk)
    simp only [r3Of, Try.f55] at HR
    have hN1 : (1 : Int) ≤ (N : Int) := by omega
    have hC1z : (1 : Int) ≤ (C : Int) := by omega
    have hNC1 : (N : Int) ≤ (C : Int) := by omega
    have HNL := Lib.hid hNL
    have HNC := Lib.hid hNC
    have HPAR := Lib.hid hpar
    clear hx1 hlx hhx HX1 HX0 hNL hNC ho ho64 h64 hpar
    gi_wp2_with fail
    rename_i HKK
    refine HR.out _ _ _ _ _ _ (Lib.hid ?_)
    intro t31 t32 t33 t34 t35 t36 t37 t38 t39 W' hW
    refine HKK _ _ ?_
    clear HKK HR HV
    by_cases hC1 : C = 1
    · have hNe : N = 1 := by have := HNC.out; omega
      subst hC1
      subst hNe
      have HF := Lib.hid (fun t27 t28 t29 t30 t31 t32 t33 t34 t35 t36 t37 t38 t39 t40 t41 o (ho : o ≤ 64) => hK.out o 0 0 2 1 lx hx t27 t28 t29 t30 t31 t32 t33 t34 t35 t36 t37 t38 t39 t40 t41 W' hW.out HX2.out (Nat.le_refl _) rfl (.inl rfl) (by have := HNL.out; omega) (by rw [HNL.out]; rfl) (by omega) ho)
      clear hK hW HX2
      gi_wp2_with fail
      exact HF.out _ _ _ _ _ _ _ _ _ _ _ _ _ _ _ _ (by omega)
    · have hC1' : ¬ 1 = C := fun e => hC1 e.symm
      have HF := Lib.hid (fun t27 t28 t29 t30 t31 t32 t33 t34 t35 t36 t37 t38 t39 t40 t41 => hK.out 2 (N - 1) (C - 1) 2 1 lx hx t27 t28 t29 t30 t31 t32 t33 t34 t35 t36 t37 t38 t39 t40 t41 W' hW.out HX2.out (by have := HNC.out; omega) (by have := HPAR.out; omega) (.inr rfl) (by have := HNL.out; omega) (by rw [HNL.out]; have := HPAR.out; unfold mmC; rw [if_pos (by omega)]; omega) (by omega) (by omega))
      clear hK hW HX2
      gi_wp2_with fail
      exact HF.out _ _ _ _ _ _ _ _ _ _ _ _ _ _ _
  · have hev : N % 2 = 0 := by omega
    have ht : ((N : Nat) : Int).tmod 2 = 0 := by rw [Int.tmod_eq_emod_of_nonneg (by omega)]; omega
    have hd : decide (((N : Nat) : Int).tmod 2 = 1) = false := by rw [ht]; rfl
    have HE := Lib.hid (fun t27 t28 t29 t30 t31 t32 t33 t34 t35 t36 t37 t38 t39 t40 t41 => hK.out o N C 1 0 x0 x0 t27 t28 t29 t30 t31 t32 t33 t34 t35 t36 t37 t38 t39 t40 t41 W1 HV.out HX1.out hNC hev ho (by omega) (by rw [hNL]; unfold mmC; rw [if_neg (by omega)]; omega) (by omega) ho64)
    clear HX1 HX0 hNL hNC ho ho64 h64 hpar hev hK HV
    gi_wp2_with fail
    exact HE.out _ _ _ _ _ _ _ _ _ _ _ _ _ _ _

set_option maxRecDepth 100000 in
set_option maxHeartbeats 4000000 in
theorem extremes_any {base s g cap : Nat} {L : List Int} (w : World) (h : Cnt base s g cap L 0 0 0 w) (h0 : 0 < L.length) (h64 : L.length ≤ 64) :
    Calls Try.prog 55 #[.pointer (some ⟨s, 0, none⟩)] w fun e w' => ∃ lo hi, e = .returned (.tuple #[.int .i64 lo, .int .i64 hi]) ∧ MM L L.length lo hi ∧ Cnt base s g cap L (mmC L.length) 0 0 w' ∧ But2 s g w w' := by
  obtain ⟨x0, hx0⟩ : ∃ x, x = L.getD 0 0 := ⟨_, rfl⟩
  obtain ⟨hc0, _⟩ := h.c0
  obtain ⟨hx, _⟩ := h.at h0
  rw [← hx0] at hx
  have h0z : (0 : Int) < (L.length : Int) := by omega
  have hcap := h.cap
  have hsl := h.st.1
  have hgl := h.row.1
  have hne := h.ne
  have HC := Lib.hid h
  have HX0 := Lib.hid hx0
  clear h hx0
  refine (callsIn_wide (n := 5)).1 ?_
  refine callsIn_of_wp_marks Try.func55 rfl trivial ?_ rfl
  simp only [Try.ntmps55, List.size_toArray, List.length_cons, List.length_nil, Nat.reduceAdd, Nat.reduceSub, Array.replicate_succ, Array.replicate_zero, List.push_toArray, List.append_toArray, List.nil_append, List.cons_append]
  have hbx : ∀ t, (w.alloc (.cells #[.pointer (some ⟨s, 0, none⟩)] t)).cell? ⟨w.heap.size, 0, none⟩ = some (.pointer (some ⟨s, 0, none⟩)) := fun t => (Boxed.new w t (.pointer (some ⟨s, 0, none⟩))).cell
  have hz1 : ∀ t, (w.alloc (.cells #[.pointer (some ⟨s, 0, none⟩)] t)).heap.size = w.heap.size + 1 := fun t => by simp
  have hbb : ∀ t, Boxed (w.alloc (.cells #[.pointer (some ⟨s, 0, none⟩)] t)) w.heap.size t (.pointer (some ⟨s, 0, none⟩)) := fun t => Boxed.new w t _
  have hbW : ∀ t, Below w.heap.size w (w.alloc (.cells #[.pointer (some ⟨s, 0, none⟩)] t)) := fun t => (Below.refl _ _).alloc (Nat.le_refl _) _
  have h1L : (1 : Int) ≤ (L.length : Int) := by omega
  have h1c : (1 : Int) ≤ (cap : Int) := by omega
  by_cases hcp : cap = 1
  · subst hcp
    have hL1 : L.length = 1 := by omega
    rw [hL1] at hc0 h0z h1L
    gi_wp2
    refine wpIn_wide.2 ?_
    have hA1 := fun t => cell_alloc hc0 (.cells #[.pointer (some ⟨s, 0, none⟩)] t)
    have hX1 := fun t => cell_alloc hx (.cells #[.pointer (some ⟨s, 0, none⟩)] t)
    specialize hbx 82
    specialize hz1 82
    specialize hbb 82
    specialize hbW 82
    specialize hA1 82
    specialize hX1 82
    generalize w.alloc (.cells #[.pointer (some ⟨s, 0, none⟩)] 82) = wA at *
    have HF : Hid (∀ bl bh, (bl = w.heap.size + 1 + 1 ∧ bh = w.heap.size + 1 ∨ bl = w.heap.size + 1 ∧ bh = w.heap.size + 1 + 1) → ExV base s g 1 L w bl bh 0 x0 x0 ((wA.alloc (.cells #[.int .i64 x0] 3)).alloc (.cells #[.int .i64 x0] 3)).drew) := Lib.hid (fun bl bh he => by
      have z2 : (wA.alloc (.cells #[.int .i64 x0] 3)).heap.size = w.heap.size + 1 + 1 := by simp [hz1]
      have b1 : Boxed (wA.alloc (.cells #[.int .i64 x0] 3)) (w.heap.size + 1) 3 (.int .i64 x0) := by have := Boxed.new wA 3 (.int .i64 x0); rw [hz1] at this; exact this
      have b2 : Boxed ((wA.alloc (.cells #[.int .i64 x0] 3)).alloc (.cells #[.int .i64 x0] 3)) (w.heap.size + 1 + 1) 3 (.int .i64 x0) := by have := Boxed.new (wA.alloc (.cells #[.int .i64 x0] 3)) 3 (.int .i64 x0); rw [z2] at this; exact this
      have b3 := b1.alloc (.cells #[.int .i64 x0] 3)
      have hbe : Below w.heap.size w ((wA.alloc (.cells #[.int .i64 x0] 3)).alloc (.cells #[.int .i64 x0] 3)) := (hbW.alloc (by omega) _).alloc (by omega) _
      have hv : ∀ bl bh, Boxed ((wA.alloc (.cells #[.int .i64 x0] 3)).alloc (.cells #[.int .i64 x0] 3)) bl 3 (.int .i64 x0) → Boxed ((wA.alloc (.cells #[.int .i64 x0] 3)).alloc (.cells #[.int .i64 x0] 3)) bh 3 (.int .i64 x0) → w.heap.size < bl → w.heap.size < bh → bl ≠ bh → ExV base s g 1 L w bl bh 0 x0 x0 ((wA.alloc (.cells #[.int .i64 x0] 3)).alloc (.cells #[.int .i64 x0] 3)) := fun bl bh h1 h2 h3 h4 h5 =>
        ⟨(hbb.alloc _).alloc _, h1, h2, HC.out.below hbe, But2.ofBelow hbe (Nat.le_refl _), hsl, hgl, h3, h4, h5, h0⟩
      rcases he with ⟨rfl, rfl⟩ | ⟨rfl, rfl⟩
      · exact (hv _ _ b2 b3 (by omega) (by omega) (by omega)).drew
      · exact (hv _ _ b3 b2 (by omega) (by omega) (by omega)).drew)
    go_region_held3 (fun w' => w'.cell? ⟨w.heap.size, 0, none⟩ = some (.pointer (some ⟨s, 0, none⟩)) ∧ w'.cell? ⟨s, 0, none⟩ = some (.slice (some ⟨g, 0, none⟩) 1 1) ∧ w'.cell? ⟨g, 0, none⟩ = some (.int .i64 x0)) (go_keep) (fail)
    · have HV := Lib.hid (HF.out (w.heap.size + 1) (w.heap.size + 1 + 1) (by omega))
      clear HF hbx hz1 hbb hbW hA1 hX1
      rename_i hHeld
      clear hHeld
      rename_i HKK
      generalize ((wA.alloc (.cells #[.int .i64 x0] 3)).alloc (.cells #[.int .i64 x0] 3)).drew = W1 at *
      generalize w.heap.size + 1 + 1 = bh at *
      generalize w.heap.size + 1 = bl at *
      refine HKK _ _ ?_
      refine wpIn_seq ?_
      exact ext_cond w bl bh _ (0) (0) x0 _ _ _ _ _ _ _ _ _ _ _ _ _ _ _ _ _ W1 HV HX0 (by omega) (by omega) (by omega) (by omega) h64 (Lib.hid (fun o N c k cc lo hi t27 t28 t29 t30 t31 t32 t33 t34 t35 t36 t37 t38 t39 t40 t41 W' hv hm hN hev ho hk hcc hc hoc => ext_tail w bl bh o N c k cc lo hi _ _ _ _ _ _ _ _ _ _ _ _ _ _ _ _ _ t27 t28 t29 t30 t31 t32 t33 t34 t35 t36 t37 t38 t39 t40 t41 W' hv hm hN hev ho hk hcc hc h64 hoc))
    · have HV := Lib.hid (HF.out (w.heap.size + 1 + 1) (w.heap.size + 1) (by omega))
      clear HF hbx hz1 hbb hbW hA1 hX1
      rename_i hHeld
      clear hHeld
      rename_i HKK
      generalize ((wA.alloc (.cells #[.int .i64 x0] 3)).alloc (.cells #[.int .i64 x0] 3)).drew = W1 at *
      generalize w.heap.size + 1 + 1 = bl at *
      generalize w.heap.size + 1 = bh at *
      refine HKK _ _ ?_
      refine wpIn_seq ?_
      exact ext_cond w bl bh _ (0) (0) x0 _ _ _ _ _ _ _ _ _ _ _ _ _ _ _ _ _ W1 HV HX0 (by omega) (by omega) (by omega) (by omega) h64 (Lib.hid (fun o N c k cc lo hi t27 t28 t29 t30 t31 t32 t33 t34 t35 t36 t37 t38 t39 t40 t41 W' hv hm hN hev ho hk hcc hc hoc => ext_tail w bl bh o N c k cc lo hi _ _ _ _ _ _ _ _ _ _ _ _ _ _ _ _ _ t27 t28 t29 t30 t31 t32 t33 t34 t35 t36 t37 t38 t39 t40 t41 W' hv hm hN hev ho hk hcc hc h64 hoc))
  · have hcp2 : ¬ 1 = cap := fun e => hcp e.symm
    gi_wp2
    refine wpIn_wide.2 ?_
    have hA1 := fun t => cell_alloc hc0 (.cells #[.pointer (some ⟨s, 0, none⟩)] t)
    have hX1 := fun t => cell_alloc hx (.cells #[.pointer (some ⟨s, 0, none⟩)] t)
    specialize hbx 82
    specialize hz1 82
    specialize hbb 82
    specialize hbW 82
    specialize hA1 82
    specialize hX1 82
    generalize w.alloc (.cells #[.pointer (some ⟨s, 0, none⟩)] 82) = wA at *
    have HF : Hid (∀ bl bh, (bl = w.heap.size + 1 + 1 ∧ bh = w.heap.size + 1 ∨ bl = w.heap.size + 1 ∧ bh = w.heap.size + 1 + 1) → ExV base s g cap L w bl bh 0 x0 x0 ((wA.alloc (.cells #[.int .i64 x0] 3)).alloc (.cells #[.int .i64 x0] 3)).drew) := Lib.hid (fun bl bh he => by
      have z2 : (wA.alloc (.cells #[.int .i64 x0] 3)).heap.size = w.heap.size + 1 + 1 := by simp [hz1]
      have b1 : Boxed (wA.alloc (.cells #[.int .i64 x0] 3)) (w.heap.size + 1) 3 (.int .i64 x0) := by have := Boxed.new wA 3 (.int .i64 x0); rw [hz1] at this; exact this
      have b2 : Boxed ((wA.alloc (.cells #[.int .i64 x0] 3)).alloc (.cells #[.int .i64 x0] 3)) (w.heap.size + 1 + 1) 3 (.int .i64 x0) := by have := Boxed.new (wA.alloc (.cells #[.int .i64 x0] 3)) 3 (.int .i64 x0); rw [z2] at this; exact this
      have b3 := b1.alloc (.cells #[.int .i64 x0] 3)
      have hbe : Below w.heap.size w ((wA.alloc (.cells #[.int .i64 x0] 3)).alloc (.cells #[.int .i64 x0] 3)) := (hbW.alloc (by omega) _).alloc (by omega) _
      have hv : ∀ bl bh, Boxed ((wA.alloc (.cells #[.int .i64 x0] 3)).alloc (.cells #[.int .i64 x0] 3)) bl 3 (.int .i64 x0) → Boxed ((wA.alloc (.cells #[.int .i64 x0] 3)).alloc (.cells #[.int .i64 x0] 3)) bh 3 (.int .i64 x0) → w.heap.size < bl → w.heap.size < bh → bl ≠ bh → ExV base s g cap L w bl bh 0 x0 x0 ((wA.alloc (.cells #[.int .i64 x0] 3)).alloc (.cells #[.int .i64 x0] 3)) := fun bl bh h1 h2 h3 h4 h5 =>
        ⟨(hbb.alloc _).alloc _, h1, h2, HC.out.below hbe, But2.ofBelow hbe (Nat.le_refl _), hsl, hgl, h3, h4, h5, h0⟩
      rcases he with ⟨rfl, rfl⟩ | ⟨rfl, rfl⟩
      · exact (hv _ _ b2 b3 (by omega) (by omega) (by omega)).drew
      · exact (hv _ _ b3 b2 (by omega) (by omega) (by omega)).drew)
    go_region_held3 (fun w' => w'.cell? ⟨w.heap.size, 0, none⟩ = some (.pointer (some ⟨s, 0, none⟩)) ∧ w'.cell? ⟨s, 0, none⟩ = some (.slice (some ⟨g, 0, none⟩) L.length cap) ∧ w'.cell? ⟨g, 0, none⟩ = some (.int .i64 x0)) (go_keep) (fail)
    · have HV := Lib.hid (HF.out (w.heap.size + 1) (w.heap.size + 1 + 1) (by omega))
      clear HF hbx hz1 hbb hbW hA1 hX1
      rename_i hHeld
      clear hHeld
      rename_i HKK
      generalize ((wA.alloc (.cells #[.int .i64 x0] 3)).alloc (.cells #[.int .i64 x0] 3)).drew = W1 at *
      generalize w.heap.size + 1 + 1 = bh at *
      generalize w.heap.size + 1 = bl at *
      refine HKK _ _ ?_
      refine wpIn_seq ?_
      exact ext_cond w bl bh 1 (L.length - 1) (cap - 1) x0 _ _ _ _ _ _ _ _ _ _ _ _ _ _ _ _ _ W1 HV HX0 (by omega) (by omega) (by omega) (by omega) h64 (Lib.hid (fun o N c k cc lo hi t27 t28 t29 t30 t31 t32 t33 t34 t35 t36 t37 t38 t39 t40 t41 W' hv hm hN hev ho hk hcc hc hoc => ext_tail w bl bh o N c k cc lo hi _ _ _ _ _ _ _ _ _ _ _ _ _ _ _ _ _ t27 t28 t29 t30 t31 t32 t33 t34 t35 t36 t37 t38 t39 t40 t41 W' hv hm hN hev ho hk hcc hc h64 hoc))
    · have HV := Lib.hid (HF.out (w.heap.size + 1 + 1) (w.heap.size + 1) (by omega))
      clear HF hbx hz1 hbb hbW hA1 hX1
      rename_i hHeld
      clear hHeld
      rename_i HKK
      generalize ((wA.alloc (.cells #[.int .i64 x0] 3)).alloc (.cells #[.int .i64 x0] 3)).drew = W1 at *
      generalize w.heap.size + 1 + 1 = bl at *
      generalize w.heap.size + 1 = bh at *
      refine HKK _ _ ?_
      refine wpIn_seq ?_
      exact ext_cond w bl bh 1 (L.length - 1) (cap - 1) x0 _ _ _ _ _ _ _ _ _ _ _ _ _ _ _ _ _ W1 HV HX0 (by omega) (by omega) (by omega) (by omega) h64 (Lib.hid (fun o N c k cc lo hi t27 t28 t29 t30 t31 t32 t33 t34 t35 t36 t37 t38 t39 t40 t41 W' hv hm hN hev ho hk hcc hc hoc => ext_tail w bl bh o N c k cc lo hi _ _ _ _ _ _ _ _ _ _ _ _ _ _ _ _ _ t27 t28 t29 t30 t31 t32 t33 t34 t35 t36 t37 t38 t39 t40 t41 W' hv hm hN hev ho hk hcc hc h64 hoc))
set_option maxRecDepth 100000 in
set_option maxHeartbeats 4000000 in
theorem implMm_any (b o c : Nat) (l : List Int) (w : World) (hv : FlatAt w (.slice (some ⟨b, o, none⟩) l.length c) l.length (ints l)) (hn : l.length ≤ 1048576) :
    Calls Try.prog 18 #[.slice (some ⟨b, o, none⟩) l.length c] w fun e w' => e = .returned (.tuple #[.int .i64 (mmAll l).1, .int .i64 (mmAll l).2.1, .int .i64 (mmAll l).2.2.1, .bool (mmAll l).2.2.2]) ∧ Below w.heap.size w w' := by
  have HVL := Lib.hid (implValidList_any _ l w hv hn)
  have HV := Lib.hid hv
  clear hv
  by_cases hok : OkL l
  · rw [decide_eq_true hok] at HVL
    by_cases h0 : 0 < l.length
    · have hz : ((l.length : Int) == 0) = false := by rw [beq_eq_false_iff_ne]; omega
      have hne : ¬ l.length = 0 := by omega
      have h64 := hok.1
      have hF := Lib.hid (mmAll_yes ⟨hok, h0⟩)
      have HCL := Lib.hid (fun W (h : FlatAt W (.slice (some ⟨b, o, none⟩) l.length c) l.length (ints l)) => counted_any b o c l W h hn)
      have H0 := Lib.hid h0
      have H64 := Lib.hid h64
      clear hok h0 h64
      go_enter Try.func18, Try.ntmps18
      go_wp2_with fail
      refine HVL.out.mono ?_
      rintro e w1 ⟨rfl, hb1⟩
      have HV1 := Lib.hid (HV.out.below hb1)
      have HB1 := Lib.hid hb1
      clear hb1 HV HVL
      go_wp2_with fail
      refine (HCL.out _ HV1.out).mono ?_
      rintro e w2 ⟨s, g, cap, rfl, hcn, hb2⟩
      have HX := Lib.hid (extremes_any w2 hcn H0.out H64.out)
      have HBB := Lib.hid (fun w3 (hh : But2 s g w2 w3) => HB1.out.trans ((hb2.trans (hh.below hcn.bs hcn.bg hb2.size)).mono HB1.out.size))
      clear hb2 hcn HCL HV1
      go_wp2_with fail
      refine HX.out.mono ?_
      rintro e w3 ⟨lo, hi, rfl, hmm, hcn, hbt⟩
      obtain ⟨h1, h2⟩ := hmm.srt H0.out
      rw [← h1, ← h2] at hF
      have HB3 := Lib.hid (HBB.out _ hbt)
      obtain ⟨_, hc1, _⟩ := hcn.c0
      clear hmm hbt hcn h1 h2 HX HBB
      go_wp2_with fail
      first | go_quiet (fail) | skip
      first | go_wp2_with fail | skip
      refine bodyPost_ret (results_tmp4 rfl _ _ _) rfl ?_
      exact ⟨by rw [hF.out]; rfl, HB3.out.trans ⟨rfl, rfl, rfl, Nat.le_refl _, fun _ _ => rfl⟩⟩
    · have HF := Lib.hid (mmAll_no (l := l) (fun h => h0 h.2))
      obtain rfl : l = [] := List.eq_nil_of_length_eq_zero (by omega)
      clear hok h0
      rw [List.length_nil] at HVL HV ⊢
      go_enter Try.func18, Try.ntmps18
      go_wp2_with fail
      refine HVL.out.mono ?_
      rintro e w1 ⟨rfl, hb1⟩
      have HB1 := Lib.hid hb1
      clear hb1 HV HVL
      go_wp2_with fail
      refine bodyPost_ret (results_tmp4 rfl _ _ _) rfl ?_
      exact ⟨by rw [HF.out]; rfl, HB1.out⟩
  · rw [decide_eq_false hok] at HVL
    have HF := Lib.hid (mmAll_no (l := l) (fun h => hok h.1))
    clear hok
    go_enter Try.func18, Try.ntmps18
    go_wp2_with fail
    refine HVL.out.mono ?_
    rintro e w1 ⟨rfl, hb1⟩
    have HB1 := Lib.hid hb1
    clear hb1 HV HVL
    go_wp2_with fail
    refine bodyPost_ret (results_tmp4 rfl _ _ _) rfl ?_
    exact ⟨by rw [HF.out]; rfl, HB1.out⟩


end Go.Proofs.Ythmcjmjkmmbepaa
