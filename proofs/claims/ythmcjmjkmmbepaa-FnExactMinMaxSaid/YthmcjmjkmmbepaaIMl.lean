/- The loop of the program's extremes: pairs by slices.Chunk. Written by mmgen.py. -/
import Derived.Test.YthmcjmjkmmbepaaCntA
import Derived.Test.YthmcjmjkmmbepaaChk
import Derived.Test.YthmcjmjkmmbepaaMmP
import Derived.Test.YthmcjmjkmmbepaaIList
import Derived.Test.YthmcjmjkmmbepaaChkA
import Derived.Deep.RegionHeld3
import Derived.Sort.Row
import Derived.OrdersIn
namespace Go.Proofs.Ythmcjmjkmmbepaa
open Go.RowKit Go.Shelf P El Qk Sl
set_option linter.unusedVariables false

set_option maxRecDepth 100000 in
theorem inOrder_any {base s g cap : Nat} {L : List Int} {c m q : Nat} (x y : Int) (w : World) (h : Cnt base s g cap L c m q w) (hc : c ≤ 1048576) :
    Calls Try.prog 57 #[.pointer (some ⟨s, 0, none⟩), .int .i64 x, .int .i64 y] w fun e w' => e = .returned (.tuple #[.int .i64 (min x y), .int .i64 (max x y)]) ∧ CntP base s g cap L (c + 1) m q w w' := by
  have HL := Lib.hid (isLess_any y x w h hc)
  clear h
  by_cases hxy : y < x
  · have e1 : min x y = y := by omega
    have e2 : max x y = x := by omega
    rw [decide_eq_true hxy] at HL
    rw [e1, e2]
    clear hxy e1 e2
    go_enter Try.func57, Try.ntmps57
    go_wp2_with fail
    refine HL.out.mono ?_
    rintro e w1 ⟨rfl, hp⟩
    have HP := Lib.hid hp
    clear hp HL
    go_wp2_with fail
    go_ret2
    exact ⟨rfl, HP.out⟩
  · have e1 : min x y = x := by omega
    have e2 : max x y = y := by omega
    rw [decide_eq_false hxy] at HL
    rw [e1, e2]
    clear hxy e1 e2
    go_enter Try.func57, Try.ntmps57
    go_wp2_with fail
    refine HL.out.mono ?_
    rintro e w1 ⟨rfl, hp⟩
    have HP := Lib.hid hp
    clear hp HL
    go_wp2_with fail
    go_ret2
    exact ⟨rfl, HP.out⟩



attribute [local go_sem] Oper.semAt_some

theorem cells_row {W : World} {g : Nat} {cs : List Value} (h : CellRow W g cs) (h0 : 0 < cs.length) : ∃ o : Obj, W.heap[g]? = some o ∧ o.isCells = true := by
  obtain ⟨c, e, fr, hb, _⟩ := Go.Sort.cells_of_cell? (h.2 0 _ (List.getElem?_eq_getElem h0)).1
  exact ⟨_, hb, rfl⟩

/-- What holds on the way: the boxes of the receiver, of the least and of the greatest; the counted list; nothing else moved. -/
structure ExV (base s g cap : Nat) (L : List Int) (w : World) (bl bh c : Nat) (lo hi : Int) (W : World) : Prop where
  cb : Boxed W w.heap.size 82 (.pointer (some ⟨s, 0, none⟩))
  lb : Boxed W bl 3 (.int .i64 lo)
  hb : Boxed W bh 3 (.int .i64 hi)
  cnt : Cnt base s g cap L c 0 0 W
  but : But2 s g w W
  ls : s < w.heap.size
  lg : g < w.heap.size
  ll : w.heap.size < bl
  lh : w.heap.size < bh
  ne : bl ≠ bh
  l0 : 0 < L.length
/-- The blocks beside the four. -/
def Oth (s g bl bh : Nat) (W W' : World) : Prop := W.heap.size ≤ W'.heap.size ∧ ∀ k, k < W.heap.size → k ≠ s → k ≠ g → k ≠ bl → k ≠ bh → W'.heap[k]? = W.heap[k]?
theorem Oth.refl (s g bl bh : Nat) (W : World) : Oth s g bl bh W W := ⟨Nat.le_refl _, fun _ _ _ _ _ _ => rfl⟩
theorem Oth.trans {s g bl bh : Nat} {A B C : World} (h : Oth s g bl bh A B) (h2 : Oth s g bl bh B C) : Oth s g bl bh A C := ⟨Nat.le_trans h.1 h2.1, fun k hk a b c d => (h2.2 k (Nat.lt_of_lt_of_le hk h.1) a b c d).trans (h.2 k hk a b c d)⟩
theorem Oth.set {s g bl bh : Nat} (W : World) (b : Nat) (v : Value) (h : b = bl ∨ b = bh) : Oth s g bl bh W (W.setCell ⟨b, 0, none⟩ v) := ⟨by simp, fun k _ _ _ c d => Below.heap_setCell _ _ _ _ (by rintro rfl; rcases h with e | e; exact c e; exact d e)⟩
theorem ExV.call {base s g cap : Nat} {L : List Int} {w : World} {bl bh c : Nat} {lo hi : Int} {W W' : World} (h : ExV base s g cap L w bl bh c lo hi W) (hp : CntP base s g cap L (c + 1) 0 0 W W') : ExV base s g cap L w bl bh (c + 1) lo hi W' ∧ Oth s g bl bh W W' := by
  have h1 := h.ls; have h2 := h.lg; have h3 := h.ll; have h4 := h.lh
  exact ⟨⟨(hp.2.block _ h.cb.lt (by omega) (by omega)).trans h.cb, (hp.2.block _ h.lb.lt (by omega) (by omega)).trans h.lb, (hp.2.block _ h.hb.lt (by omega) (by omega)).trans h.hb, hp.1, h.but.trans hp.2, h1, h2, h3, h4, h.ne, h.l0⟩, hp.2.size, fun k hk a b _ _ => hp.2.block k hk a b⟩
theorem ExV.drew {base s g cap : Nat} {L : List Int} {w : World} {bl bh c : Nat} {lo hi : Int} {W : World} (h : ExV base s g cap L w bl bh c lo hi W) : ExV base s g cap L w bl bh c lo hi W.drew := ⟨h.cb, h.lb, h.hb, h.cnt.drewN 1, h.but.drewN 1, h.ls, h.lg, h.ll, h.lh, h.ne, h.l0⟩
theorem ExV.setl {base s g cap : Nat} {L : List Int} {w : World} {bl bh c : Nat} {lo hi : Int} {W : World} (h : ExV base s g cap L w bl bh c lo hi W) (x : Int) : ExV base s g cap L w bl bh c x hi (W.setCell ⟨bl, 0, none⟩ (.int .i64 x)) := by
  have h1 := h.ls; have h2 := h.lg; have h3 := h.ll; have h4 := h.lh; have h5 := h.ne
  have hs : ∀ k, k ≠ bl → (W.setCell ⟨bl, 0, none⟩ (.int .i64 x)).heap[k]? = W.heap[k]? := fun k hk => Below.heap_setCell _ _ _ _ hk
  exact ⟨(hs _ (by omega)).trans h.cb, h.lb.set _, (hs _ (by omega)).trans h.hb, h.cnt.same (hs _ (by omega)) (hs _ (by omega)) (by simp), (by have hb := (Below.refl bl W).setCell (p := ⟨bl, 0, none⟩) (Nat.le_refl _) (.int .i64 x); exact ⟨hb.os.trans h.but.os, hb.tape.trans h.but.tape, hb.output.trans h.but.output, Nat.le_trans h.but.size hb.size, fun k hk a1 a2 => (hs k (by omega)).trans (h.but.block k hk a1 a2)⟩), h1, h2, h3, h4, h5, h.l0⟩
theorem ExV.seth {base s g cap : Nat} {L : List Int} {w : World} {bl bh c : Nat} {lo hi : Int} {W : World} (h : ExV base s g cap L w bl bh c lo hi W) (x : Int) : ExV base s g cap L w bl bh c lo x (W.setCell ⟨bh, 0, none⟩ (.int .i64 x)) := by
  have h1 := h.ls; have h2 := h.lg; have h3 := h.ll; have h4 := h.lh; have h5 := h.ne
  have hs : ∀ k, k ≠ bh → (W.setCell ⟨bh, 0, none⟩ (.int .i64 x)).heap[k]? = W.heap[k]? := fun k hk => Below.heap_setCell _ _ _ _ hk
  exact ⟨(hs _ (by omega)).trans h.cb, (hs _ (by omega)).trans h.lb, h.hb.set _, h.cnt.same (hs _ (by omega)) (hs _ (by omega)) (by simp), (by have hb := (Below.refl bh W).setCell (p := ⟨bh, 0, none⟩) (Nat.le_refl _) (.int .i64 x); exact ⟨hb.os.trans h.but.os, hb.tape.trans h.but.tape, hb.output.trans h.but.output, Nat.le_trans h.but.size hb.size, fun k hk a1 a2 => (hs k (by omega)).trans (h.but.block k hk a1 a2)⟩), h1, h2, h3, h4, h5, h.l0⟩
/-- The word at a round. -/
def ExI (base s g cap : Nat) (L : List Int) (w : World) (bl bh k c : Nat) (W : World) : Prop := ∃ lo hi, ExV base s g cap L w bl bh c lo hi W ∧ MM L k lo hi
theorem ExI.grown {base s g cap : Nat} {L : List Int} {w : World} {bl bh k c : Nat} {W W' : World} {row : Option Nat} (h : ExI base s g cap L w bl bh k c W) (hg : W.grownBy W' row) (hr : ∀ k, row = some k → w.heap.size ≤ k ∧ ∃ o : Obj, W.heap[k]? = some o ∧ o.isCells = false) : ExI base s g cap L w bl bh k c W' := by
  obtain ⟨lo, hi, hv, hm⟩ := h
  have hx : ∀ (b : Nat) (o : Obj), W.heap[b]? = some o → o.isCells = true → W'.heap[b]? = W.heap[b]? := fun b o hb ho => hg.block b (Array.getElem?_eq_some_iff.1 hb).1 (fun e => by
    obtain ⟨_, o2, ho2, hc⟩ := hr b e.symm
    rw [hb] at ho2; cases ho2; rw [ho] at hc; cases hc)
  obtain ⟨o1, e1, f1⟩ := cells_row hv.cnt.st (by simp [cst])
  obtain ⟨o2, e2, f2⟩ := cells_row hv.cnt.row (by rw [ints_length]; exact hv.l0)
  refine ⟨lo, hi, ⟨(hx _ _ hv.cb rfl).trans hv.cb, (hx _ _ hv.lb rfl).trans hv.lb, (hx _ _ hv.hb rfl).trans hv.hb, hv.cnt.same (hx _ _ e1 f1) (hx _ _ e2 f2) hg.size, ⟨hg.os.trans hv.but.os, hg.tape.trans hv.but.tape, hg.output.trans hv.but.output, Nat.le_trans hv.but.size hg.size, fun k hk h1 h2 => (hg.block k (Nat.lt_of_lt_of_le hk hv.but.size) (fun e => ?_)).trans (hv.but.block k hk h1 h2)⟩, hv.ls, hv.lg, hv.ll, hv.lh, hv.ne, hv.l0⟩, hm⟩
  have := (hr k e.symm).1; omega

/-- No operation defers. -/
def noDef (ops : Array Oper) : Bool := ops.all fun o => match o.op with | .defer _ => false | _ => true
theorem noDef_at {ops : Array Oper} (h : noDef ops = true) {i : Nat} {o : Oper} (hi : ops[i]? = some o) (c : Call) : o.op ≠ .defer c := fun e => by
  have := Array.all_eq_true.1 h
  obtain ⟨hl, hx⟩ := Array.getElem?_eq_some_iff.1 hi
  have h1 := this i hl
  rw [hx] at h1
  simp [e] at h1
theorem wpOpIn_round {l n : Nat} {Pg : Program} {ops : Array Oper} {Q : Exit → Act → World → Prop} {i : Nat} {K : Act → World → Prop} {a : Act} {w : World} (hd : noDef ops = true) (h : wpOpIn Fence.wide n Pg ops Q i K a w) : wpOpIn (Fence.wide.inRound l) n Pg ops Q i K a w := by
  unfold wpOpIn at *
  cases ho : ops[i]? with
  | none => rw [ho] at h; exact h
  | some o =>
    rw [ho] at h
    simp only at h ⊢
    split
    · rename_i hw
      rw [if_pos hw] at h
      refine ⟨h.1, ?_⟩
      have h2 := h.2
      rw [Oper.semAt_eq _ _ _ (noDef_at hd ho)] at h2 ⊢
      exact h2
    · rename_i hw
      rw [if_neg hw] at h
      exact h
/-- Inside a round a region without a defer goes as it goes outside. -/
theorem wpAnyIn_round {l n : Nat} {Pg : Program} {md : Region.Mode} {ops : Array Oper} {Q : Exit → Act → World → Prop} (hd : noDef ops = true) : ∀ (fuel : Nat) (listed : Array Bool) (a : Act) (w : World), wpAnyIn Fence.wide n Pg md ops Q fuel listed a w → wpAnyIn (Fence.wide.inRound l) n Pg md ops Q fuel listed a w
  | 0, _, _, _, h => h
  | fuel + 1, listed, a, w, h => ⟨h.1, fun i hi => wpOpIn_round hd (wpOpIn_mono (fun a w h' => wpAnyIn_round hd fuel _ a w h') (h.2 i hi))⟩

def loopOf : Option Code → Code
  | some (.seq _ (.seq _ (.seq _ (.seq (.seq _ (.block _ c)) _)))) => c
  | _ => .skip

set_option maxRecDepth 100000 in
set_option maxHeartbeats 4000000 in
theorem ext_loop {base s g cap : Nat} {L : List Int} (w : World) (bl bh o N c k cc : Nat) (t10 t11 t12 t13 t14 t15 t16 t17 t18 t19 t20 t21 t22 t23 t24 t25 t26 t27 t28 t29 t30 t31 t32 t33 t34 t35 t36 t37 t38 t39 t40 t41 : Value) (W : World) (Q : Exit → Act → World → Prop)
    (h : ExI base s g cap L w bl bh k cc W) (hN : N ≤ c) (hev : N % 2 = 0) (ho : N = 0 ∨ o = k) (hk : k + N = L.length) (hc : cc ≤ 1000) (h64 : L.length ≤ 64) (hoc : o ≤ 64)
    (hQ : ∀ (D : Nat) (W' : World), W.heap.size ≤ D → ExI base s g cap L w bl bh L.length (cc + 3 * (N / 2)) W' → W'.heap[D]? = some (.deferred (some [])) → Q .normal { tmps := #[.pointer (some ⟨s, 0, none⟩), .pointer (some ⟨w.heap.size, 0, none⟩), .int .i64 0, .int .i64 0, .pointer (some ⟨bl, 0, none⟩), .pointer (some ⟨bh, 0, none⟩), .slice (some ⟨g, o, none⟩) N c, undef, undef, undef, t10, t11, t12, t13, t14, t15, t16, t17, t18, t19, t20, t21, t22, t23, t24, t25, t26, t27, t28, t29, t30, t31, t32, t33, t34, t35, t36, t37, t38, t39, t40, t41, .slice (some ⟨g, o, none⟩) N c, .func (.func 115) #[] #[.pointer (some ⟨W.heap.size, 0, none⟩), .pointer (some ⟨W.heap.size + 1, 0, none⟩)], undef, undef, undef, undef, undef, undef, undef, undef, undef, undef, undef, undef, undef, undef, undef, undef, undef, undef, undef, undef, undef, undef, undef, undef, undef, undef, undef, undef], defers := [{ target := .collected D, args := #[] }] } W') :
    (loopOf Try.f55.body).wpIn Fence.wide 5 Try.prog Q { tmps := #[.pointer (some ⟨s, 0, none⟩), .pointer (some ⟨w.heap.size, 0, none⟩), .int .i64 0, .int .i64 0, .pointer (some ⟨bl, 0, none⟩), .pointer (some ⟨bh, 0, none⟩), .slice (some ⟨g, o, none⟩) N c, undef, undef, undef, t10, t11, t12, t13, t14, t15, t16, t17, t18, t19, t20, t21, t22, t23, t24, t25, t26, t27, t28, t29, t30, t31, t32, t33, t34, t35, t36, t37, t38, t39, t40, t41, .slice (some ⟨g, o, none⟩) N c, .func (.func 115) #[] #[.pointer (some ⟨W.heap.size, 0, none⟩), .pointer (some ⟨W.heap.size + 1, 0, none⟩)], undef, undef, undef, undef, undef, undef, undef, undef, undef, undef, undef, undef, undef, undef, undef, undef, undef, undef, undef, undef, undef, undef, undef, undef, undef, undef, undef, undef], defers := [] } ((W.alloc (.cells #[.slice (some ⟨g, o, none⟩) N c] 34)).alloc (.cells #[.int .i64 2] 3)) := by
  simp only [loopOf, Try.f55]
  have hL0 : 0 < L.length := by obtain ⟨_, _, hv, _⟩ := h; exact hv.l0
  have HQ := Lib.hid hQ
  clear hQ
  obtain ⟨wB, hwB⟩ : ∃ wB, wB = W.alloc (.cells #[.slice (some ⟨g, o, none⟩) N c] 34) := ⟨_, rfl⟩
  obtain ⟨wL, hwL⟩ : ∃ wL, wL = wB.alloc (.cells #[.int .i64 2] 3) := ⟨_, rfl⟩
  have zB : wB.heap.size = W.heap.size + 1 := by rw [hwB]; simp
  have zL : wL.heap.size = W.heap.size + 2 := by rw [hwL]; simp [zB]
  have hX : ExI base s g cap L w bl bh k cc wL := by
    rw [hwL, hwB]
    exact (h.grown (World.grownBy_alloc W _ none) (by simp)).grown (World.grownBy_alloc _ _ none) (by simp)
  have bC : Boxed wL (W.heap.size + 1) 3 (.int .i64 2) := by have := Boxed.new wB 3 (.int .i64 2); rw [zB, ← hwL] at this; exact this
  have bB : Boxed wL W.heap.size 34 (.slice (some ⟨g, o, none⟩) N c) := by rw [hwL, hwB]; exact (Boxed.new W _ _).alloc _
  have hWw : w.heap.size ≤ W.heap.size := by obtain ⟨_, _, hv, _⟩ := h; exact hv.but.size
  have hWl : bl < W.heap.size ∧ bh < W.heap.size := by obtain ⟨_, _, hv, _⟩ := h; exact ⟨hv.lb.lt, hv.hb.lt⟩
  rw [← hwB, ← hwL]
  clear hwB hwL zB h
  refine range_steps rfl (by decide) (gf := 115) (lb := #[.pointer (some ⟨W.heap.size, 0, none⟩), .pointer (some ⟨W.heap.size + 1, 0, none⟩)]) rfl trivial (enters_of Try.func115 (by kernel_rfl) rfl)
    (chunk_steps Fence.wide 4 trivial rfl (by decide) wL W.heap.size (W.heap.size + 1) g o c N 2 (by omega) (by omega) (by omega) (by omega) (by omega) hN bB.cell bC.cell) KeepTwo.trans (fun W i o hi => KeepTwo.put (by omega) (by omega) W o) (fun _ => rfl)
    (fun pre W1 => ExI base s g cap L w bl bh (k + 2 * pre.length) (cc + 3 * pre.length) W1 ∧ wL.heap.size ≤ W1.heap.size) (fun pre W1 W2 row hI hg hr => ⟨hI.1.grown hg (fun r e => ⟨by have := (hr r e).1; omega, (hr r e).2⟩), Nat.le_trans hI.2 hg.size⟩)
    ⟨hX, Nat.le_refl _⟩
    (fun x : Nat => { tmps := #[.pointer (some ⟨s, 0, none⟩), .pointer (some ⟨w.heap.size, 0, none⟩), .int .i64 0, .int .i64 0, .pointer (some ⟨bl, 0, none⟩), .pointer (some ⟨bh, 0, none⟩), .slice (some ⟨g, o, none⟩) N c, chunkV g o N 2 x, undef, undef, t10, t11, t12, t13, t14, t15, t16, t17, t18, t19, t20, t21, t22, t23, t24, t25, t26, t27, t28, t29, t30, t31, t32, t33, t34, t35, t36, t37, t38, t39, t40, t41, .slice (some ⟨g, o, none⟩) N c, .func (.func 115) #[] #[.pointer (some ⟨W.heap.size, 0, none⟩), .pointer (some ⟨W.heap.size + 1, 0, none⟩)], chunkV g o N 2 x, undef, undef, undef, undef, undef, undef, undef, undef, undef, undef, undef, undef, undef, undef, undef, undef, undef, undef, undef, undef, undef, undef, undef, undef, undef, undef, undef], defers := [] }) ?assign ?body ?done

  case assign =>
    intro i x W1 K hK
    gi_wp2
    exact hK
  case done =>
    rintro D ys W1 hD rfl ⟨hI, _⟩ hK
    have e1 : (List.range ((N + 2 - 1) / 2)).length = N / 2 := by rw [List.length_range]; omega
    rw [e1] at hI
    refine HQ.out D W1 (by omega) ?_ hK
    rw [show L.length = k + 2 * (N / 2) by omega]
    exact hI
  case body =>
    rintro ln pre i W1 ⟨rfl, hi⟩ ⟨⟨lo, hi2, hv, hm⟩, hzW⟩
    rw [List.length_range] at hv hm
    have hok : o = k := by omega
    subst hok
    have hcv : chunkV g o N 2 i = .slice (some ⟨g, o + 2 * i, none⟩) 2 2 := by unfold chunkV; rw [show min 2 (N - 2 * i) = 2 by omega]
    rw [hcv]
    have cx := (hv.cnt.at (k := o + 2 * i) (by omega)).1
    have cy := (hv.cnt.at (k := o + 2 * i + 1) (by omega)).1
    have HMM := Lib.hid hm.pair
    obtain ⟨x, hx⟩ : ∃ x, x = L.getD (o + 2 * i) 0 := ⟨_, rfl⟩
    obtain ⟨y, hy⟩ : ∃ y, y = L.getD (o + 2 * i + 1) 0 := ⟨_, rfl⟩
    rw [← hx] at cx
    rw [← hy] at cy
    rw [← hx, ← hy] at HMM
    have hcb := hv.cb.cell
    have HIO : Hid (∀ (c' : Nat) (u v lo hi : Int) (W2 : World), c' ≤ 1048576 → ExV base s g cap L w bl bh c' lo hi W2 → CallsIn (Fence.wide.inRound ln) 2 Try.prog 57 #[.pointer (some ⟨s, 0, none⟩), .int .i64 u, .int .i64 v] W2 fun e w' => e = .returned (.tuple #[.int .i64 (min u v), .int .i64 (max u v)]) ∧ ExV base s g cap L w bl bh (c' + 1) lo hi w' ∧ Oth s g bl bh W2 w') := Lib.hid (fun c' u v lo hi W2 hc' hV => (CallsIn.inRound ln (callsIn_wide.2 (inOrder_any u v W2 hV.cnt hc'))).mono (fun e w' hq => ⟨hq.1, hV.call hq.2⟩))
    obtain ⟨c1, hc1⟩ : ∃ c1, c1 = cc + 3 * i := ⟨_, rfl⟩
    rw [← hc1] at hv
    have hc1l : c1 ≤ 100000 := by omega
    obtain ⟨lx, hlx⟩ : ∃ z, z = min x y := ⟨_, rfl⟩
    obtain ⟨hxx, hhx⟩ : ∃ z, z = max x y := ⟨_, rfl⟩
    obtain ⟨l2, hl2⟩ : ∃ z, z = min lo lx := ⟨_, rfl⟩
    obtain ⟨h2, hh2⟩ : ∃ z, z = max hi2 hxx := ⟨_, rfl⟩
    rw [← hlx, ← hhx, ← hl2, ← hh2] at HMM
    have HC7 : Hid (∀ (R : Ending → World → Prop), (∀ W2, W2.cell? ⟨w.heap.size, 0, none⟩ = some (.pointer (some ⟨s, 0, none⟩)) → W2.cell? ⟨bl, 0, none⟩ = some (.int .i64 lo) → Hid (ExV base s g cap L w bl bh (c1 + 1) lo hi2 W2 ∧ Oth s g bl bh W1 W2) → R (.returned (.tuple #[.int .i64 lx, .int .i64 hxx])) W2) → CallsIn Fence.wide 2 Try.prog 57 #[.pointer (some ⟨s, 0, none⟩), .int .i64 x, .int .i64 y] W1.drew R) := Lib.hid (fun R hR => by
      refine (CallsIn.outOfRound (l := ln) (HIO.out c1 x y lo hi2 W1.drew (by omega) hv.drew)).mono ?_
      rintro e W2 ⟨rfl, hV, hO⟩
      rw [← hlx, ← hhx]
      exact hR W2 hV.cb.cell hV.lb.cell (Lib.hid ⟨hV, hO⟩))
    have HC8 : Hid (∀ (R : Ending → World → Prop) (W2 : World), Hid (ExV base s g cap L w bl bh (c1 + 1) lo hi2 W2 ∧ Oth s g bl bh W1 W2) → (∀ W3, W3.cell? ⟨bl, 0, none⟩ = some (.int .i64 lo) → W3.frozen? ⟨bl, 0, none⟩ = false → (W3.setCell ⟨bl, 0, none⟩ (.int .i64 l2)).cell? ⟨w.heap.size, 0, none⟩ = some (.pointer (some ⟨s, 0, none⟩)) → (W3.setCell ⟨bl, 0, none⟩ (.int .i64 l2)).cell? ⟨bh, 0, none⟩ = some (.int .i64 hi2) → Hid (ExV base s g cap L w bl bh (c1 + 2) l2 hi2 (W3.setCell ⟨bl, 0, none⟩ (.int .i64 l2)) ∧ Oth s g bl bh W1 (W3.setCell ⟨bl, 0, none⟩ (.int .i64 l2))) → R (.returned (.tuple #[.int .i64 l2, .int .i64 (max lo lx)])) W3) → CallsIn (Fence.wide.inRound ln) 2 Try.prog 57 #[.pointer (some ⟨s, 0, none⟩), .int .i64 lo, .int .i64 lx] W2 R) := Lib.hid (fun R W2 hW hR => by
      refine (HIO.out (c1 + 1) lo lx lo hi2 W2 (by omega) hW.out.1).mono ?_
      rintro e W3 ⟨rfl, hV, hO⟩
      rw [← hl2]
      have hS := hV.setl l2
      exact hR W3 hV.lb.cell hV.lb.frozen hS.cb.cell hS.hb.cell (Lib.hid ⟨hS, (hW.out.2.trans hO).trans (Oth.set _ _ _ (.inl rfl))⟩))
    have HC9 : Hid (∀ (R : Ending → World → Prop) (W2 : World), Hid (ExV base s g cap L w bl bh (c1 + 2) l2 hi2 W2 ∧ Oth s g bl bh W1 W2) → (∀ W3, W3.cell? ⟨bh, 0, none⟩ = some (.int .i64 hi2) → W3.frozen? ⟨bh, 0, none⟩ = false → Hid (ExV base s g cap L w bl bh (c1 + 3) l2 h2 (W3.setCell ⟨bh, 0, none⟩ (.int .i64 h2)) ∧ Oth s g bl bh W1 (W3.setCell ⟨bh, 0, none⟩ (.int .i64 h2))) → R (.returned (.tuple #[.int .i64 (min hi2 hxx), .int .i64 h2])) W3) → CallsIn (Fence.wide.inRound ln) 2 Try.prog 57 #[.pointer (some ⟨s, 0, none⟩), .int .i64 hi2, .int .i64 hxx] W2 R) := Lib.hid (fun R W2 hW hR => by
      refine (HIO.out (c1 + 2) hi2 hxx l2 hi2 W2 (by omega) hW.out.1).mono ?_
      rintro e W3 ⟨rfl, hV, hO⟩
      rw [← hh2]
      have hS := hV.seth h2
      exact hR W3 hV.hb.cell hV.hb.frozen (Lib.hid ⟨hS, (hW.out.2.trans hO).trans (Oth.set _ _ _ (.inr rfl))⟩))
    have HPOST : ∀ (Wf : World) (a' : Act), Hid (ExV base s g cap L w bl bh (c1 + 3) l2 h2 Wf ∧ Oth s g bl bh W1 Wf) → stepPost wL.heap.size (KeepTwo W.heap.size (W.heap.size + 1)) (fun pre W1 => ExI base s g cap L w bl bh (o + 2 * pre.length) (cc + 3 * pre.length) W1 ∧ wL.heap.size ≤ W1.heap.size) (List.range i ++ [i]) W1 .normal a' Wf := fun Wf a' HW => by
      obtain ⟨hV, hO⟩ := HW.out
      have el : (List.range i ++ [i]).length = i + 1 := by simp
      have hls := hv.ls; have hlg := hv.lg
      refine ⟨⟨hO.1, fun k o' hB hk ho' => (hO.2 k (Array.getElem?_eq_some_iff.1 hk).1 (by omega) (by omega) (by omega) (by omega)).trans hk⟩, ⟨hO.2 _ (by omega) (by omega) (by omega) (by omega) (by omega), hO.2 _ (by omega) (by omega) (by omega) (by omega) (by omega)⟩, ⟨l2, h2, ?_, ?_⟩, Nat.le_trans hzW hO.1⟩
      · rw [el, show cc + 3 * (i + 1) = c1 + 3 by omega]; exact hV
      · rw [el]; exact HMM.out
    have HALL := Lib.hid (And.intro HC8 (And.intro HC9 HPOST))
    clear hm hlx hhx hl2 hh2 hx hy HIO hv HMM HQ hX bC bB HC8 HC9 HPOST hcv hc1 hc1l hzW hi hk hL0 hWw hWl zL hoc h64 hc hev hN
    clear wB
    gi_wp2
    refine wpIn_region_any (by kernel_rfl) ?_
    try (change wpAnyIn _ _ _ _ _ _ _ _ _ (World.drew _))
    refine wpAnyIn_round (by kernel_rfl) _ _ _ _ ?_
    all_goals refine wpAnyIn_take (i := 1) (v := .slice (some ⟨g, o + 2 * i, none⟩) 2 2) rfl rfl (by kernel_rfl) (by kernel_rfl) (by kernel_rfl) (fun _ _ _ h => h) ⟨Or.inl ⟨by rfl, fun w => by go_simp⟩, fun _ => rfl⟩ ?_
    all_goals refine wpAnyIn_take (i := 2) (v := .pointer (some ⟨g, o + 2 * i, none⟩)) rfl rfl (by kernel_rfl) (by kernel_rfl) (by kernel_rfl) (fun _ _ _ h => h) ⟨Or.inl ⟨by rfl, fun w => by go_simp⟩, fun _ => rfl⟩ ?_
    all_goals refine wpAnyIn_take (i := 4) (v := .slice (some ⟨g, o + 2 * i, none⟩) 2 2) rfl rfl (by kernel_rfl) (by kernel_rfl) (by kernel_rfl) (fun _ _ _ h => h) ⟨Or.inl ⟨by rfl, fun w => by go_simp⟩, fun _ => rfl⟩ ?_
    all_goals refine wpAnyIn_take (i := 5) (v := .pointer (some ⟨g, o + 2 * i + 1, none⟩)) rfl rfl (by kernel_rfl) (by kernel_rfl) (by kernel_rfl) (fun _ _ _ h => h) ⟨Or.inl ⟨by rfl, fun w => by go_simp⟩, fun _ => rfl⟩ ?_
    refine wpAnyIn_ready (rs := [0, 3, 6]) (by kernel_rfl) (by simp) (AllReadyIn.cons rfl (fun K hK => ?_) (AllReadyIn.cons rfl (fun K hK => ?_) (AllReadyIn.cons rfl (fun K hK => ?_) (AllReadyIn.nil))))
    · go_simp
      refine hK _ _ ?_
      clear hK K
      refine wpAnyIn_ready (rs := [3, 6]) (by kernel_rfl) (by simp) (AllReadyIn.cons rfl (fun K hK => ?_) (AllReadyIn.cons rfl (fun K hK => ?_) (AllReadyIn.nil)))
      · go_simp
        refine hK _ _ ?_
        clear hK K
        refine wpAnyIn_ready (rs := [6]) (by kernel_rfl) (by simp) (AllReadyIn.cons rfl (fun K hK => ?_) (AllReadyIn.nil))
        · go_simp
          refine hK _ _ ?_
          clear hK K
          all_goals refine wpAnyIn_ready (rs := [7]) (by kernel_rfl) (by simp) (AllReadyIn.cons rfl (fun K hK => ?_) (AllReadyIn.nil))
          all_goals (go_simp; gi_wp2_with (refine ⟨trivial, ?_⟩; refine HC7.out _ ?_; rintro W2 hcb2 hlb2 HW2))
          all_goals try (refine hK _ _ ?_; clear hK K)
          all_goals refine wpAnyIn_take (i := 8) (v := .tuple #[.int .i64 lx, .int .i64 hxx]) rfl rfl (by kernel_rfl) (by kernel_rfl) (by kernel_rfl) (fun _ _ _ h => h) ⟨Or.inl ⟨by rfl, fun w => by go_simp⟩, fun _ => rfl⟩ ?_
          all_goals refine wpAnyIn_take (i := 9) (v := .int .i64 lx) rfl rfl (by kernel_rfl) (by kernel_rfl) (by kernel_rfl) (fun _ _ _ h => h) ⟨Or.inl ⟨by rfl, fun w => by go_simp⟩, fun _ => rfl⟩ ?_
          all_goals refine wpAnyIn_take (i := 10) (v := .int .i64 hxx) rfl rfl (by kernel_rfl) (by kernel_rfl) (by kernel_rfl) (fun _ _ _ h => h) ⟨Or.inl ⟨by rfl, fun w => by go_simp⟩, fun _ => rfl⟩ ?_
          all_goals refine wpAnyIn_ready (rs := [11]) (by kernel_rfl) (by simp) (AllReadyIn.cons rfl (fun K hK => ?_) (AllReadyIn.nil))
          all_goals (go_simp; refine hK _ _ ?_; clear hK K)
          all_goals refine wpAnyIn_ready (rs := [12]) (by kernel_rfl) (by simp) (AllReadyIn.cons rfl (fun K hK => ?_) (AllReadyIn.nil))
          all_goals (go_simp; refine hK _ _ ?_; clear hK K)
          all_goals refine wpAnyIn_done (by kernel_rfl) ?_ _
          all_goals gi_wp2
          all_goals refine ⟨trivial, ?_⟩
          all_goals refine HALL.out.1.out _ _ HW2 ?_
          all_goals rintro W3 hlb3 hfl3 hcb3 hhb3 HW3
          all_goals gi_wp2
          all_goals refine ⟨trivial, ?_⟩
          all_goals refine HALL.out.2.1.out _ _ HW3 ?_
          all_goals rintro W4 hhb4 hfh4 HW4
          all_goals gi_wp2
          all_goals exact HALL.out.2.2 _ _ HW4
      · go_simp
        refine hK _ _ ?_
        clear hK K
        refine wpAnyIn_ready (rs := [3]) (by kernel_rfl) (by simp) (AllReadyIn.cons rfl (fun K hK => ?_) (AllReadyIn.nil))
        · go_simp
          refine hK _ _ ?_
          clear hK K
          all_goals refine wpAnyIn_ready (rs := [7]) (by kernel_rfl) (by simp) (AllReadyIn.cons rfl (fun K hK => ?_) (AllReadyIn.nil))
          all_goals (go_simp; gi_wp2_with (refine ⟨trivial, ?_⟩; refine HC7.out _ ?_; rintro W2 hcb2 hlb2 HW2))
          all_goals try (refine hK _ _ ?_; clear hK K)
          all_goals refine wpAnyIn_take (i := 8) (v := .tuple #[.int .i64 lx, .int .i64 hxx]) rfl rfl (by kernel_rfl) (by kernel_rfl) (by kernel_rfl) (fun _ _ _ h => h) ⟨Or.inl ⟨by rfl, fun w => by go_simp⟩, fun _ => rfl⟩ ?_
          all_goals refine wpAnyIn_take (i := 9) (v := .int .i64 lx) rfl rfl (by kernel_rfl) (by kernel_rfl) (by kernel_rfl) (fun _ _ _ h => h) ⟨Or.inl ⟨by rfl, fun w => by go_simp⟩, fun _ => rfl⟩ ?_
          all_goals refine wpAnyIn_take (i := 10) (v := .int .i64 hxx) rfl rfl (by kernel_rfl) (by kernel_rfl) (by kernel_rfl) (fun _ _ _ h => h) ⟨Or.inl ⟨by rfl, fun w => by go_simp⟩, fun _ => rfl⟩ ?_
          all_goals refine wpAnyIn_ready (rs := [11]) (by kernel_rfl) (by simp) (AllReadyIn.cons rfl (fun K hK => ?_) (AllReadyIn.nil))
          all_goals (go_simp; refine hK _ _ ?_; clear hK K)
          all_goals refine wpAnyIn_ready (rs := [12]) (by kernel_rfl) (by simp) (AllReadyIn.cons rfl (fun K hK => ?_) (AllReadyIn.nil))
          all_goals (go_simp; refine hK _ _ ?_; clear hK K)
          all_goals refine wpAnyIn_done (by kernel_rfl) ?_ _
          all_goals gi_wp2
          all_goals refine ⟨trivial, ?_⟩
          all_goals refine HALL.out.1.out _ _ HW2 ?_
          all_goals rintro W3 hlb3 hfl3 hcb3 hhb3 HW3
          all_goals gi_wp2
          all_goals refine ⟨trivial, ?_⟩
          all_goals refine HALL.out.2.1.out _ _ HW3 ?_
          all_goals rintro W4 hhb4 hfh4 HW4
          all_goals gi_wp2
          all_goals exact HALL.out.2.2 _ _ HW4
    · go_simp
      refine hK _ _ ?_
      clear hK K
      refine wpAnyIn_ready (rs := [0, 6]) (by kernel_rfl) (by simp) (AllReadyIn.cons rfl (fun K hK => ?_) (AllReadyIn.cons rfl (fun K hK => ?_) (AllReadyIn.nil)))
      · go_simp
        refine hK _ _ ?_
        clear hK K
        refine wpAnyIn_ready (rs := [6]) (by kernel_rfl) (by simp) (AllReadyIn.cons rfl (fun K hK => ?_) (AllReadyIn.nil))
        · go_simp
          refine hK _ _ ?_
          clear hK K
          all_goals refine wpAnyIn_ready (rs := [7]) (by kernel_rfl) (by simp) (AllReadyIn.cons rfl (fun K hK => ?_) (AllReadyIn.nil))
          all_goals (go_simp; gi_wp2_with (refine ⟨trivial, ?_⟩; refine HC7.out _ ?_; rintro W2 hcb2 hlb2 HW2))
          all_goals try (refine hK _ _ ?_; clear hK K)
          all_goals refine wpAnyIn_take (i := 8) (v := .tuple #[.int .i64 lx, .int .i64 hxx]) rfl rfl (by kernel_rfl) (by kernel_rfl) (by kernel_rfl) (fun _ _ _ h => h) ⟨Or.inl ⟨by rfl, fun w => by go_simp⟩, fun _ => rfl⟩ ?_
          all_goals refine wpAnyIn_take (i := 9) (v := .int .i64 lx) rfl rfl (by kernel_rfl) (by kernel_rfl) (by kernel_rfl) (fun _ _ _ h => h) ⟨Or.inl ⟨by rfl, fun w => by go_simp⟩, fun _ => rfl⟩ ?_
          all_goals refine wpAnyIn_take (i := 10) (v := .int .i64 hxx) rfl rfl (by kernel_rfl) (by kernel_rfl) (by kernel_rfl) (fun _ _ _ h => h) ⟨Or.inl ⟨by rfl, fun w => by go_simp⟩, fun _ => rfl⟩ ?_
          all_goals refine wpAnyIn_ready (rs := [11]) (by kernel_rfl) (by simp) (AllReadyIn.cons rfl (fun K hK => ?_) (AllReadyIn.nil))
          all_goals (go_simp; refine hK _ _ ?_; clear hK K)
          all_goals refine wpAnyIn_ready (rs := [12]) (by kernel_rfl) (by simp) (AllReadyIn.cons rfl (fun K hK => ?_) (AllReadyIn.nil))
          all_goals (go_simp; refine hK _ _ ?_; clear hK K)
          all_goals refine wpAnyIn_done (by kernel_rfl) ?_ _
          all_goals gi_wp2
          all_goals refine ⟨trivial, ?_⟩
          all_goals refine HALL.out.1.out _ _ HW2 ?_
          all_goals rintro W3 hlb3 hfl3 hcb3 hhb3 HW3
          all_goals gi_wp2
          all_goals refine ⟨trivial, ?_⟩
          all_goals refine HALL.out.2.1.out _ _ HW3 ?_
          all_goals rintro W4 hhb4 hfh4 HW4
          all_goals gi_wp2
          all_goals exact HALL.out.2.2 _ _ HW4
      · go_simp
        refine hK _ _ ?_
        clear hK K
        refine wpAnyIn_ready (rs := [0]) (by kernel_rfl) (by simp) (AllReadyIn.cons rfl (fun K hK => ?_) (AllReadyIn.nil))
        · go_simp
          refine hK _ _ ?_
          clear hK K
          all_goals refine wpAnyIn_ready (rs := [7]) (by kernel_rfl) (by simp) (AllReadyIn.cons rfl (fun K hK => ?_) (AllReadyIn.nil))
          all_goals (go_simp; gi_wp2_with (refine ⟨trivial, ?_⟩; refine HC7.out _ ?_; rintro W2 hcb2 hlb2 HW2))
          all_goals try (refine hK _ _ ?_; clear hK K)
          all_goals refine wpAnyIn_take (i := 8) (v := .tuple #[.int .i64 lx, .int .i64 hxx]) rfl rfl (by kernel_rfl) (by kernel_rfl) (by kernel_rfl) (fun _ _ _ h => h) ⟨Or.inl ⟨by rfl, fun w => by go_simp⟩, fun _ => rfl⟩ ?_
          all_goals refine wpAnyIn_take (i := 9) (v := .int .i64 lx) rfl rfl (by kernel_rfl) (by kernel_rfl) (by kernel_rfl) (fun _ _ _ h => h) ⟨Or.inl ⟨by rfl, fun w => by go_simp⟩, fun _ => rfl⟩ ?_
          all_goals refine wpAnyIn_take (i := 10) (v := .int .i64 hxx) rfl rfl (by kernel_rfl) (by kernel_rfl) (by kernel_rfl) (fun _ _ _ h => h) ⟨Or.inl ⟨by rfl, fun w => by go_simp⟩, fun _ => rfl⟩ ?_
          all_goals refine wpAnyIn_ready (rs := [11]) (by kernel_rfl) (by simp) (AllReadyIn.cons rfl (fun K hK => ?_) (AllReadyIn.nil))
          all_goals (go_simp; refine hK _ _ ?_; clear hK K)
          all_goals refine wpAnyIn_ready (rs := [12]) (by kernel_rfl) (by simp) (AllReadyIn.cons rfl (fun K hK => ?_) (AllReadyIn.nil))
          all_goals (go_simp; refine hK _ _ ?_; clear hK K)
          all_goals refine wpAnyIn_done (by kernel_rfl) ?_ _
          all_goals gi_wp2
          all_goals refine ⟨trivial, ?_⟩
          all_goals refine HALL.out.1.out _ _ HW2 ?_
          all_goals rintro W3 hlb3 hfl3 hcb3 hhb3 HW3
          all_goals gi_wp2
          all_goals refine ⟨trivial, ?_⟩
          all_goals refine HALL.out.2.1.out _ _ HW3 ?_
          all_goals rintro W4 hhb4 hfh4 HW4
          all_goals gi_wp2
          all_goals exact HALL.out.2.2 _ _ HW4
    · go_simp
      refine hK _ _ ?_
      clear hK K
      refine wpAnyIn_ready (rs := [0, 3]) (by kernel_rfl) (by simp) (AllReadyIn.cons rfl (fun K hK => ?_) (AllReadyIn.cons rfl (fun K hK => ?_) (AllReadyIn.nil)))
      · go_simp
        refine hK _ _ ?_
        clear hK K
        refine wpAnyIn_ready (rs := [3]) (by kernel_rfl) (by simp) (AllReadyIn.cons rfl (fun K hK => ?_) (AllReadyIn.nil))
        · go_simp
          refine hK _ _ ?_
          clear hK K
          all_goals refine wpAnyIn_ready (rs := [7]) (by kernel_rfl) (by simp) (AllReadyIn.cons rfl (fun K hK => ?_) (AllReadyIn.nil))
          all_goals (go_simp; gi_wp2_with (refine ⟨trivial, ?_⟩; refine HC7.out _ ?_; rintro W2 hcb2 hlb2 HW2))
          all_goals try (refine hK _ _ ?_; clear hK K)
          all_goals refine wpAnyIn_take (i := 8) (v := .tuple #[.int .i64 lx, .int .i64 hxx]) rfl rfl (by kernel_rfl) (by kernel_rfl) (by kernel_rfl) (fun _ _ _ h => h) ⟨Or.inl ⟨by rfl, fun w => by go_simp⟩, fun _ => rfl⟩ ?_
          all_goals refine wpAnyIn_take (i := 9) (v := .int .i64 lx) rfl rfl (by kernel_rfl) (by kernel_rfl) (by kernel_rfl) (fun _ _ _ h => h) ⟨Or.inl ⟨by rfl, fun w => by go_simp⟩, fun _ => rfl⟩ ?_
          all_goals refine wpAnyIn_take (i := 10) (v := .int .i64 hxx) rfl rfl (by kernel_rfl) (by kernel_rfl) (by kernel_rfl) (fun _ _ _ h => h) ⟨Or.inl ⟨by rfl, fun w => by go_simp⟩, fun _ => rfl⟩ ?_
          all_goals refine wpAnyIn_ready (rs := [11]) (by kernel_rfl) (by simp) (AllReadyIn.cons rfl (fun K hK => ?_) (AllReadyIn.nil))
          all_goals (go_simp; refine hK _ _ ?_; clear hK K)
          all_goals refine wpAnyIn_ready (rs := [12]) (by kernel_rfl) (by simp) (AllReadyIn.cons rfl (fun K hK => ?_) (AllReadyIn.nil))
          all_goals (go_simp; refine hK _ _ ?_; clear hK K)
          all_goals refine wpAnyIn_done (by kernel_rfl) ?_ _
          all_goals gi_wp2
          all_goals refine ⟨trivial, ?_⟩
          all_goals refine HALL.out.1.out _ _ HW2 ?_
          all_goals rintro W3 hlb3 hfl3 hcb3 hhb3 HW3
          all_goals gi_wp2
          all_goals refine ⟨trivial, ?_⟩
          all_goals refine HALL.out.2.1.out _ _ HW3 ?_
          all_goals rintro W4 hhb4 hfh4 HW4
          all_goals gi_wp2
          all_goals exact HALL.out.2.2 _ _ HW4
      · go_simp
        refine hK _ _ ?_
        clear hK K
        refine wpAnyIn_ready (rs := [0]) (by kernel_rfl) (by simp) (AllReadyIn.cons rfl (fun K hK => ?_) (AllReadyIn.nil))
        · go_simp
          refine hK _ _ ?_
          clear hK K
          all_goals refine wpAnyIn_ready (rs := [7]) (by kernel_rfl) (by simp) (AllReadyIn.cons rfl (fun K hK => ?_) (AllReadyIn.nil))
          all_goals (go_simp; gi_wp2_with (refine ⟨trivial, ?_⟩; refine HC7.out _ ?_; rintro W2 hcb2 hlb2 HW2))
          all_goals try (refine hK _ _ ?_; clear hK K)
          all_goals refine wpAnyIn_take (i := 8) (v := .tuple #[.int .i64 lx, .int .i64 hxx]) rfl rfl (by kernel_rfl) (by kernel_rfl) (by kernel_rfl) (fun _ _ _ h => h) ⟨Or.inl ⟨by rfl, fun w => by go_simp⟩, fun _ => rfl⟩ ?_
          all_goals refine wpAnyIn_take (i := 9) (v := .int .i64 lx) rfl rfl (by kernel_rfl) (by kernel_rfl) (by kernel_rfl) (fun _ _ _ h => h) ⟨Or.inl ⟨by rfl, fun w => by go_simp⟩, fun _ => rfl⟩ ?_
          all_goals refine wpAnyIn_take (i := 10) (v := .int .i64 hxx) rfl rfl (by kernel_rfl) (by kernel_rfl) (by kernel_rfl) (fun _ _ _ h => h) ⟨Or.inl ⟨by rfl, fun w => by go_simp⟩, fun _ => rfl⟩ ?_
          all_goals refine wpAnyIn_ready (rs := [11]) (by kernel_rfl) (by simp) (AllReadyIn.cons rfl (fun K hK => ?_) (AllReadyIn.nil))
          all_goals (go_simp; refine hK _ _ ?_; clear hK K)
          all_goals refine wpAnyIn_ready (rs := [12]) (by kernel_rfl) (by simp) (AllReadyIn.cons rfl (fun K hK => ?_) (AllReadyIn.nil))
          all_goals (go_simp; refine hK _ _ ?_; clear hK K)
          all_goals refine wpAnyIn_done (by kernel_rfl) ?_ _
          all_goals gi_wp2
          all_goals refine ⟨trivial, ?_⟩
          all_goals refine HALL.out.1.out _ _ HW2 ?_
          all_goals rintro W3 hlb3 hfl3 hcb3 hhb3 HW3
          all_goals gi_wp2
          all_goals refine ⟨trivial, ?_⟩
          all_goals refine HALL.out.2.1.out _ _ HW3 ?_
          all_goals rintro W4 hhb4 hfh4 HW4
          all_goals gi_wp2
          all_goals exact HALL.out.2.2 _ _ HW4

end Go.Proofs.Ythmcjmjkmmbepaa
