/- The iterator's rows gathered by slices.AppendSeq. -/
import Derived.Test.YtjmmhakmidddoaaSCyc
import Derived.Test.YtjmmhakmidddoaaISign
namespace Go.Proofs.Ytjmmhakmidddoaa
open Go.RowKit Go.Shelf P
set_option linter.unusedVariables false

attribute [local go_sem] Oper.semAt_some
attribute [local go_sem ↓ high] builtin_append_held

theorem cyc_vis {p : List Int} : ∀ i, ∀ c ∈ cyc p i, c ≠ [] ∧ ∀ y ∈ c, y ∈ vis p i
  | 0 => by simp [cyc]
  | i + 1 => by
    have ih := cyc_vis (p := p) i
    by_cases h : i ∈ vis p i
    · rw [cyc_old h, vis_old h]; exact ih
    · rw [cyc_new h, vis_succ]
      intro c hc
      rcases List.mem_append.1 hc with h1 | h1
      · exact ⟨(ih c h1).1, fun y hy => List.mem_append.2 (.inl ((ih c h1).2 y hy))⟩
      · simp at h1; subst h1
        exact ⟨fun e => h (orb_nil.1 e), fun y hy => List.mem_append.2 (.inr hy)⟩
theorem orb_head {p : List Int} {V : List Nat} {i : Nat} (h : ¬ i ∈ V) : (orb p 65 V i)[0]? = some i := by rw [orb_go h]; rfl

theorem cell_is {W : World} {a : Addr} {u : Value} (h : W.cell? a = some u) : ∀ o, W.heap[a.block]? = some o → o.isCells = true := by
  intro o ho
  unfold World.cell? at h
  rw [ho] at h
  cases o <;> first | rfl | (simp at h)
theorem row_head {W : World} {g n : Nat} {L : List Nat} (h : CellRow W g (ints (nats L))) (h0 : L[0]? = some n) : W.cell? ⟨g, 0, none⟩ = some (.int .i64 (n : Int)) :=
  (h.2 0 _ (ints_at (by unfold nats; rw [List.getElem?_map, h0]; rfl))).1

theorem HeldR.cells {base : Nat} {w : World} {v : Value} {X : List CRow} (h : HeldR base w v X) (hne : ∀ x ∈ X, x.L ≠ []) {k : Nat} (hk : Blk v X k) : ∀ o, w.heap[k]? = some o → o.isCells = true := by
  intro o ho
  rcases hk with hk | ⟨x, hx, rfl⟩
  · rcases h.own.2 with ⟨rfl, _⟩ | ⟨j, cap, cur, rfl, hj, hg, rest⟩
    · simp [Value.ownBlock] at hk
    · obtain rfl : j = k := by simpa [Value.ownBlock] using hk
      rw [ho] at hg; simp at hg; subst hg; rfl
  · obtain ⟨q1, q2, q3⟩ := h.rows x hx
    cases hL : x.L with
    | nil => exact absurd hL (hne x hx)
    | cons y L => exact cell_is (row_head q3 (n := y) (by rw [hL]; rfl)) o ho

/-- The loop's word. -/
def SeqI (base bs V B1 bp g0 : Nat) (w : World) (pre : List CRow) (W : World) : Prop :=
  (∃ v, Boxed W bs 26 v ∧ HeldR base W v pre ∧ (∀ k, (k = bs ∨ k = V ∨ k = B1 ∨ k = bp) → ¬ Blk v pre k) ∧ (pre = [] → v.ownBlock = some g0)) ∧ (∀ x ∈ pre, x.L ≠ []) ∧ Below base w W

theorem SeqI.own {base bs V B1 bp g0 B : Nat} {w : World} (hw : base ≤ w.heap.size) (hB : base ≤ B) : OwnFrom B (SeqI base bs V B1 bp g0 w) := by
  rintro pre W W' row ⟨⟨v, hb, hh, ha, h0⟩, hne, hbe⟩ hg hr
  refine ⟨⟨v, hb.kept hg (fun e => ?_), hh.same (fun k hk _ hB => hg.block k hk (fun e => ?_)) hg.size, ha, h0⟩, hne, hbe.grown hg (Nat.le_trans hw hbe.size) (fun k e => Nat.le_trans hB (hr k e).1)⟩
  · obtain ⟨_, o, ho, hc⟩ := hr bs e.symm
    rw [show W.heap[bs]? = _ from hb] at ho; cases ho; cases hc
  · obtain ⟨_, o, ho, hc⟩ := hr k e.symm
    rw [hh.cells hne hB o ho] at hc; cases hc

theorem SeqI.but {base bs V B1 bp g0 : Nat} {w A B : World} {pre : List CRow} (h : SeqI base bs V B1 bp g0 w pre A) (hAB : But V A B) (hbV : bs ≠ V) (hV : base ≤ V) (hw : base ≤ w.heap.size) : SeqI base bs V B1 bp g0 w pre B := by
  obtain ⟨⟨v, hb, hh, ha, h0⟩, hne, hbe⟩ := h
  exact ⟨⟨v, (hAB.block _ hb.lt hbV).trans hb, hh.but hAB (ha V (.inr (.inl rfl))), ha, h0⟩, hne, hbe.trans (hAB.below hV (Nat.le_trans hw hbe.size))⟩

theorem seq_fresh {base bs V B1 bp g0 : Nat} {w W : World} {p : List Int} {pre : List CRow} {x : CRow} {v : Value} (hh : HeldR base W v pre) (h0 : pre = [] → v.ownBlock = some g0) (hx : OkC p V pre x W) (hg : g0 < V) : ¬ Blk v pre x.g := by
  obtain ⟨i, hi, hpre, hL, hiv, hVg, hc, hrow⟩ := hx
  have hd : W.cell? ⟨x.g, 0, none⟩ = some (.int .i64 (i : Int)) := row_head hrow (by rw [hL]; exact orb_head hiv)
  rintro (h | ⟨y, hy, e⟩)
  · cases pre with
    | nil => have := h0 rfl; rw [h] at this; simp at this; omega
    | cons y pre =>
      obtain ⟨g, c, rfl, _⟩ := hh.nn
      obtain rfl : g = x.g := by simpa [Value.ownBlock] using h
      obtain ⟨_, _, h3⟩ := CellRow.of_own hh.own
      have := (h3.2 0 (slv y) rfl).1
      rw [hd] at this; simp [slv] at this
  · have hm : y.L ∈ cyc p i := by rw [← hpre]; exact List.mem_map_of_mem hy
    obtain ⟨h1, h2⟩ := cyc_vis i _ hm
    obtain ⟨_, _, q3⟩ := hh.rows y hy
    cases hL2 : y.L with
    | nil => exact h1 hL2
    | cons z L =>
      have hz := row_head q3 (n := z) (by rw [hL2]; rfl)
      rw [← e, hd] at hz
      simp at hz
      have hz' : i = z := by omega
      have h3 := h2 z (by rw [hL2]; simp)
      rw [← hz'] at h3
      exact hiv h3

theorem seq_leave {F : Fence} {n : Nat} {l : List Int} {base : Nat} {w w1 : World} {tmps : Array Value} {D : Nat} {v : Value} {X : List CRow} (hK : w1.heap[D]? = some (.deferred (some []))) (hD : base ≤ D) (hb : Below base w w1)
    (hne : ∀ x ∈ X, x.L ≠ []) (hX : X.map CRow.L = cyc l l.length) (hH : HeldR base w1 v X) (h4 : tmps.getD 4 undef = v) :
    LeavesInM F n Try.prog Try.f60 tmps (fun e w' => ∃ v' X, e = .returned v' ∧ X.map CRow.L = cyc l l.length ∧ HeldR base w' v' X ∧ Below base w w') [{ target := .collected D, args := #[] }] .returning w1 := by
  refine ⟨by simp, .inl ⟨D, _, rfl, run_takeDeferred hK, ?_⟩⟩
  refine ⟨_, results_tmp rfl _ _ _, v, X, by rw [h4], hX, hH.same (fun k _ _ hB => World.putObj_heap_other (fun e => ?_)) (by simp [World.putObj]), hb.trans ⟨rfl, rfl, rfl, by simp [World.putObj], fun k hk => World.putObj_heap_other (by omega)⟩⟩
  subst e
  have := hH.cells hne hB _ hK
  cases this

set_option maxRecDepth 100000 in
set_option maxHeartbeats 4000000 in
theorem appendSeq_any (w : World) (B1 bp o c g0 c0 : Nat) (a : Option Addr) (l : List Int) (hok : OkP l) (hB1 : B1 < w.heap.size) (hbp : bp < w.heap.size) (base : Nat) (hbase : base ≤ w.heap.size) (hv : HeldR base w (.slice (some ⟨g0, 0, none⟩) 0 c0) []) (hg1 : g0 ≠ B1) (hg2 : g0 ≠ bp)
    (hc1 : w.cell? ⟨B1, 0, none⟩ = some (.slice a l.length c)) (hcp : ∀ (j : Nat) x, l[j]? = some x → a = some ⟨bp, o, none⟩ ∧ w.cell? ⟨bp, o + j, none⟩ = some (.int .i64 x)) :
    Calls Try.prog 60 #[.slice (some ⟨g0, 0, none⟩) 0 c0, .func (.func 99) #[] #[.pointer (some ⟨B1, 0, none⟩)]] w fun e w' => ∃ v' X, e = .returned v' ∧ X.map CRow.L = cyc l l.length ∧ HeldR base w' v' X ∧ Below base w w' := by
  refine (callsIn_wide (n := 5)).1 ?_
  refine callsIn_of_wp_marks Try.func60 rfl trivial ?_ rfl
  simp only [Try.ntmps60, List.size_toArray, List.length_cons, List.length_nil, Nat.reduceAdd, Nat.reduceSub, Array.replicate_succ, Array.replicate_zero, List.push_toArray, List.append_toArray, List.nil_append, List.cons_append]
  gi_wp2
  have hg0 : g0 < w.heap.size := (hv.lt (.inl (by simp [Value.ownBlock]) : Blk (.slice (some ⟨g0, 0, none⟩) 0 c0) [] g0)).2
  have bN := Boxed.new w 26 (.slice (some ⟨g0, 0, none⟩) 0 c0)
  have hal : Below w.heap.size w (w.alloc (.cells #[.slice (some ⟨g0, 0, none⟩) 0 c0] 26)) := (Below.refl _ _).alloc (Nat.le_refl _) _
  have hH := hv.below hal
  have hszL : (w.alloc (.cells #[.slice (some ⟨g0, 0, none⟩) 0 c0] 26)).heap.size = w.heap.size + 1 := by simp
  have hbL : Below base w (w.alloc (.cells #[.slice (some ⟨g0, 0, none⟩) 0 c0] 26)) := hal.mono hbase
  generalize (w.alloc (.cells #[.slice (some ⟨g0, 0, none⟩) 0 c0] 26)) = wL at *
  have hcL : wL.cell? ⟨B1, 0, none⟩ = some (.slice a l.length c) := (hal.cell (p := ⟨B1, 0, none⟩) hB1).trans hc1
  refine range_stepsC rfl (by decide) (gf := 99) (lb := #[.pointer (some ⟨B1, 0, none⟩)]) rfl trivial (enters_of Try.func99 (by kernel_rfl) rfl)
    (cyc_steps Fence.wide 4 wL trivial rfl (by decide) B1 bp o c a (by omega) (by omega) l hok hcL (fun j x hx => ⟨(hcp j x hx).1, (hal.cell (p := ⟨bp, o + j, none⟩) hbp).trans (hcp j x hx).2⟩)) Keep3.trans (fun W i o hi hi2 => Keep3.put (by omega) (by omega) (by omega) W o) (fun _ => rfl)
    (SeqI base w.heap.size (wL.heap.size + 2) B1 bp g0 w) (SeqI.own hbase (by omega))
    ⟨⟨_, bN, hH, fun k hk hB => by
        rcases hB with h | ⟨x, hx, _⟩
        · simp [Value.ownBlock] at h; omega
        · simp at hx, fun _ => by simp [Value.ownBlock]⟩, by simp, hbL⟩
    (fun x : CRow => { tmps := #[.slice (some ⟨g0, 0, none⟩) 0 c0, .func (.func 99) #[] #[.pointer (some ⟨B1, 0, none⟩)], .pointer (some ⟨w.heap.size, 0, none⟩), undef, .slice none 0 0, .slice (some ⟨x.g, 0, none⟩) x.L.length x.c, .func (.func 99) #[] #[.pointer (some ⟨B1, 0, none⟩)], .slice (some ⟨x.g, 0, none⟩) x.L.length x.c, undef, undef, undef, undef, undef], defers := [] }) ?assign ?body ?but ?ok ?done
  case but => exact fun pre A B h hAB => h.but hAB (by omega) (by omega) hbase
  case ok =>
    rintro pre x W i o hi ⟨j, h1, h2, h3, h4, h5, h6, h7⟩
    exact ⟨j, h1, h2, h3, h4, h5, h6, h7.same (World.putObj_heap_other (by omega)) (by simp [World.putObj])⟩
  case assign =>
    intro i x W K hK
    unfold encC
    gi_wp2
    exact hK
  case body =>
    rintro i pre x W hokc ⟨⟨v, hb, hh, ha, h0⟩, hne, hbe⟩
    have hfr := seq_fresh (bs := 0) (B1 := 0) (bp := 0) (w := w) hh h0 hokc (by omega)
    obtain ⟨j, hj, hpre, hL, hiv, hVg, hcap, hrow⟩ := hokc
    have hpl : pre.length ≤ 64 := by
      have h1 := vis_all hok j (by omega)
      have h2 := P.length_le_of_small h1.1 h1.2.1
      have h3 := h1.2.2.2.2.2.1
      have h4 := hok.1
      rw [← hpre] at h3; simp at h3; omega
    have hxne : x.L ≠ [] := fun e => by rw [hL] at e; exact hiv (orb_nil.1 e)
    have hbs := Nat.le_trans hbase hbe.size
    obtain ⟨v2, w2, hrun, hR2, hb2, hk2, hbl2⟩ := appendRow base v pre x W hh hbs (by omega) hcap hrow hfr (by omega)
    have hlt := hb.lt
    have hnb : v.ownBlock ≠ some w.heap.size := fun e => ha _ (.inl rfl) (.inl e)
    have hbx2 : Boxed w2 w.heap.size 26 v := (hk2 _ hlt hnb).trans hb
    have hVW : wL.heap.size + 2 < W.heap.size := Nat.lt_trans hVg hrow.1
    have hav : ∀ k, (k = w.heap.size ∨ k = wL.heap.size + 2 ∨ k = B1 ∨ k = bp) → ¬ Blk v2 (pre ++ [x]) k := by
      intro k hk hB
      have hkV : k ≤ wL.heap.size + 2 := by omega
      rcases hB with h | ⟨y, hy, e⟩
      · rcases hbl2 k h with h | h
        · exact ha k hk (.inl h)
        · omega
      · rcases List.mem_append.1 hy with h | h
        · exact ha k hk (.inr ⟨y, h, e⟩)
        · simp at h; subst h; omega
    have hset : ∀ k, k ≠ w.heap.size → (w2.setCell ⟨w.heap.size, 0, none⟩ v2).heap[k]? = w2.heap[k]? := fun k hk => Below.heap_setCell _ _ _ _ hk
    have hkk : ∀ k, (k = wL.heap.size + 2 ∨ k = B1 ∨ k = bp) → (w2.setCell ⟨w.heap.size, 0, none⟩ v2).heap[k]? = W.heap[k]? := fun k hk =>
      (hset k (by omega)).trans (hk2 k (by omega) (fun e => ha k (.inr hk) (.inl e)))
    have HPOST : ∀ a', Hid (stepPostC wL.heap.size (Keep3 B1 bp (wL.heap.size + 2)) (SeqI base w.heap.size (wL.heap.size + 2) B1 bp g0 w) (pre ++ [x]) W .normal a' (w2.setCell ⟨w.heap.size, 0, none⟩ v2)) := fun a' => Lib.hid (by
      refine ⟨⟨Nat.le_trans hb2.size (by simp), fun k o _ hk ho => ?_⟩, ⟨hkk _ (.inr (.inl rfl)), hkk _ (.inr (.inr rfl)), hkk _ (.inl rfl), Nat.le_trans hb2.size (by simp)⟩, ⟨v2, hbx2.set v2, hR2.same (fun k _ _ hB => hset k (fun e => hav k (.inl e) hB)) (by simp), hav, fun e => by simp at e⟩, ?_, (hbe.trans hb2).setCell (p := ⟨w.heap.size, 0, none⟩) hbase _⟩
      · have h1 : k ≠ w.heap.size := fun e => by subst e; rw [show W.heap[w.heap.size]? = _ from hb] at hk; cases hk; cases ho
        have h2 : v.ownBlock ≠ some k := fun e => by have := hh.cells hne (.inl e) o hk; rw [ho] at this; cases this
        exact (hset k h1).trans ((hk2 k (Array.getElem?_eq_some_iff.1 hk).1 h2).trans hk)
      · intro y hy
        rcases List.mem_append.1 hy with h | h
        · exact hne y h
        · simp at h; subst h; exact hxne)
    obtain ⟨g2, cc2, rfl, _⟩ := hR2.nn
    have hcS := hb.cell
    have hca := (hb.alloc (.cells #[slv x] 24)).cell
    have hcS2 := hbx2.cell
    have hfS2 := hbx2.frozen
    simp only [slv] at hrun hca
    clear hszL hb hh ha h0 hne hbe hfr hpre hL hiv hVg hcap hrow hpl hxne hR2 hb2 hk2 hbl2 hnb hbx2 hav hset hkk
    gi_wp2
    rw [show pre.length + 1 = (pre ++ [x]).length by simp]
    exact (HPOST _).out
  case done =>
    rintro D ys W hD hys ⟨⟨v, hb, hh, ha, h0⟩, hne, hbe⟩ hK
    have hcS := hb.cell
    have HH := Lib.hid hh
    have HNE := Lib.hid hne
    have HK := Lib.hid hK
    have HBE := Lib.hid hbe
    clear hb hh ha h0 hne hbe hK
    gi_wp2
    exact seq_leave HK.out (by omega) HBE.out HNE.out hys HH.out rfl

end Go.Proofs.Ytjmmhakmidddoaa
