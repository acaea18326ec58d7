/- The program's flag pass in place, by its contract. -/
import Derived.Test.YtebipiehkmhaiaaIBkt
import Derived.Test.YtebipiehkmhaiaaFlagP
import Derived.Test.YtebipiehkmhaiaaIExch
import Derived.Deep.RegionWith
namespace Go.Proofs.Ytebipiehkmhaiaa
open Go.RowKit Rx P El Qk
set_option linter.unusedVariables false
attribute [local go_sem ↓ high] alloc_tab load_tab store_tab box_tab idx_tab
attribute [local go_sem] run_tabNew

/-- How much is left, as the world tells it. -/
theorem flag_measure (f : Int → Nat) (l : List Int) (D g : Nat) (hD : D ≤ 1001) : ∃ μ : World → Nat, ∀ w nx, TabAt w g nx → μ w = l.length - tot f l nx D := by
  refine ⟨fun w => l.length - tot f l (fun d => match w.cell? ⟨g, d, none⟩ with | some (.int _ n) => n.toNat | _ => 0) D, fun w nx h => ?_⟩
  have : ∀ k, k ≤ D → tot f l (fun d => match w.cell? ⟨g, d, none⟩ with | some (.int _ n) => n.toNat | _ => 0) k = tot f l nx k := by
    intro k
    induction k with
    | zero => intro _; rfl
    | succ k ih =>
      intro hk
      simp only [tot, ih (by omega)]
      rw [(h.at (k := k) (by omega)).1]
      simp
  show l.length - tot f l _ D = _
  rw [this D (Nat.le_refl _)]

theorem But.step {g k : Nat} {w W W' : World} (h : But g w W) (h2 : But k W W') (hw : w.heap.size ≤ k) : But g w W' :=
  ⟨h2.os.trans h.os, h2.tape.trans h.tape, h2.output.trans h.output, Nat.le_trans h.size h2.size, fun j hj hg => (h2.block j (Nat.lt_of_lt_of_le hj h.size) (by omega)).trans (h.block j hj hg)⟩

/-- What stands at bucket b. -/
structure FlI (f : Int → Nat) (l : List Int) (D g g6 g7 : Nat) (R : FS) (w : World) (b : Nat) (s : FS) (W : World) : Prop where
  t6 : TabAt W g6 (st f l)
  t7 : TabAt W g7 s.nx
  row : CellRow W g (ints s.L)
  fl : Fl f (fun d => st f l (d + 1)) D b s R
  good : FGood f l D b s
  but : But g w W
theorem FlI.below {f : Int → Nat} {l : List Int} {D g g6 g7 : Nat} {R : FS} {w : World} {b : Nat} {s : FS} {W W' : World} (h : FlI f l D g g6 g7 R w b s W) (hb : Below W.heap.size W W') : FlI f l D g g6 g7 R w b s W' :=
  ⟨h.t6.below hb h.t6.lt, h.t7.below hb h.t7.lt, h.row.below hb h.row.1, h.fl, h.good, h.but.trans (But.ofBelow hb (Nat.le_refl _))⟩
/-- A round that finds its own digit. -/
theorem FlI.own {f : Int → Nat} {l : List Int} {D g g6 g7 : Nat} {R : FS} {w : World} {b : Nat} {s : FS} {W : World} (h : FlI f l D g g6 g7 R w b s W) (hf : ∀ x ∈ l, f x < D) (hb : b < D) (hlt : s.nx b < st f l (b + 1)) (he : f (s.L.getD (s.nx b) 0) = b) (h6 : g6 ≠ g7) (h7 : g ≠ g7) (hw : w.heap.size ≤ g7) :
    FlI f l D g g6 g7 R w b ⟨s.L, upd s.nx b (s.nx b + 1), s.sw⟩ (W.setCell ⟨g7, b, none⟩ (.int .i64 ((s.nx b : Int) + 1))) := by
  have e : fst f b s = ⟨s.L, upd s.nx b (s.nx b + 1), s.sw⟩ := by unfold fst; rw [if_pos he]
  have h1 := h.fl.more hb hlt
  have h2 := (h.good.step hf hb hlt).1
  rw [e] at h1 h2
  have hbt := (But.refl g7 W).setCell b (.int .i64 ((s.nx b : Int) + 1))
  refine ⟨h.t6.but hbt h6, ?_, h.row.but hbt h7, h1, h2, h.but.step hbt hw⟩
  have := h.t7.put b (s.nx b + 1)
  exact this
/-- A round that exchanges: W1 behind the exchange. -/
theorem FlI.swap {f : Int → Nat} {l : List Int} {D g g6 g7 : Nat} {R : FS} {w : World} {b d : Nat} {s : FS} {W W1 : World} (h : FlI f l D g g6 g7 R w b s W) (hf : ∀ x ∈ l, f x < D) (hb : b < D) (hlt : s.nx b < st f l (b + 1)) (he : f (s.L.getD (s.nx b) 0) = d) (hd : d ≠ b) (h6 : g6 ≠ g7) (h7 : g ≠ g7) (hg6 : g6 ≠ g) (hw : w.heap.size ≤ g7)
    (hr : CellRow W1 g (ints (swapped s.L (s.nx b) (s.nx d)))) (hbt : But g W W1) :
    FlI f l D g g6 g7 R w b ⟨swapped s.L (s.nx b) (s.nx d), upd s.nx d (s.nx d + 1), s.sw + 1⟩ (W1.setCell ⟨g7, d, none⟩ (.int .i64 ((s.nx d : Int) + 1))) := by
  have e : fst f b s = ⟨swapped s.L (s.nx b) (s.nx d), upd s.nx d (s.nx d + 1), s.sw + 1⟩ := by unfold fst; rw [he, if_neg hd]
  have h1 := h.fl.more hb hlt
  have h2 := (h.good.step hf hb hlt).1
  rw [e] at h1 h2
  have hb2 := (But.refl g7 W1).setCell d (.int .i64 ((s.nx d : Int) + 1))
  refine ⟨(h.t6.but hbt hg6).but hb2 h6, ?_, hr.but hb2 h7, h1, h2, (h.but.trans hbt).step hb2 hw⟩
  have := (h.t7.but hbt (fun e => h7 e.symm)).put d (s.nx d + 1)
  exact this
theorem FlI.tots {f : Int → Nat} {l : List Int} {D g g6 g7 : Nat} {R : FS} {w : World} {b : Nat} {s : FS} {W : World} (h : FlI f l D g g6 g7 R w b s W) (hf : ∀ x ∈ l, f x < D) (hb : b < D) (hlt : s.nx b < st f l (b + 1)) : tot f l (fst f b s).nx D = tot f l s.nx D + 1 ∧ tot f l s.nx D + 1 ≤ l.length := by
  obtain ⟨h1, h2⟩ := h.good.step hf hb hlt
  have h3 := tot_le h1.hi
  rw [bk_len hf] at h3
  exact ⟨h2, by omega⟩

set_option maxRecDepth 100000 in
set_option maxHeartbeats 16000000 in
theorem group_any (f : Int → Nat) (D g c : Nat) (fn : Nat) (lb : Array Value) (eg : ∀ args w, (callFunc fn args).run Try.prog w = .ok (.enter fn args) w) (l : List Int) (R : FS) (w : World) (hD1 : D = 1001) (hrow : CellRow w g (ints l)) (hcap : l.length ≤ c) (hn : l.length ≤ 64)
    (hf : ∀ x ∈ l, f x < D) (hR : Fl f (fun d => st f l (d + 1)) D 0 ⟨l, st f l, 0⟩ R)
    (hp : ∀ (W : World) x, x ∈ l → But g w W → Calls Try.prog fn (#[.int .i64 x] ++ lb) W fun e w' => e = .returned (.int .i64 (f x : Nat)) ∧ Below W.heap.size W w') :
    Calls Try.prog 104 #[.slice (some ⟨g, 0, none⟩) l.length c, .func (.func fn) #[] lb] w fun e w' => e = .returned (.int .i64 (R.sw : Int)) ∧ CellRow w' g (ints R.L) ∧ But g w w' := by
  have hgl := hrow.1
  have HBC := Lib.hid (bucketCounts_any f fn lb eg (.slice (some ⟨g, 0, none⟩) l.length c) l w (hrow.flat hcap) (by omega) (fun x hx => by have := hf x hx; omega) (fun W x hx hW => hp W x hx (But.ofBelow hW (Nat.le_refl _))))
  have HST := Lib.hid (fun W => starts_any f l W (fun x hx => by have := hf x hx; omega) (by omega))
  have HF := Lib.hid hf
  have HPR := Lib.hid hp
  have HR := Lib.hid hR
  have HROW := Lib.hid hrow
  have HD := Lib.hid hD1
  have HSTL : Hid (∀ d, d < D → st f l d ≤ 64) := Lib.hid (fun d hd => by have := st_le hf (Nat.le_of_lt hd); omega)
  have HCNT : Hid (∀ d, cnt f l d ≤ 64) := Lib.hid (fun d => by
    unfold cnt inB
    have := List.length_filter_le (fun a => f a == d) l
    omega)
  clear hp hR hf hrow hD1
  go_enter Try.func104, Try.ntmps104
  go_wp2_with fail
  refine HBC.out.mono ?_
  rintro e w1 ⟨rfl, hb1⟩
  obtain ⟨hr1, hr2⟩ := (TabAt.new w1 (fun _ => 0)).row (cnt f l)
  have hst := run_tabStore (cnt f l) (TabAt.new w1 (fun _ => 0))
  obtain ⟨W2, hW2⟩ : ∃ W2, W2 = (w1.alloc (.cells (tabA fun _ => 0) 95)).setRow w1.heap.size (tabA (cnt f l)) := ⟨_, rfl⟩
  rw [← hW2] at hr1 hr2 hst
  have hl2 := run_tabLoad hr1
  have hb2 : Below w1.heap.size w1 W2 := ((Below.refl _ _).alloc (Nat.le_refl _) _).trans (hr2.below (Nat.le_refl _) (by simp))
  have HT2 := Lib.hid hr1
  have HB2 : Hid (Below w.heap.size w W2) := Lib.hid (hb1.trans (hb2.mono hb1.size))
  clear hr1 hr2 hW2 hb1 hb2 HBC
  go_wp2_with fail
  refine (HST.out _).mono ?_
  rintro e w3 ⟨rfl, hb3⟩
  have HB3 := Lib.hid (HB2.out.trans (hb3.mono HB2.out.size))
  have HT3 := Lib.hid (HT2.out.below hb3 HT2.out.lt)
  have hws : w.heap.size ≤ w3.heap.size := HB3.out.size
  clear hb3 HT2 HB2 hl2 hst HST
  obtain ⟨hr1, hr2⟩ := (TabAt.new w3 (fun _ => 0)).row (st f l)
  have hst4 := run_tabStore (st f l) (TabAt.new w3 (fun _ => 0))
  obtain ⟨W4, hW4⟩ : ∃ W4, W4 = (w3.alloc (.cells (tabA fun _ => 0) 95)).setRow w3.heap.size (tabA (st f l)) := ⟨_, rfl⟩
  rw [← hW4] at hr1 hr2 hst4
  have hl4 := run_tabLoad hr1
  have hb4 : Below w3.heap.size w3 W4 := ((Below.refl _ _).alloc (Nat.le_refl _) _).trans (hr2.below (Nat.le_refl _) (by simp))
  have HT4 := Lib.hid hr1
  have HT4c := Lib.hid (HT3.out.below hb4 HT3.out.lt)
  have HB4 := Lib.hid (HB3.out.trans (hb4.mono HB3.out.size))
  have hc4 : w3.heap.size < W4.heap.size := HT4.out.lt
  clear hr1 hr2 hW4 hb4 HB3 HT3
  obtain ⟨hr1, hr2⟩ := (TabAt.new W4 (fun _ => 0)).row (st f l)
  have hst5 := run_tabStore (st f l) (TabAt.new W4 (fun _ => 0))
  obtain ⟨W5, hW5⟩ : ∃ W5, W5 = (W4.alloc (.cells (tabA fun _ => 0) 95)).setRow W4.heap.size (tabA (st f l)) := ⟨_, rfl⟩
  rw [← hW5] at hr1 hr2 hst5
  have hb5 : Below W4.heap.size W4 W5 := ((Below.refl _ _).alloc (Nat.le_refl _) _).trans (hr2.below (Nat.le_refl _) (by simp))
  have hl5 := run_tabLoad (HT4c.out.below hb5 HT4c.out.lt)
  have HT5 := Lib.hid (HT4.out.below hb5 HT4.out.lt)
  have HT5n := Lib.hid hr1
  have HB5 := Lib.hid (HB4.out.trans (hb5.mono HB4.out.size))
  have HR5 := Lib.hid (HROW.out.below HB5.out hgl)
  clear hr1 hr2 hW5 hb5 HB4 HT4 HT4c HROW
  go_wp2_with fail
  obtain ⟨g6, hg6⟩ : ∃ x, x = w3.heap.size := ⟨_, rfl⟩
  obtain ⟨g7, hg7⟩ : ∃ x, x = W4.heap.size := ⟨_, rfl⟩
  rw [← hg6] at HT5 hws hc4 ⊢
  rw [← hg7] at HT5n hc4 ⊢
  clear hst5 hst4 hl5 hl4 hg6 hg7
  have hng6 : ¬ g = g6 := by omega
  have hng7 : ¬ g = g7 := by omega
  have hn67 : ¬ g6 = g7 := by omega
  obtain ⟨μ, hμ⟩ := flag_measure f l D g7 (by have := HD.out; omega)
  have HMU := Lib.hid hμ
  have HG0 := Lib.hid (FGood.start f l D)
  clear hμ
  have HI0 : Hid (FlI f l D g g6 g7 R w 0 ⟨l, st f l, 0⟩ W5) := Lib.hid ⟨HT5.out, HT5n.out, HR5.out, HR.out, HG0.out, But.ofBelow HB5.out (Nat.le_refl _)⟩
  have hw7 : w.heap.size ≤ g7 := by omega
  clear HT5 HT5n HR5 HR HG0 HB5
  go_loopw [8, 9, 10, 11, 19] (fun xv _ _ _ iv wr => ∃ (b : Nat) (s : FS), b ≤ 1001 ∧ iv = .int .i64 (b : Int) ∧ xv = .int .i64 (s.sw : Int) ∧ FlI f l D g g6 g7 R w b s wr) (fun _ _ _ _ iv _ => 1001 - (intOf iv).toNat)
  case atStart => exact ⟨0, _, by omega, rfl, rfl, HI0.out⟩
  case round =>
    obtain ⟨b, s, hb, rfl, rfl, hi⟩ := hrel
    have HI := Lib.hid hi
    clear hi HI0
    by_cases hlt : b < 1001
    · have hltz : (b : Int) < 1001 := by omega
      have hix := fun W => run_tabIdx W (cnt f l) b hlt
      obtain ⟨q, hq⟩ : ∃ q, q = cnt f l b := ⟨_, rfl⟩
      rw [← hq] at hix
      have hq64 : q ≤ 64 := by rw [hq]; exact HCNT.out b
      obtain ⟨e1, he1⟩ : ∃ e1, e1 = st f l b := ⟨_, rfl⟩
      have he64 : e1 ≤ 64 := by rw [he1]; exact HSTL.out b (by have := HD.out; omega)
      have HE : Hid (e1 + q = st f l (b + 1)) := Lib.hid (by rw [he1, hq, st_succ])
      have HE1 := Lib.hid he1
      have HBD : Hid (b < D) := Lib.hid (by have := HD.out; omega)
      clear hq he1
      go_wp2_with fail
      clear hix
      go_loopw [8, 11] (fun xv _ ws => ∃ s : FS, xv = .int .i64 (s.sw : Int) ∧ FlI f l D g g6 g7 R w b s ws) (fun _ _ ws => μ ws)
      case atStart => exact ⟨s, rfl, HI.out⟩
      case round =>
        clear HI
        obtain ⟨s, rfl, hi⟩ := hrel
        have HI := Lib.hid hi
        obtain ⟨a, ha⟩ : ∃ a, a = s.nx b := ⟨_, rfl⟩
        have ha64 : a ≤ 64 := by rw [ha]; exact Nat.le_trans (hi.good.nx_le HF.out HBD.out) hn
        have hsw64 : s.sw ≤ 64 := by
          have h1 := hi.good.sw
          have h2 := tot_le hi.good.hi
          rw [bk_len HF.out] at h2
          omega
        obtain ⟨c7, _⟩ := hi.t7.at hlt
        obtain ⟨c6, _⟩ := hi.t6.at hlt
        rw [← ha] at c7
        rw [← HE1.out] at c6
        have HA := Lib.hid ha
        have HBQ : Hid (∀ n, Below wr.heap.size wr (wr.drewN n)) := Lib.hid (fun n => ⟨rfl, rfl, rfl, Nat.le_refl _, fun _ _ => rfl⟩)
        clear ha hi
        by_cases hlt2 : a < e1 + q
        · have hlt2z : decide ((a : Int) < (e1 : Int) + (q : Int)) = true := decide_eq_true (by omega)
          have hlt2y : (a : Int) < (e1 : Int) + (q : Int) := by omega
          have HLT : Hid (s.nx b < st f l (b + 1)) := Lib.hid (by rw [← HA.out, ← HE.out]; exact hlt2)
          go_wp2_with fail
          go_quiet (fail)
          have HIq := Lib.hid (HI.out.below (HBQ.out nq))
          have HMUq : Hid (μ (wr.drewN nq) = μ wr) := Lib.hid (by rw [HMU.out _ _ HIq.out.t7, HMU.out _ _ HI.out.t7])
          generalize wr.drewN nq = wq at HIq HMUq ⊢
          clear c7 c6 HI HBQ
          have F := HIq.out.good.found HF.out HBD.out HLT.out
          have hcur := F.cur
          have hdig := F.dig
          have hinto := F.into
          rw [← HA.out] at hcur hdig hinto
          have hperm := HIq.out.good.perm.length_eq
          obtain ⟨x, hx⟩ : ∃ x, x = s.L.getD a 0 := ⟨_, rfl⟩
          obtain ⟨cx, _⟩ := HIq.out.row.2 a _ (ints_at (at_getD (l := s.L) (k := a) (by omega)))
          rw [← hx] at cx hdig hinto
          have hxm : x ∈ l := by rw [hx]; exact HIq.out.good.perm.mem_iff.1 (Rx.getD_mem (by omega))
          obtain ⟨d, hd⟩ : ∃ d, d = f x := ⟨_, rfl⟩
          have HC := Lib.hid (HPR.out wq x hxm HIq.out.but)
          rw [← hd] at HC hdig hinto
          have hd1001 : d < 1001 := by have := HD.out; omega
          obtain ⟨nd, hnd⟩ : ∃ nd, nd = s.nx d := ⟨_, rfl⟩
          rw [← hnd] at hinto
          have hnd64 : nd ≤ 64 := by omega
          obtain ⟨c7b, _⟩ := HIq.out.t7.at hlt
          rw [← HA.out] at c7b
          have HFX : Hid (f (s.L.getD (s.nx b) 0) = d) := Lib.hid (by rw [← HA.out, ← hx, hd])
          have HTOT := Lib.hid (HIq.out.tots HF.out HBD.out HLT.out)
          have HND := Lib.hid hnd
          have HXL : Hid (s.L.length = l.length) := Lib.hid hperm
          have hcurz : (a : Int) < (l.length : Int) := by omega
          have hdz : (d : Int) < 1001 := by omega
          have hndz : (nd : Int) < (l.length : Int) := by omega
          clear F hx hd hnd hxm hperm
          by_cases hdb : d = b
          · subst hdb
            have HST : Hid (∀ W, FlI f l D g g6 g7 R w d s W → FlI f l D g g6 g7 R w d ⟨s.L, upd s.nx d (a + 1), s.sw⟩ (W.setCell ⟨g7, d, none⟩ (.int .i64 ((a : Int) + 1)))) := Lib.hid (fun W hW => by
              have := hW.own HF.out HBD.out HLT.out HFX.out hn67 hng7 hw7
              rw [← HA.out] at this; exact this)
            have HTT : Hid (tot f l (⟨s.L, upd s.nx d (a + 1), s.sw⟩ : FS).nx D = tot f l s.nx D + 1 ∧ tot f l s.nx D + 1 ≤ l.length) := Lib.hid (by
              have h1 := HTOT.out
              have e : fst f d s = ⟨s.L, upd s.nx d (s.nx d + 1), s.sw⟩ := by unfold fst; rw [if_pos HFX.out]
              rw [e, ← HA.out] at h1; exact h1)
            clear HTOT HFX HLT HND
            go_wp2_with (
              go_at_fn fn
              refine (HC.out).mono ?_
              rintro e w' ⟨rfl, hb'⟩
              have HIw := Lib.hid (HIq.out.below hb')
              obtain ⟨d7, f7⟩ := HIw.out.t7.at hlt
              rw [← HA.out] at d7
              have HN := Lib.hid (HST.out w' HIw.out)
              clear hb' c7b cx)
            go_roundw
            case rel => exact ⟨⟨s.L, upd s.nx d (a + 1), s.sw⟩, rfl, HN.out⟩
            case measure =>
              have h1 : μ _ = l.length - tot f l (upd s.nx d (a + 1)) D := HMU.out _ _ HN.out.t7
              have h2 := HMU.out _ _ HIq.out.t7
              have h3 : tot f l (upd s.nx d (a + 1)) D = tot f l s.nx D + 1 ∧ tot f l s.nx D + 1 ≤ l.length := HTT.out
              have h4 := HMUq.out
              omega
          · have hdbz : ¬ (d : Int) = (b : Int) := by omega
            have hdbz2 : ¬ (b : Int) = (d : Int) := by omega
            have HX := Lib.hid (fun W (hW : FlI f l D g g6 g7 R w b s W) => iexch_any (c := c) (n := l.length) a nd W (Seg.of_row hW.row) HXL.out (by omega) hcur hinto)
            have HST : Hid (∀ W W1, FlI f l D g g6 g7 R w b s W → CellRow W1 g (ints (swapped s.L a nd)) → But g W W1 → FlI f l D g g6 g7 R w b ⟨swapped s.L a nd, upd s.nx d (nd + 1), s.sw + 1⟩ (W1.setCell ⟨g7, d, none⟩ (.int .i64 ((nd : Int) + 1)))) := Lib.hid (fun W W1 hW hr hbt => by
              have := hW.swap HF.out HBD.out HLT.out HFX.out hdb hn67 hng7 (fun e => hng6 e.symm) hw7 (W1 := W1) (by rw [← HA.out, ← HND.out]; exact hr) hbt
              rw [← HA.out, ← HND.out] at this; exact this)
            have HTT : Hid (tot f l (⟨swapped s.L a nd, upd s.nx d (nd + 1), s.sw + 1⟩ : FS).nx D = tot f l s.nx D + 1 ∧ tot f l s.nx D + 1 ≤ l.length) := Lib.hid (by
              have h1 := HTOT.out
              have e : fst f b s = ⟨swapped s.L (s.nx b) (s.nx d), upd s.nx d (s.nx d + 1), s.sw + 1⟩ := by unfold fst; rw [HFX.out, if_neg hdb]
              rw [e, ← HA.out, ← HND.out] at h1; exact h1)
            clear HTOT HFX HLT
            go_wp2_with (
              go_at_fn fn
              refine (HC.out).mono ?_
              rintro e w' ⟨rfl, hb'⟩
              have HIw := Lib.hid (HIq.out.below hb')
              obtain ⟨d7, _⟩ := HIw.out.t7.at hlt
              obtain ⟨d8, _⟩ := HIw.out.t7.at hd1001
              rw [← HA.out] at d7
              rw [← HND.out] at d8
              have HIv := Lib.hid (HIw.out.below (W' := w'.drew) ⟨rfl, rfl, rfl, Nat.le_refl _, fun _ _ => rfl⟩)
              have HXv := Lib.hid (HX.out _ HIv.out)
              clear hb' c7b cx)
            go_region_with (go_at_call 137; refine HXv.out.mono ?_; rintro e w2 ⟨rfl, hs2, hb2⟩)
            all_goals (
              have HB2 := Lib.hid hb2.but
              have HN := Lib.hid (HST.out _ w2 HIv.out hs2.row hb2.but)
              obtain ⟨k8, fk8⟩ := (HIv.out.t7.but hb2.but (fun e => hng7 e.symm)).at hd1001
              rw [← HND.out] at k8
              clear hs2 hb2 d7 d8
              go_wp2_with fail
              go_roundw
              case rel => exact ⟨⟨swapped s.L a nd, upd s.nx d (nd + 1), s.sw + 1⟩, by go_num, HN.out⟩
              case measure =>
                have h1 : μ _ = l.length - tot f l (upd s.nx d (nd + 1)) D := HMU.out _ _ HN.out.t7
                have h2 := HMU.out _ _ HIq.out.t7
                have h3 : tot f l (upd s.nx d (nd + 1)) D = tot f l s.nx D + 1 ∧ tot f l s.nx D + 1 ≤ l.length := HTT.out
                have h4 := HMUq.out
                omega)
        · have hlt2z : decide ((a : Int) < (e1 : Int) + (q : Int)) = false := decide_eq_false (by omega)
          have hlt2y : ¬ (a : Int) < (e1 : Int) + (q : Int) := by omega
          have HNLT : Hid (¬ s.nx b < st f l (b + 1)) := Lib.hid (by rw [← HA.out, ← HE.out]; exact hlt2)
          have HN : Hid (∀ n, FlI f l D g g6 g7 R w (b + 1) s (wr.drewN n)) := Lib.hid (fun n => by
            have h := HI.out.below (HBQ.out n)
            exact ⟨h.t6, h.t7, h.row, h.fl.on HBD.out HNLT.out, h.good.next HBD.out HNLT.out, h.but⟩)
          clear HI HNLT HBQ HA HE HE1
          go_wp2_with fail
          go_quiet (fail)
          go_wp2_with fail
          go_roundw
          case rel => exact ⟨b + 1, s, by omega, by go_num, rfl, HN.out _⟩
          case measure => simp [intOf]; omega
    · have hltz : ¬ (b : Int) < 1001 := by omega
      have HE : Hid (s = R) := Lib.hid (by
        have h := HI.out.fl
        have e : b = D := by have := HD.out; omega
        rw [e] at h; exact h.atEnd)
      have HRES : Hid (CellRow wr g (ints R.L) ∧ But g w wr) := Lib.hid ⟨by rw [← HE.out]; exact HI.out.row, HI.out.but⟩
      clear HI
      go_wp2_with fail
      go_ret
      exact ⟨by rw [← HE.out]; rfl, HRES.out⟩

end Go.Proofs.Ytebipiehkmhaiaa
