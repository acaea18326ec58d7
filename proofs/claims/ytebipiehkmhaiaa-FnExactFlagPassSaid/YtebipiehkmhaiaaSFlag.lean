/- The model's FlagPass, by its contract. -/
import Derived.Test.YtebipiehkmhaiaaSDig
import Derived.Test.YtebipiehkmhaiaaRadA
import Derived.Test.YtebipiehkmhaiaaRng
import Derived.Test.YtebipiehkmhaiaaOwnI
import Derived.Test.YtebipiehkmhaiaaIntS
import Derived.Test.YtebipiehkmhaiaaRetZ
import Derived.BigRegion
import Derived.BigQuiet
import Derived.Deep.QuietTactic
namespace Go.Proofs.Ytebipiehkmhaiaa
open Go.RowKit Rx P El
set_option linter.unusedVariables false

theorem RetE1.nil0 (w w1 : World) (hb : Below w.heap.size w w1) : RetE1 ([], 0, false) w (.returned (.tuple #[.slice none 0 0, .int .i64 0, .bool false])) w1 := .inr ⟨rfl, ⟨_, _, rfl, hb⟩, fun c h => by simp at h; exact h.symm⟩

/-- How much is left, as the world tells it. -/
theorem flag_measureR (f : Int → Nat) (l : List Int) (D g : Nat) : ∃ μ : World → Nat, ∀ w nx, RngAt w g nx (D + 1) → μ w = l.length - tot f l nx D := by
  refine ⟨fun w => l.length - tot f l (fun d => match w.cell? ⟨g, d, none⟩ with | some (.int _ n) => n.toNat | _ => 0) D, fun w nx h => ?_⟩
  have : ∀ k, k ≤ D → tot f l (fun d => match w.cell? ⟨g, d, none⟩ with | some (.int _ n) => n.toNat | _ => 0) k = tot f l nx k := by
    intro k
    induction k with
    | zero => intro _; rfl
    | succ k ih =>
      intro hk
      simp only [tot, ih (by omega)]
      rw [(h.at (k := k) (by omega)).1]
      simp
  show l.length - tot f l _ D = _
  rw [this D (Nat.le_refl _)]

/-- What stands at bucket b. -/
structure FlS (f : Int → Nat) (l : List Int) (D go gx ge : Nat) (R : FS) (w : World) (b : Nat) (s : FS) (W : World) : Prop where
  tx : RngAt W gx s.nx (D + 1)
  te : RngAt W ge (fun d => st f l (d + 1)) D
  row : CellRow W go (ints s.L)
  fl : Fl f (fun d => st f l (d + 1)) D b s R
  good : FGood f l D b s
  bel : Below w.heap.size w W
theorem FlS.same {f : Int → Nat} {l : List Int} {D go gx ge : Nat} {R : FS} {w : World} {b : Nat} {s : FS} {W W' : World} (h : FlS f l D go gx ge R w b s W) (hb : Below W.heap.size W W') : FlS f l D go gx ge R w b s W' :=
  ⟨h.tx.below hb h.tx.lt, h.te.below hb h.te.lt, h.row.below hb h.row.1, h.fl, h.good, h.bel.trans (hb.mono h.bel.size)⟩
theorem FlS.own {f : Int → Nat} {l : List Int} {D go gx ge : Nat} {R : FS} {w : World} {b : Nat} {s : FS} {W : World} (h : FlS f l D go gx ge R w b s W) (hf : ∀ x ∈ l, f x < D) (hb : b < D) (hlt : s.nx b < st f l (b + 1)) (he : f (s.L.getD (s.nx b) 0) = b) (h1 : ge ≠ gx) (h2 : go ≠ gx) (hw : w.heap.size ≤ gx) :
    FlS f l D go gx ge R w b ⟨s.L, upd s.nx b (s.nx b + 1), s.sw⟩ (W.setCell ⟨gx, b, none⟩ (.int .i64 ((s.nx b : Int) + 1))) := by
  have e : fst f b s = ⟨s.L, upd s.nx b (s.nx b + 1), s.sw⟩ := by unfold fst; rw [if_pos he]
  have k1 := h.fl.more hb hlt
  have k2 := (h.good.step hf hb hlt).1
  rw [e] at k1 k2
  have hbt := (But.refl gx W).setCell b (.int .i64 ((s.nx b : Int) + 1))
  refine ⟨?_, h.te.but hbt h1, h.row.but hbt h2, k1, k2, h.bel.trans (hbt.below hw h.bel.size)⟩
  have := h.tx.put b (s.nx b + 1) (by omega)
  exact this
theorem FlS.swap {f : Int → Nat} {l : List Int} {D go gx ge : Nat} {R : FS} {w : World} {b d : Nat} {s : FS} {W : World} (h : FlS f l D go gx ge R w b s W) (hf : ∀ x ∈ l, f x < D) (hb : b < D) (hlt : s.nx b < st f l (b + 1)) (he : f (s.L.getD (s.nx b) 0) = d) (hd : d ≠ b) (hdD : d < D) (h1 : ge ≠ gx) (h2 : go ≠ gx) (h3 : ge ≠ go) (hw : w.heap.size ≤ gx) (hw2 : w.heap.size ≤ go) :
    FlS f l D go gx ge R w b ⟨swapped s.L (s.nx b) (s.nx d), upd s.nx d (s.nx d + 1), s.sw + 1⟩ (((W.setCell ⟨go, s.nx d, none⟩ (.int .i64 (s.L.getD (s.nx b) 0))).setCell ⟨go, s.nx b, none⟩ (.int .i64 (s.L.getD (s.nx d) 0))).setCell ⟨gx, d, none⟩ (.int .i64 ((s.nx d : Int) + 1))).drew := by
  have e : fst f b s = ⟨swapped s.L (s.nx b) (s.nx d), upd s.nx d (s.nx d + 1), s.sw + 1⟩ := by unfold fst; rw [he, if_neg hd]
  have k1 := h.fl.more hb hlt
  have k2 := (h.good.step hf hb hlt).1
  have F := h.good.found hf hb hlt
  rw [e] at k1 k2
  have hlen := h.good.perm.length_eq
  have hca := F.cur
  have hcd := F.into
  rw [he] at hcd
  have hroom := F.room
  rw [he] at hroom
  have hne := h.good.ne hlt hroom hd
  have hb1 : But go W ((W.setCell ⟨go, s.nx d, none⟩ (.int .i64 (s.L.getD (s.nx b) 0))).setCell ⟨go, s.nx b, none⟩ (.int .i64 (s.L.getD (s.nx d) 0))) := ((But.refl go W).setCell _ _).setCell _ _
  have hb2 : But gx ((W.setCell ⟨go, s.nx d, none⟩ (.int .i64 (s.L.getD (s.nx b) 0))).setCell ⟨go, s.nx b, none⟩ (.int .i64 (s.L.getD (s.nx d) 0))) (((W.setCell ⟨go, s.nx d, none⟩ (.int .i64 (s.L.getD (s.nx b) 0))).setCell ⟨go, s.nx b, none⟩ (.int .i64 (s.L.getD (s.nx d) 0))).setCell ⟨gx, d, none⟩ (.int .i64 ((s.nx d : Int) + 1))).drew := ((But.refl gx _).setCell d _).drewN 1
  have hB1 := h.bel.trans (hb1.below hw2 h.bel.size)
  refine ⟨?_, (h.te.but hb1 h3).but hb2 h1, ?_, k1, k2, hB1.trans (hb2.below hw hB1.size)⟩
  · have := (h.tx.but hb1 (fun e => h2 e.symm)).put d (s.nx d + 1) (by omega)
    exact this
  · have hr := (h.row.set (s.nx d) (.int .i64 (s.L.getD (s.nx b) 0)) (by rw [ints_length]; omega)).set (s.nx b) (.int .i64 (s.L.getD (s.nx d) 0)) (by rw [List.length_set, ints_length]; omega)
    rw [ints_set, ints_set] at hr
    have e2 : (s.L.set (s.nx d) (s.L.getD (s.nx b) 0)).set (s.nx b) (s.L.getD (s.nx d) 0) = swapped s.L (s.nx b) (s.nx d) := by
      rw [swapped_comm _ hne]; rfl
    rw [e2] at hr
    exact hr.but hb2 h2
theorem FlS.tots {f : Int → Nat} {l : List Int} {D go gx ge : Nat} {R : FS} {w : World} {b : Nat} {s : FS} {W : World} (h : FlS f l D go gx ge R w b s W) (hf : ∀ x ∈ l, f x < D) (hb : b < D) (hlt : s.nx b < st f l (b + 1)) : tot f l (fst f b s).nx D = tot f l s.nx D + 1 ∧ tot f l s.nx D + 1 ≤ l.length := by
  obtain ⟨h1, h2⟩ := h.good.step hf hb hlt
  have h3 := tot_le h1.hi
  rw [bk_len hf] at h3
  exact ⟨h2, by omega⟩

end Go.Proofs.Ytebipiehkmhaiaa
