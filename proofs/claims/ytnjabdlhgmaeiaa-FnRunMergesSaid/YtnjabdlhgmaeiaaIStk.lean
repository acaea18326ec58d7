/- The program's run stack: its methods, by contracts. -/
import Derived.Test.YtnjabdlhgmaeiaaDelI
import Derived.Test.YtnjabdlhgmaeiaaStkP
import Derived.Test.YtnjabdlhgmaeiaaPerm
import Derived.BigRegion
import Derived.BigQuiet
import Derived.Deep.QuietTactic
import Derived.Laws.BitsLemmas
namespace Go.Proofs.Ytnjabdlhgmaeiaa
open Go.RowKit P Sk
set_option linter.unusedVariables false
attribute [local go_sem ↓ high] builtin_append_held

/-- The stack, its merges and the most entries. -/
structure StkW (base s : Nat) (vc vm : Value) (S O : List Int) (M : Nat) (TB : Int) (w0 w : World) : Prop where
  st : CellRow w s [vc, vm, .int .i64 (M : Int)]
  sH : OwnN base w vc S
  oH : OwnN base w vm O
  cc : ∀ g, vc.ownBlock = some g → g ≠ s ∧ vm.ownBlock ≠ some g
  co : ∀ g, vm.ownBlock = some g → g ≠ s
  bs : base ≤ s
  pos : Pos 4000000 S
  tb : tot S ≤ TB
  b : Below base w0 w

theorem StkW.c0 {base s : Nat} {vc vm : Value} {S O : List Int} {M : Nat} {TB : Int} {w0 w : World} (h : StkW base s vc vm S O M TB w0 w) :
    w.cell? ⟨s, 0, none⟩ = some vc ∧ w.cell? ⟨s, 1, none⟩ = some vm ∧ w.cell? ⟨s, 2, none⟩ = some (.int .i64 (M : Int)) ∧ w.frozen? ⟨s, 0, none⟩ = false ∧ w.frozen? ⟨s, 1, none⟩ = false ∧ w.frozen? ⟨s, 2, none⟩ = false :=
  ⟨(h.st.2 0 _ rfl).1, (h.st.2 1 _ rfl).1, (h.st.2 2 _ rfl).1, (h.st.2 0 _ rfl).2, (h.st.2 1 _ rfl).2, (h.st.2 2 _ rfl).2⟩
theorem StkW.drewN {base s : Nat} {vc vm : Value} {S O : List Int} {M : Nat} {TB : Int} {w0 w : World} (h : StkW base s vc vm S O M TB w0 w) (n : Nat) : StkW base s vc vm S O M TB w0 (w.drewN n) :=
  ⟨h.st.same rfl (Nat.le_refl _), h.sH.keep (fun _ _ => rfl), h.oH.keep (fun _ _ => rfl), h.cc, h.co, h.bs, h.pos, h.tb, h.b.trans ⟨rfl, rfl, rfl, Nat.le_refl _, fun _ _ => rfl⟩⟩

/-- What a method leaves. -/
def StkC (base s : Nat) (S O : List Int) (M : Nat) (TB : Int) (w0 : World) (e : Ending) (w' : World) : Prop :=
  ∃ vc vm, e = .returned (.tuple #[]) ∧ StkW base s vc vm S O M TB w0 w'

set_option maxRecDepth 100000 in
set_option maxHeartbeats 8000000 in
theorem push_any (base s : Nat) (vc vm : Value) (S O : List Int) (M : Nat) (TB x : Int) (w0 w : World) (h : StkW base s vc vm S O M TB w0 w) (hx : 1 ≤ x) (hT : TB + x ≤ 4000000) (hS : S.length ≤ 100) (hM : M ≤ 100) (hb : base ≤ w0.heap.size) :
    Calls Try.prog 87 #[.pointer (some ⟨s, 0, none⟩), .int .i64 x] w (StkC base s (S ++ [x]) O (max M (S.length + 1)) (TB + x) w0) := by
  obtain ⟨c0, c1, c2, f0, f1, f2⟩ := h.c0
  have hbw : base ≤ w.heap.size := Nat.le_trans hb h.b.size
  have hsl := h.st.1
  obtain ⟨g', c', w2, hrun, hs2, hb2, hfr, hg2⟩ := appendN base vc S x w h.sH hbw (by omega)
  have hg2s : g' ≠ s := by
    rcases hg2 with e | e
    · exact (h.cc g' e).1
    · omega
  have hst2 : CellRow w2 s [vc, vm, .int .i64 (M : Int)] := h.st.same (hfr s hsl (fun e => (h.cc s e).1 rfl)) hb2.size
  have ho2 : OwnN base w2 vm O := h.oH.keep (fun g hg => hfr g (by have := (h.oH.lt g hg).2; exact this) (fun e => (h.cc g e).2 hg))
  obtain ⟨M2, hM2⟩ : ∃ M2, M2 = max M (S.length + 1) := ⟨_, rfl⟩
  obtain ⟨n1, hn1⟩ : ∃ n1, n1 = S.length + 1 := ⟨_, rfl⟩
  have hmx : max (M : Int) (n1 : Int) = (M2 : Int) := by omega
  rw [← hn1] at hrun
  rw [← hM2]
  -- the stores
  have hst3 := hst2.set 0 (.slice (some ⟨g', 0, none⟩) n1 c') (by simp)
  have hd2 := (hst3.2 2 _ rfl)
  have hd0 := (hst3.2 0 _ rfl)
  have hf0 := (hst2.2 0 _ rfl).2
  have hk0 := (hst2.2 0 _ rfl).1
  have hlen : (S ++ [x]).length = n1 := by simp [hn1]
  have HRES : Hid (∀ n, StkW base s (.slice (some ⟨g', 0, none⟩) n1 c') vm (S ++ [x]) O M2 (TB + x) w0 (((w2.setCell ⟨s, 0, none⟩ (.slice (some ⟨g', 0, none⟩) n1 c')).drewN n).setCell ⟨s, 2, none⟩ (.int .i64 (M2 : Int)))) := Lib.hid (fun n => by
    have e0 : ∀ k, k ≠ s → (((w2.setCell ⟨s, 0, none⟩ (.slice (some ⟨g', 0, none⟩) n1 c')).drewN n).setCell ⟨s, 2, none⟩ (.int .i64 (M2 : Int))).heap[k]? = w2.heap[k]? := fun k hk =>
      (Below.heap_setCell _ ⟨s, 2, none⟩ _ _ hk).trans (Below.heap_setCell w2 ⟨s, 0, none⟩ _ _ hk)
    refine ⟨?_, ?_, ?_, fun g hg => ?_, h.co, h.bs, ⟨fun y hy => ?_, ?_⟩, ?_, ?_⟩
    · have := ((hst3.same (w' := (w2.setCell ⟨s, 0, none⟩ (.slice (some ⟨g', 0, none⟩) n1 c')).drewN n) rfl (Nat.le_refl _)).set 2 (.int .i64 (M2 : Int)) (by simp))
      exact this
    · have h3 := hs2.keep (fun g hg => e0 g (by simp [Value.ownBlock] at hg; omega))
      rw [hlen] at h3; exact h3
    · exact ho2.keep (fun g hg => e0 g (h.co g hg))
    · simp [Value.ownBlock] at hg
      subst hg
      refine ⟨hg2s, fun e => ?_⟩
      rcases hg2 with e' | e'
      · exact (h.cc g' e').2 e
      · have := (h.oH.lt g' e).2; omega
    · rcases List.mem_append.1 hy with hy | hy
      · exact h.pos.1 y hy
      · rw [List.mem_singleton.1 hy]; exact hx
    · rw [tot_append]; have := h.tb; simp only [tot]; omega
    · rw [tot_append]; have := h.tb; simp only [tot]; omega
    · exact ((((h.b.trans hb2).setCell (p := ⟨s, 0, none⟩) h.bs _).trans ⟨rfl, rfl, rfl, Nat.le_refl _, fun _ _ => rfl⟩ : Below base w0 ((w2.setCell ⟨s, 0, none⟩ (.slice (some ⟨g', 0, none⟩) n1 c')).drewN n))).setCell (p := ⟨s, 2, none⟩) h.bs _)
  obtain ⟨hd0c, _⟩ := hd0
  obtain ⟨hd2c, hd2f⟩ := hd2
  have hn100 : n1 ≤ 101 := by omega
  have hM101 : M2 ≤ 101 := by omega
  clear h hs2 hb2 hfr hg2 hst2 ho2 hst3 hM2 hn1 hlen
  go_enter Try.func87, Try.ntmps87
  go_wp2_with fail
  generalize w2.setCell ⟨s, 0, none⟩ (.slice (some ⟨g', 0, none⟩) n1 c') = W3 at *
  go_region
  all_goals (
    go_wp2_with fail
    go_end0
    exact ⟨_, _, rfl, HRES.out 1⟩)

set_option maxRecDepth 100000 in
theorem isDivided_any (base s : Nat) (vc vm : Value) (S O : List Int) (M : Nat) (TB : Int) (w0 w : World) (h : StkW base s vc vm S O M TB w0 w) (hS : S.length ≤ 100) :
    Calls Try.prog 90 #[.pointer (some ⟨s, 0, none⟩)] w fun e w' => e = .returned (.bool (decide (need S true))) ∧ StkW base s vc vm S O M TB w0 w' := by
  have H := Lib.hid h
  obtain ⟨c0, _⟩ := h.c0
  obtain ⟨a, c, rfl⟩ : ∃ a c, vc = .slice a S.length c := by
    rcases h.sH.2 with ⟨e, h0⟩ | ⟨g, c, _, e, _⟩
    · exact ⟨none, 0, by rw [e, h0]⟩
    · exact ⟨_, c, e⟩
  have HE : Hid (decide (need S true) = decide ((1 : Int) < (S.length : Int))) := Lib.hid (by
    have e : need S true ↔ (1 : Int) < (S.length : Int) := by unfold need; rw [if_pos rfl]; omega
    simp only [e])
  clear h
  go_enter Try.func90, Try.ntmps90
  go_wp2_with fail
  go_ret
  exact ⟨by rw [HE.out]; rfl, H.out⟩

end Go.Proofs.Ytnjabdlhgmaeiaa
