/- The program's run stack: the merges while one is needed, by their contract. -/
import Derived.Test.YtnjabdlhgmaeiaaIMnt
import Derived.Test.YtnjabdlhgmaeiaaIUnb
namespace Go.Proofs.Ytnjabdlhgmaeiaa
open Go.RowKit P Sk
set_option linter.unusedVariables false

/-- The length of the stack, read off the world. -/
def lenAt (w : World) (s : Nat) : Nat := match w.cell? ⟨s, 0, none⟩ with | some (.slice _ n _) => n | _ => 0
theorem StkW.lenAt {base s : Nat} {vc vm : Value} {S O : List Int} {M : Nat} {TB : Int} {w0 w : World} (h : StkW base s vc vm S O M TB w0 w) : lenAt w s = S.length := by
  unfold Proofs.Ytnjabdlhgmaeiaa.lenAt
  rw [h.c0.1]
  rcases h.sH.2 with ⟨e, h0⟩ | ⟨g, c, _, e, _⟩
  · rw [e]; exact h0.symm
  · rw [e]

set_option maxRecDepth 100000 in
set_option maxHeartbeats 4000000 in
theorem mergeWhile_any (fin : Bool) (g base s : Nat) (eg : ∀ args w, (callFunc g args).run Try.prog w = .ok (.enter g args) w) (vc vm : Value) (S O : List Int) (M : Nat) (TB : Int) (w0 w : World) (h : StkW base s vc vm S O M TB w0 w) (hSO : S.length + O.length ≤ 100) (hf : fin = true ∨ 1 ≤ S.length) (hb : base ≤ w0.heap.size)
    (hcond : ∀ vc vm S O W, StkW base s vc vm S O M TB w0 W → S.length ≤ 100 → (fin = true ∨ 1 ≤ S.length) → Calls Try.prog g #[.pointer (some ⟨s, 0, none⟩)] W fun e w' => e = .returned (.bool (decide (need S fin))) ∧ StkW base s vc vm S O M TB w0 w') :
    Calls Try.prog 88 #[.pointer (some ⟨s, 0, none⟩), .func (.func g) #[.pointer (some ⟨s, 0, none⟩)] #[]] w (StkC base s (coll fin S O).1 (coll fin S O).2 M TB w0) := by
  have H0 := Lib.hid h
  have HCOND := Lib.hid hcond
  clear h hcond
  go_enter Try.func88, Try.ntmps88
  go_wp2_with fail
  go_loopw [] (fun wr => ∃ vc1 vm1 S1 O1, StkW base s vc1 vm1 S1 O1 M TB w0 wr ∧ coll fin S1 O1 = coll fin S O ∧ S1.length + O1.length ≤ 100 ∧ (fin = true ∨ 1 ≤ S1.length)) (fun wr => lenAt wr s)
  case atStart => exact ⟨vc, vm, S, O, H0.out, rfl, hSO, hf⟩
  case round =>
    obtain ⟨vc1, vm1, S1, O1, h1, he, hl, hf1⟩ := hrel
    have HL1 := Lib.hid h1.lenAt
    have HE := Lib.hid he
    have hcall := HCOND.out vc1 vm1 S1 O1 wr h1 (by omega) hf1
    clear h1 he
    by_cases hn : need S1 fin
    · rw [decide_eq_true hn] at hcall
      have HCALL := Lib.hid hcall
      have h2 := need_two hn
      have HML := Lib.hid (mrg_length (low_lt h2))
      have HMN := Lib.hid (fun W hW => mergeNearTop_any base s vc1 vm1 S1 O1 M TB w0 W hW (by omega) (by omega) h2 hb)
      have HN := Lib.hid hn
      clear hcall hn
      go_wp2_with (go_at_fn g; refine (HCALL.out).mono ?_; rintro e w2 ⟨rfl, h2w⟩)
      refine (HMN.out _ h2w).mono ?_
      rintro e w3 ⟨vc3, vm3, rfl, h3w⟩
      have H3 := Lib.hid h3w
      clear h3w h2w
      go_wp2_with fail
      go_roundw
      case rel => exact ⟨vc3, vm3, _, _, H3.out, by rw [← coll_go _ HN.out]; exact HE.out, by rw [HML.out, List.length_append, List.length_singleton]; omega, .inr (by rw [HML.out]; omega)⟩
      case measure => rw [HL1.out, H3.out.lenAt, HML.out]; omega
    · rw [decide_eq_false hn] at hcall
      have HCALL := Lib.hid hcall
      have HN := Lib.hid hn
      clear hcall hn
      go_wp2_with (go_at_fn g; refine (HCALL.out).mono ?_; rintro e w2 ⟨rfl, h2w⟩)
      go_end0
      have hE := HE.out
      rw [coll_stop _ HN.out] at hE
      rw [← hE]
      exact ⟨vc1, vm1, rfl, h2w⟩

end Go.Proofs.Ytnjabdlhgmaeiaa
