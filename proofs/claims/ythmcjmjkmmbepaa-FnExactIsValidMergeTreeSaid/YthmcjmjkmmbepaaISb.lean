/- The program's sortedBlocks, by its contract (slices.Sort of a part in place by its contract). -/
import Derived.Test.YthmcjmjkmmbepaaMtP
import Derived.Test.YthmcjmjkmmbepaaChk
import Derived.Test.YthmcjmjkmmbepaaChkA
import Derived.Test.YthmcjmjkmmbepaaCloneI
import Derived.Test.YthmcjmjkmmbepaaFenB
namespace Go.Proofs.Ythmcjmjkmmbepaa
open Go.RowKit Go.Shelf P El Mt
set_option linter.unusedVariables false

attribute [local go_sem] Oper.semAt_some

/-- slices.Sort of a part of a row. -/
def SortPart : Prop := ∀ (g cap : Nat) (A B C : List Int) (w : World), CellRow w g (ints (A ++ (B ++ C))) → 0 < B.length → B.length ≤ 1048576 →
  Calls Try.prog 121 #[.slice (some ⟨g, A.length, none⟩) B.length cap] w fun e w' => e = .returned (.tuple #[]) ∧ CellRow w' g (ints (A ++ (srt B ++ C))) ∧ But g w w'

/-- The word at each round: the blocks so far are in order. -/
def SbW (g d : Nat) (L : List Int) (w : World) (pre : List Nat) (W : World) : Prop :=
  CellRow W g (ints (lvTo L d pre.length ++ L.drop (d * pre.length))) ∧ But g w W

theorem SbW.own {g d B : Nat} {L : List Int} {w : World} (hg : g < B) (hB : w.heap.size ≤ B) : OwnFrom B (SbW g d L w) := by
  rintro pre W W' row ⟨hr, hb⟩ hgr hrow
  refine ⟨hr.same (hgr.block g hr.1 (fun e => by have := (hrow g e.symm).1; omega)) hgr.size, ?_⟩
  exact ⟨hgr.os.trans hb.os, hgr.tape.trans hb.tape, hgr.output.trans hb.output, Nat.le_trans hb.size hgr.size, fun k hk hne => (hgr.block k (Nat.lt_of_lt_of_le hk hb.size) (fun e => by have := (hrow k e.symm).1; omega)).trans (hb.block k hk hne)⟩

theorem sb_leave {F : Fence} {n : Nat} {base : Nat} {w w1 : World} {tmps : Array Value} {D : Nat} {v : Value} {L : List Int} (hK : w1.heap[D]? = some (.deferred (some []))) (hD : base ≤ D) (h2 : tmps.getD 4 undef = v)
    (hR : ∀ W2, W2.heap.size = w1.heap.size → (∀ k, k ≠ D → W2.heap[k]? = w1.heap[k]?) → W2.os = w1.os → W2.tape = w1.tape → W2.output = w1.output → RowI L w (.returned v) W2) :
    LeavesInM F n Try.prog Try.f109 tmps (RowI L w) [{ target := .collected D, args := #[] }] .returning w1 := by
  refine ⟨by simp, .inl ⟨D, _, rfl, run_takeDeferred hK, ?_⟩⟩
  exact ⟨_, results_tmp rfl _ _ _, by rw [h2]; exact hR _ (by simp [World.putObj]) (fun k hk => World.putObj_heap_other (by omega)) rfl rfl rfl⟩

set_option maxRecDepth 100000 in
set_option maxHeartbeats 4000000 in
theorem sortedBlocks_any (hsort : SortPart) (b o c : Nat) (l : List Int) (d : Nat) (w : World) (hv : FlatAt w (.slice (some ⟨b, o, none⟩) l.length c) l.length (ints l)) (hn : l.length ≤ 64) (hd : 0 < d) (hd2 : d ≤ 64) :
    Calls Try.prog 109 #[.slice (some ⟨b, o, none⟩) l.length c, .int .i64 (d : Int)] w (RowI (lv l d) w) := by
  have HSO := Lib.hid hsort
  have HCL := Lib.hid (cloneInts_any b o c l w hv (by omega))
  clear hv hsort
  refine (callsIn_wide (n := 5)).1 ?_
  refine callsIn_of_wp_marks Try.func109 rfl trivial ?_ rfl
  simp only [Try.ntmps109, List.size_toArray, List.length_cons, List.length_nil, Nat.reduceAdd, Nat.reduceSub, Array.replicate_succ, Array.replicate_zero, List.push_toArray, List.append_toArray, List.nil_append, List.cons_append]
  gi_wp2
  refine ⟨trivial, ?_⟩
  refine ((callsIn_wide).2 HCL.out).mono ?_
  rintro e w1 ⟨g, cg, rfl, hcg, hg, hrow, hb1⟩
  have HROW := Lib.hid hrow
  have HG : Hid (w.heap.size ≤ g ∧ l.length ≤ cg) := Lib.hid ⟨hg, hcg⟩
  have HB1 := Lib.hid hb1
  clear hrow hg hcg hb1 HCL
  gi_wp2
  refine ⟨trivial, ?_⟩
  refine ((callsIn_wide).2 (chunk_any (some ⟨g, 0, none⟩) l.length cg (d : Int) w1 (by omega))).mono ?_
  rintro e w2 ⟨rfl, rfl⟩
  gi_wp2
  obtain ⟨wL, hwL, h0, h1, hz, hbL⟩ := box2 w1 34 3 (.slice (some ⟨g, 0, none⟩) l.length cg) (.int .i64 (d : Int))
  rw [← hwL]
  have hgl : g < w1.heap.size := HROW.out.1
  have HRL := Lib.hid (HROW.out.below hbL hgl)
  have HBL := Lib.hid (HB1.out.trans (hbL.mono HB1.out.size))
  have HGL : Hid (g < w1.heap.size ∧ w1.heap.size + 2 = wL.heap.size) := Lib.hid ⟨hgl, by omega⟩
  clear hwL HROW
  refine range_steps rfl (by decide) (gf := 115) (lb := #[.pointer (some ⟨w1.heap.size, 0, none⟩), .pointer (some ⟨w1.heap.size + 1, 0, none⟩)]) rfl trivial (enters_of Try.func115 (by kernel_rfl) rfl)
    (chunk_steps Fence.wide 4 trivial rfl (by decide) wL w1.heap.size (w1.heap.size + 1) g 0 cg l.length d (by omega) (by omega) hd hd2 (by omega) HG.out.2 h0.cell h1.cell) KeepTwo.trans (fun W i o hi => KeepTwo.put (by omega) (by omega) W o) (fun _ => rfl)
    (SbW g d l wL) (SbW.own (by omega) (Nat.le_refl _))
    ⟨by simpa [lvTo] using HRL.out, But.refl _ _⟩
    (fun x : Nat => { tmps := #[.slice (some ⟨b, o, none⟩) l.length c, .int .i64 (d : Int), undef, undef, .slice none 0 0, .slice (some ⟨g, 0, none⟩) l.length cg, chunkV g 0 l.length d x, .slice (some ⟨b, o, none⟩) l.length c, .slice (some ⟨g, 0, none⟩) l.length cg, .slice (some ⟨g, 0, none⟩) l.length cg, .int .i64 (d : Int), .func (.func 115) #[] #[.pointer (some ⟨w1.heap.size, 0, none⟩), .pointer (some ⟨w1.heap.size + 1, 0, none⟩)], chunkV g 0 l.length d x, undef, undef, undef], defers := [] }) ?assign ?body ?done
  case assign =>
    intro i x W K hK
    gi_wp2
    exact hK
  case body =>
    rintro ln pre i W ⟨rfl, hi⟩ ⟨hr, hbt⟩
    rw [List.length_range] at hr
    have hAl : (lvTo l d i).length = d * i := by rw [lvTo_len]; omega
    have hBl : (bk l d i).length = min d (l.length - d * i) := bk_len l d i
    have hdrop : l.drop (d * i) = bk l d i ++ l.drop (d * (i + 1)) := by
      rw [bk, Nat.mul_succ, ← List.drop_drop, List.take_append_drop]
    rw [hdrop] at hr
    have HCS := Lib.hid (HSO.out g (min d (l.length - d * i)) (lvTo l d i) (bk l d i) (l.drop (d * (i + 1))) W hr (by rw [hBl]; omega) (by rw [hBl]; omega))
    rw [hAl, hBl] at HCS
    have HC : Hid (CallsIn (Fence.wide.inRound ln) 2 Try.prog 121 #[chunkV g 0 l.length d i] W fun e w' => e = .returned (.tuple #[]) ∧ CellRow w' g (ints (lvTo l d i ++ (srt (bk l d i) ++ l.drop (d * (i + 1))))) ∧ But g W w') := Lib.hid (by
      unfold chunkV
      rw [Nat.zero_add]
      exact CallsIn.inRound ln (callsIn_wide.2 HCS.out))
    have HPOST : ∀ (w' : World) (a' : Act), CellRow w' g (ints (lvTo l d i ++ (srt (bk l d i) ++ l.drop (d * (i + 1))))) → But g W w' → stepPost wL.heap.size (KeepTwo w1.heap.size (w1.heap.size + 1)) (SbW g d l wL) (List.range i ++ [i]) W .normal a' w' := fun w' a' h1 h2 => by
      have el : (List.range i ++ [i]).length = i + 1 := by simp
      have hwl := hbt.size
      have hgl2 := HGL.out
      refine ⟨⟨h2.size, fun k o' hB hk ho' => (h2.block k (Array.getElem?_eq_some_iff.1 hk).1 (by omega)).trans hk⟩, ⟨h2.block _ (by omega) (by omega), h2.block _ (by omega) (by omega)⟩, ?_, But.trans hbt h2⟩
      rw [el, lvTo_next]; exact h1
    clear hr HCS hAl hBl hdrop
    gi_wp2
    refine ⟨trivial, ?_⟩
    refine HC.out.mono ?_
    rintro e W2 ⟨rfl, h1, h2⟩
    have HP := Lib.hid (HPOST W2)
    clear HPOST
    gi_wp2
    exact HP.out _ h1 h2
  case done =>
    rintro D ys W hD rfl ⟨hr, hbt⟩ hK
    rw [List.length_range] at hr
    have hnb : (l.length + d - 1) / d = nb l.length d := rfl
    rw [hnb] at hr
    have hall := nb_all (n := l.length) hd
    rw [List.drop_eq_nil_of_le hall, List.append_nil] at hr
    have HLEN : Hid ((lv l d).length = l.length) := Lib.hid (lv_len hd)
    gi_wp2
    refine sb_leave hK hD rfl ?_
    intro W2 hs hk h1 h2 h3
    refine ⟨g, cg, by rw [HLEN.out]; rfl, by rw [HLEN.out]; exact HG.out.2, HG.out.1, hr.same (hk g (by omega)) (by omega), ?_⟩
    have hbw : Below w.heap.size w W := HBL.out.trans (hbt.below HG.out.1 HBL.out.size)
    refine hbw.trans ⟨h1, h2, h3, by omega, fun k hkk => hk k (by have := HBL.out.size; omega)⟩

end Go.Proofs.Ythmcjmjkmmbepaa
