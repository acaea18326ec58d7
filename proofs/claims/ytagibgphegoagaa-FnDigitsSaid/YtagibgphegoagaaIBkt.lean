/- The program's counts of buckets and their starts, by their contracts. -/
import Derived.Test.YtagibgphegoagaaTab
import Derived.Test.YtagibgphegoagaaRadP
import Derived.Test.YtagibgphegoagaaInts
import Derived.Lib.Walk
import Derived.Shelf.Abstract
import Derived.Deep.LoopGhost
import Derived.Deep.Draws
import Derived.BigRegion
import Derived.BigQuiet
import Derived.Deep.QuietTactic
import Derived.Laws.BitsLemmas
namespace Go.Proofs.Ytagibgphegoagaa
open Go.RowKit Rx
set_option linter.unusedVariables false
attribute [local go_sem ↓ high] alloc_tab load_tab store_tab box_tab
attribute [local go_sem] run_tabNew

set_option maxRecDepth 100000 in
set_option maxHeartbeats 2000000 in
theorem bucketCounts_any (f : Int → Nat) (g : Nat) (lb : Array Value) (eg : ∀ args w, (callFunc g args).run Try.prog w = .ok (.enter g args) w) (v : Value) (l : List Int) (w : World) (hv : FlatAt w v l.length (ints l)) (hn : l.length ≤ 1048576)
    (hf : ∀ x ∈ l, f x < 1001) (hp : ∀ (W : World) x, x ∈ l → Below w.heap.size w W → Calls Try.prog g (#[.int .i64 x] ++ lb) W fun e w' => e = .returned (.int .i64 (f x : Nat)) ∧ Below W.heap.size W w') :
    Calls Try.prog 130 #[v, .func (.func g) #[] lb] w fun e w' => e = .returned (.agg (tabA (cnt f l))) ∧ Below w.heap.size w w' := by
  obtain ⟨a, c, rfl, _, h⟩ := hv
  have H := Lib.hid h
  have HPR := Lib.hid hp
  have HF := Lib.hid hf
  clear h hp hf
  go_enter Try.func130, Try.ntmps130
  go_wp2_with fail
  obtain ⟨W0, hW0⟩ : ∃ W0, W0 = (w.alloc (.cells (tabA fun _ => 0) 139)).alloc (.cells (tabA fun _ => 0) 139) := ⟨_, rfl⟩
  have hs0 : (w.alloc (.cells (tabA fun _ => 0) 139)).heap.size = w.heap.size + 1 := by simp
  have HT1 : Hid (TabAt W0 w.heap.size fun _ => 0) := Lib.hid (by rw [hW0]; exact (TabAt.new w _).below ((Below.refl (w.heap.size + 1) _).alloc (by omega) _) (by omega))
  have HT2 : Hid (TabAt W0 (w.heap.size + 1) fun _ => 0) := Lib.hid (by rw [hW0]; have := TabAt.new (w.alloc (.cells (tabA fun _ => 0) 139)) (fun _ => 0); rw [hs0] at this; exact this)
  have HB0 : Hid (Below w.heap.size w W0) := Lib.hid (by rw [hW0]; exact ((Below.refl _ _).alloc (Nat.le_refl _) _).alloc (by omega) _)
  rw [← hW0]
  clear hW0 hs0
  go_loopw [7, 10] (fun _ i wr => ∃ k : Nat, k ≤ l.length ∧ i = .int .i64 k ∧ TabAt wr w.heap.size (fun _ => 0) ∧ TabAt wr (w.heap.size + 1) (cnt f (l.take k)) ∧ Below w.heap.size w wr) (fun _ i _ => l.length - (intOf i).toNat)
  case atStart => exact ⟨0, Nat.zero_le _, rfl, HT1.out, HT2.out.congr (fun d _ => by simp [cnt, inB]), HB0.out⟩
  case round =>
    obtain ⟨k, hk, rfl, ht1, ht2, hb⟩ := hrel
    have HB := Lib.hid hb
    have HT := Lib.hid ht1
    have HU := Lib.hid ht2
    clear hb ht1 ht2 HT1 HT2 HB0
    by_cases hlt : k < l.length
    · have hltz : (k : Int) < (l.length : Int) := by omega
      obtain ⟨x, hx⟩ : ∃ x, l[k]? = some x := ⟨_, List.getElem?_eq_getElem hlt⟩
      obtain ⟨b, o, rfl, hbb, hc0⟩ := H.out _ _ (ints_at hx)
      have hw0 : wr.cell? ⟨b, o + k, none⟩ = some (.int .i64 x) := (HB.out.cell (p := ⟨b, o + k, none⟩) hbb).trans hc0
      have hxm := List.mem_of_getElem? hx
      have HCALL := Lib.hid (HPR.out wr x hxm HB.out)
      have hfx := HF.out x hxm
      obtain ⟨d, hd⟩ : ∃ d, d = f x := ⟨_, rfl⟩
      rw [← hd] at HCALL hfx
      obtain ⟨m, hm⟩ : ∃ m, m = cnt f (l.take k) d := ⟨_, rfl⟩
      have hm64 : m ≤ 1048576 := by
        rw [hm]; unfold cnt inB
        have := List.length_filter_le (fun a => f a == d) (l.take k)
        have h2 : (l.take k).length ≤ l.length := by rw [List.length_take]; omega
        omega
      have HNEW : Hid (∀ W, TabAt W (w.heap.size + 1) (cnt f (l.take k)) → TabAt (W.setCell ⟨w.heap.size + 1, d, none⟩ (.int .i64 ((m : Int) + 1))) (w.heap.size + 1) (cnt f (l.take (k + 1)))) := Lib.hid (fun W h => by
        have := (h.put d (m + 1)).congr (h := cnt f (l.take (k + 1))) (fun q _ => by
          rw [cnt_take_succ hx, ← hd]
          by_cases hq : q = d
          · rw [if_pos hq, if_pos hq.symm, hq, ← hm]
          · rw [if_neg hq, if_neg (fun e => hq e.symm), Nat.add_zero])
        exact this)
      have HM := Lib.hid hm
      have hdz : (d : Int) < 1001 := by omega
      clear hc0 hx hxm hd hm
      go_wp2_with (go_at_fn g; refine (HCALL.out).mono ?_; rintro e w' ⟨rfl, hb'⟩; have HB' := Lib.hid (HB.out.trans (hb'.mono HB.out.size)); have HT' := Lib.hid (HT.out.below hb' HT.out.lt); have HU' := Lib.hid (HU.out.below hb' HU.out.lt); have ht' := HU'.out.at hfx; rw [← HM.out] at ht'; obtain ⟨ht', hf'⟩ := ht'; clear hb')
      go_roundw
      case rel => exact ⟨k + 1, by omega, by go_num, HT'.out.but ((But.refl _ _).setCell d _) (by omega), HNEW.out _ HU'.out, HB'.out.setCell (p := ⟨w.heap.size + 1, d, none⟩) (by show w.heap.size ≤ w.heap.size + 1; omega) _⟩
      case measure => simp [intOf]; omega
    · have hltz : ¬ (k : Int) < (l.length : Int) := by omega
      obtain rfl : k = l.length := by omega
      rw [List.take_length] at HU
      obtain ⟨hr1, hr2⟩ := HT.out.row (cnt f l)
      have hl := run_tabLoad HU.out
      have hs := run_tabStore (cnt f l) HT.out
      have HR1 := Lib.hid hr1
      have HRES := Lib.hid (HB.out.trans (hr2.below (Nat.le_refl _) HB.out.size))
      clear hr1 hr2
      go_wp2_with fail
      refine bodyPost_ret (tab_results rfl _ _ w.heap.size _ rfl HR1.out) rfl ?_
      exact ⟨rfl, HRES.out⟩

/-- The starts found so far. -/
def stTo (f : Int → Nat) (l : List Int) (k : Nat) : Nat → Nat := fun d => if d < k then st f l d else 0

set_option maxRecDepth 100000 in
set_option maxHeartbeats 4000000 in
theorem starts_any (f : Int → Nat) (l : List Int) (w : World) (hf : ∀ x ∈ l, f x < 1001) (hn : l.length ≤ 1048576) :
    Calls Try.prog 131 #[.agg (tabA (cnt f l))] w fun e w' => e = .returned (.agg (tabA (st f l))) ∧ Below w.heap.size w w' := by
  have HLE := Lib.hid (fun d (h : d ≤ 1001) => (by have := st_mono f l h; rw [bk_len hf] at this; omega : st f l d ≤ 1048576))
  clear hf
  have hbox := fun W => run_tabBox W (cnt f l)
  obtain ⟨W0, hW0⟩ : ∃ W0, W0 = ((w.alloc (.cells (tabA (cnt f l)) 139)).alloc (.cells (tabA fun _ => 0) 139)).alloc (.cells (tabA fun _ => 0) 139) := ⟨_, rfl⟩
  obtain ⟨W1, hW1⟩ : ∃ W1, W1 = w.alloc (.cells (tabA (cnt f l)) 139) := ⟨_, rfl⟩
  obtain ⟨W2, hW2⟩ : ∃ W2, W2 = W1.alloc (.cells (tabA fun _ => 0) 139) := ⟨_, rfl⟩
  have hs1 : W1.heap.size = w.heap.size + 1 := by rw [hW1]; simp
  have hs2 : W2.heap.size = w.heap.size + 2 := by rw [hW2]; simp [hs1]
  have e0 : W0 = W2.alloc (.cells (tabA fun _ => 0) 139) := by rw [hW0, hW2, hW1]
  have HT0 : Hid (TabAt W0 w.heap.size (cnt f l)) := Lib.hid (by
    have h1 : TabAt W1 w.heap.size (cnt f l) := by rw [hW1]; exact TabAt.new w _
    rw [e0, hW2]
    exact h1.below (((Below.refl (w.heap.size + 1) _).alloc (by omega) _).alloc (by rw [← hW2]; omega) _) (by omega))
  have HT1 : Hid (TabAt W0 (w.heap.size + 1) fun _ => 0) := Lib.hid (by
    have h1 : TabAt W2 (w.heap.size + 1) fun _ => 0 := by have := TabAt.new W1 (fun _ => 0); rw [hs1] at this; rw [hW2]; exact this
    rw [e0]
    exact h1.below ((Below.refl (w.heap.size + 2) _).alloc (by omega) _) (by omega))
  have HT2 : Hid (TabAt W0 (w.heap.size + 2) fun _ => 0) := Lib.hid (by have := TabAt.new W2 (fun _ => 0); rw [hs2] at this; rw [e0]; exact this)
  have HB0 : Hid (Below w.heap.size w W0) := Lib.hid (by
    rw [hW0]; exact (((Below.refl _ _).alloc (Nat.le_refl _) _).alloc (by rw [← hW1]; omega) _).alloc (by rw [← hW1, ← hW2]; omega) _)
  clear hW1 hW2 hs1 hs2 e0
  go_enter Try.func131, Try.ntmps131
  go_wp2_with fail
  rw [← hW0]
  clear hW0 hbox
  go_loopw [4] (fun iv wr => ∃ k : Nat, 1 ≤ k ∧ k ≤ 1001 ∧ iv = .int .i64 k ∧ TabAt wr w.heap.size (cnt f l) ∧ TabAt wr (w.heap.size + 1) (fun _ => 0) ∧ TabAt wr (w.heap.size + 2) (stTo f l k) ∧ Below w.heap.size w wr) (fun iv _ => 1001 - (intOf iv).toNat)
  case atStart => exact ⟨1, Nat.le_refl _, by omega, rfl, HT0.out, HT1.out, HT2.out.congr (fun d _ => by
    unfold stTo
    by_cases h : d < 1
    · obtain rfl : d = 0 := by omega
      rfl
    · rw [if_neg h]), HB0.out⟩
  case round =>
    obtain ⟨k, hk1, hk, rfl, ht0, ht1, ht2, hb⟩ := hrel
    have HB := Lib.hid hb
    have HT := Lib.hid ht0
    have HU := Lib.hid ht1
    have HV := Lib.hid ht2
    clear hb ht0 ht1 ht2 HT0 HT1 HT2 HB0
    by_cases hlt : k < 1001
    · obtain ⟨j, rfl⟩ : ∃ j, k = j + 1 := ⟨k - 1, by omega⟩
      obtain ⟨q, hq⟩ : ∃ q, q = j + 1 := ⟨_, rfl⟩
      rw [← hq] at HV hk hk1 hlt ⊢
      have hqj : (q : Int) - 1 = (j : Int) := by omega
      have hltz : (q : Int) < 1001 := by omega
      have hjz : (j : Int) < 1001 := by omega
      obtain ⟨c, hc⟩ : ∃ c, c = cnt f l j := ⟨_, rfl⟩
      obtain ⟨s, hs⟩ : ∃ s, s = st f l j := ⟨_, rfl⟩
      have hsum : st f l q = s + c := by rw [hq, st_succ, ← hs, ← hc]
      have hsl := HLE.out q (by omega)
      rw [hsum] at hsl
      obtain ⟨ct, _⟩ := HT.out.at (k := j) (by omega)
      obtain ⟨cv, _⟩ := HV.out.at (k := j) (by omega)
      obtain ⟨cu, fu⟩ := HV.out.at (k := q) (by omega)
      rw [← hc] at ct
      rw [show stTo f l q j = s by unfold stTo; rw [if_pos (by omega), hs]] at cv
      rw [show stTo f l q q = 0 by unfold stTo; rw [if_neg (by omega)]] at cu
      have hne : ¬ j = q := by omega
      have hne2 : ¬ q = j := by omega
      have HRES : Hid (TabAt (wr.setCell ⟨w.heap.size + 2, q, none⟩ (.int .i64 ((s : Int) + (c : Int)))).drew w.heap.size (cnt f l) ∧ TabAt (wr.setCell ⟨w.heap.size + 2, q, none⟩ (.int .i64 ((s : Int) + (c : Int)))).drew (w.heap.size + 1) (fun _ => 0) ∧
          TabAt (wr.setCell ⟨w.heap.size + 2, q, none⟩ (.int .i64 ((s : Int) + (c : Int)))).drew (w.heap.size + 2) (stTo f l (q + 1)) ∧ Below w.heap.size w (wr.setCell ⟨w.heap.size + 2, q, none⟩ (.int .i64 ((s : Int) + (c : Int)))).drew) := Lib.hid (by
        have hbut : But (w.heap.size + 2) wr (wr.setCell ⟨w.heap.size + 2, q, none⟩ (.int .i64 ((s : Int) + (c : Int)))).drew := ((But.refl _ _).setCell q _).drewN 1
        refine ⟨HT.out.but hbut (by omega), HU.out.but hbut (by omega), ?_, HB.out.trans (hbut.below (by omega) HB.out.size)⟩
        have := (HV.out.put q (s + c)).congr (h := stTo f l (q + 1)) (fun d _ => by
          unfold stTo
          by_cases hd : d = q
          · rw [if_pos hd, if_pos (by omega), hd, hsum]
          · rw [if_neg hd]
            by_cases h2 : d < q
            · rw [if_pos h2, if_pos (by omega)]
            · rw [if_neg h2, if_neg (by omega)])
        rw [Int.natCast_add] at this
        exact this)
      clear hc hs hsum HT HU HV HB HLE hq
      go_wp2_with fail
      go_region
      go_wp2_with fail
      go_roundw
      case rel => exact ⟨q + 1, by omega, by omega, by go_num, HRES.out.1, HRES.out.2.1, HRES.out.2.2.1, HRES.out.2.2.2⟩
      case measure => simp [intOf]; omega
    · have hltz : ¬ (k : Int) < 1001 := by omega
      obtain ⟨hr1, hr2⟩ := HU.out.row (st f l)
      have hl := run_tabLoad (HV.out.congr (h := st f l) (fun d hd => by unfold stTo; rw [if_pos (by omega)]))
      have hs := run_tabStore (st f l) HU.out
      have HR1 := Lib.hid hr1
      have HRES := Lib.hid (HB.out.trans (hr2.below (by omega) HB.out.size))
      clear hr1 hr2 HLE
      go_wp2_with fail
      refine bodyPost_ret (tab_results rfl _ _ (w.heap.size + 1) _ rfl HR1.out) rfl ?_
      exact ⟨rfl, HRES.out⟩

end Go.Proofs.Ytagibgphegoagaa
