/- The program's PermutationSign, by its contract. -/
import Derived.Test.YtjmmhakmidddoaaCycI
import Derived.Test.YtjmmhakmidddoaaIPermV
import Derived.Test.YtjmmhakmidddoaaMarks
import Derived.Stop.RegionWithIn
import Derived.WalkSpells
namespace Go.Proofs.Ytjmmhakmidddoaa
open Go.RowKit Go.Shelf P

attribute [local go_sem] Oper.semAt_some

/-- The sign, so far. -/
def sgn (pre : List CRow) : Int := pm ((pre.map CRow.L).countP fun c => decide (c.length % 2 = 0))
theorem sgn_even {pre : List CRow} {x : CRow} (h : x.L.length % 2 = 0) : sgn (pre ++ [x]) = -sgn pre := by
  unfold sgn
  rw [List.map_append, List.countP_append, show ([x].map CRow.L).countP (fun c => decide (c.length % 2 = 0)) = 1 by simp [h], pm_succ]
theorem sgn_odd {pre : List CRow} {x : CRow} (h : ¬ x.L.length % 2 = 0) : sgn (pre ++ [x]) = sgn pre := by
  unfold sgn
  rw [List.map_append, List.countP_append, show ([x].map CRow.L).countP (fun c => decide (c.length % 2 = 0)) = 0 by simp [h], Nat.add_zero]
theorem sgn_small (pre : List CRow) : sgn pre = 1 ∨ sgn pre = -1 := by unfold sgn pm; split <;> simp

theorem sign_leave {F : Fence} {n : Nat} {l : List Int} {w w1 : World} {tmps : Array Value} {D : Nat} (hK : w1.heap[D]? = some (.deferred (some []))) (hD : w.heap.size ≤ D) (hb : Below w.heap.size w w1)
    (h2 : tmps.getD 2 undef = .int .i64 (signF l).1) (h3 : tmps.getD 3 undef = .bool (signF l).2) :
    LeavesInM F n Try.prog Try.f22 tmps (fun e w' => e = .returned (.tuple #[.int .i64 (signF l).1, .bool (signF l).2]) ∧ Below w.heap.size w w') [{ target := .collected D, args := #[] }] .returning w1 := by
  refine ⟨by simp, .inl ⟨D, _, rfl, run_takeDeferred hK, ?_⟩⟩
  exact ⟨_, results_tmp2 rfl _ _ _, by rw [h2, h3], hb.trans ⟨rfl, rfl, rfl, by simp [World.putObj], fun k hk => World.putObj_heap_other (by omega)⟩⟩

set_option maxRecDepth 100000 in
set_option maxHeartbeats 4000000 in
theorem implSign_any (v : Value) (l : List Int) (w : World) (hv : FlatAt w v l.length (ints l)) (hn : l.length ≤ 1048576) :
    Calls Try.prog 22 #[v] w fun e w' => e = .returned (.tuple #[.int .i64 (signF l).1, .bool (signF l).2]) ∧ Below w.heap.size w w' := by
  refine (callsIn_wide (n := 5)).1 ?_
  have HV := Lib.hid hv
  obtain ⟨a, c, rfl, hlc, hx⟩ := hv
  by_cases hok : OkP l
  · have hd : decide (OkP l) = true := decide_eq_true hok
    have HI := Lib.hid (fun W (h : FlatAt W (.slice a l.length c) l.length (ints l)) => by have := implValidPerm_any _ l W h hn; rw [hd] at this; exact this)
    refine callsIn_of_wp_marks Try.func22 rfl trivial ?_ rfl
    simp only [Try.ntmps22, List.size_toArray, List.length_cons, List.length_nil, Nat.reduceAdd, Nat.reduceSub, Array.replicate_succ, Array.replicate_zero, List.push_toArray, List.append_toArray, List.nil_append, List.cons_append]
    gi_wp2
    refine ⟨trivial, (callsIn_wide.2 (HI.out _ HV.out)).mono ?_⟩
    rintro e w1 ⟨rfl, hb1⟩
    have HB1 := Lib.hid hb1
    clear hb1 HI
    gi_wp2
    refine ⟨trivial, (cyc_in Fence.wide 4 trivial rfl _ _ _ _).mono ?_⟩
    rintro e w2 ⟨rfl, rfl⟩
    gi_wp2
    have bN1 := (Boxed.new w1 3 (.int .i64 1)).alloc (.cells #[.slice a l.length c] 24)
    have bN2 := Boxed.new (w1.alloc (.cells #[.int .i64 1] 3)) 24 (.slice a l.length c)
    rw [World.size_alloc] at bN2
    have hbL : Below w1.heap.size w1 ((w1.alloc (.cells #[.int .i64 1] 3)).alloc (.cells #[.slice a l.length c] 24)) := ((Below.refl _ _).alloc (Nat.le_refl _) _).alloc (by simp) _
    have hszL : ((w1.alloc (.cells #[.int .i64 1] 3)).alloc (.cells #[.slice a l.length c] 24)).heap.size = w1.heap.size + 2 := by simp
    generalize ((w1.alloc (.cells #[.int .i64 1] 3)).alloc (.cells #[.slice a l.length c] 24)) = wL at *
    have hw1 := HB1.out.size
    have hbW : Below w.heap.size w wL := HB1.out.trans (hbL.mono hw1)
    obtain ⟨bp, o, hbp, hbp2, hcp⟩ : ∃ bp o, bp < wL.heap.size ∧ bp ≠ w1.heap.size ∧ ∀ (j : Nat) x, l[j]? = some x → a = some ⟨bp, o, none⟩ ∧ wL.cell? ⟨bp, o + j, none⟩ = some (.int .i64 x) := by
      cases h0 : l[0]? with
      | none =>
        refine ⟨w1.heap.size + 1, 0, by omega, by omega, fun j x hj => ?_⟩
        have := List.getElem?_eq_none_iff.1 h0
        have := (List.getElem?_eq_some_iff.1 hj).1
        omega
      | some x0 =>
        obtain ⟨bp, o, rfl, hlt, _⟩ := hx 0 _ (ints_at h0)
        refine ⟨bp, o, by omega, by omega, fun j x hj => ⟨rfl, ?_⟩⟩
        obtain ⟨bp', o', e, _, hc⟩ := hx j _ (ints_at hj)
        simp at e
        obtain ⟨rfl, rfl⟩ := e
        exact (hbW.cell (p := ⟨bp, o + j, none⟩) hlt).trans hc
    refine range_stepsC rfl (by decide) (gf := 99) (lb := #[.pointer (some ⟨w1.heap.size + 1, 0, none⟩)]) rfl trivial (enters_of Try.func99 (by kernel_rfl) rfl)
      (cyc_steps Fence.wide 4 wL trivial rfl (by decide) (w1.heap.size + 1) bp o c a (by omega) hbp l hok bN2.cell hcp) Keep3.trans (fun W i o hi hi2 => Keep3.put (by omega) (by omega) (by omega) W o) (fun _ => rfl)
      (fun pre W => Boxed W w1.heap.size 3 (.int .i64 (sgn pre)) ∧ Below w.heap.size w W)
      (OwnFrom.and (Own.from (boxed_own w1.heap.size 3 (fun pre => .int .i64 (sgn pre))) _) (ownFrom_below (Nat.le_refl _) (by omega)))
      ⟨bN1, hbW⟩
      (fun x : CRow => { tmps := #[.slice a l.length c, undef, .int .i64 0, .bool false, .pointer (some ⟨w1.heap.size, 0, none⟩), .slice (some ⟨x.g, 0, none⟩) x.L.length x.c, .slice a l.length c, .bool true, .bool false, .slice a l.length c, .func (.func 99) #[] #[.pointer (some ⟨w1.heap.size + 1, 0, none⟩)], .slice (some ⟨x.g, 0, none⟩) x.L.length x.c, undef, undef, undef, undef, undef, undef, undef], defers := [] }) ?assign ?body ?but ?ok ?done
    case but => exact fun pre A B h hAB => ⟨(hAB.block _ h.1.lt (by omega)).trans h.1, h.2.trans (hAB.below (by omega) h.2.size)⟩
    case ok =>
      rintro pre x W i o hi ⟨j, h1, h2, h3, h4, h5, h6, h7⟩
      exact ⟨j, h1, h2, h3, h4, h5, h6, h7.same (World.putObj_heap_other (by omega)) (by simp [World.putObj])⟩
    case assign =>
      intro i x W K hK
      unfold encC
      gi_wp2
      exact hK
    case body =>
      rintro i pre x W _ ⟨hbx, hbe⟩
      have hbs := hbe.size
      have hcS := hbx.cell
      have hfS := hbx.frozen
      have hltS := hbx.lt
      have HSM := Lib.hid (sgn_small pre)
      obtain ⟨g, cg, L⟩ := x
      have hmod : ((L.length : Int) % 2 == 0) = decide (L.length % 2 = 0) := by
        by_cases h : L.length % 2 = 0
        · rw [decide_eq_true h]; simp; omega
        · rw [decide_eq_false h]; simp; omega
      by_cases hev : L.length % 2 = 0
      · have hS1 : sgn (pre ++ [⟨g, cg, L⟩]) = -sgn pre := sgn_even hev
        rw [decide_eq_true hev] at hmod
        have hwn : IntKind.i64.wrap (-sgn pre) = sgn (pre ++ [⟨g, cg, L⟩]) := by rw [hS1]; have := HSM.out; rw [IntKind.wrap_i64]; omega
        have HPOST : ∀ a', Hid (stepPostC wL.heap.size (Keep3 (w1.heap.size + 1) bp (wL.heap.size + 2)) (fun pre W => Boxed W w1.heap.size 3 (.int .i64 (sgn pre)) ∧ Below w.heap.size w W) (pre ++ [⟨g, cg, L⟩]) W .normal a' (W.setCell ⟨w1.heap.size, 0, none⟩ (.int .i64 (sgn (pre ++ [⟨g, cg, L⟩]))))) := fun a' => Lib.hid
          ⟨(KeepsOthers.setCell _ _ _).from _, ⟨Below.heap_setCell _ _ _ _ (by show w1.heap.size + 1 ≠ w1.heap.size; omega), Below.heap_setCell _ _ _ _ hbp2, Below.heap_setCell _ _ _ _ (by show wL.heap.size + 2 ≠ w1.heap.size; omega), by simp⟩, hbx.set _, hbe.setCell (p := ⟨w1.heap.size, 0, none⟩) hw1 _⟩
        clear hS1 hev hbx hbe HSM
        gi_wp2
        exact (HPOST _).out
      · have hS1 : sgn (pre ++ [⟨g, cg, L⟩]) = sgn pre := sgn_odd hev
        rw [decide_eq_false hev] at hmod
        have HPOST : ∀ a', Hid (stepPostC wL.heap.size (Keep3 (w1.heap.size + 1) bp (wL.heap.size + 2)) (fun pre W => Boxed W w1.heap.size 3 (.int .i64 (sgn pre)) ∧ Below w.heap.size w W) (pre ++ [⟨g, cg, L⟩]) W .normal a' W) := fun a' => Lib.hid
          ⟨KeepsFrom.refl _ _, ⟨rfl, rfl, rfl, Nat.le_refl _⟩, by rw [hS1]; exact hbx, hbe⟩
        clear hS1 hev hbx hbe HSM
        gi_wp2
        exact (HPOST _).out
    case done =>
      rintro D ys W hD hys ⟨hbx, hbe⟩ hK
      have hcS := hbx.cell
      have HF : Hid (signF l = (sgn ys, true)) := Lib.hid (by rw [signF_yes hok, sign_evens hok]; unfold sgn evens; rw [hys])
      have HK := Lib.hid hK
      have HBE := Lib.hid hbe
      clear hbx hbe hK hys
      gi_wp2
      exact sign_leave HK.out (by omega) HBE.out (by rw [HF.out]; rfl) (by rw [HF.out]; rfl)
  · have hd : decide (OkP l) = false := decide_eq_false hok
    have HI := Lib.hid (fun W (h : FlatAt W (.slice a l.length c) l.length (ints l)) => by have := implValidPerm_any _ l W h hn; rw [hd] at this; exact this)
    have HF : Hid (signF l = (0, false)) := Lib.hid (signF_no hok)
    clear hok hd hx
    refine callsIn_of_wp Try.func22 rfl trivial ?_ rfl
    simp only [Try.ntmps22, List.size_toArray, List.length_cons, List.length_nil, Nat.reduceAdd, Nat.reduceSub, Array.replicate_succ, Array.replicate_zero, List.push_toArray, List.append_toArray, List.nil_append, List.cons_append]
    gi_wp2
    refine ⟨trivial, (callsIn_wide.2 (HI.out _ HV.out)).mono ?_⟩
    rintro e w1 ⟨rfl, hb1⟩
    have HB1 := Lib.hid hb1
    clear hb1 HI
    gi_wp2
    go_ret2
    exact ⟨by rw [HF.out]; rfl, HB1.out⟩

end Go.Proofs.Ytjmmhakmidddoaa
