/- The program's PermutationCycles, by its contract. -/
import Derived.Test.YtjmmhakmidddoaaICyc
namespace Go.Proofs.Ytjmmhakmidddoaa
open Go.RowKit Go.Shelf P
set_option linter.unusedVariables false

set_option maxRecDepth 100000 in
set_option maxHeartbeats 4000000 in
theorem implCyc_any (v : Value) (l : List Int) (w : World) (hv : FlatAt w v l.length (ints l)) (hn : l.length ≤ 1048576) :
    Calls Try.prog 19 #[v] w (RetSS (cycF l) w) := by
  have HV := Lib.hid hv
  obtain ⟨a, c, rfl, hlc, hx⟩ := hv
  by_cases hok : OkP l
  · have hd : decide (OkP l) = true := decide_eq_true hok
    have HI := Lib.hid (fun W (h : FlatAt W (.slice a l.length c) l.length (ints l)) => by have := implValidPerm_any _ l W h hn; rw [hd] at this; exact this)
    have HF : Hid (cycF l = ((cyc l l.length).map nats, true)) := Lib.hid (cycF_yes hok)
    have HC := Lib.hid (fun W => (callsIn_wide (n := 4)).1 (cyc_in Fence.wide 4 trivial rfl a l.length c W))
    have HX := Lib.hid hx
    have HOK := Lib.hid hok
    clear hok hd hx
    go_enter Try.func19, Try.ntmps19
    go_wp2_with fail
    refine (HI.out _ HV.out).mono ?_
    rintro e w1 ⟨rfl, hb1⟩
    have HB1 := Lib.hid hb1
    clear hb1 HI
    go_wp2_with fail
    refine (HC.out _).mono ?_
    rintro e w2 ⟨rfl, rfl⟩
    have bN2 := Boxed.new (w1.alloc (.cells #[] 24)) 24 (.slice a l.length c)
    rw [World.size_alloc] at bN2 ⊢
    have hH := (HeldR.start w1 w1.heap.size (Nat.le_refl _)).below ((Below.refl _ _).alloc (Nat.le_refl _) (.cells #[.slice a l.length c] 24))
    have hbL : Below w1.heap.size w1 ((w1.alloc (.cells #[] 24)).alloc (.cells #[.slice a l.length c] 24)) := ((Below.refl _ _).alloc (Nat.le_refl _) _).alloc (by simp) _
    have hszL : ((w1.alloc (.cells #[] 24)).alloc (.cells #[.slice a l.length c] 24)).heap.size = w1.heap.size + 2 := by simp
    generalize ((w1.alloc (.cells #[] 24)).alloc (.cells #[.slice a l.length c] 24)) = wL at *
    have hw1 := HB1.out.size
    have hbW : Below w.heap.size w wL := HB1.out.trans (hbL.mono hw1)
    obtain ⟨bp, o, hbp, hbp2, hcp⟩ : ∃ bp o, bp < wL.heap.size ∧ w1.heap.size ≠ bp ∧ ∀ (j : Nat) x, l[j]? = some x → a = some ⟨bp, o, none⟩ ∧ wL.cell? ⟨bp, o + j, none⟩ = some (.int .i64 x) := by
      cases h0 : l[0]? with
      | none =>
        refine ⟨w1.heap.size + 1, 0, by omega, by omega, fun j x hj => ?_⟩
        have := List.getElem?_eq_none_iff.1 h0
        have := (List.getElem?_eq_some_iff.1 hj).1
        omega
      | some x0 =>
        obtain ⟨bp, o, rfl, hlt, _⟩ := HX.out 0 _ (ints_at h0)
        refine ⟨bp, o, by omega, by omega, fun j x hj => ⟨rfl, ?_⟩⟩
        obtain ⟨bp', o', e, _, hc⟩ := HX.out j _ (ints_at hj)
        simp at e
        obtain ⟨rfl, rfl⟩ := e
        exact (hbW.cell (p := ⟨bp, o + j, none⟩) hlt).trans hc
    have HA := Lib.hid (appendSeq_any wL (w1.heap.size + 1) bp o c w1.heap.size 0 a l HOK.out (by omega) hbp w1.heap.size (by omega) hH (by omega) hbp2 bN2.cell hcp)
    have HBW := Lib.hid hbW
    have HBL := Lib.hid hbL
    clear bN2 hH hbL hszL hw1 hbW hbp hbp2 hcp HX HOK HC HV
    go_wp2_with fail
    refine (HA.out).mono ?_
    rintro e w3 ⟨v', X, rfl, hX, hR, hb⟩
    have HRES : Hid (RetSS (cycF l) w (.returned (.tuple #[v', .bool true])) w3) := Lib.hid (by
      rw [HF.out]
      exact (hR.lower HB1.out.size).ret (by rw [← hX, List.map_map]; rfl) (HBW.out.trans (hb.mono HB1.out.size)))
    clear hX hR hb HA HF
    go_wp2_with fail
    go_ret2
    exact HRES.out
  · have hd : decide (OkP l) = false := decide_eq_false hok
    have HI := Lib.hid (fun W (h : FlatAt W (.slice a l.length c) l.length (ints l)) => by have := implValidPerm_any _ l W h hn; rw [hd] at this; exact this)
    have HF : Hid (cycF l = ([], false)) := Lib.hid (cycF_no hok)
    clear hok hd hx
    go_enter Try.func19, Try.ntmps19
    go_wp2_with fail
    refine (HI.out _ HV.out).mono ?_
    rintro e w1 ⟨rfl, hb1⟩
    have HRES : Hid (RetSS (cycF l) w (.returned (.tuple #[.slice (some ⟨w1.heap.size, 0, none⟩) 0 0, .bool false])) (w1.alloc (.cells #[] 24))) := Lib.hid (by rw [HF.out]; exact RetSS.none w w1 hb1 _ (Below.refl _ _))
    clear hb1 HI
    go_wp2_with fail
    go_ret2
    exact HRES.out

end Go.Proofs.Ytjmmhakmidddoaa
