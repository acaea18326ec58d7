/- The program's SortingPermutation, by its contract. -/
import Derived.Test.YtagibgphegoagaaStF
import Derived.Test.YtagibgphegoagaaStabI
import Derived.Test.YtagibgphegoagaaList
import Derived.Test.YtagibgphegoagaaIList
import Derived.Test.YtagibgphegoagaaCloneI
import Derived.Test.YtagibgphegoagaaIdent
import Derived.Lib.SliceRun
import Derived.BigQuiet
import Derived.Deep.QuietTactic
namespace Go.Proofs.Ytagibgphegoagaa
open Go.RowKit Go.Sort Go.Lib StC P

/-- Indices as elements of a finite type. -/
def fins (NN : Nat) : List (Fin (NN + 1)) := List.finRange (NN + 1)
def valsF {NN : Nat} (L : List (Fin (NN + 1))) : List Int := L.map fun x => (x.val : Int)
theorem valsF_length {NN : Nat} (L : List (Fin (NN + 1))) : (valsF L).length = L.length := by simp [valsF]
theorem valsF_fins (NN : Nat) : valsF (fins NN) = iota (NN + 1) := by
  unfold valsF fins
  apply List.ext_getElem?
  intro j
  by_cases hj : j < NN + 1
  · rw [iota_at hj]; simp [hj]
  · rw [List.getElem?_eq_none (by simp; omega), List.getElem?_eq_none (by rw [iota_length]; omega)]
theorem fins_length (NN : Nat) : (fins NN).length = NN + 1 := by simp [fins]

theorem flat_fins {NN : Nat} (L : List (Fin (NN + 1))) : flatK encF 1 L.toArray = (ints (valsF L)).toArray := by
  refine ext_get! (by simp [ints_length, valsF_length]) fun t ht => ?_
  have ht' : t < L.toArray.size * 1 := by simpa using ht
  rw [get_flatK _ _ _ _ ht']
  have hd : t < L.length := by simpa using ht'
  have h2 : t < (ints (valsF L)).length := by rw [ints_length, valsF_length]; exact hd
  simp only [Nat.div_one, Nat.mod_one]
  rw [show L.toArray[t]! = L[t] by simp [hd], show (ints (valsF L)).toArray[t]! = (ints (valsF L))[t] by simp [h2]]
  simp [ints, valsF, encF]

theorem holdsF_of_row {NN : Nat} {w : World} {g : Nat} {L : List (Fin (NN + 1))} (h : CellRow w g (ints (valsF L))) : HoldsK encF 1 w g 0 L.toArray := by
  unfold HoldsK
  rw [flat_fins]
  intro j hj
  have hj' : j < (ints (valsF L)).length := by simpa using hj
  have := h.2 j _ (List.getElem?_eq_getElem hj')
  rw [Nat.zero_add]
  have e : (ints (valsF L)).toArray[j]! = (ints (valsF L))[j] := by simp [hj']
  show _ = some (id ((ints (valsF L)).toArray[j]!)) ∧ _
  rw [e]; exact this

theorem row_of_sortedF {NN : Nat} {w0 w : World} {g : Nat} {d0 : Array (Fin (NN + 1))} {M : List (Fin (NN + 1))} (R : RowK encF 1 w0 g 0 d0) (S : SWK encF 1 w0 g 0 M.toArray w) (hs : M.length = d0.size) : CellRow w g (ints (valsF M)) := by
  have h := S.holds R.hblk R.hH (by simpa using hs)
  unfold HoldsK at h
  rw [flat_fins] at h
  refine ⟨S.lt R.hblk, fun j u hu => ?_⟩
  obtain ⟨hj, e⟩ := List.getElem?_eq_some_iff.1 hu
  have := h j (by simpa using hj)
  rw [Nat.zero_add] at this
  have e2 : (ints (valsF M)).toArray[j]! = u := by simp [hj, e]
  have e3 : id ((ints (valsF M)).toArray[j]!) = u := e2
  rw [e3] at this
  exact this

theorem but_of_sortedF {NN : Nat} {w0 w : World} {g : Nat} {d : Array (Fin (NN + 1))} (S : SWK encF 1 w0 g 0 d w) : But g w0 w := by
  obtain ⟨n, os, rfl⟩ := S
  refine ⟨rfl, rfl, rfl, ?_, fun k hk hg => ?_⟩
  · unfold sortWorldK; rw [size_grow, size_putRowK]; exact Nat.le_add_right _ _
  · unfold sortWorldK
    rw [heap_grow_old _ _ (by rw [size_putRowK]; exact hk)]
    show (w0.heap.modify g _)[k]? = _
    rw [Array.getElem?_modify, if_neg (fun e => hg e.symm)]

/-- The stable arrangement of all the indices under a comparison of them. -/
theorem arrange_any {NN : Nat} (cf : Fin (NN + 1) → Fin (NN + 1) → Int) (hO : SWO (ltOf cf)) (gf : Nat) (cb : Array Value) (eg : ∀ args w, (callFunc gf args).run Try.prog w = .ok (.enter gf args) w) (b c : Nat) (w : World) (hr : CellRow w b (ints (iota (NN + 1)))) (hn : NN + 1 ≤ 1048576)
    (hC : ∀ (W : World), Below w.heap.size w W → ∀ x y : Fin (NN + 1), Calls Try.prog gf (#[.int .i64 (x.val : Int), .int .i64 (y.val : Int)] ++ cb) W fun e w' => e = .returned (.int .i64 (cf x y)) ∧ ∃ q os', w' = grow (W.drewN q) os') (hcap : NN + 1 ≤ c) :
    Calls Try.prog 134 #[.slice (some ⟨b, 0, none⟩) (NN + 1) c, .func (.func gf) #[] cb] w fun e w' =>
      ∃ (g cg : Nat) (M : List (Fin (NN + 1))), e = .returned (.slice (some ⟨g, 0, none⟩) (NN + 1) cg) ∧ NN + 1 ≤ cg ∧ w.heap.size ≤ g ∧ CellRow w' g (ints (valsF M)) ∧ St (ltOf cf) (fins NN) M ∧ Below w.heap.size w w' := by
  have hil : (iota (NN + 1)).length = NN + 1 := iota_length _
  have HCL := Lib.hid (by have := cloneInts_any b 0 c (iota (NN + 1)) w (by have := hr.flat (c := c) (n := NN + 1) hcap; rw [hil]; exact this) (by rw [hil]; exact hn); rw [hil] at this; exact this)
  have HS := Lib.hid (fun (g cap : Nat) (W : World) (hw : Below w.heap.size w W) (hg : w.heap.size ≤ g) (hr : CellRow W g (ints (valsF (fins NN)))) => sortStableF cf hO gf cb g 0 cap (fins NN).toArray W ⟨fun _ => rfl, fun x v hv => by simp [encF] at hv; subst hv; rfl, holdsF_of_row hr, hr.1⟩ (by rw [List.size_toArray, fins_length]; omega) eg
    (fun m os dk _ x y => hC _ (hw.trans ((but_of_sortedF (d := dk) ⟨m, os, rfl⟩).below hg hw.size)) x y) (by rw [List.size_toArray, fins_length]; omega) (fins NN) W (by simp) (SWK.start (holdsF_of_row hr)))
  have HW := Lib.hid (fun (g : Nat) (W w' : World) (M : List (Fin (NN + 1))) (hr : CellRow W g (ints (valsF (fins NN)))) (hS : SWK encF 1 W g 0 M.toArray w') (hl : M.length = (fins NN).length) => row_of_sortedF (d0 := (fins NN).toArray) ⟨fun _ => rfl, fun x v hv => by simp [encF] at hv; subst hv; rfl, holdsF_of_row hr, hr.1⟩ hS (by simpa using hl))
  clear eg hC hr hil
  go_enter Try.func134, Try.ntmps134
  go_wp2_with fail
  refine (HCL.out).mono ?_
  rintro e w1 ⟨g, cap, rfl, hcp, hg, hrow, hb⟩
  rw [iota_length] at hcp ⊢
  rw [← valsF_fins] at hrow
  have HG := Lib.hid hg
  have HR := Lib.hid hrow
  have HB := Lib.hid hb
  have HQ := Lib.hid (HS.out g cap w1 hb hg hrow)
  rw [List.size_toArray, fins_length] at HQ
  clear hg hrow hb HCL HS
  go_wp2_with fail
  refine (HQ.out).mono ?_
  rintro e w2 ⟨rfl, M, hM, hS⟩
  have HRES : Hid (∃ (g' cg : Nat) (M : List (Fin (NN + 1))), Ending.returned (.slice (some ⟨g, 0, none⟩) (NN + 1) cap) = .returned (.slice (some ⟨g', 0, none⟩) (NN + 1) cg) ∧ NN + 1 ≤ cg ∧ w.heap.size ≤ g' ∧ CellRow w2 g' (ints (valsF M)) ∧ St (ltOf cf) (fins NN) M ∧ Below w.heap.size w w2) :=
    Lib.hid ⟨g, cap, M, rfl, hcp, HG.out, HW.out g w1 w2 M HR.out hS hM.len, hM, HB.out.trans ((but_of_sortedF hS).below HG.out HB.out.size)⟩
  clear hM hS HQ HW
  go_wp2_with fail
  go_ret
  exact HRES.out

end Go.Proofs.Ytagibgphegoagaa
