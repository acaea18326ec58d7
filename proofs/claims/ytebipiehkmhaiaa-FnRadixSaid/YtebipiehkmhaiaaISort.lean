/- The program's StableSort, by its contract. -/
import Derived.Test.YtebipiehkmhaiaaStR
import Derived.Test.YtebipiehkmhaiaaIRecs
import Derived.Test.YtebipiehkmhaiaaSortD
import Derived.Test.YtebipiehkmhaiaaCmpK
import Derived.Lib.SliceRun
namespace Go.Proofs.Ytebipiehkmhaiaa
open Go.RowKit Go.Sort Go.Lib StC

/-- A row of records, as a sort sees it. -/
theorem flat_recs (L : List (Int × Int)) : flatK encR 2 L.toArray = (recs L).toArray := by
  refine ext_get! (by simp [recs_length]) fun t ht => ?_
  have ht' : t < L.toArray.size * 2 := by simpa using ht
  rw [get_flatK _ _ _ _ ht']
  have hd : t / 2 < L.length := by simp at ht'; omega
  have hp : L[t / 2]? = some L[t / 2] := List.getElem?_eq_getElem hd
  obtain ⟨h1, h2⟩ := recs_at hp
  have e0 : L.toArray[t / 2]! = L[t / 2] := by simp [hd]
  have hlen : t < (recs L).length := by rw [recs_length]; simpa using ht'
  have e1 : (recs L).toArray[t]! = (recs L)[t] := by simp [hlen]
  rw [e0, e1]
  rcases Nat.mod_two_eq_zero_or_one t with e | e
  · have ht2 : t / 2 * 2 = t := by omega
    rw [ht2, List.getElem?_eq_getElem hlen] at h1
    rw [e, Option.some.inj h1]; rfl
  · have ht2 : t / 2 * 2 + 1 = t := by omega
    rw [ht2, List.getElem?_eq_getElem hlen] at h2
    rw [e, Option.some.inj h2]; rfl

theorem holds_of_row {w : World} {g : Nat} {L : List (Int × Int)} (h : CellRow w g (recs L)) : HoldsK encR 2 w g 0 L.toArray := by
  unfold HoldsK
  rw [flat_recs]
  intro j hj
  have hj' : j < (recs L).length := by simpa using hj
  have := h.2 j _ (List.getElem?_eq_getElem hj')
  rw [Nat.zero_add]
  have e : (recs L).toArray[j]! = (recs L)[j] := by simp [hj']
  show _ = some (id ((recs L).toArray[j]!)) ∧ _
  rw [e]; exact this

theorem row_of_sorted {w0 w : World} {g : Nat} {d0 : Array (Int × Int)} {M : List (Int × Int)} (R : RowK encR 2 w0 g 0 d0) (S : SWK encR 2 w0 g 0 M.toArray w) (hs : M.length = d0.size) : CellRow w g (recs M) := by
  have h := S.holds R.hblk R.hH (by simpa using hs)
  unfold HoldsK at h
  rw [flat_recs] at h
  refine ⟨S.lt R.hblk, fun j u hu => ?_⟩
  obtain ⟨hj, e⟩ := List.getElem?_eq_some_iff.1 hu
  have := h j (by simpa using hj)
  rw [Nat.zero_add] at this
  have e2 : (recs M).toArray[j]! = u := by simp [hj, e]
  have e3 : id ((recs M).toArray[j]!) = u := e2
  rw [e3] at this
  exact this

theorem but_of_sorted {w0 w : World} {g : Nat} {d : Array (Int × Int)} (S : SWK encR 2 w0 g 0 d w) : But g w0 w := by
  obtain ⟨n, os, rfl⟩ := S
  refine ⟨rfl, rfl, rfl, ?_, fun k hk hg => ?_⟩
  · unfold sortWorldK; rw [size_grow, size_putRowK]; exact Nat.le_add_right _ _
  · unfold sortWorldK
    rw [heap_grow_old _ _ (by rw [size_putRowK]; exact hk)]
    show (w0.heap.modify g _)[k]? = _
    rw [Array.getElem?_modify, if_neg (fun e => hg e.symm)]

/-- The program's comparison of records. -/
def cfK (x y : Int × Int) : Int := compareInt x.1 y.1
theorem ltK (x y : Int × Int) : ltOf cfK x y = decide (x.1 < y.1) := by
  unfold ltOf cfK compareInt
  by_cases h1 : x.1 < y.1
  · simp [h1]
  · by_cases h2 : y.1 < x.1 <;> simp [h1, h2]
theorem swoK : SWO (ltOf cfK) where
  irrefl x := by rw [ltK]; simp
  trans x y z h1 h2 := by rw [ltK] at *; simp at *; omega
  ntrans x y z h1 h2 := by rw [ltK] at *; simp at *; omega

/-- Stable under the comparison of keys is stable by the key. -/
theorem stab_of {l M : List (Int × Int)} (h : St (ltOf cfK) l M) : Stab.Of (·.1) l M := by
  refine ⟨h.sorted.imp fun hh => ?_, fun q => ?_⟩
  · rw [ltK] at hh; simp at hh; exact hh
  · have := h.same (q, 0)
    have e : tie (ltOf cfK) (q, 0) = fun a : Int × Int => a.1 == q := by
      funext a
      unfold tie
      rw [ltK, ltK]
      by_cases h1 : a.1 = q
      · simp [h1]
      · have : (a.1 == q) = false := by simpa using h1
        rw [this]
        by_cases h2 : q < a.1
        · simp [h2]
        · simp [h2]; omega
    rw [e] at this
    exact this

attribute [local go_sem ↓ high] builtin_append_held

set_option maxRecDepth 100000 in
theorem cloneRecs_any (b o c : Nat) (l : List (Int × Int)) (w : World) (hv : FlatAt w (.slice (some ⟨b, o, none⟩) l.length c) l.length (recs l)) (hn : l.length ≤ 1048576) :
    Calls Try.prog 72 #[.slice (some ⟨b, o, none⟩) l.length c] w fun e w' => ∃ g cap, e = .returned (.slice (some ⟨g, 0, none⟩) l.length cap) ∧ l.length ≤ cap ∧ w.heap.size ≤ g ∧ CellRow w' g (recs l) ∧ Below w.heap.size w w' := by
  obtain ⟨g, cap, w1, hrun, hcap, hg, hrow, hb1⟩ := appendRecs b o c l w hv hn
  have HROW := Lib.hid hrow
  have HB1 := Lib.hid hb1
  have HG := Lib.hid hg
  clear hv hrow hb1 hg
  have q22 : ∀ (w : World) (a : Option Addr) (n c n' c' : Nat), (binOp .eql 24 (.slice a n c) (.slice none n' c')).run Try.prog w = .ok (.bool a.isNone) w := fun w a n c n' c' => Lib.run_eql_slice_nil w _ _ a n c n' c' Try.underlying24
  go_enter Try.func72, Try.ntmps72
  go_wp2_with fail
  go_ret
  exact ⟨g, cap, rfl, hcap, HG.out, HROW.out, HB1.out⟩

set_option maxRecDepth 100000 in
theorem arrangeRecs_any (b o c : Nat) (l : List (Int × Int)) (w : World) (hv : FlatAt w (.slice (some ⟨b, o, none⟩) l.length c) l.length (recs l)) (hn : l.length ≤ 1048576) :
    Calls Try.prog 67 #[.slice (some ⟨b, o, none⟩) l.length c, .func (.func 68) #[] #[]] w (StableC l w) := by
  have eg : ∀ args w, (callFunc 68 args).run Try.prog w = .ok (.enter 68 args) w := enters_of Try.func68 (by kernel_rfl) rfl
  have HC := Lib.hid (cloneRecs_any b o c l w hv hn)
  have HS := Lib.hid (fun (g cap : Nat) (W : World) (hr : CellRow W g (recs l)) => sortStableR cfK swoK 68 #[] g 0 cap l.toArray W ⟨fun _ => rfl, fun x v hv => by simp [encR] at hv; rcases hv with rfl | rfl <;> rfl, holds_of_row hr, hr.1⟩ (by simp; omega) eg
    (fun m os dk _ x y => compareKeys_any x y _) (by simp; omega) l W (by simp) (SWK.start (holds_of_row hr)))
  have HW := Lib.hid (fun (g : Nat) (W w' : World) (M : List (Int × Int)) (hr : CellRow W g (recs l)) (hS : SWK encR 2 W g 0 M.toArray w') (hl : M.length = l.length) => row_of_sorted (d0 := l.toArray) ⟨fun _ => rfl, fun x v hv => by simp [encR] at hv; rcases hv with rfl | rfl <;> rfl, holds_of_row hr, hr.1⟩ hS (by simpa using hl))
  clear hv eg
  go_enter Try.func67, Try.ntmps67
  go_wp2_with fail
  refine (HC.out).mono ?_
  rintro e w1 ⟨g, cap, rfl, hcap, hg, hrow, hb⟩
  have HG := Lib.hid hg
  have HR := Lib.hid hrow
  have HB := Lib.hid hb
  have HQ := Lib.hid (HS.out g cap w1 hrow)
  simp only [List.size_toArray] at HQ
  clear hg hrow hb HC HS
  go_wp2_with fail
  refine (HQ.out).mono ?_
  rintro e w2 ⟨rfl, M, hM, hS⟩
  have HRES : Hid (StableC l w (.returned (.slice (some ⟨g, 0, none⟩) l.length cap)) w2) := Lib.hid ⟨g, cap, M, rfl, hcap, HG.out, HW.out g w1 w2 M HR.out hS hM.len, stab_of hM, HB.out.trans ((but_of_sorted hS).below HG.out HB.out.size)⟩
  clear hM hS HQ HW
  go_wp2_with fail
  go_ret
  exact HRES.out

theorem implSort_any (b o c : Nat) (l : List (Int × Int)) (w : World) (hv : FlatAt w (.slice (some ⟨b, o, none⟩) l.length c) l.length (recs l)) (hn : l.length ≤ 1048576) :
    Calls Try.prog 21 #[.slice (some ⟨b, o, none⟩) l.length c] w (SortC l w) := by
  have HV := Lib.hid hv
  clear hv
  by_cases hok : OkR l
  · have hd : decide (OkR l) = true := decide_eq_true hok
    have HOK := Lib.hid hok
    clear hok
    unfold SortC
    rw [hd]
    go_enter Try.func21, Try.ntmps21
    go_wp2_with fail
    refine (implValidRecs_any _ l w HV.out hn).mono ?_
    rw [hd]
    rintro e w1 ⟨rfl, hb1⟩
    have HV1 := Lib.hid (HV.out.below hb1)
    have HB1 := Lib.hid hb1
    clear hb1 HV hd
    go_wp2_with fail
    refine (arrangeRecs_any b o c l _ HV1.out hn).mono ?_
    rintro e w2 ⟨g, cap, L, rfl, hcap, hg, hrow, hof, hb2⟩
    have HRES : Hid (∃ g' cap' L', Ending.returned (.tuple #[.slice (some ⟨g, 0, none⟩) l.length cap, .bool true]) = .returned (.tuple #[.slice (some ⟨g', 0, none⟩) L'.length cap', .bool true]) ∧ L'.length ≤ cap' ∧ w.heap.size ≤ g' ∧ CellRow w2 g' (recs L') ∧ SortedOf l L' ∧ Below w.heap.size w w2) :=
      Lib.hid ⟨g, cap, L, by rw [Stab.Of.length hof], by rw [Stab.Of.length hof]; exact hcap, Nat.le_trans HB1.out.size hg, hrow, .inl ⟨HOK.out, hof⟩, HB1.out.trans (hb2.mono HB1.out.size)⟩
    clear hcap hg hrow hof hb2
    go_wp2_with fail
    go_ret2
    exact HRES.out
  · have hd : decide (OkR l) = false := decide_eq_false hok
    have HRES : Hid (∀ w1, Below w.heap.size w w1 → SortC l w (.returned (.tuple #[.slice (some ⟨w1.heap.size, 0, none⟩) 0 0, .bool false])) (w1.alloc (.cells #[] 45))) := Lib.hid (fun w1 hb =>
      ⟨w1.heap.size, 0, [], by rw [hd]; rfl, Nat.le_refl _, hb.size, ⟨by simp, fun j u hu => by simp [recs] at hu⟩, .inr ⟨hok, rfl⟩, hb.alloc hb.size _⟩)
    clear hok
    go_enter Try.func21, Try.ntmps21
    go_wp2_with fail
    refine (implValidRecs_any _ l w HV.out hn).mono ?_
    rw [hd]
    rintro e w1 ⟨rfl, hb1⟩
    have HR := Lib.hid (HRES.out w1 hb1)
    clear hb1 HV HRES hd
    go_wp2_with fail
    go_ret2
    exact HR.out

end Go.Proofs.Ytebipiehkmhaiaa
