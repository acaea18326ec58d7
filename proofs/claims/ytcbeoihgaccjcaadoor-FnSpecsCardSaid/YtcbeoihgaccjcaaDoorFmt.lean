/- FormatInt of the program and of its model, by their contracts: the library's numeral within -999999 .. 999999, else the empty string and false. -/
import Derived.Test.YtcbeoihgaccjcaaDoorNum
import Derived.Test.YtcbeoihgaccjcaaDoorShelf
import Derived.Below
import Derived.Test.YtcbeoihgaccjcaaDoorIn
namespace Go.Proofs.YtcbeoihgaccjcaaDoor
open Go.RowKit Go.Sort

theorem below_drewN (B : Nat) (w : World) (k : Nat) : Below B w (w.drewN k) := ⟨rfl, rfl, rfl, Nat.le_refl _, fun _ _ => rfl⟩

theorem below_grow (w : World) (k : Nat) (os : Array Obj) : Below w.heap.size w (grow (w.drewN k) os) :=
  ⟨rfl, rfl, rfl, by simp [grow], fun i hi => by simp only [grow, World.drewN]; exact Array.getElem?_append_left hi⟩

/-- The specification's numeral, negative numbers too. -/
theorem l1Num_any (n : Int) (w : World) (h0 : -999999 ≤ n) (h1 : n ≤ 999999) :
    Calls Tryd.prog 40 #[.int .i64 n] w fun e w' => e = .returned (.string ⟨(Lib.itoa n).toArray⟩) ∧ ∃ k, w' = w.drewN k := by
  by_cases h : n < 0
  · obtain ⟨u, hu⟩ : ∃ u : Nat, (u : Int) = -n := ⟨n.natAbs, by omega⟩
    have hn : n = -(u : Int) := by omega
    subst hn
    clear hu
    have hu : 1 ≤ u := by omega
    have hu2 : u ≤ 999999 := by omega
    have hl := dec_len 5 u (by omega)
    have e1 : ({ data := #[45] } : ByteArray) ++ { data := (Lib.decDigits u).toArray } = ⟨(Lib.itoa (-(u : Int))).toArray⟩ := by
      rw [Lib.itoa_neg u hu]; exact cat_lists [45] _
    have e0 : ({ data := #[45] } : ByteArray).size + ({ data := (Lib.decDigits u).toArray } : ByteArray).size ≤ 9223372036854775807 := by
      simp [ByteArray.size]; omega
    generalize ({ data := (Lib.itoa (-(u : Int))).toArray } : ByteArray) = sc at *
    have IH := Lib.hid (fun w => num_nat u w hu2)
    generalize ({ data := (Lib.decDigits u).toArray } : ByteArray) = sa at *
    have hadd := fun wx => run_string_add_sum (w := wx) (P := Tryd.prog) _ sa e0
    rw [e1] at hadd
    clear e0 e1 hl
    go_enter Tryd.func40, Tryd.ntmps40
    go_wp2_with (go_at_call 40; refine (IH.out _).mono ?_; rintro e w' ⟨rfl, k, rfl⟩)
    go_ret
    exact ⟨rfl, _, rfl⟩
  · obtain ⟨u, rfl⟩ : ∃ u : Nat, n = (u : Int) := ⟨n.toNat, by omega⟩
    rw [Lib.itoa_nonneg]
    exact num_nat u w (by omega)

/-- The model's FormatInt within the bounds. -/



theorem implFmt_yes (n : Int) (w : World) (h0 : -999999 ≤ n) (h1 : n ≤ 999999) (htab : Lib.TabIs Tryd.prog w "internal/strconv.uint64pow10" .u64 Lib.pow10Tab) :
    Calls Tryd.prog 36 #[.int .i64 n] w fun e w' => e = .returned (.tuple #[.string ⟨(Lib.itoa n).toArray⟩, .bool true]) ∧ Below w.heap.size w w' := by
  have H := Lib.hid htab
  clear htab
  go_enter Tryd.func36, Tryd.ntmps36
  go_wp2_with (go_at_call 46; refine (Tryd.strconv_Itoa _ (by omega) (by omega) _ H.out).mono ?_; rintro e w' ⟨rfl, k, os, rfl⟩)
  go_ret2
  exact ⟨rfl, below_grow _ _ _⟩

theorem implFmt_no (n : Int) (w : World) (h : n < -999999 ∨ 999999 < n) :
    Calls Tryd.prog 36 #[.int .i64 n] w fun e w' => e = .returned (.tuple #[.string ⟨#[]⟩, .bool false]) ∧ Below w.heap.size w w' := by
  rcases h with h | h
  · go_enter Tryd.func36, Tryd.ntmps36
    go_wp2
    go_ret2
    exact ⟨rfl, Below.refl _ _⟩
  · have h2 : ¬ n < -999999 := by omega
    go_enter Tryd.func36, Tryd.ntmps36
    go_wp2
    go_ret2
    exact ⟨rfl, Below.refl _ _⟩

end Go.Proofs.YtcbeoihgaccjcaaDoor
