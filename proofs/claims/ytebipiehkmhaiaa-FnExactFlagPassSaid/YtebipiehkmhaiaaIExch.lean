/- The program's exchange of two elements of a part of a row, by its contract. -/
import Derived.Test.YtebipiehkmhaiaaSeg
import Derived.Test.YtebipiehkmhaiaaQuickP
import Derived.BigRegion
import Derived.BigQuiet
import Derived.Deep.QuietTactic
import Derived.Laws.BitsLemmas
namespace Go.Proofs.Ytebipiehkmhaiaa
open Go.RowKit P El Qk
set_option linter.unusedVariables false

set_option maxRecDepth 100000 in
set_option maxHeartbeats 4000000 in
theorem iexch_any {g o c n : Nat} {L : List Int} (i k : Nat) (w : World) (h : Seg w g o (ints L)) (hL : L.length = n) (hl : n ≤ 1048576) (hi : i < n) (hk : k < n) :
    Calls Try.prog 137 #[.slice (some ⟨g, o, none⟩) n c, .int .i64 (i : Int), .int .i64 (k : Int)] w fun e w' => e = .returned (.tuple #[]) ∧ SegP g o n (swapped L i k) w w' := by
  obtain ⟨x, hx⟩ : ∃ x, x = L.getD i 0 := ⟨_, rfl⟩
  obtain ⟨y, hy⟩ : ∃ y, y = L.getD k 0 := ⟨_, rfl⟩
  obtain ⟨hcx, hfx⟩ := h.at (k := i) (by omega)
  obtain ⟨hcy, hfy⟩ := h.at (k := k) (by omega)
  rw [← hx] at hcx
  rw [← hy] at hcy
  have HRES : Hid (SegP g o n (swapped L i k) w ((w.setCell ⟨g, o + i, none⟩ (.int .i64 y)).setCell ⟨g, o + k, none⟩ (.int .i64 x)).drew) := Lib.hid (by
    have h1 := (h.put i y (by omega)).put k x (by rw [List.length_set]; omega)
    have e : (L.set i y).set k x = swapped L i k := by unfold swapped; rw [← hx, ← hy]
    rw [e] at h1
    exact ⟨h1.drewN 1, (((ButS.refl g o n w).setCell i _ hi).setCell k _ hk).drewN 1⟩)
  have hiz : (i : Int) < n := by omega
  have hkz : (k : Int) < n := by omega
  by_cases hne : i = k
  · subst hne
    obtain rfl : x = y := hx.trans hy.symm
    clear h hx hy hcy hfy hkz hk hL
    go_enter Try.func137, Try.ntmps137
    go_wp2_with fail
    go_region
    go_wp2_with fail
    go_end0
    exact ⟨rfl, HRES.out⟩
  · have hne1 : ¬ o + i = o + k := by omega
    have hne2 : ¬ o + k = o + i := by omega
    have hne3 : ¬ k = i := fun e => hne e.symm
    clear h hx hy hL
    go_enter Try.func137, Try.ntmps137
    go_wp2_with fail
    go_region
    go_wp2_with fail
    go_end0
    exact ⟨rfl, HRES.out⟩

end Go.Proofs.Ytebipiehkmhaiaa
