/- The counted list's exchange, by its contract. -/
import Derived.Test.YtjmmhakmidddoaaCnt
namespace Go.Proofs.Ytjmmhakmidddoaa
open Go.RowKit P El
set_option linter.unusedVariables false

set_option maxRecDepth 100000 in
set_option maxHeartbeats 4000000 in
theorem swap_any {base s g cap : Nat} {L : List Int} {c m q : Nat} (i k : Nat) (w : World) (h : Cnt base s g cap L c m q w) (hq : q ≤ 1048576) (hi : i < L.length) (hk : k < L.length) (hne : i ≠ k) :
    Calls Try.prog 87 #[.pointer (some ⟨s, 0, none⟩), .int .i64 (i : Int), .int .i64 (k : Int)] w fun e w' => e = .returned (.tuple #[]) ∧ CntP base s g cap (swapped L i k) c m (q + 1) w w' := by
  obtain ⟨x, hx⟩ : ∃ x, x = L.getD i 0 := ⟨_, rfl⟩
  obtain ⟨y, hy⟩ : ∃ y, y = L.getD k 0 := ⟨_, rfl⟩
  obtain ⟨_, _, _, h3, _, _, _, f3⟩ := h.c0
  have HM := Lib.hid h.swapd
  have HB : Hid (But2 s g w (w.setCell ⟨s, 3, none⟩ (.int .i64 ((q : Int) + 1)))) := Lib.hid ((But2.refl s g w).setCell s 3 _ (.inl rfl))
  have HX := Lib.hid hx
  have HY := Lib.hid hy
  have HNE := Lib.hid hne
  have hiz : (i : Int) < L.length := by omega
  have hkz : (k : Int) < L.length := by omega
  clear h hx hy hne
  go_enter Try.func87, Try.ntmps87
  go_wp2_with fail
  generalize w.setCell ⟨s, 3, none⟩ (.int .i64 ((q : Int) + 1)) = W at HM HB ⊢
  clear h3 f3
  obtain ⟨hs0, _⟩ := HM.out.c0
  obtain ⟨hcx, hfx⟩ := HM.out.at hi
  obtain ⟨hcy, hfy⟩ := HM.out.at hk
  rw [← HX.out] at hcx
  rw [← HY.out] at hcy
  have hne : ¬ i = k := HNE.out
  have hne2 : ¬ k = i := fun e => HNE.out e.symm
  have hsg : ¬ g = s := HM.out.ne
  have hsg2 : ¬ s = g := fun e => HM.out.ne e.symm
  have HRES : Hid (CntP base s g cap (swapped L i k) c m (q + 1) w ((W.setCell ⟨g, i, none⟩ (.int .i64 y)).setCell ⟨g, k, none⟩ (.int .i64 x)).drew) := Lib.hid (by
    have h1 := (HM.out.put i y hi).put k x (by rw [List.length_set]; exact hk)
    have e : (L.set i y).set k x = swapped L i k := by unfold swapped; rw [← HX.out, ← HY.out]
    rw [e] at h1
    exact ⟨h1.drewN 1, (((HB.out.setCell g i _ (.inr rfl)).setCell g k _ (.inr rfl))).drewN 1⟩)
  go_region
  go_wp2_with fail
  go_end0
  exact ⟨rfl, HRES.out⟩

end Go.Proofs.Ytjmmhakmidddoaa
