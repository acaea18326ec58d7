/- rJoin of the laws: the concatenation of rows that are not empty, by its contract; rows read alone. -/
import Derived.Test.YtjlldjekjnlcaaaNest
import Derived.Test.YtjlldjekjnlcaaaRetI
import Derived.Test.YtjlldjekjnlcaaaRetSSE
import Derived.Test.YtjlldjekjnlcaaaSmallS
import Derived.BigRegion
import Derived.Laws.BitsLemmas
import Derived.Deep.CutRange
import Derived.Deep.LoopGhost
import Derived.BigGuardPart
import Derived.BigQuiet
import Derived.Deep.QuietTactic
namespace Go.Proofs.Ytjlldjekjnlcaaa
open Go.RowKit
set_option linter.unusedVariables false

attribute [local go_sem ↓ high] builtin_append_held

/-- Rows read alone. -/
def RetFSS (r : List (List Int) × Bool) (w : World) (e : Ending) (w' : World) : Prop :=
  ∃ a c, e = .returned (.tuple #[.slice a r.1.length c, .bool r.2]) ∧ RowsAt w' (.slice a r.1.length c) (r.1.map ints) ∧ Below w.heap.size w w'
theorem RetSSE.flat {r : List (List Int) × Bool} {w w' : World} {e : Ending} (h : RetSSE r w e w') : RetFSS r w e w' := by
  rcases h with ⟨g, c, G, C, rfl, hc, hn, hb⟩ | ⟨h0, a, c, rfl, hb⟩
  · exact ⟨_, c, rfl, hn.rowsI hc, hb⟩
  · exact ⟨a, c, by rw [h0]; rfl, by rw [h0]; exact rowsI0 a c w', hb⟩

/-- A row that is not empty, by its cells. -/
theorem RowsAt.at {w : World} {a : Option Addr} {n c : Nat} {M : List (List Int)} (h : RowsAt w (.slice a n c) (M.map ints)) {k : Nat} {p : List Int} (hk : M[k]? = some p) (hp : p ≠ []) :
    ∃ b o b' o' c', a = some ⟨b, o, none⟩ ∧ b < w.heap.size ∧ w.cell? ⟨b, o + k, none⟩ = some (.slice (some ⟨b', o', none⟩) p.length c') ∧ p.length ≤ c' ∧ b' < w.heap.size ∧ ∀ j x, p[j]? = some x → w.cell? ⟨b', o' + j, none⟩ = some (.int .i64 x) := by
  obtain ⟨a0, c0, e0, _, h⟩ := h
  simp at e0
  obtain ⟨rfl, _, rfl⟩ := e0
  obtain ⟨b, o, u, ha, hb, hc, hf⟩ := h k (ints p) (by rw [List.getElem?_map, hk]; rfl)
  obtain ⟨a', c', rfl, hcc, hf⟩ := hf
  rw [ints_length] at hc hcc
  have hp0 : 0 < p.length := List.length_pos_iff.2 hp
  obtain ⟨b', o', ha', hb', hc'⟩ := hf 0 _ (ints_at (List.getElem?_eq_getElem hp0))
  subst ha'
  refine ⟨b, o, b', o', c', ha, hb, hc, hcc, hb', fun j x hx => ?_⟩
  obtain ⟨b2, o2, e2, _, hc2⟩ := hf j _ (ints_at hx)
  simp at e2
  obtain ⟨rfl, rfl⟩ := e2
  exact hc2

theorem flatten_take {M : List (List Int)} {k : Nat} {p : List Int} (h : M[k]? = some p) : (M.take (k + 1)).flatten = (M.take k).flatten ++ p := by
  rw [List.take_add_one, h, List.flatten_append]; simp
theorem flatten_len (M : List (List Int)) (k : Nat) : (M.take k).flatten.length ≤ M.flatten.length := by
  conv => rhs; rw [← List.take_append_drop k M, List.flatten_append, List.length_append]
  omega

set_option maxRecDepth 100000 in
set_option maxHeartbeats 4000000 in
theorem rJoin_any (v : Value) (M : List (List Int)) (w : World) (hv : RowsAt w v (M.map ints)) (hn : M.length ≤ 64) (hne : ∀ p ∈ M, p ≠ []) (hl : M.flatten.length ≤ 64) :
    Calls Try.prog 33 #[v] w (RowI M.flatten w) := by
  have HV := Lib.hid hv
  obtain ⟨a, c, rfl, _⟩ := hv
  have HNE := Lib.hid hne
  have HFL := Lib.hid (fun k => flatten_len M k)
  have HS0 : Hid (Held w.heap.size (w.alloc (.cells #[] 3)) (.slice (some ⟨w.heap.size, 0, none⟩) 0 0) []) := Lib.hid (Held.start w w.heap.size (Nat.le_refl _))
  have HB0 : Hid (Below w.heap.size w (w.alloc (.cells #[] 3))) := Lib.hid ((Below.refl _ _).alloc (Nat.le_refl _) _)
  have HML : Hid ((M.map ints).length = M.length) := Lib.hid (by simp)
  rw [HML.out] at HV ⊢
  clear hne
  go_enter Try.func33, Try.ntmps33
  go_wp2_with fail
  go_loopw [3, 4] (fun out i wr => ∃ (k : Nat) (L : List Int), k ≤ M.length ∧ i = .int .i64 k ∧ Hid (L = (M.take k).flatten) ∧ Held w.heap.size wr out L ∧ Below w.heap.size w wr) (fun _ i _ => M.length - (intOf i).toNat)
  case atStart => exact ⟨0, [], Nat.zero_le _, rfl, Lib.hid rfl, HS0.out, HB0.out⟩
  case round =>
    obtain ⟨k, L, hk, rfl, HL, hH, hb⟩ := hrel
    have HH := Lib.hid hH
    have HB := Lib.hid hb
    obtain ⟨go, co, rfl, hgo, hco, hro⟩ := hH.row
    clear hb hH hro HS0 HB0
    by_cases hlt : k < M.length
    · obtain ⟨p, hp⟩ : ∃ p, M[k]? = some p := ⟨_, List.getElem?_eq_getElem hlt⟩
      obtain ⟨b, o, b', o', c', rfl, hbb, hcs0, hpc, hbb', hels⟩ := HV.out.at hp (HNE.out p (List.mem_of_getElem? hp))
      have hcs : wr.cell? ⟨b, o + k, none⟩ = some (.slice (some ⟨b', o', none⟩) p.length c') := (HB.out.cell (p := ⟨b, o + k, none⟩) hbb).trans hcs0
      have hlen : L.length + p.length ≤ 64 := by
        have h1 := HFL.out (k + 1)
        rw [flatten_take hp, List.length_append, ← HL.out] at h1
        omega
      obtain ⟨v2, w2, hrun, hheld, hbel⟩ := appendMany w.heap.size _ L b' o' c' p wr HH.out HB.out.size (by omega) (fun j u hu => by
        obtain ⟨x, hx, rfl⟩ : ∃ x, p[j]? = some x ∧ u = .int .i64 x := by
          unfold ints at hu
          rw [List.getElem?_map] at hu
          obtain ⟨z, hz, rfl⟩ := Option.map_eq_some_iff.1 hu
          exact ⟨z, hz, rfl⟩
        exact (HB.out.cell (p := ⟨b', o' + j, none⟩) hbb').trans (hels j x hx))
      have HH2 := Lib.hid hheld
      have HB2 := Lib.hid (HB.out.trans hbel)
      have HL2 : Hid (L ++ p = (M.take (k + 1)).flatten) := Lib.hid (by rw [flatten_take hp, ← HL.out])
      have hbw : b < wr.heap.size := Nat.lt_of_lt_of_le hbb HB.out.size
      clear hp hcs0 hels hheld hbel HH HB
      go_wp2_with fail
      go_roundw
      case rel => exact ⟨k + 1, L ++ p, by omega, by go_num, HL2, HH2.out, HB2.out⟩
      case measure => simp [intOf]; omega
    · obtain rfl : k = M.length := by omega
      have HLE : Hid (L = M.flatten) := Lib.hid (by rw [HL.out, List.take_length])
      have HRES : Hid (RowI M.flatten w (.returned (.slice (some ⟨go, 0, none⟩) L.length co)) wr) := Lib.hid (by
        obtain ⟨g', c', he, hg', hc', hrow⟩ := HH.out.row
        simp at he
        obtain ⟨rfl, rfl⟩ := he
        rw [← HLE.out]
        exact ⟨go, co, rfl, hc', hg', hrow, HB.out⟩)
      go_wp2_with fail
      go_ret
      exact HRES.out

end Go.Proofs.Ytjlldjekjnlcaaa
