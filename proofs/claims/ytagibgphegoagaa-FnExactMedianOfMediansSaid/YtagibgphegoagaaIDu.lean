/- The program's DualPartition: the elements that a function chooses, by contract. -/
import Derived.Test.YtagibgphegoagaaQuickA
import Derived.Test.YtagibgphegoagaaConcI
import Derived.Test.YtagibgphegoagaaIList
import Derived.Test.YtagibgphegoagaaRetZ
import Derived.Test.YtagibgphegoagaaRes4
import Derived.Laws.EntriesVeiled
namespace Go.Proofs.Ytagibgphegoagaa
open Go.RowKit P El Qk
set_option linter.unusedVariables false
attribute [local go_sem ↓ high] builtin_append_held

theorem filter_step {l : List Int} {p : Int → Bool} {k : Nat} {x : Int} (h : l[k]? = some x) : (l.take (k + 1)).filter p = (l.take k).filter p ++ (if p x then [x] else []) := by
  rw [List.take_add_one, h, List.filter_append]
  cases hp : p x <;> simp [hp]
theorem filter_le {l : List Int} (p : Int → Bool) (k : Nat) : ((l.take k).filter p).length ≤ l.length :=
  Nat.le_trans (List.length_filter_le _ _) (by rw [List.length_take]; omega)

set_option maxRecDepth 100000 in
set_option maxHeartbeats 4000000 in
theorem chosen_any (p : Int → Bool) (ff : Nat) (lb : Array Value) (eg : ∀ args w, (callFunc ff args).run Try.prog w = .ok (.enter ff args) w) (b o c : Nat) (l : List Int) (w : World) (hv : FlatAt w (.slice (some ⟨b, o, none⟩) l.length c) l.length (ints l)) (hn : l.length ≤ 1048576)
    (hp : ∀ (W : World) x, Below w.heap.size w W → Calls Try.prog ff (#[.int .i64 x] ++ lb) W fun e w' => e = .returned (.bool (p x)) ∧ Below W.heap.size W w') :
    Calls Try.prog 154 #[.slice (some ⟨b, o, none⟩) l.length c, .func (.func ff) #[] lb] w fun e w' => ∃ v, e = .returned v ∧ OwnN w.heap.size w' v (l.filter p) ∧ Below w.heap.size w w' := by
  obtain ⟨a', c', he, _, h⟩ := hv
  simp at he
  obtain ⟨rfl, rfl⟩ := he
  have H := Lib.hid h
  have HPR := Lib.hid hp
  have HLE := Lib.hid (filter_le (l := l) p)
  clear h hp
  go_enter Try.func154, Try.ntmps154
  go_wp2_with fail
  go_loopw [5, 7, 10] (fun sv _ iv wr => ∃ k : Nat, k ≤ l.length ∧ iv = .int .i64 (k : Int) ∧ OwnN w.heap.size wr sv ((l.take k).filter p) ∧ Below w.heap.size w wr) (fun _ _ iv _ => l.length - (intOf iv).toNat)
  case atStart => exact ⟨0, Nat.zero_le _, rfl, OwnN.nil _ _, Below.refl _ _⟩
  case round =>
    obtain ⟨k, hk, rfl, ho, hb⟩ := hrel
    have HO := Lib.hid ho
    have HB := Lib.hid hb
    clear ho hb
    by_cases hlt : k < l.length
    · have hltz : (k : Int) < (l.length : Int) := by omega
      have hld : decide ((k : Int) < (l.length : Int)) = true := decide_eq_true hltz
      obtain ⟨x, hx⟩ : ∃ x, l[k]? = some x := ⟨_, List.getElem?_eq_getElem hlt⟩
      obtain ⟨b', o', e, hbb, hcell⟩ := H.out _ _ (ints_at hx)
      simp at e
      obtain ⟨rfl, rfl⟩ := e
      have hw1 : wr.cell? ⟨b, o + k, none⟩ = some (.int .i64 x) := (HB.out.cell (p := ⟨b, o + k, none⟩) hbb).trans hcell
      have HFS := Lib.hid (filter_step (p := p) hx)
      have HCALL := Lib.hid (HPR.out wr x HB.out)
      have hll := HLE.out k
      clear hcell hx
      cases hq : p x with
      | true =>
        rw [hq] at HFS HCALL
        rw [if_pos rfl] at HFS
        clear hq
        go_wp2_with (go_at_fn ff; refine (HCALL.out).mono ?_; rintro e w2 ⟨rfl, hb2⟩; obtain ⟨g', c', w3, hrun, ho3, hb3, _, _⟩ := appendN w.heap.size _ _ x w2 (HO.out.keep (fun g hg => hb2.block g (HO.out.lt g hg).2)) (Nat.le_trans HB.out.size hb2.size) (Nat.le_trans hll hn); have HO3 := Lib.hid ho3; have HB3 := Lib.hid (((HB.out.trans (hb2.mono HB.out.size))).trans hb3); clear ho3 hb3 hb2)
        go_roundw
        case rel => exact ⟨k + 1, by omega, by go_num, by rw [HFS.out]; simpa using HO3.out, HB3.out⟩
        case measure => simp [intOf]; omega
      | false =>
        rw [hq] at HFS HCALL
        rw [if_neg (by decide), List.append_nil] at HFS
        clear hq
        go_wp2_with (go_at_fn ff; refine (HCALL.out).mono ?_; rintro e w2 ⟨rfl, hb2⟩; have HB2 := Lib.hid hb2; clear hb2)
        go_roundw
        case rel => exact ⟨k + 1, by omega, by go_num, by rw [HFS.out]; exact HO.out.keep (fun g hg => HB2.out.block g (HO.out.lt g hg).2), HB.out.trans (HB2.out.mono HB.out.size)⟩
        case measure => simp [intOf]; omega
    · have hltz : ¬ (k : Int) < (l.length : Int) := by omega
      have hld : decide ((k : Int) < (l.length : Int)) = false := decide_eq_false hltz
      obtain rfl : k = l.length := by omega
      rw [List.take_length] at HO
      go_wp2_with fail
      go_ret
      exact ⟨_, rfl, HO.out, HB.out⟩

set_option maxRecDepth 100000 in
theorem less_any (a : Nat) (x p : Int) (W : World) (h : W.cell? ⟨a, 0, none⟩ = some (.int .i64 p)) :
    Calls Try.prog 155 #[.int .i64 x, .pointer (some ⟨a, 0, none⟩)] W fun e w' => e = .returned (.bool (decide (x < p))) ∧ Below W.heap.size W w' := by
  go_enter Try.func155, Try.ntmps155
  go_wp2_with fail
  go_ret
  exact ⟨rfl, Below.refl _ _⟩
set_option maxRecDepth 100000 in
theorem more_any (a : Nat) (x q : Int) (W : World) (h : W.cell? ⟨a, 0, none⟩ = some (.int .i64 q)) :
    Calls Try.prog 157 #[.int .i64 x, .pointer (some ⟨a, 0, none⟩)] W fun e w' => e = .returned (.bool (decide (q < x))) ∧ Below W.heap.size W w' := by
  go_enter Try.func157, Try.ntmps157
  go_wp2_with fail
  go_ret
  exact ⟨rfl, Below.refl _ _⟩
set_option maxRecDepth 100000 in
theorem amid_any (a b : Nat) (x p q : Int) (W : World) (h : W.cell? ⟨a, 0, none⟩ = some (.int .i64 p)) (h2 : W.cell? ⟨b, 0, none⟩ = some (.int .i64 q)) :
    Calls Try.prog 156 #[.int .i64 x, .pointer (some ⟨a, 0, none⟩), .pointer (some ⟨b, 0, none⟩)] W fun e w' => e = .returned (.bool (decide (p ≤ x ∧ x ≤ q))) ∧ Below W.heap.size W w' := by
  by_cases h1 : p ≤ x
  · have hd : decide (p ≤ x) = true := decide_eq_true h1
    have HE : Hid (decide (p ≤ x ∧ x ≤ q) = decide (x ≤ q)) := Lib.hid (by simp [h1])
    rw [HE.out]
    go_enter Try.func156, Try.ntmps156
    go_wp2_with fail
    go_ret
    exact ⟨rfl, Below.refl _ _⟩
  · have hd : decide (p ≤ x) = false := decide_eq_false h1
    have HE : Hid (decide (p ≤ x ∧ x ≤ q) = false) := Lib.hid (by simp [h1])
    rw [HE.out]
    go_enter Try.func156, Try.ntmps156
    go_wp2_with fail
    go_ret
    exact ⟨rfl, Below.refl _ _⟩

end Go.Proofs.Ytagibgphegoagaa
