/- The draws of record lists (records, anyRecords), by their contracts. -/
import Derived.Test.YtebipiehkmhaiaaDrawI
import Derived.Test.YtebipiehkmhaiaaRecs
import Derived.Test.YtebipiehkmhaiaaOwnFlat
import Derived.Deep.RegionWith
namespace Go.Proofs.Ytebipiehkmhaiaa
open Go.RowKit

attribute [local go_sem ↓ high] builtin_append_held

theorem infoRecD : (Try.prog.info? 45).map (fun i => (i.zero, i.size, i.bytes)) = some (some (.agg #[.int .i64 0, .int .i64 0]), 2, 16) := by kernel_rfl

theorem cell_two_new (w : World) (x y : Value) (t : TypeId) : ∀ j u, [x, y][j]? = some u → (w.alloc (.cells #[x, y] t)).cell? ((⟨w.heap.size, 0, none⟩ : Addr).add j) = some u := by
  intro j u hu
  have hrow : RowIs (w.alloc (.cells #[x, y] t)) w.heap.size t [x, y] := heap_alloc_new w _
  have e : (⟨w.heap.size, 0, none⟩ : Addr).add j = ⟨w.heap.size, j, none⟩ := by
    unfold Addr.add; simp; omega
  rw [e, hrow.cell j]
  exact hu

/-- 'append(l, r)' of one record to a row of its own: only that row moves. -/
theorem appendRec (base : Nat) (v : Value) (L : List (Int × Int)) (x y : Int) (w : World) (h : w.ownsRow base 45 2 v L.length (recs L)) (hb : base ≤ w.heap.size) (hn : L.length ≤ 1048576) :
    ∃ v' w', (heldAppend #[24, 24] 24 #[v, .slice (some ⟨w.heap.size, 0, none⟩) 1 1]).run Try.prog (w.alloc (.cells #[.int .i64 x, .int .i64 y] 45)) = .ok v' w' ∧
      w'.ownsRow base 45 2 v' (L ++ [(x, y)]).length (recs (L ++ [(x, y)])) ∧ Below base w w' ∧
      (∀ k, k < w.heap.size → v.ownBlock ≠ some k → w'.heap[k]? = w.heap[k]?) ∧ (∀ q, v'.ownBlock = some q → v.ownBlock = some q ∨ w.heap.size ≤ q) ∧ v' ≠ .slice none 0 0 := by
  obtain ⟨i0, hi, hz0, hz1, hz2⟩ := info_parts infoRecD
  obtain ⟨v', w', hrun, hown, hgrow, hnil, hob⟩ := run_append_own_at (P := Try.prog) (w := w.alloc (.cells #[.int .i64 x, .int .i64 y] 45)) base 24 24 45 i0 (.agg #[.int .i64 0, .int .i64 0]) 2 16 Try.underlying24 hi hz0 hz1 hz2 rfl (by decide)
    _ L.length (recs L) (World.ownsRow.alloc h _) ⟨w.heap.size, 0, none⟩ 1 1 [.int .i64 x, .int .i64 y] rfl (cell_two_new w _ _ _) (by simp [Value.oneCell']) (by unfold maxLen; omega) (by omega) (by simp; omega)
  refine ⟨v', w', hrun, ?_, ((Below.refl base w).alloc hb _).grown hgrow (by simp; omega) (fun j e => (h.lt j e).1), fun k hk hne => ?_, fun q hq => ?_, fun e => by have := (hnil.1 e).2; omega⟩
  · rw [recs_append, List.length_append]
    exact hown
  · rw [hgrow.block k (by simp; omega) (Ne.symm hne)]
    exact heap_alloc_old w _ hk
  · rcases hob with e | e
    · exact .inl (by rw [← e]; exact hq)
    · rw [hq] at e
      have := Option.some.inj e
      simp at this
      exact .inr (by omega)

/-- A short valid record list: its keys in their range, its tags from 0 on. -/
def RecsC (B g : Nat) (a : Option Addr) (len cap : Nat) (m : Nat) (w : World) (e : Ending) (w' : World) : Prop :=
  ∃ (v : Value) (l : List (Int × Int)), l.length ≤ 24 ∧ (∀ p ∈ l, (-100000 ≤ p.1 ∧ p.1 ≤ 100000) ∧ (0 ≤ p.2 ∧ p.2 ≤ 999)) ∧ e = .returned v ∧ w'.ownsRow w.heap.size 45 2 v l.length (recs l) ∧ Cur B g a len cap (m + 200) w' ∧ But g w w' ∧ v ≠ .slice none 0 0

set_option maxRecDepth 100000 in
set_option maxHeartbeats 4000000 in
theorem records_any (B g : Nat) (a : Option Addr) (len cap : Nat) (m : Nat) (w : World) (h : Cur B g a len cap m w) (hm : m ≤ 900000) :
    Calls Try.prog 129 #[.pointer (some ⟨g, 0, none⟩)] w (RecsC B g a len cap m w) := by
  have H := Lib.hid h
  have hgl := h.lt
  clear h
  go_enter Try.func129, Try.ntmps129
  go_wp2_with fail
  refine (ints_any B g a len cap m _ (H.out.alloc _) (by omega)).mono ?_
  rintro e w1 ⟨kv, keys, hl, hall, rfl, hown, hc, hb⟩
  have HALL := Lib.hid hall
  have HK := Lib.hid (own_flat hown)
  have HC1 := Lib.hid hc
  have HB1 := Lib.hid ((But.alloc g w (.cells #[] 45)).trans hb)
  have HO1 : Hid (w1.ownsRow w.heap.size 45 2 (.slice (some ⟨w.heap.size, 0, none⟩) 0 0) ([] : List (Int × Int)).length (recs [])) := Lib.hid (own_but (World.ownsRow_made w #[] 0 (Nat.le_refl _) (by decide) rfl) hb hgl)
  have hkv : ∃ a' c', kv = .slice a' keys.length c' := by
    obtain ⟨a', c', e, _⟩ := own_flat hown
    exact ⟨a', c', e⟩
  obtain ⟨a', c', rfl⟩ := hkv
  have hkb : ∀ q, Value.ownBlock (.slice a' keys.length c') = some q → q ≠ w.heap.size := fun q hq => by
    have := (hown.lt q hq).1
    simp at this
    omega
  have HKB : Hid (∀ q, Value.ownBlock (.slice (some ⟨w.heap.size, 0, none⟩) 0 0) = some q → Value.ownBlock (.slice a' keys.length c') ≠ some q) := Lib.hid (fun q hq hq2 => by
    have e : some w.heap.size = some q := hq
    exact hkb q hq2 (Option.some.inj e).symm)
  clear hown hc hb H hall hkb
  go_wp2_with fail
  go_loopw [3, 5] (fun v i wr => ∃ (k : Nat) (L : List (Int × Int)), k ≤ keys.length ∧ i = .int .i64 k ∧ L.length = k ∧ (∀ p ∈ L, (-100000 ≤ p.1 ∧ p.1 ≤ 100000) ∧ (0 ≤ p.2 ∧ p.2 ≤ 999)) ∧ wr.ownsRow w.heap.size 45 2 v L.length (recs L) ∧ Cur B g a len cap (m + 200) wr ∧ But g w wr ∧
    FlatAt wr (.slice a' keys.length c') keys.length (ints keys) ∧ (∀ q, v.ownBlock = some q → Value.ownBlock (.slice a' keys.length c') ≠ some q) ∧ v ≠ .slice none 0 0) (fun _ i _ => keys.length - (intOf i).toNat)
  case atStart => exact ⟨0, [], Nat.zero_le _, rfl, rfl, by simp, HO1.out, HC1.out, HB1.out, HK.out, HKB.out, by simp⟩
  case round =>
    obtain ⟨k, L, hk, rfl, hL, hall, hrow, hcur, hb, hka, hkb, hnn⟩ := hrel
    have HALL2 := Lib.hid hall
    have HROW := Lib.hid hrow
    have HCUR := Lib.hid hcur
    have HB := Lib.hid hb
    have HKA := Lib.hid hka
    have HKB2 := Lib.hid hkb
    have HNN := Lib.hid hnn
    clear hall hrow hcur hb hkb hnn HO1 HC1 HB1 HK HKB
    by_cases hlt : k < keys.length
    · obtain ⟨x, hx⟩ : ∃ x, keys[k]? = some x := ⟨_, List.getElem?_eq_getElem hlt⟩
      have hxb := HALL.out x (List.mem_of_getElem? hx)
      obtain ⟨a2, c2, he, hc2, hf⟩ := hka
      simp at he
      obtain ⟨rfl, rfl⟩ := he
      obtain ⟨b, o, rfl, hbb, hc1⟩ := hf k _ (ints_at hx)
      obtain ⟨v', w6, hrun, hown, hbel, hfr, hob, hn6⟩ := appendRec w.heap.size _ L x k wr HROW.out HB.out.size (by omega)
      have HO6 := Lib.hid hown
      have HC6 := Lib.hid (HCUR.out.keep (hbel.mono (show g + 1 ≤ w.heap.size by omega)))
      have HB6 := Lib.hid (HB.out.then_below hbel)
      have HA6 : Hid (∀ p ∈ L ++ [(x, (k : Int))], (-100000 ≤ p.1 ∧ p.1 ≤ 100000) ∧ (0 ≤ p.2 ∧ p.2 ≤ 999)) := Lib.hid (fun y hy => by
        rcases List.mem_append.1 hy with h | h
        · exact HALL2.out y h
        · rw [List.mem_singleton.1 h]; exact ⟨hxb, by simp; omega⟩)
      have HK6 : Hid (FlatAt w6 (.slice (some ⟨b, o, none⟩) keys.length c') keys.length (ints keys)) := Lib.hid ⟨_, c', rfl, hc2, fun j u hu => by
        obtain ⟨b2, o2, e, hb2, hcc⟩ := hf j u hu
        obtain rfl : b = b2 := congrArg Addr.block (Option.some.inj e)
        obtain rfl : o = o2 := congrArg Addr.off (Option.some.inj e)
        refine ⟨b, o, rfl, Nat.lt_of_lt_of_le hb2 hbel.size, ?_⟩
        rw [World.cell?_of_block (w := wr) (hfr b hb2 (fun e => HKB2.out b e rfl))]
        exact hcc⟩
      have HKB6 : Hid (∀ q, v'.ownBlock = some q → Value.ownBlock (.slice (some ⟨b, o, none⟩) keys.length c') ≠ some q) := Lib.hid (fun q hq hq2 => by
        rcases hob q hq with h | h
        · exact HKB2.out q h hq2
        · have e : some b = some q := hq2
          have := Option.some.inj e
          omega)
      have HN6 := Lib.hid hn6
      clear hown hbel hfr hob hn6 hf hx hxb HROW HCUR HB HALL2 HKA HKB2
      go_wp2_with fail
      go_roundw
      case rel => exact ⟨k + 1, L ++ [(x, (k : Int))], by omega, by go_num, by simp [hL], HA6.out, HO6.out, HC6.out, HB6.out, HK6.out, HKB6.out, HN6.out⟩
      case measure => simp [intOf]; omega
    · have HQ : Hid (∀ v, v ≠ .slice none 0 0 → wr.ownsRow w.heap.size 45 2 v L.length (recs L) → RecsC B g a len cap m w (.returned v) wr) := Lib.hid (fun v hnv hv => ⟨v, L, by omega, HALL2.out, rfl, hv, HCUR.out, HB.out, hnv⟩)
      go_wp2_with fail
      go_ret
      exact HQ.out _ HNN.out HROW.out

end Go.Proofs.Ytebipiehkmhaiaa
