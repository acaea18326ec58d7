/- The draws of key specifications (specs, anySpecs), by their contracts. -/
import Derived.Test.YtcbeoihgaccjcaaDoorCode
import Derived.Test.YtcbeoihgaccjcaaDoorAmong
import Derived.Test.YtcbeoihgaccjcaaDoorPar
namespace Go.Proofs.YtcbeoihgaccjcaaDoor
open Go.RowKit

attribute [local go_sem ↓ high] builtin_append_held

theorem then_belowK {g : Nat} {w a b : World} (h : But g w a) (k : Below w.heap.size a b) : But g w b :=
  ⟨k.os.trans h.os, k.tape.trans h.tape, k.output.trans h.output, Nat.le_trans h.size k.size, fun i hi hg => (k.block i hi).trans (h.block i hi hg)⟩

theorem own_butK {w w' : World} {base g : Nat} {e : TypeId} {size n : Nat} {v : Value} {xs : List Value} (h : w.ownsRow base e size v n xs) (hb : But g w w') (hB : g < base) : w'.ownsRow base e size v n xs := by
  have hlt := h.lt
  refine own_same h fun j hj => ?_
  have := hlt j hj
  exact hb.block j this.2 (by omega)

def FieldsK (lo hi : Int) (L : List Key4) : Prop := ∀ p ∈ L, lo ≤ p.1 ∧ p.1 ≤ hi

theorem FieldsK.snoc {lo hi : Int} {L : List Key4} {q : Key4} (h : FieldsK lo hi L) (hq : lo ≤ q.1 ∧ q.1 ≤ hi) : FieldsK lo hi (L ++ [q]) := fun y hy => by
  rcases List.mem_append.1 hy with h' | h'
  · exact h y h'
  · rw [List.mem_singleton.1 h']; exact hq

/-- One or two keys, their fields from 0 to 2. -/
def KeysC (B g : Nat) (a : Option Addr) (len cap : Nat) (m : Nat) (w : World) (e : Ending) (w' : World) : Prop :=
  ∃ (v : Value) (l : List Key4), 1 ≤ l.length ∧ l.length ≤ 2 ∧ FieldsK 0 2 l ∧ e = .returned v ∧ w'.ownsRow w.heap.size 32 4 v l.length (keys l) ∧ Cur B g a len cap (m + 30) w' ∧ But g w w'

set_option maxRecDepth 100000 in
set_option maxHeartbeats 4000000 in
theorem specs_any (B g : Nat) (a : Option Addr) (len cap : Nat) (m : Nat) (w : World) (h : Cur B g a len cap m w) (hm : m ≤ 900000) :
    Calls Tryd.prog 24 #[.pointer (some ⟨g, 0, none⟩)] w (KeysC B g a len cap m w) := by
  have H := Lib.hid h
  have hgl := h.lt
  clear h
  go_enter Tryd.func24, Tryd.ntmps24
  go_wp2_with fail
  refine (pick_any B g a len cap m 2 _ (H.out.alloc _) (by omega) (by omega)).mono ?_
  rintro e w1 ⟨n, hn0, hn1, rfl, hc, hb⟩
  obtain ⟨n, rfl⟩ : ∃ k : Nat, n = k := ⟨n.toNat, by omega⟩
  have hn : n ≤ 1 := by omega
  have hn2 : (1 : Int) + (n : Int) = ((n + 1 : Nat) : Int) := by omega
  have HC1 := Lib.hid hc
  have HB1 := Lib.hid ((But.alloc g w (.cells #[] 32)).trans hb)
  have HO1 : Hid (w1.ownsRow w.heap.size 32 4 (.slice (some ⟨w.heap.size, 0, none⟩) 0 0) ([] : List Key4).length (keys [])) := Lib.hid (own_butK (World.ownsRow_made w #[] 0 (Nat.le_refl _) (by decide) rfl) hb hgl)
  clear hc hb hn0 hn1 H
  go_wp2_with fail
  go_loopw [3, 4] (fun v i wr => ∃ (k : Nat) (L : List Key4), i = .int .i64 k ∧ k + L.length = n + 1 ∧ FieldsK 0 2 L ∧ wr.ownsRow w.heap.size 32 4 v L.length (keys L) ∧ Cur B g a len cap (m + 2 + 8 * L.length) wr ∧ But g w wr) (fun _ i _ => (intOf i).toNat)
  case atStart => exact ⟨n + 1, [], by first | rfl | (rw [hn2]) | go_num, by simp, fun _ h => absurd h (by simp), HO1.out, HC1.out.more (by simp), HB1.out⟩
  case round =>
    obtain ⟨k, L, rfl, hkL, hall, hrow, hcur, hb⟩ := hrel
    have HALL := Lib.hid hall
    have HROW := Lib.hid hrow
    have HCUR := Lib.hid hcur
    have HB := Lib.hid hb
    clear hall hrow hcur hb HO1 HC1 HB1
    by_cases hk : 0 < k
    · have hk1 : ((k : Int) - 1) = ((k - 1 : Nat) : Int) := by omega
      go_wp2_with fail
      refine (pick_any B g a len cap _ 3 _ HCUR.out (by omega) (by omega)).mono ?_
      rintro e w3 ⟨f, hf0, hf1, rfl, hc, hb⟩
      have hf : 0 ≤ f ∧ f ≤ 2 := by omega
      have HC3 := Lib.hid hc
      have HB3 := Lib.hid (HB.out.trans hb)
      have HO3 := Lib.hid (own_butK HROW.out hb hgl)
      clear hc hb HROW HCUR HB hf0 hf1
      go_wp2_with fail
      refine (one_any B g a len cap _ 2 _ HC3.out (by omega) (by omega)).mono ?_
      rintro e w4 ⟨b1, rfl, hc, hb⟩
      have HC4 := Lib.hid hc
      have HB4 := Lib.hid (HB3.out.trans hb)
      have HO4 := Lib.hid (own_butK HO3.out hb hgl)
      clear hc hb HC3 HB3 HO3
      go_wp2_with fail
      refine (one_any B g a len cap _ 3 _ HC4.out (by omega) (by omega)).mono ?_
      rintro e w5 ⟨b2, rfl, hc, hb⟩
      have HC5 := Lib.hid hc
      have HB5 := Lib.hid (HB4.out.trans hb)
      have HO5 := Lib.hid (own_butK HO4.out hb hgl)
      clear hc hb HC4 HB4 HO4
      go_wp2_with fail
      refine (one_any B g a len cap _ 3 _ HC5.out (by omega) (by omega)).mono ?_
      rintro e w6 ⟨b3, rfl, hc, hb⟩
      have HB6 := Lib.hid (HB5.out.trans hb)
      obtain ⟨v', w7, hrun, hown, hbel, _, _⟩ := appendKey w.heap.size _ L (f, b1, b2, b3) w6 (own_butK HO5.out hb hgl) HB6.out.size (by omega)
      have HO7 := Lib.hid hown
      have HC7 := Lib.hid (hc.keep (hbel.mono (show g + 1 ≤ w.heap.size by omega)))
      have HB7 := Lib.hid (then_belowK HB6.out hbel)
      have HA7 : Hid (FieldsK 0 2 (L ++ [(f, b1, b2, b3)])) := Lib.hid (HALL.out.snoc hf)
      clear hc hb hown hbel HC5 HB5 HO5 HB6 hf HALL
      go_wp2_with fail
      go_roundw
      case rel => exact ⟨k - 1, L ++ [(f, b1, b2, b3)], rfl, by simp; omega, HA7.out, HO7.out, HC7.out.more (by simp; omega), HB7.out⟩
      case measure => simp [intOf]; omega
    · have HQ : Hid (∀ v, wr.ownsRow w.heap.size 32 4 v L.length (keys L) → KeysC B g a len cap m w (.returned v) wr) := Lib.hid (fun v hv => ⟨v, L, by omega, by omega, HALL.out, rfl, hv, HCUR.out.more (by omega), HB.out⟩)
      go_wp2_with fail
      go_ret
      exact HQ.out _ HROW.out

/-- At most five keys, their fields from -1 to 10. -/
def AnyKeysC (B g : Nat) (a : Option Addr) (len cap : Nat) (m : Nat) (w : World) (e : Ending) (w' : World) : Prop :=
  ∃ (v : Value) (l : List Key4), l.length ≤ 5 ∧ FieldsK (-1) 10 l ∧ e = .returned v ∧ w'.ownsRow w.heap.size 32 4 v l.length (keys l) ∧ Cur B g a len cap (m + 100) w' ∧ But g w w'

theorem FieldsK.wide {L : List Key4} (h : FieldsK 0 2 L) : FieldsK (-1) 10 L := fun y hy => by have := h y hy; omega

theorem FieldsK.set0 {L : List Key4} {q : Key4} {x : Int} (h : FieldsK (-1) 10 (q :: L)) (hx : -1 ≤ x ∧ x ≤ 10) : FieldsK (-1) 10 ((x, q.2) :: L) := fun y hy => by
  rcases List.mem_cons.1 hy with rfl | h'
  · exact hx
  · exact h y (List.mem_cons_of_mem _ h')

theorem keys_set0 (q : Key4) (L : List Key4) (x : Int) : (keys (q :: L)).set 0 (.int .i64 x) = keys ((x, q.2) :: L) := rfl

set_option maxRecDepth 100000 in
set_option maxHeartbeats 4000000 in
theorem anySpecs_any (B g : Nat) (a : Option Addr) (len cap : Nat) (m : Nat) (w : World) (h : Cur B g a len cap m w) (hm : m ≤ 900000) :
    Calls Tryd.prog 18 #[.pointer (some ⟨g, 0, none⟩)] w (AnyKeysC B g a len cap m w) := by
  have H := Lib.hid h
  have hgl := h.lt
  clear h
  go_enter Tryd.func18, Tryd.ntmps18
  go_wp2_with fail
  refine (specs_any B g a len cap m _ H.out (by omega)).mono ?_
  rintro e w1 ⟨v, l, hl1, hl2, hall, rfl, hown, hc, hb⟩
  have HALL := Lib.hid hall.wide
  have HO1 := Lib.hid hown
  have HC1 := Lib.hid hc
  have HB1 := Lib.hid hb
  clear hown hc hb H hall
  go_wp2_with fail
  refine (pick_any B g a len cap _ 20 _ HC1.out (by omega) (by omega)).mono ?_
  rintro e w2 ⟨r, hr0, hr1, rfl, hc, hb⟩
  have HC2 := Lib.hid hc
  have HB2 := Lib.hid (HB1.out.trans hb)
  have HO2 := Lib.hid (own_butK HO1.out hb hgl)
  clear hc hb HC1 HB1 HO1
  by_cases h0 : r = 0
  · subst h0
    have HQ : Hid (AnyKeysC B g a len cap m w (.returned (.slice none 0 0)) w2) := Lib.hid ⟨_, [], by simp, fun _ h => absurd h (by simp), rfl, ⟨rfl, .inl ⟨rfl, rfl⟩⟩, HC2.out.more (by omega), HB2.out⟩
    clear hr0 hr1 HC2 HB2 HO2 HALL
    go_wp2_with fail
    go_ret
    exact HQ.out
  · by_cases h1 : r = 1
    · subst h1
      obtain ⟨q, L, rfl⟩ : ∃ q L, l = q :: L := by
        cases l with
        | nil => simp at hl1
        | cons q L => exact ⟨q, L, rfl⟩
      obtain ⟨g2, c2, rfl, hg2⟩ : ∃ g2 c2, v = .slice (some ⟨g2, 0, none⟩) (q :: L).length c2 ∧ w.heap.size ≤ g2 := by
        rcases HO2.out.2 with ⟨_, hn⟩ | ⟨g2, c2, _, rfl, hb2, _⟩
        · simp at hn
        · exact ⟨g2, c2, rfl, hb2⟩
      have hlen : (q :: L).length = L.length + 1 := rfl
      rw [hlen] at HO2 hl1 hl2
      clear hr0 hr1 hl1
      go_wp2_with fail
      refine (among_lit B g a len cap _ [-1, 5, 6, 10] 4 _ _ rfl rfl _ HC2.out (by omega) (by decide) (by decide)).mono ?_
      rintro e w3 ⟨y, hy, rfl, hc, hb⟩
      obtain ⟨x, hz, rfl⟩ := List.mem_map.1 hy
      have hx : -1 ≤ x ∧ x ≤ 10 := by simp only [List.mem_cons, List.not_mem_nil, or_false] at hz; omega
      have hown3 := own_butK HO2.out hb hgl
      obtain ⟨hst, hgr⟩ := hown3.stored 0 (.int .i64 x)
      have hfz := hown3.frozenAt 0
      obtain ⟨a3, c3, he3, _, hf3⟩ := own_flat hown3
      simp only [Value.slice.injEq] at he3
      obtain ⟨rfl, _, rfl⟩ := he3
      obtain ⟨b, o, e, _, hcell⟩ := hf3 0 _ rfl
      obtain rfl : g2 = b := congrArg Addr.block (Option.some.inj e)
      obtain rfl : 0 = o := congrArg Addr.off (Option.some.inj e)
      have HQ : Hid (AnyKeysC B g a len cap m w (.returned (.slice (some ⟨g2, 0, none⟩) (L.length + 1) c2)) (w3.setCell ⟨g2, 0, none⟩ (.int .i64 x))) := Lib.hid ⟨_, (x, q.2) :: L, by simp; omega, HALL.out.set0 hx, rfl, hst, ((hc.more (by omega)).keep ((Below.refl (g + 1) w3).setCell (p := ⟨g2, 0, none⟩) (show g + 1 ≤ g2 by omega) _)), then_belowK (HB2.out.trans hb) ((Below.refl w.heap.size w3).setCell (p := ⟨g2, 0, none⟩) hg2 _)⟩
      clear hown3 hst hgr hc hb hf3 hy hz hx HC2 HB2 HO2 HALL e
      go_wp2_with fail
      go_ret
      exact HQ.out
    · by_cases h2 : r = 2
      · subst h2
        clear hr0 hr1
        go_wp2_with fail
        go_loopw [3] (fun v wr => ∃ L : List Key4, L.length ≤ 5 ∧ FieldsK (-1) 10 L ∧ wr.ownsRow w.heap.size 32 4 v L.length (keys L) ∧ Cur B g a len cap (m + 40 + 4 * L.length) wr ∧ But g w wr) (fun v _ => 6 - lenV v)
        case atStart => exact ⟨l, by omega, HALL.out, HO2.out, HC2.out.more (by omega), HB2.out⟩
        case round =>
          obtain ⟨L, hL, hall, hrow, hcur, hb⟩ := hrel
          have HALL2 := Lib.hid hall
          have HROW := Lib.hid hrow
          have HCUR := Lib.hid hcur
          have HB := Lib.hid hb
          obtain ⟨a3, c3, rfl, _, _⟩ := own_flat hrow
          clear hall hrow hcur hb HC2 HB2 HO2 HALL
          go_wp2_with fail
          refine (pick_any B g a len cap _ 2 _ HCUR.out (by omega) (by omega)).mono ?_
          rintro e w3 ⟨q, hq0, hq1, rfl, hc, hb⟩
          have hq2 : q ≤ 1 := by omega
          have HC3 := Lib.hid hc
          have HB3 := Lib.hid (HB.out.trans hb)
          have HO3 := Lib.hid (own_butK HROW.out hb hgl)
          clear hc hb HROW HCUR HB hq1
          by_cases hlt : (L.length : Int) < 4 + q
          · obtain ⟨v', w5, hrun, hown, hbel, _, _⟩ := appendKey w.heap.size _ L (1, false, false, false) w3 HO3.out HB3.out.size (by omega)
            have HO5 := Lib.hid hown
            have HC5 := Lib.hid (HC3.out.keep (hbel.mono (show g + 1 ≤ w.heap.size by omega)))
            have HB5 := Lib.hid (then_belowK HB3.out hbel)
            have HA5 := Lib.hid (HALL2.out.snoc (q := (1, false, false, false)) (by decide))
            have hlen : lenV v' = L.length + 1 := by
              obtain ⟨a4, c4, e, _, _⟩ := own_flat hown
              rw [e, lenV_slice]; simp
            have HLEN := Lib.hid hlen
            clear hown hbel hlen HC3 HB3 HO3 HALL2
            go_wp2_with fail
            go_roundw
            case rel => exact ⟨L ++ [(1, false, false, false)], by simp; omega, HA5.out, HO5.out, HC5.out.more (by simp; omega), HB5.out⟩
            case measure => rw [HLEN.out, lenV_slice]; omega
          · have HQ : Hid (AnyKeysC B g a len cap m w (.returned (.slice a3 L.length c3)) w3) := Lib.hid ⟨_, L, by omega, HALL2.out, rfl, HO3.out, HC3.out.more (by omega), HB3.out⟩
            go_wp2_with fail
            go_ret
            exact HQ.out
      · have HQ : Hid (AnyKeysC B g a len cap m w (.returned v) w2) := Lib.hid ⟨v, l, by omega, HALL.out, rfl, HO2.out, HC2.out.more (by omega), HB2.out⟩
        clear HC2 HB2 HO2 HALL
        go_wp2_with fail
        go_ret
        exact HQ.out

end Go.Proofs.YtcbeoihgaccjcaaDoor
