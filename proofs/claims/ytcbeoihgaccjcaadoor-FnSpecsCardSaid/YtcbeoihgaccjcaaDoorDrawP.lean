/- The draws of FnSpecs, by contracts: sizes alone. -/
import Derived.Test.YtcbeoihgaccjcaaDoorDrawK
import Derived.Test.YtcbeoihgaccjcaaDoorText
import Derived.Deep.RegionWith
import Derived.Laws.BitsLemmas
namespace Go.Proofs.YtcbeoihgaccjcaaDoor
open Go.RowKit

theorem ba_empty {t : ByteArray} (h : t.size = 0) : t = ⟨#[]⟩ := by
  obtain ⟨d⟩ := t
  have : d.size = 0 := h
  rw [Array.eq_empty_of_size_eq_zero this]

theorem below_drewK (w : World) (B : Nat) : Below B w w.drew := ⟨rfl, rfl, rfl, Nat.le_refl _, fun _ _ => rfl⟩

def SpoiltC (B g : Nat) (a : Option Addr) (len cap : Nat) (m : Nat) (n : Nat) (w : World) (e : Ending) (w' : World) : Prop :=
  ∃ y : ByteArray, y.size ≤ n + 1 ∧ e = .returned (.string y) ∧ Cur B g a len cap (m + 6) w' ∧ But g w w'

set_option maxRecDepth 100000 in
set_option maxHeartbeats 4000000 in
theorem spoilt_any (B g : Nat) (a : Option Addr) (len cap : Nat) (m : Nat) (t u : ByteArray) (w : World) (h : Cur B g a len cap m w) (hm : m ≤ 900000) (ht : t.size ≤ 1000) (hu : 1 ≤ u.size ∧ u.size ≤ 1000) :
    Calls Tryd.prog 26 #[.pointer (some ⟨g, 0, none⟩), .string t, .string u] w (SpoiltC B g a len cap m t.size w) := by
  have H := Lib.hid h
  have hu1 := hu.1
  have hu2 := hu.2
  clear h hu
  by_cases h0 : t.size = 0
  · obtain rfl := ba_empty h0
    clear h0 ht
    have h1z : (1 : Int) ≤ (u.size : Int) := by omega
    have HQ : Hid (SpoiltC B g a len cap m (⟨#[]⟩ : ByteArray).size w (.returned (.string (u.extract 0 1))) w) := Lib.hid ⟨_, by rw [ByteArray.size_extract]; omega, rfl, H.out.more (by omega), But.refl g w⟩
    clear H
    go_enter Tryd.func26, Tryd.ntmps26
    go_wp2_with fail
    go_ret
    exact HQ.out
  · have hne : ¬ (t.toList = []) := by
      rw [Lib.toList_data]
      intro e
      apply h0
      have : t.data.toList.length = 0 := by rw [e]; rfl
      rw [Array.length_toList] at this
      exact this
    have hne2 : (t.toList == []) = false := by simpa using hne
    go_enter Tryd.func26, Tryd.ntmps26
    go_wp2_with fail
    refine (pick_any B g a len cap m _ _ H.out (by omega) (by omega)).mono ?_
    rintro e w1 ⟨i, hi0, hi1, rfl, hc, hb⟩
    obtain ⟨i, rfl⟩ : ∃ k : Nat, i = k := ⟨i.toNat, by omega⟩
    have hi : i < t.size := by omega
    have hiz : (i : Int) ≤ (t.size : Int) := by omega
    have hiz1 : (i : Int) + 1 ≤ (t.size : Int) := by omega
    have hi1 : ((i : Int) + 1).toNat = i + 1 := by omega
    have H1 := Lib.hid hc
    have HB1 := Lib.hid hb
    clear H hc hb hi0 hi1
    go_wp2_with fail
    refine (pick_any B g a len cap _ _ _ H1.out (by omega) (by omega)).mono ?_
    rintro e w2 ⟨j, hj0, hj1, rfl, hc, hb⟩
    obtain ⟨j, rfl⟩ : ∃ k : Nat, j = k := ⟨j.toNat, by omega⟩
    have hj : j < u.size := by omega
    have hjs : (u.extract j u.size).size = u.size - j := by rw [ByteArray.size_extract]; omega
    have H2 := Lib.hid hc
    have HB2 := Lib.hid (HB1.out.trans hb)
    clear H1 HB1 hc hb hj0 hj1
    go_wp2_with fail
    refine (pick_any B g a len cap _ 3 _ H2.out (by omega) (by omega)).mono ?_
    rintro e w3 ⟨r, hr0, hr1, rfl, hc, hb⟩
    have HQ : Hid (∀ y : ByteArray, y.size ≤ t.size + 1 → SpoiltC B g a len cap m t.size w (.returned (.string y)) w3.drew) := Lib.hid (fun y hy => ⟨y, hy, rfl, (hc.more (by omega)).keep (below_drewK w3 _), (HB2.out.trans hb).drewN 1⟩)
    have hr : r = 0 ∨ r = 1 ∨ r = 2 := by omega
    clear H2 HB2 hc hb hr0 hr1
    have hwrap : IntKind.i64.wrap ((i : Int) + 1) = (i : Int) + 1 := by rw [IntKind.wrap_i64]; omega
    have hcat : ¬ (9223372036854775807 < min i t.size + min 1 (u.size - j)) := by omega
    have hcat2 : ¬ (9223372036854775807 < min i t.size + min 1 (u.size - j) + (t.size - (i + 1))) := by omega
    have hcat3 : ¬ (9223372036854775807 < min i t.size + (t.size - (i + 1))) := by omega
    rcases hr with rfl | rfl | rfl
    · go_wp2_with fail
      go_region_with (fail)
      all_goals (go_wp2_with fail; go_ret; exact HQ.out (t.extract 0 i ++ (u.extract j u.size).extract 0 1 ++ t.extract i t.size) (by simp only [ByteArray.size_append, ByteArray.size_extract]; omega))
    · go_wp2_with fail
      go_region_with (fail)
      all_goals (go_wp2_with fail; go_ret; exact HQ.out (t.extract 0 i ++ (u.extract j u.size).extract 0 1 ++ t.extract (i + 1) t.size) (by simp only [ByteArray.size_append, ByteArray.size_extract]; omega))
    · go_wp2_with fail
      go_region_with (fail)
      all_goals (go_wp2_with fail; go_ret; exact HQ.out (t.extract 0 i ++ t.extract (i + 1) t.size) (by simp only [ByteArray.size_append, ByteArray.size_extract]; omega))

/-- A key specification of at most five keys. -/
def KeysD (w : World) (e : Ending) (w' : World) : Prop :=
  ∃ (v : Value) (l : List Key4), l.length ≤ 5 ∧ e = .returned v ∧ FlatAt w' v l.length (keys l) ∧ Below w.heap.size w w'

theorem drawFmtS_any (a : Option Addr) (len cap : Nat) (w : World) (h : Code0 w a len) :
    Calls Tryd.prog 7 #[.slice a len cap] w (KeysD w) := by
  have H := Lib.hid h
  clear h
  go_enter Tryd.func7, Tryd.ntmps7
  go_wp2_with fail
  refine (anySpecs_any w.heap.size w.heap.size a len cap 0 _ (cur_new H.out cap _) (by omega)).mono ?_
  rintro e w1 ⟨v, l, hl, _, rfl, hown, hc, hb⟩
  have HQ : Hid (KeysD w (.returned v) w1) := Lib.hid ⟨v, l, hl, rfl, own_flat hown, hb.fresh⟩
  clear H hown hc hb
  go_wp2_with fail
  go_ret
  exact HQ.out

/-- A short text. -/
def TxtP (n : Nat) (w : World) (e : Ending) (w' : World) : Prop := ∃ x : ByteArray, x.size ≤ n ∧ e = .returned (.string x) ∧ Below w.heap.size w w'

theorem drawParS_any (a : Option Addr) (len cap : Nat) (w : World) (h : Code0 w a len) :
    Calls Tryd.prog 10 #[.slice a len cap] w (TxtP 11 w) := by
  have H := Lib.hid h
  clear h
  go_enter Tryd.func10, Tryd.ntmps10
  go_wp2_with fail
  refine (specs_any w.heap.size w.heap.size a len cap 0 _ (cur_new H.out cap _) (by omega)).mono ?_
  rintro e w1 ⟨v, l, hl1, hl, hall, rfl, hown, hc, hb⟩
  have hall' : ∀ p ∈ l, 0 ≤ p.1 ∧ p.1 ≤ 5 := fun p hp => by have := hall p hp; omega
  have hts : (⟨(specText l).toArray⟩ : ByteArray).size ≤ 10 := by
    have h1 := specText_len l hall' l.length (Nat.le_refl _)
    rw [List.take_length] at h1
    show (specText l).toArray.size ≤ 10
    rw [List.size_toArray]
    omega
  have HT := Lib.hid (l2Text_any v l w1 (own_flat hown) (by omega) hall')
  have H1 := Lib.hid hc
  have HB1 := Lib.hid hb.fresh
  obtain ⟨tx, htx⟩ : ∃ tx, tx = (⟨(specText l).toArray⟩ : ByteArray) := ⟨_, rfl⟩
  rw [← htx] at hts HT
  clear H hown hc hb hall hall' hl1 hl htx
  have hg : w.heap.size + 1 ≤ w1.heap.size := H1.out.lt
  go_wp2_with fail
  refine HT.out.mono ?_
  rintro e w2 ⟨rfl, hb⟩
  have H2 := Lib.hid (H1.out.keep (hb.mono hg))
  have HB2 := Lib.hid (HB1.out.trans (hb.mono HB1.out.size))
  clear H1 HB1 hb HT
  go_wp2_with fail
  refine (one_any w.heap.size w.heap.size a len cap _ 3 _ H2.out (by omega) (by omega)).mono ?_
  rintro e w3 ⟨b, rfl, hc, hb⟩
  have hs2 := HB2.out.size
  have H3 := Lib.hid hc
  have HB3 := Lib.hid (HB2.out.trans (hb.below (Nat.le_refl _) hs2))
  clear H2 HB2 hc hb
  cases b
  · go_wp2_with fail
    go_ret
    exact ⟨tx, by omega, rfl, HB3.out⟩
  · have hs3 := HB3.out.size
    go_wp2_with fail
    refine (spoilt_any w.heap.size w.heap.size a len cap _ tx _ _ H3.out (by omega) (by omega) (by decide)).mono ?_
    rintro e w4 ⟨y, hy, rfl, hc, hb⟩
    have HQ : Hid (TxtP 11 w (.returned (.string y)) w4) := Lib.hid ⟨y, by omega, rfl, HB3.out.trans (hb.below (Nat.le_refl _) hs3)⟩
    clear H3 HB3 hc hb
    go_wp2_with fail
    go_ret
    exact HQ.out

end Go.Proofs.YtcbeoihgaccjcaaDoor
