/- The model's text of key specifications (l2Text, FormatSpecs), by its contract. -/
import Derived.Test.YtcbeoihgaccjcaaDoorSpecs
import Derived.Test.YtcbeoihgaccjcaaDoorNum
import Derived.Lib.Join
namespace Go.Proofs.YtcbeoihgaccjcaaDoor
open Go.RowKit

/-- The text of one key. -/
def keyText (p : Int × Bool × Bool × Bool) : List UInt8 := Lib.decDigits p.1.toNat ++ (if p.2.1 then [110] else []) ++ (if p.2.2.1 then [100] else []) ++ (if p.2.2.2 then [102] else [])
def specText (l : List (Int × Bool × Bool × Bool)) : List UInt8 := Lib.join (l.map keyText) [44]

theorem join_snoc' (x : List UInt8) (sep : List UInt8) : ∀ (xs : List (List UInt8)), xs ≠ [] → Lib.join (xs ++ [x]) sep = Lib.join xs sep ++ sep ++ x
  | [], h => absurd rfl h
  | y :: r, _ => by
    rw [List.cons_append, Lib.join_cons, Lib.join_cons]
    simp [Lib.joinTail]

theorem specText_snoc {l : List (Int × Bool × Bool × Bool)} {k : Nat} {p : Int × Bool × Bool × Bool} (h : l[k]? = some p) : specText (l.take (k + 1)) = specText (l.take k) ++ (if k = 0 then [] else [44]) ++ keyText p := by
  have hk := (List.getElem?_eq_some_iff.1 h).1
  unfold specText
  rw [List.take_add_one, h]
  cases k with
  | zero => simp [Lib.join]
  | succ k =>
    rw [List.map_append, show (some p).toList.map keyText = [keyText p] from rfl, join_snoc' _ _ _ (by
      intro e
      have := congrArg List.length e
      rw [List.length_map, List.length_take, List.length_nil] at this
      omega)]
    simp

theorem decDigits_small {u : Nat} (h : u ≤ 5) : (Lib.decDigits u).length = 1 := by rw [Lib.decDigits_one (by omega)]; rfl

theorem keyText_len {p : Int × Bool × Bool × Bool} (h : 0 ≤ p.1 ∧ p.1 ≤ 5) : (keyText p).length ≤ 4 := by
  have := decDigits_small (u := p.1.toNat) (by omega)
  unfold keyText
  obtain ⟨x, a, b, c⟩ := p
  have h2 : (Lib.decDigits x.toNat).length = 1 := this
  cases a <;> cases b <;> cases c <;> simp [h2]

theorem specText_len (l : List (Int × Bool × Bool × Bool)) (h : ∀ p ∈ l, 0 ≤ p.1 ∧ p.1 ≤ 5) : ∀ k, k ≤ l.length → (specText (l.take k)).length ≤ 5 * k := by
  intro k
  induction k with
  | zero => intro _; simp [specText, Lib.join]
  | succ k ih =>
    intro hk
    have hp : l[k]? = some l[k] := List.getElem?_eq_getElem hk
    rw [specText_snoc hp, List.length_append, List.length_append]
    have h1 := ih (by omega)
    have h2 := keyText_len (h l[k] (List.getElem_mem hk))
    have h3 : (if k = 0 then ([] : List UInt8) else [44]).length ≤ 1 := by split <;> simp
    omega

theorem cat_small (a b : ByteArray) (h : a.size + b.size ≤ 1000000) : ∃ c : ByteArray, c.data.toList = a.data.toList ++ b.data.toList ∧ c.size = a.size + b.size ∧ ∀ W, (Op.stringOp .add a b).run Tryd.prog W = .ok (.string c) W :=
  ⟨a ++ b, by simp, by simp, fun W => run_string_add_sum (w := W) (P := Tryd.prog) a b (by omega)⟩

set_option maxRecDepth 100000 in
set_option maxHeartbeats 8000000 in
theorem l2Text_any (v : Value) (l : List (Int × Bool × Bool × Bool)) (w : World) (hv : FlatAt w v l.length (keys l)) (hn : l.length ≤ 100) (hall : ∀ p ∈ l, 0 ≤ p.1 ∧ p.1 ≤ 5) :
    Calls Tryd.prog 23 #[v] w fun e w' => e = .returned (.string ⟨(specText l).toArray⟩) ∧ Below w.heap.size w w' := by
  obtain ⟨a, c, rfl, _, h⟩ := hv
  have H := Lib.hid h
  have HALL := Lib.hid hall
  clear h hall
  go_enter Tryd.func23, Tryd.ntmps23
  go_wp2_with fail
  go_loopw [3, 4] (fun t i wr => ∃ (k : Nat) (ob : ByteArray), k ≤ l.length ∧ i = .int .i64 k ∧ t = .string ob ∧ ob.size ≤ 5 * k ∧ ob.data.toList = specText (l.take k) ∧ Below w.heap.size w wr) (fun _ i _ => l.length - (intOf i).toNat)
  case atStart => exact ⟨0, ⟨#[]⟩, Nat.zero_le _, rfl, rfl, Nat.zero_le _, by simp [specText, Lib.join], Below.refl _ _⟩
  case round =>
    obtain ⟨k, ob, hk, rfl, rfl, hsz, hot, hb⟩ := hrel
    have HB := Lib.hid hb
    have HOT := Lib.hid hot
    clear hb hot
    by_cases hlt : k < l.length
    · obtain ⟨p, hp⟩ : ∃ p, l[k]? = some p := ⟨_, List.getElem?_eq_getElem hlt⟩
      have hr := HALL.out p (List.mem_of_getElem? hp)
      obtain ⟨b, o, rfl, hbb, hc0, hc1, hc2, hc3⟩ := keys_el H.out hp
      have HSN := Lib.hid (specText_snoc hp)
      obtain ⟨x, fa, fb, fc⟩ := p
      obtain ⟨u, rfl⟩ : ∃ u : Nat, x = u := ⟨x.toNat, by have := hr.1; simp at this; omega⟩
      have hu : u ≤ 5 := by have := hr.2; simp at this; omega
      have hd := decDigits_small hu
      have HW := Lib.hid (fun (W : World) (hW : Below w.heap.size w W) => And.intro ((hW.cell (p := ⟨b, o + k * 4, none⟩) hbb).trans hc0) (And.intro ((hW.cell (p := ⟨b, o + k * 4 + 1, none⟩) hbb).trans hc1) (And.intro ((hW.cell (p := ⟨b, o + k * 4 + 2, none⟩) hbb).trans hc2) ((hW.cell (p := ⟨b, o + k * 4 + 3, none⟩) hbb).trans hc3))))
      obtain ⟨hw0, hw1, hw2, hw3⟩ := HW.out wr HB.out
      obtain ⟨dg, hdg⟩ : ∃ dg : ByteArray, dg = ⟨(Lib.decDigits u).toArray⟩ := ⟨_, rfl⟩
      have hds : dg.size = 1 := by rw [hdg]; simp [ByteArray.size, hd]
      have hdl : dg.data.toList = Lib.decDigits u := by rw [hdg]
      have HN := Lib.hid (fun W => num_nat u W (by omega))
      rw [← hdg] at HN
      have HDL := Lib.hid hdl
      clear hc0 hc1 hc2 hc3 hp hr hd hdg hdl

      by_cases hk0 : k = 0
      · have HK0 := Lib.hid hk0
        have hq : k * 7 ≤ 5 := by omega
        clear hk0
        cases fa
        · cases fb
          · cases fc
            · obtain ⟨o1, ht1, hs1, hadd1⟩ := cat_small ob dg (by omega)
              have HT : Hid (o1.data.toList = specText (l.take (k + 1))) := Lib.hid (by
                rw [HSN.out, ht1, HOT.out, HDL.out]
                simp [keyText, HK0.out])
              have hfin : o1.size ≤ 5 * (k + 1) := by omega
              clear ht1
              go_wp2_with fail
              refine (HN.out _).mono ?_
              rintro e w1 ⟨rfl, q, rfl⟩
              have HB2 : Hid (Below w.heap.size w (wr.drewN q)) := Lib.hid (HB.out.trans ⟨rfl, rfl, rfl, Nat.le_refl _, fun _ _ => rfl⟩)
              go_wp2_with fail
              go_roundw
              case rel => exact ⟨k + 1, o1, by omega, by go_num, rfl, hfin, HT.out, HB2.out⟩
              case measure => simp [intOf]; omega
            · obtain ⟨o1, ht1, hs1, hadd1⟩ := cat_small ob dg (by omega)
              obtain ⟨o2, ht2, hs2, hadd2⟩ := cat_small o1 ⟨#[102]⟩ (by have : (⟨#[102]⟩ : ByteArray).size = 1 := rfl; omega)
              have hs2' : o2.size = o1.size + 1 := hs2
              have HT : Hid (o2.data.toList = specText (l.take (k + 1))) := Lib.hid (by
                rw [HSN.out, ht2, ht1, HOT.out, HDL.out]
                simp [keyText, HK0.out])
              have hfin : o2.size ≤ 5 * (k + 1) := by omega
              clear ht1 ht2
              go_wp2_with fail
              refine (HN.out _).mono ?_
              rintro e w1 ⟨rfl, q, rfl⟩
              have HB2 : Hid (Below w.heap.size w (wr.drewN q)) := Lib.hid (HB.out.trans ⟨rfl, rfl, rfl, Nat.le_refl _, fun _ _ => rfl⟩)
              go_wp2_with fail
              go_roundw
              case rel => exact ⟨k + 1, o2, by omega, by go_num, rfl, hfin, HT.out, HB2.out⟩
              case measure => simp [intOf]; omega
          · cases fc
            · obtain ⟨o1, ht1, hs1, hadd1⟩ := cat_small ob dg (by omega)
              obtain ⟨o2, ht2, hs2, hadd2⟩ := cat_small o1 ⟨#[100]⟩ (by have : (⟨#[100]⟩ : ByteArray).size = 1 := rfl; omega)
              have hs2' : o2.size = o1.size + 1 := hs2
              have HT : Hid (o2.data.toList = specText (l.take (k + 1))) := Lib.hid (by
                rw [HSN.out, ht2, ht1, HOT.out, HDL.out]
                simp [keyText, HK0.out])
              have hfin : o2.size ≤ 5 * (k + 1) := by omega
              clear ht1 ht2
              go_wp2_with fail
              refine (HN.out _).mono ?_
              rintro e w1 ⟨rfl, q, rfl⟩
              have HB2 : Hid (Below w.heap.size w (wr.drewN q)) := Lib.hid (HB.out.trans ⟨rfl, rfl, rfl, Nat.le_refl _, fun _ _ => rfl⟩)
              go_wp2_with fail
              go_roundw
              case rel => exact ⟨k + 1, o2, by omega, by go_num, rfl, hfin, HT.out, HB2.out⟩
              case measure => simp [intOf]; omega
            · obtain ⟨o1, ht1, hs1, hadd1⟩ := cat_small ob dg (by omega)
              obtain ⟨o2, ht2, hs2, hadd2⟩ := cat_small o1 ⟨#[100]⟩ (by have : (⟨#[100]⟩ : ByteArray).size = 1 := rfl; omega)
              have hs2' : o2.size = o1.size + 1 := hs2
              obtain ⟨o3, ht3, hs3, hadd3⟩ := cat_small o2 ⟨#[102]⟩ (by have : (⟨#[102]⟩ : ByteArray).size = 1 := rfl; omega)
              have hs3' : o3.size = o2.size + 1 := hs3
              have HT : Hid (o3.data.toList = specText (l.take (k + 1))) := Lib.hid (by
                rw [HSN.out, ht3, ht2, ht1, HOT.out, HDL.out]
                simp [keyText, HK0.out])
              have hfin : o3.size ≤ 5 * (k + 1) := by omega
              clear ht1 ht2 ht3
              go_wp2_with fail
              refine (HN.out _).mono ?_
              rintro e w1 ⟨rfl, q, rfl⟩
              have HB2 : Hid (Below w.heap.size w (wr.drewN q)) := Lib.hid (HB.out.trans ⟨rfl, rfl, rfl, Nat.le_refl _, fun _ _ => rfl⟩)
              go_wp2_with fail
              go_roundw
              case rel => exact ⟨k + 1, o3, by omega, by go_num, rfl, hfin, HT.out, HB2.out⟩
              case measure => simp [intOf]; omega
        · cases fb
          · cases fc
            · obtain ⟨o1, ht1, hs1, hadd1⟩ := cat_small ob dg (by omega)
              obtain ⟨o2, ht2, hs2, hadd2⟩ := cat_small o1 ⟨#[110]⟩ (by have : (⟨#[110]⟩ : ByteArray).size = 1 := rfl; omega)
              have hs2' : o2.size = o1.size + 1 := hs2
              have HT : Hid (o2.data.toList = specText (l.take (k + 1))) := Lib.hid (by
                rw [HSN.out, ht2, ht1, HOT.out, HDL.out]
                simp [keyText, HK0.out])
              have hfin : o2.size ≤ 5 * (k + 1) := by omega
              clear ht1 ht2
              go_wp2_with fail
              refine (HN.out _).mono ?_
              rintro e w1 ⟨rfl, q, rfl⟩
              have HB2 : Hid (Below w.heap.size w (wr.drewN q)) := Lib.hid (HB.out.trans ⟨rfl, rfl, rfl, Nat.le_refl _, fun _ _ => rfl⟩)
              go_wp2_with fail
              go_roundw
              case rel => exact ⟨k + 1, o2, by omega, by go_num, rfl, hfin, HT.out, HB2.out⟩
              case measure => simp [intOf]; omega
            · obtain ⟨o1, ht1, hs1, hadd1⟩ := cat_small ob dg (by omega)
              obtain ⟨o2, ht2, hs2, hadd2⟩ := cat_small o1 ⟨#[110]⟩ (by have : (⟨#[110]⟩ : ByteArray).size = 1 := rfl; omega)
              have hs2' : o2.size = o1.size + 1 := hs2
              obtain ⟨o3, ht3, hs3, hadd3⟩ := cat_small o2 ⟨#[102]⟩ (by have : (⟨#[102]⟩ : ByteArray).size = 1 := rfl; omega)
              have hs3' : o3.size = o2.size + 1 := hs3
              have HT : Hid (o3.data.toList = specText (l.take (k + 1))) := Lib.hid (by
                rw [HSN.out, ht3, ht2, ht1, HOT.out, HDL.out]
                simp [keyText, HK0.out])
              have hfin : o3.size ≤ 5 * (k + 1) := by omega
              clear ht1 ht2 ht3
              go_wp2_with fail
              refine (HN.out _).mono ?_
              rintro e w1 ⟨rfl, q, rfl⟩
              have HB2 : Hid (Below w.heap.size w (wr.drewN q)) := Lib.hid (HB.out.trans ⟨rfl, rfl, rfl, Nat.le_refl _, fun _ _ => rfl⟩)
              go_wp2_with fail
              go_roundw
              case rel => exact ⟨k + 1, o3, by omega, by go_num, rfl, hfin, HT.out, HB2.out⟩
              case measure => simp [intOf]; omega
          · cases fc
            · obtain ⟨o1, ht1, hs1, hadd1⟩ := cat_small ob dg (by omega)
              obtain ⟨o2, ht2, hs2, hadd2⟩ := cat_small o1 ⟨#[110]⟩ (by have : (⟨#[110]⟩ : ByteArray).size = 1 := rfl; omega)
              have hs2' : o2.size = o1.size + 1 := hs2
              obtain ⟨o3, ht3, hs3, hadd3⟩ := cat_small o2 ⟨#[100]⟩ (by have : (⟨#[100]⟩ : ByteArray).size = 1 := rfl; omega)
              have hs3' : o3.size = o2.size + 1 := hs3
              have HT : Hid (o3.data.toList = specText (l.take (k + 1))) := Lib.hid (by
                rw [HSN.out, ht3, ht2, ht1, HOT.out, HDL.out]
                simp [keyText, HK0.out])
              have hfin : o3.size ≤ 5 * (k + 1) := by omega
              clear ht1 ht2 ht3
              go_wp2_with fail
              refine (HN.out _).mono ?_
              rintro e w1 ⟨rfl, q, rfl⟩
              have HB2 : Hid (Below w.heap.size w (wr.drewN q)) := Lib.hid (HB.out.trans ⟨rfl, rfl, rfl, Nat.le_refl _, fun _ _ => rfl⟩)
              go_wp2_with fail
              go_roundw
              case rel => exact ⟨k + 1, o3, by omega, by go_num, rfl, hfin, HT.out, HB2.out⟩
              case measure => simp [intOf]; omega
            · obtain ⟨o1, ht1, hs1, hadd1⟩ := cat_small ob dg (by omega)
              obtain ⟨o2, ht2, hs2, hadd2⟩ := cat_small o1 ⟨#[110]⟩ (by have : (⟨#[110]⟩ : ByteArray).size = 1 := rfl; omega)
              have hs2' : o2.size = o1.size + 1 := hs2
              obtain ⟨o3, ht3, hs3, hadd3⟩ := cat_small o2 ⟨#[100]⟩ (by have : (⟨#[100]⟩ : ByteArray).size = 1 := rfl; omega)
              have hs3' : o3.size = o2.size + 1 := hs3
              obtain ⟨o4, ht4, hs4, hadd4⟩ := cat_small o3 ⟨#[102]⟩ (by have : (⟨#[102]⟩ : ByteArray).size = 1 := rfl; omega)
              have hs4' : o4.size = o3.size + 1 := hs4
              have HT : Hid (o4.data.toList = specText (l.take (k + 1))) := Lib.hid (by
                rw [HSN.out, ht4, ht3, ht2, ht1, HOT.out, HDL.out]
                simp [keyText, HK0.out])
              have hfin : o4.size ≤ 5 * (k + 1) := by omega
              clear ht1 ht2 ht3 ht4
              go_wp2_with fail
              refine (HN.out _).mono ?_
              rintro e w1 ⟨rfl, q, rfl⟩
              have HB2 : Hid (Below w.heap.size w (wr.drewN q)) := Lib.hid (HB.out.trans ⟨rfl, rfl, rfl, Nat.le_refl _, fun _ _ => rfl⟩)
              go_wp2_with fail
              go_roundw
              case rel => exact ⟨k + 1, o4, by omega, by go_num, rfl, hfin, HT.out, HB2.out⟩
              case measure => simp [intOf]; omega
      · have hkp : 0 < k := by omega
        cases fa
        · cases fb
          · cases fc
            · obtain ⟨o1, ht1, hs1, hadd1⟩ := cat_small ob ⟨#[44]⟩ (by have : (⟨#[44]⟩ : ByteArray).size = 1 := rfl; omega)
              have hs1' : o1.size = ob.size + 1 := hs1
              obtain ⟨o2, ht2, hs2, hadd2⟩ := cat_small o1 dg (by omega)
              have HT : Hid (o2.data.toList = specText (l.take (k + 1))) := Lib.hid (by
                rw [HSN.out, ht2, ht1, HOT.out, HDL.out]
                simp [keyText, show ¬ k = 0 by omega])
              have hfin : o2.size ≤ 5 * (k + 1) := by omega
              clear ht1 ht2
              go_wp2_with fail
              refine (HN.out _).mono ?_
              rintro e w1 ⟨rfl, q, rfl⟩
              have HB2 : Hid (Below w.heap.size w (wr.drewN q)) := Lib.hid (HB.out.trans ⟨rfl, rfl, rfl, Nat.le_refl _, fun _ _ => rfl⟩)
              go_wp2_with fail
              go_roundw
              case rel => exact ⟨k + 1, o2, by omega, by go_num, rfl, hfin, HT.out, HB2.out⟩
              case measure => simp [intOf]; omega
            · obtain ⟨o1, ht1, hs1, hadd1⟩ := cat_small ob ⟨#[44]⟩ (by have : (⟨#[44]⟩ : ByteArray).size = 1 := rfl; omega)
              have hs1' : o1.size = ob.size + 1 := hs1
              obtain ⟨o2, ht2, hs2, hadd2⟩ := cat_small o1 dg (by omega)
              obtain ⟨o3, ht3, hs3, hadd3⟩ := cat_small o2 ⟨#[102]⟩ (by have : (⟨#[102]⟩ : ByteArray).size = 1 := rfl; omega)
              have hs3' : o3.size = o2.size + 1 := hs3
              have HT : Hid (o3.data.toList = specText (l.take (k + 1))) := Lib.hid (by
                rw [HSN.out, ht3, ht2, ht1, HOT.out, HDL.out]
                simp [keyText, show ¬ k = 0 by omega])
              have hfin : o3.size ≤ 5 * (k + 1) := by omega
              clear ht1 ht2 ht3
              go_wp2_with fail
              refine (HN.out _).mono ?_
              rintro e w1 ⟨rfl, q, rfl⟩
              have HB2 : Hid (Below w.heap.size w (wr.drewN q)) := Lib.hid (HB.out.trans ⟨rfl, rfl, rfl, Nat.le_refl _, fun _ _ => rfl⟩)
              go_wp2_with fail
              go_roundw
              case rel => exact ⟨k + 1, o3, by omega, by go_num, rfl, hfin, HT.out, HB2.out⟩
              case measure => simp [intOf]; omega
          · cases fc
            · obtain ⟨o1, ht1, hs1, hadd1⟩ := cat_small ob ⟨#[44]⟩ (by have : (⟨#[44]⟩ : ByteArray).size = 1 := rfl; omega)
              have hs1' : o1.size = ob.size + 1 := hs1
              obtain ⟨o2, ht2, hs2, hadd2⟩ := cat_small o1 dg (by omega)
              obtain ⟨o3, ht3, hs3, hadd3⟩ := cat_small o2 ⟨#[100]⟩ (by have : (⟨#[100]⟩ : ByteArray).size = 1 := rfl; omega)
              have hs3' : o3.size = o2.size + 1 := hs3
              have HT : Hid (o3.data.toList = specText (l.take (k + 1))) := Lib.hid (by
                rw [HSN.out, ht3, ht2, ht1, HOT.out, HDL.out]
                simp [keyText, show ¬ k = 0 by omega])
              have hfin : o3.size ≤ 5 * (k + 1) := by omega
              clear ht1 ht2 ht3
              go_wp2_with fail
              refine (HN.out _).mono ?_
              rintro e w1 ⟨rfl, q, rfl⟩
              have HB2 : Hid (Below w.heap.size w (wr.drewN q)) := Lib.hid (HB.out.trans ⟨rfl, rfl, rfl, Nat.le_refl _, fun _ _ => rfl⟩)
              go_wp2_with fail
              go_roundw
              case rel => exact ⟨k + 1, o3, by omega, by go_num, rfl, hfin, HT.out, HB2.out⟩
              case measure => simp [intOf]; omega
            · obtain ⟨o1, ht1, hs1, hadd1⟩ := cat_small ob ⟨#[44]⟩ (by have : (⟨#[44]⟩ : ByteArray).size = 1 := rfl; omega)
              have hs1' : o1.size = ob.size + 1 := hs1
              obtain ⟨o2, ht2, hs2, hadd2⟩ := cat_small o1 dg (by omega)
              obtain ⟨o3, ht3, hs3, hadd3⟩ := cat_small o2 ⟨#[100]⟩ (by have : (⟨#[100]⟩ : ByteArray).size = 1 := rfl; omega)
              have hs3' : o3.size = o2.size + 1 := hs3
              obtain ⟨o4, ht4, hs4, hadd4⟩ := cat_small o3 ⟨#[102]⟩ (by have : (⟨#[102]⟩ : ByteArray).size = 1 := rfl; omega)
              have hs4' : o4.size = o3.size + 1 := hs4
              have HT : Hid (o4.data.toList = specText (l.take (k + 1))) := Lib.hid (by
                rw [HSN.out, ht4, ht3, ht2, ht1, HOT.out, HDL.out]
                simp [keyText, show ¬ k = 0 by omega])
              have hfin : o4.size ≤ 5 * (k + 1) := by omega
              clear ht1 ht2 ht3 ht4
              go_wp2_with fail
              refine (HN.out _).mono ?_
              rintro e w1 ⟨rfl, q, rfl⟩
              have HB2 : Hid (Below w.heap.size w (wr.drewN q)) := Lib.hid (HB.out.trans ⟨rfl, rfl, rfl, Nat.le_refl _, fun _ _ => rfl⟩)
              go_wp2_with fail
              go_roundw
              case rel => exact ⟨k + 1, o4, by omega, by go_num, rfl, hfin, HT.out, HB2.out⟩
              case measure => simp [intOf]; omega
        · cases fb
          · cases fc
            · obtain ⟨o1, ht1, hs1, hadd1⟩ := cat_small ob ⟨#[44]⟩ (by have : (⟨#[44]⟩ : ByteArray).size = 1 := rfl; omega)
              have hs1' : o1.size = ob.size + 1 := hs1
              obtain ⟨o2, ht2, hs2, hadd2⟩ := cat_small o1 dg (by omega)
              obtain ⟨o3, ht3, hs3, hadd3⟩ := cat_small o2 ⟨#[110]⟩ (by have : (⟨#[110]⟩ : ByteArray).size = 1 := rfl; omega)
              have hs3' : o3.size = o2.size + 1 := hs3
              have HT : Hid (o3.data.toList = specText (l.take (k + 1))) := Lib.hid (by
                rw [HSN.out, ht3, ht2, ht1, HOT.out, HDL.out]
                simp [keyText, show ¬ k = 0 by omega])
              have hfin : o3.size ≤ 5 * (k + 1) := by omega
              clear ht1 ht2 ht3
              go_wp2_with fail
              refine (HN.out _).mono ?_
              rintro e w1 ⟨rfl, q, rfl⟩
              have HB2 : Hid (Below w.heap.size w (wr.drewN q)) := Lib.hid (HB.out.trans ⟨rfl, rfl, rfl, Nat.le_refl _, fun _ _ => rfl⟩)
              go_wp2_with fail
              go_roundw
              case rel => exact ⟨k + 1, o3, by omega, by go_num, rfl, hfin, HT.out, HB2.out⟩
              case measure => simp [intOf]; omega
            · obtain ⟨o1, ht1, hs1, hadd1⟩ := cat_small ob ⟨#[44]⟩ (by have : (⟨#[44]⟩ : ByteArray).size = 1 := rfl; omega)
              have hs1' : o1.size = ob.size + 1 := hs1
              obtain ⟨o2, ht2, hs2, hadd2⟩ := cat_small o1 dg (by omega)
              obtain ⟨o3, ht3, hs3, hadd3⟩ := cat_small o2 ⟨#[110]⟩ (by have : (⟨#[110]⟩ : ByteArray).size = 1 := rfl; omega)
              have hs3' : o3.size = o2.size + 1 := hs3
              obtain ⟨o4, ht4, hs4, hadd4⟩ := cat_small o3 ⟨#[102]⟩ (by have : (⟨#[102]⟩ : ByteArray).size = 1 := rfl; omega)
              have hs4' : o4.size = o3.size + 1 := hs4
              have HT : Hid (o4.data.toList = specText (l.take (k + 1))) := Lib.hid (by
                rw [HSN.out, ht4, ht3, ht2, ht1, HOT.out, HDL.out]
                simp [keyText, show ¬ k = 0 by omega])
              have hfin : o4.size ≤ 5 * (k + 1) := by omega
              clear ht1 ht2 ht3 ht4
              go_wp2_with fail
              refine (HN.out _).mono ?_
              rintro e w1 ⟨rfl, q, rfl⟩
              have HB2 : Hid (Below w.heap.size w (wr.drewN q)) := Lib.hid (HB.out.trans ⟨rfl, rfl, rfl, Nat.le_refl _, fun _ _ => rfl⟩)
              go_wp2_with fail
              go_roundw
              case rel => exact ⟨k + 1, o4, by omega, by go_num, rfl, hfin, HT.out, HB2.out⟩
              case measure => simp [intOf]; omega
          · cases fc
            · obtain ⟨o1, ht1, hs1, hadd1⟩ := cat_small ob ⟨#[44]⟩ (by have : (⟨#[44]⟩ : ByteArray).size = 1 := rfl; omega)
              have hs1' : o1.size = ob.size + 1 := hs1
              obtain ⟨o2, ht2, hs2, hadd2⟩ := cat_small o1 dg (by omega)
              obtain ⟨o3, ht3, hs3, hadd3⟩ := cat_small o2 ⟨#[110]⟩ (by have : (⟨#[110]⟩ : ByteArray).size = 1 := rfl; omega)
              have hs3' : o3.size = o2.size + 1 := hs3
              obtain ⟨o4, ht4, hs4, hadd4⟩ := cat_small o3 ⟨#[100]⟩ (by have : (⟨#[100]⟩ : ByteArray).size = 1 := rfl; omega)
              have hs4' : o4.size = o3.size + 1 := hs4
              have HT : Hid (o4.data.toList = specText (l.take (k + 1))) := Lib.hid (by
                rw [HSN.out, ht4, ht3, ht2, ht1, HOT.out, HDL.out]
                simp [keyText, show ¬ k = 0 by omega])
              have hfin : o4.size ≤ 5 * (k + 1) := by omega
              clear ht1 ht2 ht3 ht4
              go_wp2_with fail
              refine (HN.out _).mono ?_
              rintro e w1 ⟨rfl, q, rfl⟩
              have HB2 : Hid (Below w.heap.size w (wr.drewN q)) := Lib.hid (HB.out.trans ⟨rfl, rfl, rfl, Nat.le_refl _, fun _ _ => rfl⟩)
              go_wp2_with fail
              go_roundw
              case rel => exact ⟨k + 1, o4, by omega, by go_num, rfl, hfin, HT.out, HB2.out⟩
              case measure => simp [intOf]; omega
            · obtain ⟨o1, ht1, hs1, hadd1⟩ := cat_small ob ⟨#[44]⟩ (by have : (⟨#[44]⟩ : ByteArray).size = 1 := rfl; omega)
              have hs1' : o1.size = ob.size + 1 := hs1
              obtain ⟨o2, ht2, hs2, hadd2⟩ := cat_small o1 dg (by omega)
              obtain ⟨o3, ht3, hs3, hadd3⟩ := cat_small o2 ⟨#[110]⟩ (by have : (⟨#[110]⟩ : ByteArray).size = 1 := rfl; omega)
              have hs3' : o3.size = o2.size + 1 := hs3
              obtain ⟨o4, ht4, hs4, hadd4⟩ := cat_small o3 ⟨#[100]⟩ (by have : (⟨#[100]⟩ : ByteArray).size = 1 := rfl; omega)
              have hs4' : o4.size = o3.size + 1 := hs4
              obtain ⟨o5, ht5, hs5, hadd5⟩ := cat_small o4 ⟨#[102]⟩ (by have : (⟨#[102]⟩ : ByteArray).size = 1 := rfl; omega)
              have hs5' : o5.size = o4.size + 1 := hs5
              have HT : Hid (o5.data.toList = specText (l.take (k + 1))) := Lib.hid (by
                rw [HSN.out, ht5, ht4, ht3, ht2, ht1, HOT.out, HDL.out]
                simp [keyText, show ¬ k = 0 by omega])
              have hfin : o5.size ≤ 5 * (k + 1) := by omega
              clear ht1 ht2 ht3 ht4 ht5
              go_wp2_with fail
              refine (HN.out _).mono ?_
              rintro e w1 ⟨rfl, q, rfl⟩
              have HB2 : Hid (Below w.heap.size w (wr.drewN q)) := Lib.hid (HB.out.trans ⟨rfl, rfl, rfl, Nat.le_refl _, fun _ _ => rfl⟩)
              go_wp2_with fail
              go_roundw
              case rel => exact ⟨k + 1, o5, by omega, by go_num, rfl, hfin, HT.out, HB2.out⟩
              case measure => simp [intOf]; omega
    · obtain rfl : k = l.length := by omega
      have HE : Hid (ob = ⟨(specText l).toArray⟩) := Lib.hid (by
        have := HOT.out
        rw [List.take_length] at this
        apply ByteArray.ext
        apply Array.toList_inj.1
        rw [this])
      go_wp2_with fail
      go_ret
      exact ⟨by rw [← HE.out]; rfl, HB.out⟩

end Go.Proofs.YtcbeoihgaccjcaaDoor
