/- The program's LongestIncreasing, by its contract. -/
import Derived.Test.YtjlldjekjnlcaaaLisQ
import Derived.Test.YtjlldjekjnlcaaaIList
import Derived.Test.YtjlldjekjnlcaaaRetIE
import Derived.Test.YtjlldjekjnlcaaaIntS
import Derived.Test.YtjlldjekjnlcaaaOwnFlat
import Derived.Deep.RegionWith
import Derived.BigRegion
import Derived.BigQuiet
import Derived.Deep.QuietTactic
import Derived.StillTailTactics
import Derived.Laws.BitsLemmas
namespace Go.Proofs.Ytjlldjekjnlcaaa
open Go.RowKit P Iv
set_option linter.unusedVariables false

attribute [local go_sem ↓ high] builtin_append_held

set_option maxRecDepth 100000 in
set_option maxHeartbeats 4000000 in
theorem increasingLengths_any (v : Value) (l : List Int) (w : World) (hv : FlatAt w v l.length (ints l)) (hn : l.length ≤ 64) :
    Calls Try.prog 66 #[v] w (RowI (lis l) w) := by
  obtain ⟨a, c, rfl, _, hx⟩ := hv
  have HE := Lib.hid (fun j x (hj : l[j]? = some x) => by
    obtain ⟨b, o, e, hb, hh⟩ := hx _ _ (ints_at hj)
    exact (⟨b, o, e, hb, hh⟩ : ∃ b o, a = some ⟨b, o, none⟩ ∧ b < w.heap.size ∧ w.cell? ⟨b, o + j, none⟩ = some (.int .i64 x)))
  have hmk := makeInts l.length (by omega) w
  have HG := Lib.hid (CellRow.of_row (heap_alloc_new w (.cells (ints (List.replicate l.length 0)).toArray 3)))
  have HB0 : Hid (Below w.heap.size w (w.alloc (.cells (ints (List.replicate l.length 0)).toArray 3))) := Lib.hid ((Below.refl _ _).alloc (Nat.le_refl _) _)
  obtain ⟨g, hg⟩ : ∃ g, g = w.heap.size := ⟨_, rfl⟩
  rw [← hg] at hmk HG
  have HGE := Lib.hid hg
  have hwn : IntKind.i64.wrap ((l.length : Int) - 1) = (l.length : Int) - 1 := by rw [IntKind.wrap_i64]; omega
  have HST : Hid (List.replicate l.length 0 ++ lis (l.drop l.length) = List.replicate l.length 0) := Lib.hid (by rw [List.drop_length]; simp [lis])
  clear hx hg
  go_enter Try.func66, Try.ntmps66
  go_wp2_with fail
  clear hmk hwn
  go_loopw [4, 5] (fun i _ wr => ∃ m : Nat, m ≤ l.length ∧ i = .int .i64 ((m : Int) - 1) ∧ CellRow wr g (ints (List.replicate m 0 ++ lis (l.drop m))) ∧ Below w.heap.size w wr) (fun i _ _ => (intOf i + 1).toNat)
  case atStart => exact ⟨l.length, Nat.le_refl _, rfl, by rw [HST.out]; exact HG.out, HB0.out⟩
  case round =>
    obtain ⟨m, hm, rfl, hr, hb⟩ := hrel
    have HR := Lib.hid hr
    have HB := Lib.hid hb
    clear hr hb HG HB0
    by_cases hlt : 0 < m
    · obtain ⟨p, rfl⟩ : ∃ p, m = p + 1 := ⟨m - 1, by omega⟩
      have hpe : (((p + 1 : Nat) : Int) - 1) = (p : Int) := by omega
      rw [hpe]
      have hx := at_getD (l := l) (k := p) (by omega)
      obtain ⟨x, he⟩ : ∃ x, x = l.getD p 0 := ⟨_, rfl⟩
      rw [← he] at hx
      obtain ⟨b, o, rfl, hbb, hcx0⟩ := HE.out _ _ hx
      have HX := Lib.hid hx
      have hw1 : IntKind.i64.wrap ((p : Int) + 1) = ((p + 1 : Nat) : Int) := by rw [IntKind.wrap_i64]; omega
      have hw2 : IntKind.i64.wrap ((p : Int) - 1) = (p : Int) - 1 := by rw [IntKind.wrap_i64]; omega
      have HRS : Hid (CellRow wr g (ints (rowL l p (overTo x (zipL l p) 0)))) := Lib.hid (by rw [overTo_zero, rowL_start]; exact HR.out)
      have HZ := Lib.hid (fun y j (hj : p < j) (h : j < l.length) => rowL_zip (l := l) (p := p) y hj h)
      have HOB := Lib.hid (fun k => overTo_bound (l := l) (p := p) x k)
      have HOS := Lib.hid (fun k a (h : (zipL l p)[k]? = some a) => overTo_succ (x := x) h)
      have HOE := Lib.hid (fun k (h : l.length ≤ p + 1 + k) => overTo_end (l := l) (p := p) x h)
      have HSE := Lib.hid (fun y z => rowL_set l p y z)
      have HAT := Lib.hid (fun y => rowL_at l p y)
      have HRL := Lib.hid (fun y => rowL_length (l := l) (p := p) (by omega) y)
      have HDN := Lib.hid (rowL_done HX.out)
      have hpl : p < l.length := by omega
      clear hx he hcx0 hpe HR
      go_wp2_with fail
      go_loopw [5] (fun i w2 => ∃ (j : Nat), p + 1 ≤ j ∧ j ≤ l.length ∧ i = .int .i64 j ∧ CellRow w2 g (ints (rowL l p (overTo x (zipL l p) (j - (p + 1))))) ∧ Below w.heap.size w w2) (fun i _ => l.length - (intOf i).toNat)
      case atStart => exact ⟨p + 1, Nat.le_refl _, by omega, rfl, by rw [Nat.sub_self]; exact HRS.out, HB.out⟩
      case round =>
        obtain ⟨j, hj1, hj2, rfl, hr, hb⟩ := hrel
        have HR := Lib.hid hr
        have HB2 := Lib.hid hb
        clear hr hb HRS HB
        obtain ⟨cur, hcur⟩ : ∃ u, u = overTo x (zipL l p) (j - (p + 1)) := ⟨_, rfl⟩
        rw [← hcur] at HR
        have hcb := HOB.out (j - (p + 1))
        rw [← hcur] at hcb
        obtain ⟨hcb0, hcb1⟩ := hcb
        obtain ⟨hcp, hfp⟩ := HR.out.2 p _ (ints_at (HAT.out cur))
        have HCUR := Lib.hid hcur
        have hgw := HR.out.1
        clear hcur
        by_cases hjl : j < l.length
        · obtain ⟨s, hs1, hs2, hs3, hs4⟩ := HZ.out cur j (by omega) hjl
          have hcs := (HR.out.2 j _ (ints_at hs1)).1
          have hy := at_getD (l := l) hjl
          obtain ⟨y, he⟩ : ∃ y, y = l.getD j 0 := ⟨_, rfl⟩
          rw [← he] at hy hs2
          obtain ⟨b2, o2, he2, _, hcy0⟩ := HE.out _ _ hy
          simp at he2
          obtain ⟨rfl, rfl⟩ := he2
          obtain ⟨b2, o2, he2, _, hcx0⟩ := HE.out _ _ HX.out
          simp at he2
          obtain ⟨rfl, rfl⟩ := he2
          have hcx : wr.cell? ⟨b, o + p, none⟩ = some (.int .i64 x) := (HB2.out.cell (p := ⟨b, o + p, none⟩) hbb).trans hcx0
          have hcy : wr.cell? ⟨b, o + j, none⟩ = some (.int .i64 y) := (HB2.out.cell (p := ⟨b, o + j, none⟩) hbb).trans hcy0
          have HSS := Lib.hid (HOS.out _ _ hs2)
          have hjj : Hid (j + 1 - (p + 1) = j - (p + 1) + 1) := Lib.hid (by omega)
          rw [← HCUR.out] at HSS
          have HS1 := Lib.hid hs1
          clear hs1 hs2 hy he hcy0 hcx0
          by_cases hd : x < y
          · have hgt : decide (x < y) = true := decide_eq_true hd
            obtain ⟨u, hu⟩ : ∃ u, u = max cur s := ⟨_, rfl⟩
            have hmx : max cur s = u := hu.symm
            have HN : Hid (∀ W : World, W.heap = wr.heap → CellRow W g (ints (rowL l p cur)) ∧ CellRow (W.setCell ⟨g, p, none⟩ (.int .i64 u)) g (ints (rowL l p (overTo x (zipL l p) (j + 1 - (p + 1)))))) := Lib.hid (fun W hW => by
              have h0 : CellRow W g (ints (rowL l p cur)) := HR.out.same (by rw [hW]) (by rw [hW]; exact Nat.le_refl _)
              have h1 := h0.set p (.int .i64 u) (by rw [ints_length, HRL.out]; exact hpl)
              rw [ints_set, HSE.out] at h1
              rw [hjj.out, HSS.out, if_pos hd, ← hu]
              exact ⟨h0, h1⟩)
            clear hu hd hcp hcs hfp hgw
            go_wp2_with fail
            go_quiet (fail)
            obtain ⟨W, hW⟩ : ∃ W, W = wr.drewN nq := ⟨_, rfl⟩
            rw [← hW]
            have HBW : Hid (Below w.heap.size w W) := Lib.hid (by rw [hW]; exact HB2.out.trans ⟨rfl, rfl, rfl, Nat.le_refl _, fun _ _ => rfl⟩)
            obtain ⟨hrw, hrs⟩ := HN.out W (by rw [hW]; rfl)
            have HNS := Lib.hid hrs
            obtain ⟨hcp, hfp⟩ := hrw.2 p _ (ints_at (HAT.out cur))
            have hcs := (hrw.2 j _ (ints_at HS1.out)).1
            have hgw := hrw.1
            have HBN : Hid (Below w.heap.size w (W.setCell ⟨g, p, none⟩ (.int .i64 u))) := Lib.hid (HBW.out.setCell (p := ⟨g, p, none⟩) (by rw [HGE.out]; exact Nat.le_refl _) _)
            clear hW hrw hrs hcx hcy
            go_wp2_with fail
            go_still_tail 12, (by kernel_rfl)
            go_wp2_with fail
            go_roundw
            case rel => exact ⟨j + 1, by omega, by omega, by go_num, HNS.out, HBN.out.drew⟩
            case measure => simp [intOf]; omega
          · have hgt : decide (x < y) = false := decide_eq_false hd
            have HN : Hid (CellRow wr g (ints (rowL l p (overTo x (zipL l p) (j + 1 - (p + 1)))))) := Lib.hid (by rw [hjj.out, HSS.out, if_neg hd]; exact HR.out)
            clear hd
            go_wp2_with fail
            go_quiet (fail)
            go_wp2_with fail
            go_roundw
            case rel => exact ⟨j + 1, by omega, by omega, by go_num, HN.out.same rfl (Nat.le_refl _), HB2.out.trans ⟨rfl, rfl, rfl, Nat.le_refl _, fun _ _ => rfl⟩⟩
            case measure => simp [intOf]; omega
        · have HN : Hid (CellRow (wr.setCell ⟨g, p, none⟩ (.int .i64 (cur + 1))) g (ints (List.replicate p 0 ++ lis (l.drop p)))) := Lib.hid (by
            have h1 := HR.out.set p (.int .i64 (cur + 1)) (by rw [ints_length, HRL.out]; exact hpl)
            rw [ints_set, HSE.out, HCUR.out, HOE.out _ (by omega), Int.add_comm, HDN.out] at h1
            rw [HCUR.out, HOE.out _ (by omega), Int.add_comm]
            exact h1)
          have HBN : Hid (Below w.heap.size w (wr.setCell ⟨g, p, none⟩ (.int .i64 (cur + 1)))) := Lib.hid (HB2.out.setCell (p := ⟨g, p, none⟩) (by rw [HGE.out]; exact Nat.le_refl _) _)
          go_wp2_with fail
          go_roundw
          case rel => exact ⟨p, by omega, rfl, HN.out, HBN.out⟩
          case measure => simp [intOf]
    · obtain rfl : m = 0 := by omega
      have HRES : Hid (RowI (lis l) w (.returned (.slice (some ⟨g, 0, none⟩) l.length l.length)) wr) := Lib.hid (by
        have := HR.out
        rw [List.drop_zero, List.replicate_zero, List.nil_append] at this
        exact ⟨g, l.length, by rw [lis_length], by rw [lis_length]; exact Nat.le_refl _, by rw [HGE.out]; exact Nat.le_refl _, this, HB.out⟩)
      clear HR
      have hz : (((0 : Nat) : Int) - 1) = -1 := rfl
      rw [hz]
      go_wp2_with fail
      go_ret
      exact HRES.out

set_option maxRecDepth 100000 in
set_option maxHeartbeats 4000000 in
theorem implLi_any (v : Value) (l : List Int) (w : World) (hv : FlatAt w v l.length (ints l)) (hn : l.length ≤ 1048576) :
    Calls Try.prog 30 #[v] w (RetIE (liF l) w) := by
  have HV := Lib.hid hv
  obtain ⟨a, c, rfl, _⟩ := hv
  by_cases hok : OkL l
  · have hd : decide (OkL l) = true := decide_eq_true hok
    have HI := Lib.hid (fun W (h : FlatAt W (.slice a l.length c) l.length (ints l)) => by have := implValidList_any _ l W h hn; rw [hd] at this; exact this)
    have HIL := Lib.hid (fun W (h : FlatAt W (.slice a l.length c) l.length (ints l)) => increasingLengths_any _ l W h hok.1)
    have HF := Lib.hid (liF_yes hok)
    have hl64 := hok.1
    obtain ⟨L, hL⟩ : ∃ L, L = lis l := ⟨_, rfl⟩
    have HLL : Hid (liL l = nats (pk L (best L) 0)) := Lib.hid (by rw [hL]; rfl)
    have HPL : Hid ((pk L (best L) 0).length ≤ 64) := Lib.hid (by have := pk_len L (best L) 0; rw [hL, lis_length] at this; rw [hL]; omega)
    have HB64 : Hid (best L ≤ 64) := Lib.hid (by have := lis_best l; rw [hL]; omega)
    have HSM : Hid (∀ x ∈ L, 1 ≤ x ∧ x ≤ 64) := Lib.hid (fun x hx => by rw [hL] at hx; have := lis_pos x hx; have := lis_small x hx; omega)
    have HLN : Hid (L.length = l.length) := Lib.hid (by rw [hL, lis_length])
    have hll : L.length ≤ 64 := by rw [hL, lis_length]; exact hl64
    rw [← hL] at HIL
    clear hok hd hL
    go_enter Try.func30, Try.ntmps30
    go_wp2_with fail
    refine (HI.out _ HV.out).mono ?_
    rintro e w1 ⟨rfl, hb1⟩
    have HV1 := Lib.hid (HV.out.below hb1)
    have HB1 := Lib.hid hb1
    clear hb1 HI HV
    go_wp2_with fail
    refine (HIL.out _ HV1.out).mono ?_
    rintro e w2 ⟨g, cg, rfl, hcg, hg, hr, hb2⟩
    have HR := Lib.hid hr
    have HB2 := Lib.hid (HB1.out.trans (hb2.mono HB1.out.size))
    clear hr hb2 hg HIL HV1 HB1
    go_wp2_with fail
    go_loopw [5, 7, 18] (fun m _ i wr => ∃ (k : Nat), k ≤ L.length ∧ i = .int .i64 k ∧ m = .int .i64 (best (L.take k)) ∧ wr = w2) (fun _ _ i _ => L.length - (intOf i).toNat)
    case atStart => exact ⟨0, Nat.zero_le _, rfl, rfl, rfl⟩
    case round =>
      obtain ⟨k, hk, rfl, rfl, hwe⟩ := hrel
      obtain rfl : w2 = wr := hwe.symm
      by_cases hlt : k < L.length
      · obtain ⟨x, hx⟩ : ∃ x, L[k]? = some x := ⟨_, List.getElem?_eq_getElem hlt⟩
        have hcx := (HR.out.2 _ _ (ints_at hx)).1
        have hgw := HR.out.1
        have HT := Lib.hid (best_take hx)
        obtain ⟨b, hb⟩ : ∃ b, b = best (L.take k) := ⟨_, rfl⟩
        rw [← hb] at HT ⊢
        obtain ⟨u, hu⟩ : ∃ u, max b x = u := ⟨_, rfl⟩
        have HU := Lib.hid hu
        clear hx hb
        go_wp2_with fail
        go_roundw
        case rel => exact ⟨k + 1, by omega, by go_num, by rw [HT.out, HU.out], by trivial⟩
        case measure => simp [intOf]; omega
      · obtain rfl : k = L.length := by omega
        have HBT : Hid (best (L.take L.length) = best L) := Lib.hid (by rw [List.take_length])
        rw [HBT.out]
        obtain ⟨B, hB⟩ : ∃ B, B = best L := ⟨_, rfl⟩
        have HBE := Lib.hid hB
        rw [← hB] at HLL HPL HB64 ⊢
        have HB0 : Hid (0 ≤ B) := Lib.hid (by rw [hB]; exact best_nonneg L)
        have HS0 : Hid (Held w2.heap.size (w2.alloc (.cells #[] 3)) (.slice (some ⟨w2.heap.size, 0, none⟩) 0 0) (nats [])) := Lib.hid (Held.start w2 w2.heap.size (Nat.le_refl _))
        have HBA : Hid (Below w2.heap.size w2 (w2.alloc (.cells #[] 3))) := Lib.hid ((Below.refl _ _).alloc (Nat.le_refl _) _)
        clear hB HBT
        go_wp2_with fail
        go_loopw [5, 8, 9, 10, 29] (fun m out _ _ i wv => ∃ (k : Nat) (D : List Nat) (M : Int), k ≤ L.length ∧ i = .int .i64 k ∧ m = .int .i64 M ∧ 0 ≤ M ∧ M ≤ 64 ∧ Hid (D ++ pk (L.drop k) M k = pk L B 0) ∧ Held w2.heap.size wv out (nats D) ∧ Below w2.heap.size w2 wv) (fun _ _ _ _ i _ => L.length - (intOf i).toNat)
        case atStart => exact ⟨0, [], B, Nat.zero_le _, rfl, rfl, HB0.out, HB64.out, Lib.hid rfl, HS0.out, HBA.out⟩
        case round =>
          obtain ⟨k, D, M, hk, rfl, rfl, hM0, hM1, HD, hH, hb⟩ := hrel
          have HH := Lib.hid hH
          have HB := Lib.hid hb
          obtain ⟨go, co, rfl, hgo, hco, hro⟩ := hH.row
          have hDl : D.length ≤ 64 := by have h1 := HPL.out; have h2 := congrArg List.length HD.out; rw [List.length_append] at h2; omega
          have HDL := Lib.hid hDl
          clear hb hH hro HS0 HBA hDl
          by_cases hlt : k < L.length
          · obtain ⟨x, hx⟩ : ∃ x, L[k]? = some x := ⟨_, List.getElem?_eq_getElem hlt⟩
            have hcx : wr.cell? ⟨g, k, none⟩ = some (.int .i64 x) := (HB.out.cell (p := ⟨g, k, none⟩) HR.out.1).trans (HR.out.2 _ _ (ints_at hx)).1
            have hgw : g < wr.heap.size := Nat.lt_of_lt_of_le HR.out.1 HB.out.size
            have HST := Lib.hid (pk_drop M k hx)
            obtain ⟨hx1, hx2⟩ := HSM.out x (List.mem_of_getElem? hx)
            clear hx
            by_cases hd : x = M
            · have hbq : decide (x = M) = true := decide_eq_true hd
              have hbe : (x == M) = true := by simpa using hd
              have hw1 : IntKind.i64.wrap (M - 1) = M - 1 := by rw [IntKind.wrap_i64]; omega
              have hM2 : 0 ≤ M - 1 := by omega
              have HD2 : Hid ((D ++ [k]) ++ pk (L.drop (k + 1)) (M - 1) (k + 1) = pk L B 0) := Lib.hid (by rw [← HD.out, HST.out, if_pos hd, List.append_assoc]; rfl)
              obtain ⟨v2, w3, hrun, hheld, hbel⟩ := appendOne w2.heap.size _ _ (k : Int) wr HH.out HB.out.size (by rw [nats_length]; have := HDL.out; omega)
              have HH2 := Lib.hid (by rw [show nats D ++ [(k : Int)] = nats (D ++ [k]) by rw [nats_append]; rfl] at hheld; exact hheld)
              have HB3 := Lib.hid (HB.out.trans hbel)
              have HXM := Lib.hid hd
              clear hheld hbel hd
              go_wp2_with fail
              go_roundw
              case rel => exact ⟨k + 1, D ++ [k], M - 1, by omega, by go_num, by go_num, hM2, by omega, HD2, HH2.out, HB3.out⟩
              case measure => simp [intOf]; omega
            · have hbq : decide (x = M) = false := decide_eq_false hd
              have hbe : (x == M) = false := by simpa using hd
              have HD2 : Hid (D ++ pk (L.drop (k + 1)) M (k + 1) = pk L B 0) := Lib.hid (by rw [← HD.out, HST.out, if_neg hd])
              have HXM := Lib.hid hd
              clear hd
              go_wp2_with fail
              go_roundw
              case rel => exact ⟨k + 1, D, M, by omega, by go_num, rfl, hM0, hM1, HD2, HH.out, HB.out⟩
              case measure => simp [intOf]; omega
          · obtain rfl : k = L.length := by omega
            have HDE : Hid (D = pk L B 0) := Lib.hid (by have h1 := HD.out; rw [pk_end _ _ (Nat.le_refl _), List.append_nil] at h1; exact h1)
            have HRES : Hid (RetIE (liF l) w (.returned (.tuple #[.slice (some ⟨go, 0, none⟩) (nats D).length co, .bool true])) wr) := Lib.hid (by
              rw [HF.out, HLL.out, ← HDE.out]
              obtain ⟨g', c', he, hg', hc', hrow⟩ := HH.out.row
              simp at he
              obtain ⟨rfl, rfl⟩ := he
              exact .inl ⟨go, co, rfl, hc', Nat.le_trans HB2.out.size hg', hrow, HB2.out.trans (HB.out.mono HB2.out.size)⟩)
            go_wp2_with fail
            go_ret2
            exact HRES.out
  · have hd : decide (OkL l) = false := decide_eq_false hok
    have HI := Lib.hid (fun W (h : FlatAt W (.slice a l.length c) l.length (ints l)) => by have := implValidList_any _ l W h hn; rw [hd] at this; exact this)
    have HF := Lib.hid (liF_no hok)
    clear hok hd
    go_enter Try.func30, Try.ntmps30
    go_wp2_with fail
    refine (HI.out _ HV.out).mono ?_
    rintro e w1 ⟨rfl, hb1⟩
    have HRES : Hid (RetIE (liF l) w (.returned (.tuple #[.slice none 0 0, .bool false])) w1) := Lib.hid (by rw [HF.out]; exact .inr ⟨rfl, none, 0, rfl, hb1⟩)
    clear hb1 HI
    go_wp2_with fail
    go_ret2
    exact HRES.out

end Go.Proofs.Ytjlldjekjnlcaaa
