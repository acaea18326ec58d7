/- The model's LongestIncreasing, by its contract. -/
import Derived.Test.YtjlldjekjnlcaaaLisQ
import Derived.Test.YtjlldjekjnlcaaaList
import Derived.Test.YtjlldjekjnlcaaaSKd
import Derived.Test.YtjlldjekjnlcaaaRetIE
import Derived.Test.YtjlldjekjnlcaaaIntS
import Derived.Test.YtjlldjekjnlcaaaOwnFlat
import Derived.BigRegion
import Derived.BigQuiet
import Derived.BigGuardPart
import Derived.Deep.QuietTactic
import Derived.StillTailTactics
import Derived.Laws.BitsLemmas
namespace Go.Proofs.Ytjlldjekjnlcaaa
open Go.RowKit P Iv
set_option linter.unusedVariables false

attribute [local go_sem ↓ high] builtin_append_held

/-- What was taken last, and that the next is greater. -/
def LastOk (l : List Int) (k : Nat) (D : List Nat) (M : Int) : Prop := D = [] ∨ ∃ (q : Nat) (y : Int), D.getLast? = some q ∧ q < l.length ∧ l[q]? = some y ∧ (0 < M → Iv.Comes (l.drop k) y M)

set_option maxRecDepth 100000 in
set_option maxHeartbeats 4000000 in
theorem specLi_any (v : Value) (l : List Int) (w : World) (hv : FlatAt w v l.length (ints l)) (hn : l.length ≤ 1048576) :
    Calls Try.prog 44 #[v] w (RetIE (liF l) w) := by
  have HV := Lib.hid hv
  obtain ⟨a, c, rfl, _⟩ := hv
  by_cases hok : OkL l
  · have hd : decide (OkL l) = true := decide_eq_true hok
    have HI := Lib.hid (fun W (h : FlatAt W (.slice a l.length c) l.length (ints l)) => by have := l2List_any _ l W h hn; rw [hd] at this; exact this)
    have HF := Lib.hid (liF_yes hok)
    have hl64 := hok.1
    have HMK := fun W => makeInts l.length (by omega) W
    have HMX := Lib.hid (fun x y W => l1MostJ_any x y W)
    have hwn : IntKind.i64.wrap ((l.length : Int) - 1) = (l.length : Int) - 1 := by rw [IntKind.wrap_i64]; omega
    have HST : Hid (List.replicate l.length 0 ++ lis (l.drop l.length) = List.replicate l.length 0 ∧ best (lis (l.drop l.length)) = 0) := Lib.hid (by rw [List.drop_length]; simp [lis, best])
    clear hok hd
    go_enter Try.func44, Try.ntmps44
    go_wp2_with fail
    refine (HI.out _ HV.out).mono ?_
    rintro e w1 ⟨rfl, hb1⟩
    have HB1 := Lib.hid hb1
    have HE := Lib.hid (fun j x (hj : l[j]? = some x) => by
      obtain ⟨a0, c0, e0, _, h⟩ := HV.out.below hb1
      simp at e0
      obtain ⟨rfl, rfl⟩ := e0
      obtain ⟨b, o, e, hb, hh⟩ := h _ _ (ints_at hj)
      exact (⟨b, o, e, hb, hh⟩ : ∃ b o, a = some ⟨b, o, none⟩ ∧ b < w1.heap.size ∧ w1.cell? ⟨b, o + j, none⟩ = some (.int .i64 x)))
    have hmk := HMK w1
    have HG := Lib.hid (CellRow.of_row (heap_alloc_new w1 (.cells (ints (List.replicate l.length 0)).toArray 3)))
    have HB0 : Hid (Below w1.heap.size w1 (w1.alloc (.cells (ints (List.replicate l.length 0)).toArray 3))) := Lib.hid ((Below.refl _ _).alloc (Nat.le_refl _) _)
    obtain ⟨g, hg⟩ : ∃ g, g = w1.heap.size := ⟨_, rfl⟩
    rw [← hg] at hmk HG
    have HGE := Lib.hid hg
    clear hb1 HI HV HMK hg
    go_wp2_with fail
    clear hmk hwn
    go_loopw [5, 6, 7] (fun b i _ wr => ∃ m : Nat, m ≤ l.length ∧ i = .int .i64 ((m : Int) - 1) ∧ b = .int .i64 (best (lis (l.drop m))) ∧ CellRow wr g (ints (List.replicate m 0 ++ lis (l.drop m))) ∧ Below w1.heap.size w1 wr) (fun _ i _ _ => (intOf i + 1).toNat)
    case atStart => exact ⟨l.length, Nat.le_refl _, rfl, by rw [HST.out.2], by rw [HST.out.1]; exact HG.out, HB0.out⟩
    case round =>
      obtain ⟨m, hm, rfl, rfl, hr, hb⟩ := hrel
      have HR := Lib.hid hr
      have HB := Lib.hid hb
      clear hr hb HG HB0
      by_cases hlt : 0 < m
      · obtain ⟨p, rfl⟩ : ∃ p, m = p + 1 := ⟨m - 1, by omega⟩
        have hpe : (((p + 1 : Nat) : Int) - 1) = (p : Int) := by omega
        rw [hpe]
        have hx := at_getD (l := l) (k := p) (by omega)
        obtain ⟨x, he⟩ : ∃ x, x = l.getD p 0 := ⟨_, rfl⟩
        rw [← he] at hx
        obtain ⟨b, o, rfl, hbb, hcx0⟩ := HE.out _ _ hx
        have HX := Lib.hid hx
        obtain ⟨B1, hB1⟩ : ∃ B, B = best (lis (l.drop (p + 1))) := ⟨_, rfl⟩
        have HBB : Hid (best (lis (l.drop p)) = max B1 (1 + over x (zipL l p))) := Lib.hid (by rw [hB1, lis_drop hx, best_cons, Int.max_comm]; rfl)
        have hB10 : 0 ≤ B1 := by rw [hB1]; exact best_nonneg _
        have hB164 : B1 ≤ 64 := by rw [hB1]; have := lis_best (l.drop (p + 1)); rw [List.length_drop] at this; omega
        rw [← hB1]
        have hw1 : IntKind.i64.wrap ((p : Int) + 1) = ((p + 1 : Nat) : Int) := by rw [IntKind.wrap_i64]; omega
        have hw2 : IntKind.i64.wrap ((p : Int) - 1) = (p : Int) - 1 := by rw [IntKind.wrap_i64]; omega
        have hpl : p < l.length := by omega
        have HRL := Lib.hid (fun y => rowL_length (l := l) (p := p) hpl y)
        have HSE := Lib.hid (fun y z => rowL_set l p y z)
        have HAT := Lib.hid (fun y => rowL_at l p y)
        have h00 : CellRow wr g (ints (rowL l p 0)) := by rw [rowL_start]; exact HR.out
        obtain ⟨hcp, hfp⟩ := h00.2 p _ (ints_at (HAT.out 0))
        have hgw := h00.1
        have HRS : Hid (CellRow (wr.setCell ⟨g, p, none⟩ (.int .i64 1)) g (ints (rowL l p (1 + overTo x (zipL l p) 0)))) := Lib.hid (by
          have h1 := h00.set p (.int .i64 1) (by rw [ints_length, HRL.out]; exact hpl)
          rw [ints_set, HSE.out] at h1
          rw [overTo_zero]; exact h1)
        have HBS : Hid (Below w1.heap.size w1 (wr.setCell ⟨g, p, none⟩ (.int .i64 1))) := Lib.hid (HB.out.setCell (p := ⟨g, p, none⟩) (by rw [HGE.out]; exact Nat.le_refl _) _)
        have HZ := Lib.hid (fun y j (hj : p < j) (h : j < l.length) => rowL_zip (l := l) (p := p) y hj h)
        have HOB := Lib.hid (fun k => overTo_bound (l := l) (p := p) x k)
        have HOS := Lib.hid (fun k a (h : (zipL l p)[k]? = some a) => overTo_succ (x := x) h)
        have HOE := Lib.hid (fun k (h : l.length ≤ p + 1 + k) => overTo_end (l := l) (p := p) x h)
        have HDN := Lib.hid (rowL_done HX.out)
        clear hx he hcx0 hpe HR h00 hB1
        go_wp2_with fail
        go_loopw [7] (fun i w2 => ∃ (j : Nat), p + 1 ≤ j ∧ j ≤ l.length ∧ i = .int .i64 j ∧ CellRow w2 g (ints (rowL l p (1 + overTo x (zipL l p) (j - (p + 1))))) ∧ Below w1.heap.size w1 w2) (fun i _ => l.length - (intOf i).toNat)
        case atStart => exact ⟨p + 1, Nat.le_refl _, by omega, rfl, by rw [Nat.sub_self]; exact HRS.out, HBS.out⟩
        case round =>
          obtain ⟨j, hj1, hj2, rfl, hr, hb⟩ := hrel
          have HR := Lib.hid hr
          have HB2 := Lib.hid hb
          clear hr hb HRS HBS HB
          obtain ⟨cur, hcur⟩ : ∃ u, u = overTo x (zipL l p) (j - (p + 1)) := ⟨_, rfl⟩
          rw [← hcur] at HR
          have hcb := HOB.out (j - (p + 1))
          rw [← hcur] at hcb
          obtain ⟨hcb0, hcb1⟩ := hcb
          obtain ⟨c1, hc1⟩ : ∃ c1, c1 = 1 + cur := ⟨_, rfl⟩
          have hcc0 : 0 ≤ c1 := by omega
          have hcc1 : c1 ≤ 65 := by omega
          rw [← hc1] at HR
          have HC1 := Lib.hid hc1
          obtain ⟨hcp, hfp⟩ := HR.out.2 p _ (ints_at (HAT.out c1))
          have HCUR := Lib.hid hcur
          have hgw := HR.out.1
          clear hcur hc1
          by_cases hjl : j < l.length
          · obtain ⟨s, hs1, hs2, hs3, hs4⟩ := HZ.out c1 j (by omega) hjl
            have hy := at_getD (l := l) hjl
            obtain ⟨y, he⟩ : ∃ y, y = l.getD j 0 := ⟨_, rfl⟩
            rw [← he] at hy hs2
            obtain ⟨b2, o2, he2, _, hcy0⟩ := HE.out _ _ hy
            simp at he2
            obtain ⟨rfl, rfl⟩ := he2
            obtain ⟨b2, o2, he2, _, hcx0⟩ := HE.out _ _ HX.out
            simp at he2
            obtain ⟨rfl, rfl⟩ := he2
            have hcx : wr.cell? ⟨b, o + p, none⟩ = some (.int .i64 x) := (HB2.out.cell (p := ⟨b, o + p, none⟩) hbb).trans hcx0
            have hcy : wr.cell? ⟨b, o + j, none⟩ = some (.int .i64 y) := (HB2.out.cell (p := ⟨b, o + j, none⟩) hbb).trans hcy0
            have HSS := Lib.hid (HOS.out _ _ hs2)
            have hjj : Hid (j + 1 - (p + 1) = j - (p + 1) + 1) := Lib.hid (by omega)
            rw [← HCUR.out] at HSS
            have HS1 := Lib.hid hs1
            clear hs1 hs2 hy he hcy0 hcx0
            by_cases hd : x < y
            · have hgt : decide (x < y) = true := decide_eq_true hd
              obtain ⟨u, hu⟩ : ∃ u, u = max c1 (s + 1) := ⟨_, rfl⟩
              have HMXK := Lib.hid (fun W => HMX.out c1 (s + 1) W)
              rw [← hu] at HMXK
              have HN : Hid (∀ W : World, W.heap = wr.heap → CellRow W g (ints (rowL l p c1)) ∧ CellRow (W.setCell ⟨g, p, none⟩ (.int .i64 u)) g (ints (rowL l p (1 + overTo x (zipL l p) (j + 1 - (p + 1)))))) := Lib.hid (fun W hW => by
                have h0 : CellRow W g (ints (rowL l p c1)) := HR.out.same (by rw [hW]) (by rw [hW]; exact Nat.le_refl _)
                have h1 := h0.set p (.int .i64 u) (by rw [ints_length, HRL.out]; exact hpl)
                rw [ints_set, HSE.out] at h1
                rw [hjj.out, HSS.out, if_pos hd]
                have e : 1 + max cur s = u := by have := HC1.out; omega
                rw [e]
                exact ⟨h0, h1⟩)
              have hws : IntKind.i64.wrap (s + 1) = s + 1 := by rw [IntKind.wrap_i64]; omega
              clear hu hd hcp hfp hgw
              go_wp2_with fail
              go_quiet (fail)
              obtain ⟨W, hW⟩ : ∃ W, W = wr.drewN nq := ⟨_, rfl⟩
              rw [← hW]
              have HBW : Hid (Below w1.heap.size w1 W) := Lib.hid (by rw [hW]; exact HB2.out.trans ⟨rfl, rfl, rfl, Nat.le_refl _, fun _ _ => rfl⟩)
              obtain ⟨hrw, hrs⟩ := HN.out W (by rw [hW]; rfl)
              have HNS := Lib.hid hrs
              obtain ⟨hcp, hfp⟩ := hrw.2 p _ (ints_at (HAT.out c1))
              have hcs := (hrw.2 j _ (ints_at HS1.out)).1
              have hgw := hrw.1
              have HBN : Hid (Below w1.heap.size w1 (W.setCell ⟨g, p, none⟩ (.int .i64 u))) := Lib.hid (HBW.out.setCell (p := ⟨g, p, none⟩) (by rw [HGE.out]; exact Nat.le_refl _) _)
              clear hW hrw hrs hcx hcy
              go_wp2_with fail
              go_still_tail 13, (by kernel_rfl)
              still_call (HMXK.out _)
              repeat still_step
              refine wpStill_nil ?_
              go_wp2_with fail
              go_roundw
              case rel => exact ⟨j + 1, by omega, by omega, by go_num, HNS.out, HBN.out.drew⟩
              case measure => simp [intOf]; omega
            · have hgt : decide (x < y) = false := decide_eq_false hd
              have HN : Hid (CellRow wr g (ints (rowL l p (1 + overTo x (zipL l p) (j + 1 - (p + 1)))))) := Lib.hid (by rw [hjj.out, HSS.out, if_neg hd, ← HC1.out]; exact HR.out)
              clear hd
              go_wp2_with fail
              go_quiet (fail)
              go_wp2_with fail
              go_roundw
              case rel => exact ⟨j + 1, by omega, by omega, by go_num, HN.out.same rfl (Nat.le_refl _), HB2.out.trans ⟨rfl, rfl, rfl, Nat.le_refl _, fun _ _ => rfl⟩⟩
              case measure => simp [intOf]; omega
          · have HCE : Hid (c1 = 1 + over x (zipL l p)) := Lib.hid (by rw [HC1.out, HCUR.out, HOE.out _ (by omega)])
            have HN : Hid (CellRow wr g (ints (List.replicate p 0 ++ lis (l.drop p)))) := Lib.hid (by
              have h1 := HR.out
              rw [HCE.out, HDN.out] at h1
              exact h1)
            have HMXK := Lib.hid (fun W => HMX.out B1 c1 W)
            go_wp2_with fail
            refine (HMXK.out _).mono ?_
            rintro e w5 ⟨rfl, rfl⟩
            go_wp2_with fail
            go_roundw
            case rel => exact ⟨p, by omega, rfl, by rw [HBB.out, ← HCE.out], HN.out, HB2.out⟩
            case measure => simp [intOf]
      · obtain rfl : m = 0 := by omega
        have hz : (((0 : Nat) : Int) - 1) = -1 := rfl
        rw [hz]
        have HR0 : Hid (CellRow wr g (ints (lis l))) := Lib.hid (by have := HR.out; rw [List.drop_zero, List.replicate_zero, List.nil_append] at this; exact this)
        have HD0 : Hid (best (lis (l.drop 0)) = best (lis l)) := Lib.hid (by rw [List.drop_zero])
        rw [HD0.out]
        obtain ⟨W2, hW2⟩ : ∃ W2, W2 = wr := ⟨_, rfl⟩
        rw [← hW2] at HB HR0 ⊢
        clear hW2 HR
        obtain ⟨L, hL⟩ : ∃ L, L = lis l := ⟨_, rfl⟩
        have HLL : Hid (liL l = nats (pk L (best L) 0)) := Lib.hid (by rw [hL]; rfl)
        have HPL : Hid ((pk L (best L) 0).length ≤ 64) := Lib.hid (by have := pk_len L (best L) 0; rw [hL, lis_length] at this; rw [hL]; omega)
        have HB64 : Hid (best L ≤ 64) := Lib.hid (by have := lis_best l; rw [hL]; omega)
        have HSM : Hid (∀ x ∈ L, 1 ≤ x ∧ x ≤ 64) := Lib.hid (fun x hx => by rw [hL] at hx; have := lis_pos x hx; have := lis_small x hx; omega)
        have HLN : Hid (L.length = l.length) := Lib.hid (by rw [hL, lis_length])
        have HFST : Hid (∀ (k : Nat) (x v M : Int) (e : Int), l[k]? = some x → L[k]? = some e → Iv.Comes (l.drop k) v M → (e = M → v < x) ∧ (e ≠ M → Iv.Comes (l.drop (k + 1)) v M)) := Lib.hid (fun k x v M e h1 h2 h3 => by
          obtain ⟨hk, hx⟩ := List.getElem?_eq_some_iff.1 h1
          rw [List.drop_eq_getElem_cons hk, hx] at h3
          have h4 := congrArg (fun t => t[0]?) (lis_drop h1)
          rw [lis_tail, List.getElem?_drop, Nat.add_zero, ← hL, h2] at h4
          have h5 : e = 1 + over x ((l.drop (k + 1)).zip (lis (l.drop (k + 1)))) := by simpa using h4
          exact ⟨fun q => h3.first (by rw [← q, h5]), fun q => h3.skip (by rw [← h5]; exact q)⟩)
        have HNXT : Hid (∀ (k : Nat) (x M : Int), l[k]? = some x → L[k]? = some M → 0 < M - 1 → Iv.Comes (l.drop (k + 1)) x (M - 1)) := Lib.hid (fun k x M h1 h2 h3 => by
          have h4 := congrArg (fun t => t[0]?) (lis_drop h1)
          rw [lis_tail, List.getElem?_drop, Nat.add_zero, ← hL, h2] at h4
          have h5 : M = 1 + over x ((l.drop (k + 1)).zip (lis (l.drop (k + 1)))) := by simpa using h4
          exact Iv.Comes.next h5.symm h3)
        rw [← hL] at HR0 ⊢
        obtain ⟨B, hB⟩ : ∃ B, B = best L := ⟨_, rfl⟩
        rw [← hB] at HLL HPL HB64 ⊢
        have HB0 : Hid (0 ≤ B) := Lib.hid (by rw [hB]; exact best_nonneg L)
        have HS0 : Hid (Held W2.heap.size (W2.alloc (.cells #[] 3)) (.slice (some ⟨W2.heap.size, 0, none⟩) 0 0) (nats [])) := Lib.hid (Held.start W2 W2.heap.size (Nat.le_refl _))
        have HBA : Hid (Below W2.heap.size W2 (W2.alloc (.cells #[] 3))) := Lib.hid ((Below.refl _ _).alloc (Nat.le_refl _) _)
        clear hB hL HD0 HST
        go_wp2_with fail
        go_loopw [5, 8, 9] (fun m out i wv => ∃ (k : Nat) (D : List Nat) (M : Int), k ≤ l.length ∧ i = .int .i64 k ∧ m = .int .i64 M ∧ 0 ≤ M ∧ M ≤ 64 ∧ Hid (D ++ pk (L.drop k) M k = pk L B 0) ∧ LastOk l k D M ∧ Held W2.heap.size wv out (nats D) ∧ Below W2.heap.size W2 wv) (fun _ _ i _ => l.length - (intOf i).toNat)
        case atStart => exact ⟨0, [], B, Nat.zero_le _, rfl, rfl, HB0.out, HB64.out, Lib.hid rfl, .inl rfl, HS0.out, HBA.out⟩
        case round =>
          obtain ⟨k, D, M, hk, rfl, rfl, hM0, hM1, HD, hlast, hH, hb⟩ := hrel
          have HH := Lib.hid hH
          have HB2 := Lib.hid hb
          obtain ⟨go, co, rfl, hgo, hco, hro⟩ := hH.row
          have HRO := Lib.hid hro
          have HLO := Lib.hid hlast
          have hDl : D.length ≤ 64 := by have h1 := HPL.out; have h2 := congrArg List.length HD.out; rw [List.length_append] at h2; omega
          have HDL := Lib.hid hDl
          have HND : Hid ((nats D).length = D.length) := Lib.hid (nats_length D)
          clear hb hH hro hlast HS0 HBA hDl
          have hend : (¬ k < l.length ∨ ¬ 0 < M) → D = pk L B 0 := fun h => by
            have h1 := HD.out
            rcases h with h | h
            · rw [pk_end _ _ (by rw [HLN.out]; omega), List.append_nil] at h1; exact h1
            · rw [pk_zero (fun a ha => (HSM.out a (List.mem_of_mem_drop ha)).1) (by omega), List.append_nil] at h1; exact h1
          have HEN := Lib.hid hend
          have hres : D = pk L B 0 → RetIE (liF l) w (.returned (.tuple #[.slice (some ⟨go, 0, none⟩) (nats D).length co, .bool true])) wr := fun h => by
            rw [HF.out, HLL.out, ← h]
            obtain ⟨g', c', he, hg', hc', hrow⟩ := HH.out.row
            simp at he
            obtain ⟨rfl, rfl⟩ := he
            exact .inl ⟨go, co, rfl, hc', Nat.le_trans (Nat.le_trans HB1.out.size HB.out.size) hg', hrow, HB1.out.trans ((HB.out.mono HB1.out.size).trans (HB2.out.mono (Nat.le_trans HB1.out.size HB.out.size)))⟩
          have HRS := Lib.hid hres
          clear hend hres
          by_cases hlt : k < l.length
          · by_cases hMp : 0 < M
            · have hMd : decide (0 < M) = true := decide_eq_true hMp
              have hx := at_getD (l := l) hlt
              obtain ⟨x, he⟩ : ∃ x, x = l.getD k 0 := ⟨_, rfl⟩
              rw [← he] at hx
              obtain ⟨e, hel⟩ : ∃ e, L[k]? = some e := ⟨_, List.getElem?_eq_getElem (by rw [HLN.out]; exact hlt)⟩
              obtain ⟨he1, he2⟩ := HSM.out e (List.mem_of_getElem? hel)
              obtain ⟨b, o, rfl, hbb, hcx0⟩ := HE.out _ _ hx
              have hcx : wr.cell? ⟨b, o + k, none⟩ = some (.int .i64 x) := (HB2.out.cell (p := ⟨b, o + k, none⟩) (Nat.lt_of_lt_of_le hbb HB.out.size)).trans ((HB.out.cell (p := ⟨b, o + k, none⟩) hbb).trans hcx0)
              have hce : wr.cell? ⟨g, k, none⟩ = some (.int .i64 e) := (HB2.out.cell (p := ⟨g, k, none⟩) HR0.out.1).trans (HR0.out.2 _ _ (ints_at hel)).1
              have hgw : g < wr.heap.size := Nat.lt_of_lt_of_le HR0.out.1 HB2.out.size
              have HXK := Lib.hid hx
              have HLK := Lib.hid hel
              have HSTP := Lib.hid (pk_drop M k hel)
              clear hx he hel hcx0
              by_cases hq : e = M
              · have hqd : decide (e = M) = true := decide_eq_true hq
                have hqe : (e == M) = true := by simpa using hq
                have HQ := Lib.hid hq
                have HD2 : Hid ((D ++ [k]) ++ pk (L.drop (k + 1)) (M - 1) (k + 1) = pk L B 0) := Lib.hid (by rw [← HD.out, HSTP.out, if_pos hq, List.append_assoc]; rfl)
                have HL2 : Hid (LastOk l (k + 1) (D ++ [k]) (M - 1)) := Lib.hid (.inr ⟨k, x, by simp, hlt, HXK.out, fun h => HNXT.out k x M HXK.out (by rw [HLK.out, hq]) h⟩)
                have hw1 : IntKind.i64.wrap (M - 1) = M - 1 := by rw [IntKind.wrap_i64]; omega
                have hM2 : 0 ≤ M - 1 := by omega
                have hpre : ∀ q, ∃ v2 w2, (heldAppend #[24, 24] 24 #[.slice (some ⟨go, 0, none⟩) (nats D).length co, .slice (some ⟨wr.heap.size, 0, none⟩) 1 1]).run Try.prog ((wr.drewN q).alloc (.cells #[.int .i64 (k : Int)] 3)) = .ok v2 w2 ∧ Held W2.heap.size w2 v2 (nats D ++ [(k : Int)]) ∧ Below W2.heap.size W2 w2 := fun q => by
                  have hh : Held W2.heap.size (wr.drewN q) (.slice (some ⟨go, 0, none⟩) (nats D).length co) (nats D) := HH.out.same (fun _ _ _ => rfl) (Nat.le_refl _)
                  have hbq : Below W2.heap.size W2 (wr.drewN q) := HB2.out.trans ⟨rfl, rfl, rfl, Nat.le_refl _, fun _ _ => rfl⟩
                  obtain ⟨v2, w2, h1, h2, h3⟩ := appendOne W2.heap.size _ _ (k : Int) (wr.drewN q) hh hbq.size (by rw [nats_length]; have := HDL.out; omega)
                  exact ⟨v2, w2, h1, h2, hbq.trans h3⟩
                have HPRE := Lib.hid hpre
                have HNA : Hid (nats D ++ [(k : Int)] = nats (D ++ [k])) := Lib.hid (by rw [nats_append]; rfl)
                clear hpre hq
                rcases HLO.out with hnil | ⟨q, y, hgl, hql, hly, hcm⟩
                · have HNI := Lib.hid hnil
                  have hlz : (nats D).length = 0 := by rw [hnil]; rfl
                  rw [hlz] at HPRE ⊢
                  clear hnil hlz
                  go_wp2_with fail
                  go_quiet (fail)
                  obtain ⟨v2, w2, hrun, hheld, hbel⟩ := HPRE.out nq
                  have HH2 := Lib.hid hheld
                  have HB3 := Lib.hid hbel
                  clear hheld hbel HPRE
                  go_wp2_with fail
                  go_roundw
                  case rel => exact ⟨k + 1, D ++ [k], M - 1, by omega, by go_num, by go_num, hM2, by omega, HD2, HL2.out, by rw [← HNA.out]; exact HH2.out, HB3.out⟩
                  case measure => simp [intOf]; omega
                · have hvx := (HFST.out k x y M e HXK.out HLK.out (hcm hMp)).1 HQ.out
                  have hvd : decide (y < x) = true := decide_eq_true hvx
                  obtain ⟨b2, o2, hb2, _, hcy0⟩ := HE.out _ _ hly
                  simp at hb2
                  obtain ⟨rfl, rfl⟩ := hb2
                  have hcy : wr.cell? ⟨b, o + q, none⟩ = some (.int .i64 y) := (HB2.out.cell (p := ⟨b, o + q, none⟩) (Nat.lt_of_lt_of_le hbb HB.out.size)).trans ((HB.out.cell (p := ⟨b, o + q, none⟩) hbb).trans hcy0)
                  have hDne : D ≠ [] := by rintro rfl; simp at hgl
                  obtain ⟨n1, hn1⟩ : ∃ n1, D.length = n1 + 1 := ⟨D.length - 1, by have := List.length_pos_iff.2 hDne; omega⟩
                  have hcq : wr.cell? ⟨go, n1, none⟩ = some (.int .i64 (q : Int)) := by
                    have h1 : D[n1]? = some q := by rw [← hgl, List.getLast?_eq_getElem?, hn1]; rfl
                    exact (HRO.out.2 n1 (.int .i64 (q : Int)) (ints_at (by unfold nats; rw [List.getElem?_map, h1]; rfl))).1
                  obtain ⟨N, hN⟩ : ∃ N, N = (nats D).length := ⟨_, rfl⟩
                  have hNn : N = n1 + 1 := by rw [hN, nats_length, hn1]
                  have hN64 : N ≤ 64 := by have := HDL.out; omega
                  rw [← hN] at HPRE ⊢
                  have hnz : ¬ N = 0 := by omega
                  have hnzi : ¬ (N : Int) = 0 := by omega
                  have hnb : ((N : Int) == 0) = false := by simpa using hnzi
                  have hwN : IntKind.i64.wrap ((N : Int) - 1) = (n1 : Int) := by rw [IntKind.wrap_i64]; omega
                  have hn1N : n1 < N := by omega
                  have hcoN : N ≤ co := by rw [hN]; exact hco
                  have hgow := HRO.out.1
                  have HNN := Lib.hid hNn
                  clear hNn hN hn1 hgl hly hcm hDne hvx hcy0 hco
                  go_wp2_with fail
                  go_quiet (fail)
                  obtain ⟨v2, w2, hrun, hheld, hbel⟩ := HPRE.out nq
                  have HH2 := Lib.hid hheld
                  have HB3 := Lib.hid hbel
                  clear hheld hbel HPRE
                  go_wp2_with fail
                  go_roundw
                  case rel => exact ⟨k + 1, D ++ [k], M - 1, by omega, by go_num, by go_num, hM2, by omega, HD2, HL2.out, by rw [← HNA.out]; exact HH2.out, HB3.out⟩
                  case measure => simp [intOf]; omega
              · have hqd : decide (e = M) = false := decide_eq_false hq
                have hqe : (e == M) = false := by simpa using hq
                have HQ := Lib.hid hq
                have HD2 : Hid (D ++ pk (L.drop (k + 1)) M (k + 1) = pk L B 0) := Lib.hid (by rw [← HD.out, HSTP.out, if_neg hq])
                have HL2 : Hid (LastOk l (k + 1) D M) := Lib.hid (by
                  rcases HLO.out with hnil | ⟨q, y, hgl, hql, hly, hcm⟩
                  · exact .inl hnil
                  · exact .inr ⟨q, y, hgl, hql, hly, fun h => (HFST.out k x y M e HXK.out HLK.out (hcm h)).2 HQ.out⟩)
                clear hq
                go_wp2_with fail
                go_quiet (fail)
                go_wp2_with fail
                go_roundw
                case rel => exact ⟨k + 1, D, M, by omega, by go_num, rfl, hM0, hM1, HD2, HL2.out, HH.out.same (fun _ _ _ => rfl) (Nat.le_refl _), HB2.out.trans ⟨rfl, rfl, rfl, Nat.le_refl _, fun _ _ => rfl⟩⟩
                case measure => simp [intOf]; omega
            · have hMd : decide (0 < M) = false := decide_eq_false hMp
              have HRET := Lib.hid (HRS.out (HEN.out (.inr hMp)))
              go_wp2_with fail
              go_ret2
              exact HRET.out
          · have HRET := Lib.hid (HRS.out (HEN.out (.inl hlt)))
            go_wp2_with fail
            go_ret2
            exact HRET.out
  · have hd : decide (OkL l) = false := decide_eq_false hok
    have HI := Lib.hid (fun W (h : FlatAt W (.slice a l.length c) l.length (ints l)) => by have := l2List_any _ l W h hn; rw [hd] at this; exact this)
    have HF := Lib.hid (liF_no hok)
    clear hok hd
    go_enter Try.func44, Try.ntmps44
    go_wp2_with fail
    refine (HI.out _ HV.out).mono ?_
    rintro e w1 ⟨rfl, hb1⟩
    have HRES : Hid (RetIE (liF l) w (.returned (.tuple #[.slice none 0 0, .bool false])) w1) := Lib.hid (by rw [HF.out]; exact .inr ⟨rfl, none, 0, rfl, hb1⟩)
    clear hb1 HI
    go_wp2_with fail
    go_ret2
    exact HRES.out

end Go.Proofs.Ytjlldjekjnlcaaa
