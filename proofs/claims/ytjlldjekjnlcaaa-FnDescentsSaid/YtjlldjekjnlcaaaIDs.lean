/- The program's Descents and MajorIndex, by their contracts. -/
import Derived.Test.YtjlldjekjnlcaaaInvP
import Derived.Test.YtjlldjekjnlcaaaIList
import Derived.Test.YtjlldjekjnlcaaaRetIE
import Derived.Test.YtjlldjekjnlcaaaOwnFlat
import Derived.BigRegion
import Derived.BigQuiet
import Derived.Deep.QuietTactic
import Derived.Laws.BitsLemmas
namespace Go.Proofs.Ytjlldjekjnlcaaa
open Go.RowKit P Iv
set_option linter.unusedVariables false

attribute [local go_sem ↓ high] builtin_append_held

set_option maxRecDepth 100000 in
set_option maxHeartbeats 4000000 in
theorem implDs_any (v : Value) (l : List Int) (w : World) (hv : FlatAt w v l.length (ints l)) (hn : l.length ≤ 1048576) :
    Calls Try.prog 34 #[v] w (RetIE (dsF l) w) := by
  have HV := Lib.hid hv
  obtain ⟨a, c, rfl, _⟩ := hv
  by_cases hok : OkL l
  · have hd : decide (OkL l) = true := decide_eq_true hok
    have HI := Lib.hid (fun W (h : FlatAt W (.slice a l.length c) l.length (ints l)) => by have := implValidList_any _ l W h hn; rw [hd] at this; exact this)
    have HF := Lib.hid (dsF_yes hok)
    have hl64 := hok.1
    have HLE : Hid ((ds l 0).length ≤ 64) := Lib.hid (by have := ds_len l 0; omega)
    clear hok hd
    go_enter Try.func34, Try.ntmps34
    go_wp2_with fail
    refine (HI.out _ HV.out).mono ?_
    rintro e W0 ⟨rfl, hb1⟩
    have HB1 := Lib.hid hb1
    have HV1 := Lib.hid (HV.out.below hb1)
    have HE := Lib.hid (fun j x (hj : l[j]? = some x) => by
      obtain ⟨a0, c0, e0, _, h⟩ := HV1.out
      simp at e0
      obtain ⟨rfl, rfl⟩ := e0
      obtain ⟨b, o, e, hb, hh⟩ := h _ _ (ints_at hj)
      exact (⟨b, o, e, hb, hh⟩ : ∃ b o, a = some ⟨b, o, none⟩ ∧ b < W0.heap.size ∧ W0.cell? ⟨b, o + j, none⟩ = some (.int .i64 x)))
    have HS0 : Hid (Held W0.heap.size (W0.alloc (.cells #[] 3)) (.slice (some ⟨W0.heap.size, 0, none⟩) 0 0) (nats [])) := Lib.hid (Held.start W0 W0.heap.size (Nat.le_refl _))
    have HB0 : Hid (Below W0.heap.size W0 (W0.alloc (.cells #[] 3))) := Lib.hid ((Below.refl _ _).alloc (Nat.le_refl _) _)
    clear hb1 HV HV1 HI
    go_wp2_with fail
    go_loopw [4, 5] (fun out i wr => ∃ (k : Nat) (D : List Nat), k ≤ l.length ∧ i = .int .i64 ((k + 1 : Nat) : Int) ∧ Hid (D ++ ds (l.drop k) k = ds l 0) ∧ Held W0.heap.size wr out (nats D) ∧ Below W0.heap.size W0 wr) (fun _ i _ => l.length + 1 - (intOf i).toNat)
    case atStart => exact ⟨0, [], Nat.zero_le _, rfl, Lib.hid rfl, HS0.out, HB0.out⟩
    case round =>
      obtain ⟨k, D, hk, rfl, HD, hH, hb⟩ := hrel
      have HH := Lib.hid hH
      have HB := Lib.hid hb
      obtain ⟨go, co, rfl, hgo, hco, hro⟩ := hH.row
      have hDl : D.length ≤ 64 := by have h1 := HLE.out; have h2 := congrArg List.length HD.out; rw [List.length_append] at h2; omega
      have HDL := Lib.hid hDl
      clear hb hH hro HS0 HB0 hDl
      have hw0 : IntKind.i64.wrap (((k + 1 : Nat) : Int) - 1) = (k : Int) := by rw [IntKind.wrap_i64]; omega
      have hw2 : IntKind.i64.wrap (((k + 1 : Nat) : Int) + 1) = ((k + 2 : Nat) : Int) := by rw [IntKind.wrap_i64]; omega
      obtain ⟨k1, hk1⟩ : ∃ k1, k1 = k + 1 := ⟨_, rfl⟩
      obtain ⟨k2, hk2⟩ : ∃ k2, k2 = k + 2 := ⟨_, rfl⟩
      rw [← hk1] at hw0 hw2 ⊢
      rw [← hk2] at hw2
      have HK1 := Lib.hid hk1
      have HK2 := Lib.hid hk2
      have hkk : k1 ≤ 65 := by omega
      by_cases hlt : k1 < l.length
      · have hx := at_getD (l := l) (k := k) (by omega)
        have hy := at_getD (l := l) (k := k + 1) (by omega)
        obtain ⟨x, he⟩ : ∃ x, x = l.getD k 0 := ⟨_, rfl⟩
        obtain ⟨y, hf⟩ : ∃ x, x = l.getD (k + 1) 0 := ⟨_, rfl⟩
        rw [← he] at hx
        rw [← hf] at hy
        obtain ⟨b, o, rfl, hbb, hcx0⟩ := HE.out _ _ hx
        obtain ⟨b2, o2, he2, _, hcy0⟩ := HE.out _ _ hy
        simp at he2
        obtain ⟨rfl, rfl⟩ := he2
        have hcx : wr.cell? ⟨b, o + k, none⟩ = some (.int .i64 x) := (HB.out.cell (p := ⟨b, o + k, none⟩) hbb).trans hcx0
        have hcy : wr.cell? ⟨b, o + (k + 1), none⟩ = some (.int .i64 y) := (HB.out.cell (p := ⟨b, o + (k + 1), none⟩) hbb).trans hcy0
        have HST := Lib.hid (ds_step (l := l) (k := k) k (by omega))
        rw [← he, ← hf] at HST
        rw [← hk1] at hcy
        have hkl : k < l.length := by omega
        have hkz : (k : Int) < l.length := by omega
        have hk1z : (k1 : Int) < l.length := by omega
        clear hk1 hk2
        clear hx hy he hf hcx0 hcy0
        by_cases hd : y < x
        · have hgt : decide (y < x) = true := decide_eq_true hd
          have HD2 : Hid ((D ++ [k]) ++ ds (l.drop (k + 1)) (k + 1) = ds l 0) := Lib.hid (by rw [← HD.out, HST.out, if_pos hd, List.append_assoc]; rfl)
          have hpre : ∀ q, ∃ v2 w2, (heldAppend #[24, 24] 24 #[.slice (some ⟨go, 0, none⟩) (nats D).length co, .slice (some ⟨wr.heap.size, 0, none⟩) 1 1]).run Try.prog ((wr.drewN q).alloc (.cells #[.int .i64 (k : Int)] 3)) = .ok v2 w2 ∧ Held W0.heap.size w2 v2 (nats D ++ [(k : Int)]) ∧ Below W0.heap.size W0 w2 := fun q => by
            have hh : Held W0.heap.size (wr.drewN q) (.slice (some ⟨go, 0, none⟩) (nats D).length co) (nats D) := HH.out.same (fun _ _ _ => rfl) (Nat.le_refl _)
            have hbq : Below W0.heap.size W0 (wr.drewN q) := HB.out.trans ⟨rfl, rfl, rfl, Nat.le_refl _, fun _ _ => rfl⟩
            obtain ⟨v2, w2, h1, h2, h3⟩ := appendOne W0.heap.size _ _ (k : Int) (wr.drewN q) hh hbq.size (by rw [nats_length]; have := HDL.out; omega)
            exact ⟨v2, w2, h1, h2, hbq.trans h3⟩
          have HPRE := Lib.hid hpre
          have HNA : Hid (nats D ++ [(k : Int)] = nats (D ++ [k])) := Lib.hid (by rw [nats_append]; rfl)
          clear hpre hd
          go_wp2_with fail
          go_quiet (fail)
          obtain ⟨v2, w2, hrun, hheld, hbel⟩ := HPRE.out nq
          have HH2 := Lib.hid hheld
          have HB2 := Lib.hid hbel
          clear hheld hbel HPRE
          go_wp2_with fail
          go_roundw
          case rel => exact ⟨k + 1, D ++ [k], by have := HK1.out; omega, by rw [HK2.out], HD2, by rw [← HNA.out]; exact HH2.out, HB2.out⟩
          case measure => have := HK1.out; have := HK2.out; simp [intOf]; omega
        · have hgt : decide (y < x) = false := decide_eq_false hd
          have HD2 : Hid (D ++ ds (l.drop (k + 1)) (k + 1) = ds l 0) := Lib.hid (by rw [← HD.out, HST.out, if_neg hd])
          clear hd
          go_wp2_with fail
          go_quiet (fail)
          go_wp2_with fail
          go_roundw
          case rel => exact ⟨k + 1, D, by have := HK1.out; omega, by rw [HK2.out], HD2, HH.out.same (fun _ _ _ => rfl) (Nat.le_refl _), HB.out.trans ⟨rfl, rfl, rfl, Nat.le_refl _, fun _ _ => rfl⟩⟩
          case measure => have := HK1.out; have := HK2.out; simp [intOf]; omega
      · have HDE : Hid (D = ds l 0) := Lib.hid (by have h1 := HD.out; rw [ds_end k (by omega), List.append_nil] at h1; exact h1)
        have hlz : ¬ (k1 : Int) < l.length := by omega
        clear hk1 hk2
        have HRES : Hid (RetIE (dsF l) w (.returned (.tuple #[.slice (some ⟨go, 0, none⟩) (nats D).length co, .bool true])) wr) := Lib.hid (by
          rw [HF.out]
          obtain ⟨g, c, he, hg, hc, hrow⟩ := HH.out.row
          simp at he
          obtain ⟨rfl, rfl⟩ := he
          have e1 : dsL l = nats D := by rw [HDE.out]; rfl
          rw [e1]
          exact .inl ⟨go, co, rfl, hc, Nat.le_trans HB1.out.size hg, hrow, HB1.out.trans (HB.out.mono HB1.out.size)⟩)
        go_wp2_with fail
        go_ret2
        exact HRES.out
  · have hd : decide (OkL l) = false := decide_eq_false hok
    have HI := Lib.hid (fun W (h : FlatAt W (.slice a l.length c) l.length (ints l)) => by have := implValidList_any _ l W h hn; rw [hd] at this; exact this)
    have HF := Lib.hid (dsF_no hok)
    clear hok hd
    go_enter Try.func34, Try.ntmps34
    go_wp2_with fail
    refine (HI.out _ HV.out).mono ?_
    rintro e w1 ⟨rfl, hb1⟩
    have HRES : Hid (RetIE (dsF l) w (.returned (.tuple #[.slice none 0 0, .bool false])) w1) := Lib.hid (by rw [HF.out]; exact .inr ⟨rfl, none, 0, rfl, hb1⟩)
    clear hb1 HI
    go_wp2_with fail
    go_ret2
    exact HRES.out

set_option maxRecDepth 100000 in
set_option maxHeartbeats 4000000 in
theorem implMj_any (v : Value) (l : List Int) (w : World) (hv : FlatAt w v l.length (ints l)) (hn : l.length ≤ 1048576) :
    Calls Try.prog 35 #[v] w fun e w' => e = .returned (.tuple #[.int .i64 (mjF l).1, .bool (mjF l).2]) ∧ Below w.heap.size w w' := by
  have HDS := Lib.hid ((implDs_any v l w hv hn).mono fun _ _ h => h.flat)
  clear hv
  by_cases hok : OkL l
  · have HF := Lib.hid (mjF_yes hok)
    have HML := Lib.hid (mj_ds hok)
    have HLE : Hid ((ds l 0).length ≤ 64) := Lib.hid (by have := ds_len l 0; have := hok.1; omega)
    have HSM := Lib.hid (fun j (h : j ∈ ds l 0) => by have := (ds_mem l 0).1 j h; have := hok.1; exact (by omega : j ≤ 64))
    rw [dsF_yes hok] at HDS
    obtain ⟨D, hD⟩ : ∃ D, D = ds l 0 := ⟨_, rfl⟩
    have HDE : Hid (dsL l = nats D) := Lib.hid (by rw [hD]; rfl)
    rw [← hD] at HLE HML HSM HF
    rw [HDE.out] at HDS
    have hdl := HLE.out
    have HNL : Hid ((nats D).length = D.length) := Lib.hid (nats_length D)
    have HMD := Lib.hid (fun k j (h : D[k]? = some j) => mj_drop h)
    have HME := Lib.hid (fun k (h : D.length ≤ k) => mj_end h)
    clear hok hD HDE
    go_enter Try.func35, Try.ntmps35
    go_wp2_with fail
    refine (HDS.out).mono ?_
    rintro e w1 ⟨a, c, rfl, hfl, hb⟩
    simp only at hfl ⊢
    rw [HNL.out] at hfl ⊢
    obtain ⟨a0, c0, he0, _, hel⟩ := hfl
    simp at he0
    obtain ⟨rfl, rfl⟩ := he0
    have HE := Lib.hid (fun j (x : Nat) (hj : D[j]? = some x) => by
      obtain ⟨b, o, e, hb, hh⟩ := hel j (.int .i64 (x : Int)) (ints_at (by unfold nats; rw [List.getElem?_map, hj]; rfl))
      exact (⟨b, o, e, hb, hh⟩ : ∃ b o, a = some ⟨b, o, none⟩ ∧ b < w1.heap.size ∧ w1.cell? ⟨b, o + j, none⟩ = some (.int .i64 (x : Int))))
    have HB := Lib.hid hb
    clear hel hb HDS
    go_wp2_with fail
    go_loopw [6, 8, 18] (fun s _ i wr => ∃ (k m : Nat), k ≤ D.length ∧ i = .int .i64 k ∧ s = .int .i64 m ∧ Hid (m + mj (D.drop k) = mj D) ∧ wr = w1) (fun _ _ i _ => D.length - (intOf i).toNat)
    case atStart => exact ⟨0, 0, Nat.zero_le _, rfl, rfl, Lib.hid (by simp), rfl⟩
    case round =>
      obtain ⟨k, m, hk, rfl, rfl, HM, rfl⟩ := hrel
      by_cases hlt : k < D.length
      · obtain ⟨x, hx⟩ : ∃ x, D[k]? = some x := ⟨_, List.getElem?_eq_getElem hlt⟩
        obtain ⟨b, o, rfl, hbb, hcx⟩ := HE.out _ _ hx
        have HX := Lib.hid (HMD.out _ _ hx)
        have HSB : Hid (m ≤ 4096 ∧ x ≤ 64) := Lib.hid ⟨by have := HM.out; have := HML.out; omega, HSM.out _ (List.mem_of_getElem? hx)⟩
        have hm1 := HSB.out.1
        have hx1 := HSB.out.2
        have hwa : IntKind.i64.wrap ((x : Int) + 1) = (x : Int) + 1 := by rw [IntKind.wrap_i64]; omega
        have hwb : IntKind.i64.wrap ((m : Int) + ((x : Int) + 1)) = (m : Int) + ((x : Int) + 1) := by rw [IntKind.wrap_i64]; omega
        clear hx
        go_wp2_with fail
        clear hwa hwb
        go_roundw
        case rel => exact ⟨k + 1, m + (x + 1), by omega, by go_num, by go_num, Lib.hid (by have h1 := HM.out; have h2 := HX.out; omega), by trivial⟩
        case measure => simp [intOf]; omega
      · obtain rfl : k = D.length := by omega
        have hm : m = mj D := by have h1 := HM.out; have h2 := HME.out D.length (Nat.le_refl _); omega
        obtain rfl := hm
        go_wp2_with fail
        go_ret2
        exact ⟨by rw [HF.out]; rfl, HB.out⟩
  · have HF := Lib.hid (mjF_no hok)
    rw [dsF_no hok] at HDS
    clear hok
    go_enter Try.func35, Try.ntmps35
    go_wp2_with fail
    refine (HDS.out).mono ?_
    rintro e w1 ⟨a, c, rfl, _, hb⟩
    have HB := Lib.hid hb
    clear hb HDS
    go_wp2_with fail
    go_ret2
    exact ⟨by rw [HF.out]; rfl, HB.out⟩

end Go.Proofs.Ytjlldjekjnlcaaa
