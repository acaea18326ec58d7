/- The program's DigitOf, DigitCounts, RadixPass, by their contracts. -/
import Derived.Test.YtebipiehkmhaiaaIDgA
import Derived.Test.YtebipiehkmhaiaaIDist
import Derived.Test.YtebipiehkmhaiaaIRecs
import Derived.Test.YtebipiehkmhaiaaRetCE
import Derived.Test.YtebipiehkmhaiaaCloneI
namespace Go.Proofs.Ytebipiehkmhaiaa
open Go.RowKit Rx P
set_option linter.unusedVariables false
attribute [local go_sem ↓ high] alloc_tab load_tab store_tab box_tab
attribute [local go_sem] run_tabNew

/-- The answer of an invalid call: no list. -/
theorem RetCE.none0 (w w1 : World) (hb : Below w.heap.size w w1) : RetCE ([], false) w (.returned (.tuple #[.slice none 0 0, .bool false])) w1 := .inr ⟨rfl, _, _, rfl, hb⟩
theorem Ret1CE.none0 (w w1 : World) (hb : Below w.heap.size w w1) : Ret1CE ([], 0, false) w (.returned (.tuple #[.slice none 0 0, .int .i64 0, .bool false])) w1 := .inr ⟨rfl, _, _, rfl, hb⟩
theorem RetIE.none0 (w w1 : World) (hb : Below w.heap.size w w1) : RetIE ([], false) w (.returned (.tuple #[.slice none 0 0, .bool false])) w1 := .inr ⟨rfl, _, _, rfl, hb⟩

theorem bk_any (l : List (Int × Int)) {b : Nat} (p : Nat) (hb : 0 < b) (hb2 : b ≤ 256) : bk (dgR b p) l 1001 = bk (dgR b p) l b :=
  (bk_of (f := dgR b p) fun x _ => Nat.lt_of_lt_of_le (dg_lt hb p _) (by omega)).uniq (bk_of (f := dgR b p) fun x _ => dg_lt hb p _)

/-- A pass over records whose keys are valid. -/
theorem pass_any (b p : Nat) (gb gp : Nat) (v : Value) (l : List (Int × Int)) (w : World) (hv : FlatAt w v l.length (recs l)) (hn : l.length ≤ 1048576) (hk : ∀ q ∈ l, -100000 ≤ q.1 ∧ q.1 ≤ 100000) (hb : 2 ≤ b) (hb2 : b ≤ 256) (hp : p ≤ 17)
    (hc : ∀ W, Below w.heap.size w W → W.cell? ⟨gb, 0, none⟩ = some (.int .i64 (b : Int)) ∧ W.cell? ⟨gp, 0, none⟩ = some (.int .i64 (p : Int))) :
    Calls Try.prog 73 #[v, .func (.func 127) #[] #[.pointer (some ⟨gb, 0, none⟩), .pointer (some ⟨gp, 0, none⟩)]] w (RowOfC (bk (dgR b p) l b) w) := by
  rw [← bk_any l p (by omega) hb2]
  exact distributed_any (dgI b p) 127 #[.pointer (some ⟨gb, 0, none⟩), .pointer (some ⟨gp, 0, none⟩)] enters_digit v l w hv hn (fun q _ => Nat.lt_of_lt_of_le (dg_lt (by omega) p _) (by omega)) (fun W x hx hW => by
    obtain ⟨q, hq, rfl⟩ := List.mem_map.1 hx
    obtain ⟨c1, c2⟩ := hc W hW
    exact digitFn_any q.1 b p gb gp W c1 c2 (hk q hq).1 (hk q hq).2 hb hb2 hp)

theorem implDof_any (k b p : Int) (W : World) :
    Calls Try.prog 30 #[.int .i64 k, .int .i64 b, .int .i64 p] W fun e w' => e = .returned (.tuple #[.int .i64 (dofAll k b p).1, .bool (dofAll k b p).2]) ∧ Below W.heap.size W w' := by
  have HO := Lib.hid (fun W => isOutside_any k W)
  have HB := Lib.hid (fun W => isBP_any b p W)
  by_cases hk : -100000 ≤ k ∧ k ≤ 100000
  · have hko : outK k = false := by unfold outK; simp; omega
    rw [hko] at HO
    by_cases hbp : OkBP b p
    · rw [decide_eq_true hbp] at HB
      obtain ⟨⟨hb1, hb2⟩, hp1, hp2⟩ := hbp
      obtain ⟨b, rfl⟩ : ∃ n : Nat, b = n := ⟨b.toNat, by omega⟩
      obtain ⟨p, rfl⟩ : ∃ n : Nat, p = n := ⟨p.toNat, by omega⟩
      have HS := Lib.hid (fun W => shifted_any k W hk.1 hk.2)
      have HD := Lib.hid (fun W => digit_any (sk k) b p W (by omega) (by omega) (by omega) (sk_le hk.2))
      rw [← sk_eq hk.1] at HD
      have HF : Hid (dofAll k (b : Int) (p : Int) = (((dg b p (sk k) : Nat) : Int), true)) := Lib.hid (dofAll_yes ⟨hk, ⟨hb1, hb2⟩, hp1, hp2⟩)
      rw [HF.out]
      clear hk hko hb1 hb2 hp1 hp2 HF
      generalize dg b p (sk k) = r at *
      go_enter Try.func30, Try.ntmps30
      go_wp2_with fail
      refine (HO.out _).mono ?_
      rintro e w1 ⟨rfl, rfl⟩
      go_wp2_with fail
      refine (HB.out _).mono ?_
      rintro e w1 ⟨rfl, rfl⟩
      go_wp2_with fail
      refine (HS.out _).mono ?_
      rintro e w1 ⟨rfl, rfl⟩
      go_wp2_with fail
      refine (HD.out _).mono ?_
      rintro e w1 ⟨rfl, rfl⟩
      go_wp2_with fail
      go_ret2
      exact ⟨rfl, Below.refl _ _⟩
    · rw [decide_eq_false hbp] at HB
      have HF : Hid (dofAll k b p = (0, false)) := Lib.hid (dofAll_no fun h => hbp h.2)
      rw [HF.out]
      clear hk hko hbp HF
      go_enter Try.func30, Try.ntmps30
      go_wp2_with fail
      refine (HO.out _).mono ?_
      rintro e w1 ⟨rfl, rfl⟩
      go_wp2_with fail
      refine (HB.out _).mono ?_
      rintro e w1 ⟨rfl, rfl⟩
      go_wp2_with fail
      go_ret2
      exact ⟨rfl, Below.refl _ _⟩
  · have hko : outK k = true := by unfold outK; simp; omega
    rw [hko] at HO
    have HF : Hid (dofAll k b p = (0, false)) := Lib.hid (dofAll_no fun h => hk h.1)
    rw [HF.out]
    clear hk hko HF
    go_enter Try.func30, Try.ntmps30
    go_wp2_with fail
    refine (HO.out _).mono ?_
    rintro e w1 ⟨rfl, rfl⟩
    go_wp2_with fail
    go_ret2
    exact ⟨rfl, Below.refl _ _⟩

set_option maxRecDepth 100000 in
set_option maxHeartbeats 4000000 in
theorem implRp_any (b' o c : Nat) (l : List (Int × Int)) (b p : Int) (w : World) (hv : FlatAt w (.slice (some ⟨b', o, none⟩) l.length c) l.length (recs l)) (hn : l.length ≤ 1048576) :
    Calls Try.prog 27 #[.slice (some ⟨b', o, none⟩) l.length c, .int .i64 b, .int .i64 p] w (RetCE (rpAll l b p) w) := by
  have HV := Lib.hid (implValidRecs_any _ l w hv hn)
  have HB := Lib.hid (fun W => isBP_any b p W)
  have HNONE := Lib.hid (fun (h : ¬ (OkR l ∧ OkBP b p)) => rpAll_no h)
  by_cases hok : OkR l
  · rw [decide_eq_true hok] at HV
    by_cases hbp : OkBP b p
    · rw [decide_eq_true hbp] at HB
      have HF := Lib.hid (rpAll_yes ⟨hok, hbp⟩)
      obtain ⟨⟨hb1, hb2⟩, hp1, hp2⟩ := hbp
      obtain ⟨b, rfl⟩ : ∃ n : Nat, b = n := ⟨b.toNat, by omega⟩
      obtain ⟨p, rfl⟩ : ∃ n : Nat, p = n := ⟨p.toNat, by omega⟩
      have HDA := Lib.hid (fun W => digitAt_any (b : Int) (p : Int) W)
      have HPS := Lib.hid (fun (W W2 : World) (h1 : Below w.heap.size w W) (h2 : W2 = (W.alloc (.cells #[.int .i64 (b : Int)] 3)).alloc (.cells #[.int .i64 (p : Int)] 3)) =>
        pass_any b p W.heap.size (W.heap.size + 1) (.slice (some ⟨b', o, none⟩) l.length c) l W2 (by rw [h2]; exact (hv.below h1).below (digit_boxes (b : Int) (p : Int) W).1) hn (fun q hq => hok.key hq) (by omega) (by omega) (by omega) (by rw [h2]; exact (digit_boxes (b : Int) (p : Int) W).2))
      have HBX := Lib.hid (fun (W : World) => (digit_boxes (b : Int) (p : Int) W).1)
      rw [HF.out]
      have HLEN : Hid ((bk (dgR (b : Int).toNat (p : Int).toNat) l (b : Int).toNat).length = l.length) := Lib.hid (bk_dg_len l (by omega))
      simp only [Int.toNat_natCast] at HLEN ⊢
      clear hok hv hb1 hb2 hp1 hp2 HF HNONE
      generalize bk (dgR b p) l b = M at *
      go_enter Try.func27, Try.ntmps27
      go_wp2_with fail
      refine HV.out.mono ?_
      rintro e w1 ⟨rfl, hb1⟩
      have HB1 := Lib.hid hb1
      clear hb1 HV
      go_wp2_with fail
      refine (HB.out _).mono ?_
      rintro e w1' ⟨rfl, rfl⟩
      go_wp2_with fail
      refine (HDA.out _).mono ?_
      rintro e w2 ⟨rfl, hw2⟩
      have HP := Lib.hid (HPS.out w1' w2 HB1.out hw2)
      have HB2 : Hid (Below w.heap.size w w2) := Lib.hid (by rw [hw2]; exact HB1.out.trans ((HBX.out w1').mono HB1.out.size))
      clear hw2 HPS HBX HB1 HDA HB
      go_wp2_with fail
      refine HP.out.mono ?_
      rintro e w3 ⟨g, cg, rfl, hcg, hg, hrow, hb3⟩
      have HRES : Hid (RetCE (M, true) w (.returned (.tuple #[.slice (some ⟨g, 0, none⟩) M.length cg, .bool true])) w3) := Lib.hid (.inl ⟨g, cg, rfl, hcg, Nat.le_trans HB2.out.size hg, hrow, HB2.out.trans (hb3.mono HB2.out.size)⟩)
      clear hcg hg hrow hb3 HP HB2
      go_wp2_with fail
      go_ret2
      exact HRES.out
    · rw [decide_eq_false hbp] at HB
      rw [HNONE.out fun h => hbp h.2]
      clear hok hbp hv HNONE
      go_enter Try.func27, Try.ntmps27
      go_wp2_with fail
      refine HV.out.mono ?_
      rintro e w1 ⟨rfl, hb1⟩
      have HRES := Lib.hid (RetCE.none0 w w1 hb1)
      clear hb1 HV
      go_wp2_with fail
      refine (HB.out _).mono ?_
      rintro e w1' ⟨rfl, rfl⟩
      go_wp2_with fail
      go_ret2
      exact HRES.out
  · rw [decide_eq_false hok] at HV
    rw [HNONE.out fun h => hok h.1]
    clear hok hv HNONE
    go_enter Try.func27, Try.ntmps27
    go_wp2_with fail
    refine HV.out.mono ?_
    rintro e w1 ⟨rfl, hb1⟩
    have HRES := Lib.hid (RetCE.none0 w w1 hb1)
    clear hb1 HV
    go_wp2_with fail
    go_ret2
    exact HRES.out

end Go.Proofs.Ytebipiehkmhaiaa
