/- The program's parseSpec, by its contract. -/
import Derived.Test.YtcbeoihgaccjcaaDoorCutS
import Derived.Test.YtcbeoihgaccjcaaDoorParse
import Derived.Test.YtcbeoihgaccjcaaDoorKeySpecs
import Derived.Laws.ResultCell
namespace Go.Proofs.YtcbeoihgaccjcaaDoor
open Go.RowKit

/-- The letters behind a field. -/
def suff (a b c : Bool) : List UInt8 := (if a then [110] else []) ++ (if b then [100] else []) ++ (if c then [102] else [])

theorem cut1_back {l t : List UInt8} {c : UInt8} {b : Bool} (h : (t, b) = cut1 l c) : l = t ++ (if b then [c] else []) := by
  unfold cut1 at h
  split at h
  · rename_i hl
    obtain ⟨rfl, rfl⟩ := Prod.mk.inj h
    rcases List.eq_nil_or_concat l with e | ⟨A, z, e⟩
    · subst e; simp at hl
    · subst e
      simp at hl
      subst hl
      simp
  · obtain ⟨rfl, rfl⟩ := Prod.mk.inj h
    simp

/-- No letter at the end. -/
def Plain (l : List UInt8) : Prop := l.getLast? ≠ some 102 ∧ l.getLast? ≠ some 100 ∧ l.getLast? ≠ some 110

theorem cuts_of {l x l1 l2 l3 : List UInt8} {a b c a' b' c' : Bool} (hx : Plain x) (h : l = x ++ suff a' b' c') (h1 : (l1, c) = cut1 l 102) (h2 : (l2, b) = cut1 l1 100) (h3 : (l3, a) = cut1 l2 110) :
    l3 = x ∧ a = a' ∧ b = b' ∧ c = c' := by
  obtain ⟨p1, p2, p3⟩ := hx
  subst h
  cases c' with
  | true =>
    rw [show x ++ suff a' b' true = (x ++ suff a' b' false) ++ [102] by simp [suff], cut1_yes] at h1
    obtain ⟨rfl, rfl⟩ := Prod.mk.inj h1
    cases b' with
    | true =>
      rw [show x ++ suff a' true false = (x ++ suff a' false false) ++ [100] by simp [suff], cut1_yes] at h2
      obtain ⟨rfl, rfl⟩ := Prod.mk.inj h2
      cases a' with
      | true =>
        rw [show x ++ suff true false false = x ++ [110] by simp [suff], cut1_yes] at h3
        obtain ⟨rfl, rfl⟩ := Prod.mk.inj h3
        exact ⟨rfl, rfl, rfl, rfl⟩
      | false =>
        rw [show x ++ suff false false false = x by simp [suff], cut1_no p3] at h3
        obtain ⟨rfl, rfl⟩ := Prod.mk.inj h3
        exact ⟨rfl, rfl, rfl, rfl⟩
    | false =>
      cases a' with
      | true =>
        rw [show x ++ suff true false false = x ++ [110] by simp [suff], cut1_no (by simp)] at h2
        obtain ⟨rfl, rfl⟩ := Prod.mk.inj h2
        rw [cut1_yes] at h3
        obtain ⟨rfl, rfl⟩ := Prod.mk.inj h3
        exact ⟨rfl, rfl, rfl, rfl⟩
      | false =>
        rw [show x ++ suff false false false = x by simp [suff], cut1_no p2] at h2
        obtain ⟨rfl, rfl⟩ := Prod.mk.inj h2
        rw [cut1_no p3] at h3
        obtain ⟨rfl, rfl⟩ := Prod.mk.inj h3
        exact ⟨rfl, rfl, rfl, rfl⟩
  | false =>
    cases b' with
    | true =>
      rw [show x ++ suff a' true false = (x ++ suff a' false false) ++ [100] by simp [suff], cut1_no (by simp)] at h1
      obtain ⟨rfl, rfl⟩ := Prod.mk.inj h1
      rw [cut1_yes] at h2
      obtain ⟨rfl, rfl⟩ := Prod.mk.inj h2
      cases a' with
      | true =>
        rw [show x ++ suff true false false = x ++ [110] by simp [suff], cut1_yes] at h3
        obtain ⟨rfl, rfl⟩ := Prod.mk.inj h3
        exact ⟨rfl, rfl, rfl, rfl⟩
      | false =>
        rw [show x ++ suff false false false = x by simp [suff], cut1_no p3] at h3
        obtain ⟨rfl, rfl⟩ := Prod.mk.inj h3
        exact ⟨rfl, rfl, rfl, rfl⟩
    | false =>
      cases a' with
      | true =>
        rw [show x ++ suff true false false = x ++ [110] by simp [suff], cut1_no (by simp)] at h1
        obtain ⟨rfl, rfl⟩ := Prod.mk.inj h1
        rw [cut1_no (by simp)] at h2
        obtain ⟨rfl, rfl⟩ := Prod.mk.inj h2
        rw [cut1_yes] at h3
        obtain ⟨rfl, rfl⟩ := Prod.mk.inj h3
        exact ⟨rfl, rfl, rfl, rfl⟩
      | false =>
        rw [show x ++ suff false false false = x by simp [suff], cut1_no p1] at h1
        obtain ⟨rfl, rfl⟩ := Prod.mk.inj h1
        rw [cut1_no p2] at h2
        obtain ⟨rfl, rfl⟩ := Prod.mk.inj h2
        rw [cut1_no p3] at h3
        obtain ⟨rfl, rfl⟩ := Prod.mk.inj h3
        exact ⟨rfl, rfl, rfl, rfl⟩

theorem plain_dec (u : Nat) : Plain (Lib.decDigits u) ∧ Lib.decDigits u ≠ [] := by
  have hne : Lib.decDigits u ≠ [] := by
    intro h
    have := dec_pos u
    rw [h] at this; simp at this
  have hall := dec_all u
  refine ⟨?_, hne⟩
  have key : ∀ c : UInt8, (c.toNat < 48 ∨ 57 < c.toNat) → (Lib.decDigits u).getLast? ≠ some c := by
    intro c hc h
    have := hall c (List.mem_of_getLast? h)
    omega
  exact ⟨key 102 (by decide), key 100 (by decide), key 110 (by decide)⟩

theorem plain_itoa (n : Int) : Plain (Lib.itoa n) := by
  by_cases h : 0 ≤ n
  · obtain ⟨u, rfl⟩ : ∃ u : Nat, n = u := ⟨n.toNat, by omega⟩
    rw [Lib.itoa_nonneg]; exact (plain_dec u).1
  · have e : Lib.itoa n = 45 :: Lib.decDigits n.natAbs := by unfold Lib.itoa; rw [if_pos (by omega)]
    obtain ⟨⟨p1, p2, p3⟩, hne⟩ := plain_dec n.natAbs
    rw [e]
    have hl : (45 :: Lib.decDigits n.natAbs).getLast? = (Lib.decDigits n.natAbs).getLast? := by
      cases hd : Lib.decDigits n.natAbs with
      | nil => exact absurd hd hne
      | cons x r => simp [List.getLast?_cons_cons]
    unfold Plain
    rw [hl]
    exact ⟨p1, p2, p3⟩

/-- What parseSpec says. -/
def KeyPost (s : ByteArray) (w : World) (e : Ending) (w' : World) : Prop :=
  Below w.heap.size w w' ∧ ((∃ k : Int × Bool × Bool × Bool, -999999 ≤ k.1 ∧ k.1 ≤ 999999 ∧ e = .returned (.tuple #[.agg #[.int .i64 k.1, .bool k.2.1, .bool k.2.2.1, .bool k.2.2.2], .bool true]) ∧ s.data.toList = Lib.itoa k.1 ++ suff k.2.1 k.2.2.1 k.2.2.2) ∨
    (e = .returned (.tuple #[.agg #[.int .i64 0, .bool false, .bool false, .bool false], .bool false]) ∧ ∀ k : Int × Bool × Bool × Bool, -999999 ≤ k.1 → k.1 ≤ 999999 → s.data.toList ≠ Lib.itoa k.1 ++ suff k.2.1 k.2.2.1 k.2.2.2))

set_option maxRecDepth 100000 in
set_option maxHeartbeats 4000000 in
theorem parseSpec_any (s : ByteArray) (w : World) (hs : s.size ≤ 1048576)
    (hp : ∀ (t : ByteArray) W, t.size ≤ 1048576 → Below w.heap.size w W → Calls Tryd.prog 43 #[.string t] W (ReadPost t W)) :
    Calls Tryd.prog 28 #[.string s] w (KeyPost s w) := by
  have HP := Lib.hid hp
  clear hp
  go_enter Tryd.func28, Tryd.ntmps28
  go_wp2_with fail
  refine (cutS_any s 102 _ hs).mono ?_
  rintro e w1 ⟨s1, c, rfl, hc1, hs1, rfl⟩
  have H1 := Lib.hid hc1
  clear hc1
  go_wp2_with fail
  refine (cutS_any s1 100 _ (by omega)).mono ?_
  rintro e w1 ⟨s2, b, rfl, hc2, hs2, rfl⟩
  have H2 := Lib.hid hc2
  clear hc2
  go_wp2_with fail
  refine (cutS_any s2 110 _ (by omega)).mono ?_
  rintro e w1 ⟨s3, a, rfl, hc3, hs3, rfl⟩
  have H3 := Lib.hid hc3
  clear hc3
  go_wp2_with fail
  have HA := Lib.hid (show Below w.heap.size w ((w.alloc (.cells #[.int .i64 0, .bool false, .bool false, .bool false] 32)).alloc (.cells #[.int .i64 0, .bool a, .bool b, .bool c] 32)) from ((Below.refl _ w).alloc (Nat.le_refl _) _).alloc (by simp) _)
  refine (HP.out s3 _ (by omega) HA.out).mono ?_
  have hr0 : RowIs ((w.alloc (.cells #[.int .i64 0, .bool false, .bool false, .bool false] 32)).alloc (.cells #[.int .i64 0, .bool a, .bool b, .bool c] 32)) w.heap.size 32 [.int .i64 0, .bool false, .bool false, .bool false] :=
    (show RowIs (w.alloc (.cells #[.int .i64 0, .bool false, .bool false, .bool false] 32)) w.heap.size _ _ from heap_alloc_new w _).below ((Below.refl _ _).alloc (Nat.le_refl _) _) (by simp)
  have hr1 : RowIs ((w.alloc (.cells #[.int .i64 0, .bool false, .bool false, .bool false] 32)).alloc (.cells #[.int .i64 0, .bool a, .bool b, .bool c] 32)) (w.heap.size + 1) 32 [.int .i64 0, .bool a, .bool b, .bool c] := by
    have := heap_alloc_new (w.alloc (.cells #[.int .i64 0, .bool false, .bool false, .bool false] 32)) (.cells #[.int .i64 0, .bool a, .bool b, .bool c] 32)
    rw [show (w.alloc (.cells #[.int .i64 0, .bool false, .bool false, .bool false] 32)).heap.size = w.heap.size + 1 by simp] at this
    exact this
  have R0 := Lib.hid hr0
  have R1 := Lib.hid hr1
  clear hr0 hr1
  rintro e w2 ⟨hb2, ⟨n, h0, h1, rfl, hn⟩ | ⟨rfl, hn⟩⟩
  · have RX := R0.out.below hb2 R0.out.lt
    have RY := R1.out.below hb2 R1.out.lt
    have hx0 := RX.cell 0
    have hx1 := RX.cell 1
    have hx2 := RX.cell 2
    have hx3 := RX.cell 3
    have hy0 := RY.cell 0
    have hy1 := RY.cell 1
    have hy2 := RY.cell 2
    have hy3 := RY.cell 3
    have fx0 := RX.frozen 0
    have fx1 := RX.frozen 1
    have fx2 := RX.frozen 2
    have fx3 := RX.frozen 3
    have fy0 := RY.frozen 0
    simp at hx0 hx1 hx2 hx3 hy0 hy1 hy2 hy3
    have HB := Lib.hid (HA.out.trans (hb2.mono HA.out.size))
    have HN := Lib.hid (And.intro h0 (And.intro h1 hn))
    have RXH := Lib.hid RX
    clear hb2 RX RY h0 h1 hn R0 R1
    go_wp2_with fail
    have RZ : RowIs (((((w2.setCell ⟨w.heap.size + 1, 0, none⟩ (.int .i64 n)).setCell ⟨w.heap.size, 0, none⟩ (.int .i64 n)).setCell ⟨w.heap.size, 1, none⟩ (.bool a)).setCell ⟨w.heap.size, 2, none⟩ (.bool b)).setCell ⟨w.heap.size, 3, none⟩ (.bool c)) w.heap.size 32 [.int .i64 n, .bool a, .bool b, .bool c] :=
      ((((RXH.out.but ((But.refl (w.heap.size + 1) w2).setCell 0 (.int .i64 n)) (by omega)).stored 0 (.int .i64 n)).stored 1 (.bool a)).stored 2 (.bool b)).stored 3 (.bool c)
    have HBC : Hid (Below w.heap.size w (((((w2.setCell ⟨w.heap.size + 1, 0, none⟩ (.int .i64 n)).setCell ⟨w.heap.size, 0, none⟩ (.int .i64 n)).setCell ⟨w.heap.size, 1, none⟩ (.bool a)).setCell ⟨w.heap.size, 2, none⟩ (.bool b)).setCell ⟨w.heap.size, 3, none⟩ (.bool c))) := Lib.hid (((((HB.out.setCell (p := ⟨w.heap.size + 1, 0, none⟩) (by simp) _).setCell (p := ⟨w.heap.size, 0, none⟩) (Nat.le_refl _) _).setCell (p := ⟨w.heap.size, 1, none⟩) (Nat.le_refl _) _).setCell (p := ⟨w.heap.size, 2, none⟩) (Nat.le_refl _) _).setCell (p := ⟨w.heap.size, 3, none⟩) (Nat.le_refl _) _)
    clear hx0 hx1 hx2 hx3 hy0 hy1 hy2 hy3 fx0 fx1 fx2 fx3 fy0 RXH HB
    generalize (((((w2.setCell ⟨w.heap.size + 1, 0, none⟩ (.int .i64 n)).setCell ⟨w.heap.size, 0, none⟩ (.int .i64 n)).setCell ⟨w.heap.size, 1, none⟩ (.bool a)).setCell ⟨w.heap.size, 2, none⟩ (.bool b)).setCell ⟨w.heap.size, 3, none⟩ (.bool c)) = w3 at RZ HBC ⊢
    have hz0 := RZ.cell 0
    have hz1 := RZ.cell 1
    have hz2 := RZ.cell 2
    have hz3 := RZ.cell 3
    simp at hz0 hz1 hz2 hz3
    refine bodyPost_ret (v := .tuple #[.agg #[.int .i64 n, .bool a, .bool b, .bool c], .bool true]) (by simp [results, Tryd.results28, go_sem, hz0, hz1, hz2, hz3]) rfl ?_
    refine ⟨HBC.out, .inl ⟨(n, a, b, c), HN.out.1, HN.out.2.1, rfl, ?_⟩⟩
    rw [cut1_back H1.out, cut1_back H2.out, cut1_back H3.out, HN.out.2.2]
    simp [suff]
  · have RX := R0.out.below hb2 R0.out.lt
    have hx0 := RX.cell 0
    have hx1 := RX.cell 1
    have hx2 := RX.cell 2
    have hx3 := RX.cell 3
    have fx0 := RX.frozen 0
    have fx1 := RX.frozen 1
    have fx2 := RX.frozen 2
    have fx3 := RX.frozen 3
    simp at hx0 hx1 hx2 hx3
    have HB := Lib.hid (HA.out.trans (hb2.mono HA.out.size))
    have HN := Lib.hid hn
    have RXH := Lib.hid RX
    clear hb2 RX hn R0 R1
    go_wp2_with fail
    have RZ : RowIs ((((w2.setCell ⟨w.heap.size, 0, none⟩ (.int .i64 0)).setCell ⟨w.heap.size, 1, none⟩ (.bool false)).setCell ⟨w.heap.size, 2, none⟩ (.bool false)).setCell ⟨w.heap.size, 3, none⟩ (.bool false)) w.heap.size 32 [.int .i64 0, .bool false, .bool false, .bool false] :=
      (((RXH.out.stored 0 (.int .i64 0)).stored 1 (.bool false)).stored 2 (.bool false)).stored 3 (.bool false)
    have HBC : Hid (Below w.heap.size w ((((w2.setCell ⟨w.heap.size, 0, none⟩ (.int .i64 0)).setCell ⟨w.heap.size, 1, none⟩ (.bool false)).setCell ⟨w.heap.size, 2, none⟩ (.bool false)).setCell ⟨w.heap.size, 3, none⟩ (.bool false))) := Lib.hid ((((HB.out.setCell (p := ⟨w.heap.size, 0, none⟩) (Nat.le_refl _) _).setCell (p := ⟨w.heap.size, 1, none⟩) (Nat.le_refl _) _).setCell (p := ⟨w.heap.size, 2, none⟩) (Nat.le_refl _) _).setCell (p := ⟨w.heap.size, 3, none⟩) (Nat.le_refl _) _)
    clear hx0 hx1 hx2 hx3 fx0 fx1 fx2 fx3 RXH HB
    generalize ((((w2.setCell ⟨w.heap.size, 0, none⟩ (.int .i64 0)).setCell ⟨w.heap.size, 1, none⟩ (.bool false)).setCell ⟨w.heap.size, 2, none⟩ (.bool false)).setCell ⟨w.heap.size, 3, none⟩ (.bool false)) = w3 at RZ HBC ⊢
    have hz0 := RZ.cell 0
    have hz1 := RZ.cell 1
    have hz2 := RZ.cell 2
    have hz3 := RZ.cell 3
    simp at hz0 hz1 hz2 hz3
    refine bodyPost_ret (v := .tuple #[.agg #[.int .i64 0, .bool false, .bool false, .bool false], .bool false]) (by simp [results, Tryd.results28, go_sem, hz0, hz1, hz2, hz3]) rfl ?_
    refine ⟨HBC.out, .inr ⟨rfl, fun k k0 k1 he => ?_⟩⟩
    have := (cuts_of (plain_itoa k.1) he H1.out H2.out H3.out).1
    exact HN.out k.1 k0 k1 this.symm

end Go.Proofs.YtcbeoihgaccjcaaDoor
