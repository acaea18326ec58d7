/- The model's DualPartition, by its contract. -/
import Derived.Test.YtipdfmedbcafpaaQuickA
import Derived.Test.YtipdfmedbcafpaaOwnN
import Derived.Test.YtipdfmedbcafpaaRet12
import Derived.Test.YtipdfmedbcafpaaRes4
import Derived.BigRegion
import Derived.BigQuiet
import Derived.Deep.QuietTactic
import Derived.Laws.BitsLemmas
namespace Go.Proofs.Ytipdfmedbcafpaa
open Go.RowKit P El Qk
set_option linter.unusedVariables false
attribute [local go_sem ↓ high] builtin_append_held

/-- Two lists in different blocks. -/
def Apart (u v : Value) : Prop := ∀ g, u.ownBlock = some g → v.ownBlock = some g → False
theorem Apart.symm {u v : Value} (h : Apart u v) : Apart v u := fun g a b => h g b a
theorem Apart.of {base g n c : Nat} {w : World} {u v : Value} {M : List Int} (h : Apart u v) (hv : Held base w v M) (hg : u.ownBlock = some g ∨ w.heap.size ≤ g) : Apart (.slice (some ⟨g, 0, none⟩) n c) v := fun k a b => by
  obtain rfl : g = k := by simpa [Value.ownBlock] using a
  rcases hg with hg | hg
  · exact h g hg b
  · have := (hv.1.lt g b).2; omega
theorem Held.keepN {base : Nat} {w w' : World} {u v : Value} {M : List Int} (hv : Held base w v M) (h : Apart u v) (hf : ∀ k, k < w.heap.size → u.ownBlock ≠ some k → w'.heap[k]? = w.heap[k]?) : Held base w' v M :=
  hv.own (fun g c e hg => hf g hg (fun hu => h g hu (by rw [e]; rfl)))
/-- The three lists. -/
structure Du3 (base : Nat) (u v t : Value) (A B C : List Int) (w0 w : World) : Prop where
  a : Held base w u A
  b : Held base w v B
  c : Held base w t C
  ab : Apart u v
  ac : Apart u t
  bc : Apart v t
  bl : Below base w0 w
/-- 'append(l, n)' to one of them. -/
theorem appD (base : Nat) (v : Value) (L : List Int) (x : Int) (w : World) (h : Held base w v L) (hb : base ≤ w.heap.size) (hn : L.length ≤ 1048576) :
    ∃ g' c' w', (heldAppend #[26, 26] 26 #[v, .slice (some ⟨w.heap.size, 0, none⟩) 1 1]).run Try.prog (w.alloc (.cells #[.int .i64 x] 3)) = .ok (.slice (some ⟨g', 0, none⟩) (L.length + 1) c') w' ∧
      Held base w' (.slice (some ⟨g', 0, none⟩) (L.length + 1) c') (L ++ [x]) ∧ Below base w w' ∧ (∀ k, k < w.heap.size → v.ownBlock ≠ some k → w'.heap[k]? = w.heap[k]?) ∧ (v.ownBlock = some g' ∨ w.heap.size ≤ g') := by
  obtain ⟨g', c', w', h1, h2, h3, h4, h5⟩ := appendN base v L x w h.1 hb hn
  have e : (L ++ [x]).length = L.length + 1 := by simp
  rw [e] at h2
  exact ⟨g', c', w', h1, ⟨h2, g', c', by rw [e]⟩, h3, h4, h5⟩
/-- 'append(l, list...)', and what else stays. -/
theorem appM (base : Nat) (v : Value) (L : List Int) (b o c : Nat) (l : List Int) (w : World) (h : Held base w v L) (hb : base ≤ w.heap.size) (hn : L.length + l.length ≤ 2097152)
    (hl : ∀ (j : Nat) u, (ints l)[j]? = some u → w.cell? ⟨b, o + j, none⟩ = some u) :
    ∃ v' w', (heldAppend #[26, 26] 26 #[v, .slice (some ⟨b, o, none⟩) l.length c]).run Try.prog w = .ok v' w' ∧
      Held base w' v' (L ++ l) ∧ Below base w w' ∧ (∀ k, k < w.heap.size → v.ownBlock ≠ some k → w'.heap[k]? = w.heap[k]?) ∧ w.heap.size ≤ w'.heap.size := by
  obtain ⟨i0, hi, hz0, hz1, hz2⟩ := info_parts infoIntH
  obtain ⟨h, g, cv, rfl⟩ := h
  obtain ⟨v', w', hrun, hown, hgrow, hnil⟩ := run_append_own (P := Try.prog) (w := w) base 26 26 3 i0 (.int .i64 0) 1 8 Try.underlying26 hi hz0 hz1 hz2 rfl (by decide)
    _ L.length (ints L) h ⟨b, o, none⟩ l.length c (ints l) (by rw [ints_length, Nat.mul_one]) (fun j u hu => by
      have e : (⟨b, o, none⟩ : Addr).add j = ⟨b, o + j, none⟩ := by
        unfold Addr.add; split
        · rename_i h; subst h; rfl
        · rfl
      rw [e]; exact hl j u hu) (ints_one l) (by unfold maxLen; omega) (by omega) (by omega)
  rw [← ints_append L l, ← show (L ++ l).length = L.length + l.length by simp] at hown
  have hbl : Below base w w' := (Below.refl base w).grown hgrow (by omega) (fun j e => (h.lt j e).1)
  refine ⟨v', w', hrun, ⟨hown, ?_⟩, hbl, fun k hk hne => hgrow.block k hk (Ne.symm hne), hbl.size⟩
  rcases hown.2 with ⟨e, hz⟩ | ⟨g', cap, cur, e, _⟩
  · have := (hnil.1 e).1
    simp at this
  · exact ⟨g', cap, e⟩
theorem Du3.low {base : Nat} {u v t : Value} {A B C : List Int} {w0 w : World} (h : Du3 base u v t A B C w0 w) (hb : base ≤ w.heap.size) (hn : A.length ≤ 1048576) (x : Int) :
    ∃ g' c' w', (heldAppend #[26, 26] 26 #[u, .slice (some ⟨w.heap.size, 0, none⟩) 1 1]).run Try.prog (w.alloc (.cells #[.int .i64 x] 3)) = .ok (.slice (some ⟨g', 0, none⟩) (A.length + 1) c') w' ∧ Du3 base (.slice (some ⟨g', 0, none⟩) (A.length + 1) c') v t (A ++ [x]) B C w0 w' := by
  obtain ⟨g', c', w', h1, h2, h3, h4, h5⟩ := appD base u A x w h.a hb hn
  exact ⟨g', c', w', h1, h2, h.b.keepN h.ab h4, h.c.keepN h.ac h4, h.ab.of h.b h5, h.ac.of h.c h5, h.bc, h.bl.trans h3⟩
theorem Du3.mid {base : Nat} {u v t : Value} {A B C : List Int} {w0 w : World} (h : Du3 base u v t A B C w0 w) (hb : base ≤ w.heap.size) (hn : B.length ≤ 1048576) (x : Int) :
    ∃ g' c' w', (heldAppend #[26, 26] 26 #[v, .slice (some ⟨w.heap.size, 0, none⟩) 1 1]).run Try.prog (w.alloc (.cells #[.int .i64 x] 3)) = .ok (.slice (some ⟨g', 0, none⟩) (B.length + 1) c') w' ∧ Du3 base u (.slice (some ⟨g', 0, none⟩) (B.length + 1) c') t A (B ++ [x]) C w0 w' := by
  obtain ⟨g', c', w', h1, h2, h3, h4, h5⟩ := appD base v B x w h.b hb hn
  exact ⟨g', c', w', h1, h.a.keepN h.ab.symm h4, h2, h.c.keepN h.bc h4, (h.ab.symm.of h.a h5).symm, h.ac, h.bc.of h.c h5, h.bl.trans h3⟩
theorem Du3.high {base : Nat} {u v t : Value} {A B C : List Int} {w0 w : World} (h : Du3 base u v t A B C w0 w) (hb : base ≤ w.heap.size) (hn : C.length ≤ 1048576) (x : Int) :
    ∃ g' c' w', (heldAppend #[26, 26] 26 #[t, .slice (some ⟨w.heap.size, 0, none⟩) 1 1]).run Try.prog (w.alloc (.cells #[.int .i64 x] 3)) = .ok (.slice (some ⟨g', 0, none⟩) (C.length + 1) c') w' ∧ Du3 base u v (.slice (some ⟨g', 0, none⟩) (C.length + 1) c') A B (C ++ [x]) w0 w' := by
  obtain ⟨g', c', w', h1, h2, h3, h4, h5⟩ := appD base t C x w h.c hb hn
  exact ⟨g', c', w', h1, h.a.keepN h.ac.symm h4, h.b.keepN h.bc.symm h4, h2, h.ab, (h.ac.symm.of h.a h5).symm, (h.bc.symm.of h.b h5).symm, h.bl.trans h3⟩

theorem filt_yes {l : List Int} {p : Int → Bool} {k : Nat} {x : Int} (h : l[k]? = some x) (hp : p x = true) : (l.take (k + 1)).filter p = (l.take k).filter p ++ [x] := by
  rw [List.take_add_one, h, List.filter_append]; simp [hp]
theorem filt_no {l : List Int} {p : Int → Bool} {k : Nat} {x : Int} (h : l[k]? = some x) (hp : p x = false) : (l.take (k + 1)).filter p = (l.take k).filter p := by
  rw [List.take_add_one, h, List.filter_append]; simp [hp]
theorem filt_len {l : List Int} (p : Int → Bool) (k : Nat) : ((l.take k).filter p).length ≤ l.length :=
  Nat.le_trans (List.length_filter_le _ _) (by rw [List.length_take]; omega)

set_option maxRecDepth 100000 in
set_option maxHeartbeats 8000000 in
theorem specDu_any (b o c : Nat) (l : List Int) (p q : Int) (w : World) (hv : FlatAt w (.slice (some ⟨b, o, none⟩) l.length c) l.length (ints l)) (hn : l.length ≤ 1048576) :
    Calls Try.prog 46 #[.slice (some ⟨b, o, none⟩) l.length c, .int .i64 p, .int .i64 q] w (RetI2 (duAll l p q) w) := by
  have HV := Lib.hid (l2List_any _ l w hv hn)
  have HNONE : Hid (¬ (OkL l ∧ p ≤ q) → ∀ w1, Below w.heap.size w w1 → RetI2 (duAll l p q) w (.returned (.tuple #[.slice (some ⟨w1.heap.size, 0, none⟩) 0 0, .int .i64 0, .int .i64 0, .bool false])) (w1.alloc (.cells #[] 3))) := Lib.hid (fun h w1 hb => by rw [duAll_no h]; exact RetI2.none w w1 hb)
  by_cases hok : OkL l
  · rw [decide_eq_true hok] at HV
    by_cases hpq : p ≤ q
    · have hpz : ¬ q < p := by omega
      have hpd : decide (q < p) = false := decide_eq_false hpz
      have HF := Lib.hid (duAll_yes ⟨hok, hpq⟩)
      have h64 := hok.1
      obtain ⟨a', c', he, _, hh⟩ := hv
      simp at he
      obtain ⟨rfl, rfl⟩ := he
      have H := Lib.hid hh
      have HPQ := Lib.hid hpq
      clear hok HNONE hh hpq
      go_enter Try.func46, Try.ntmps46
      go_wp2_with fail
      refine HV.out.mono ?_
      rintro e w1 ⟨rfl, hb1⟩
      have HB1 := Lib.hid hb1
      clear hb1 HV
      go_wp2_with fail
      have HD0 : Hid (Du3 w.heap.size (.slice (some ⟨w1.heap.size, 0, none⟩) 0 0) (.slice (some ⟨w1.heap.size + 1, 0, none⟩) 0 0) (.slice (some ⟨w1.heap.size + 1 + 1, 0, none⟩) 0 0) [] [] [] w (((w1.alloc (.cells #[] 3)).alloc (.cells #[] 3)).alloc (.cells #[] 3))) := Lib.hid (by
        have s0 := HB1.out.size
        have z1 : (w1.alloc (.cells #[] 3)).heap.size = w1.heap.size + 1 := by simp
        have z2 : ((w1.alloc (.cells #[] 3)).alloc (.cells #[] 3)).heap.size = w1.heap.size + 1 + 1 := by simp
        have a1 := (Held.start w1 w.heap.size s0).alloc (.cells #[] 3) |>.alloc (.cells #[] 3)
        have a2 := (Held.start (w1.alloc (.cells #[] 3)) w.heap.size (by omega)).alloc (.cells #[] 3)
        have a3 := Held.start ((w1.alloc (.cells #[] 3)).alloc (.cells #[] 3)) w.heap.size (by omega)
        rw [z1] at a2
        rw [z2] at a3
        exact ⟨a1, a2, a3, fun g x y => by simp [Value.ownBlock] at x y; omega, fun g x y => by simp [Value.ownBlock] at x y; omega, fun g x y => by simp [Value.ownBlock] at x y; omega,
          ((HB1.out.alloc s0 _).alloc (by omega) _).alloc (by omega) _⟩)
      have HFL := Lib.hid (fun (f : Int → Bool) k => filt_len (l := l) f k)
      go_loopw [10, 11, 12, 13] (fun lv mv tv iv wr => ∃ k : Nat, iv = .int .i64 (k : Int) ∧ k ≤ l.length ∧ Du3 w.heap.size lv mv tv (lowF (l.take k) p) (midF (l.take k) p q) (highF (l.take k) q) w wr) (fun _ _ _ iv _ => l.length - (intOf iv).toNat)
      case atStart => exact ⟨0, rfl, Nat.zero_le _, HD0.out⟩
      case round =>
        obtain ⟨k, rfl, hk, hd⟩ := hrel
        have HD := Lib.hid hd
        have hws := hd.bl.size
        clear hd HD0 HB1
        by_cases hlt : k < l.length
        · have hltz : (k : Int) < (l.length : Int) := by omega
          have hld : decide ((k : Int) < (l.length : Int)) = true := decide_eq_true hltz
          obtain ⟨x, hx⟩ : ∃ x, l[k]? = some x := ⟨_, List.getElem?_eq_getElem hlt⟩
          obtain ⟨b', o', e, hbb, hcell⟩ := H.out _ _ (ints_at hx)
          simp at e
          obtain ⟨rfl, rfl⟩ := e
          have hw1 : wr.cell? ⟨b, o + k, none⟩ = some (.int .i64 x) := (HD.out.bl.cell (p := ⟨b, o + k, none⟩) hbb).trans hcell
          have f1 := HFL.out (fun e => decide (e < p)) k
          have f2 := HFL.out (fun e => decide (p ≤ e ∧ e ≤ q)) k
          have f3 := HFL.out (fun e => decide (q < e)) k
          have HX := Lib.hid hx
          have hpq := HPQ.out
          clear hcell hx
          by_cases h1 : x < p
          · have hd1 : decide (x < p) = true := decide_eq_true h1
            obtain ⟨g', c', w2, hrun, hd2⟩ := HD.out.low hws (Nat.le_trans f1 hn) x
            have HN : Hid (Du3 w.heap.size (.slice (some ⟨g', 0, none⟩) ((lowF (l.take k) p).length + 1) c') _ _ (lowF (l.take (k + 1)) p) (midF (l.take (k + 1)) p q) (highF (l.take (k + 1)) q) w w2) := Lib.hid (by
              have e1 : lowF (l.take (k + 1)) p = lowF (l.take k) p ++ [x] := filt_yes HX.out hd1
              have e2 : midF (l.take (k + 1)) p q = midF (l.take k) p q := filt_no HX.out (decide_eq_false (by omega))
              have e3 : highF (l.take (k + 1)) q = highF (l.take k) q := filt_no HX.out (decide_eq_false (by omega))
              rw [e1, e2, e3]; exact hd2)
            clear f1 f2 f3 hd2 hpq
            go_wp2_with fail
            go_roundw
            case rel => exact ⟨k + 1, by go_num, by omega, HN.out⟩
            case measure => simp [intOf]; omega
          · have hd1 : decide (x < p) = false := decide_eq_false h1
            by_cases h2 : q < x
            · have hd2' : decide (q < x) = true := decide_eq_true h2
              obtain ⟨g', c', w2, hrun, hd2⟩ := HD.out.high hws (Nat.le_trans f3 hn) x
              have HN : Hid (Du3 w.heap.size _ _ (.slice (some ⟨g', 0, none⟩) ((highF (l.take k) q).length + 1) c') (lowF (l.take (k + 1)) p) (midF (l.take (k + 1)) p q) (highF (l.take (k + 1)) q) w w2) := Lib.hid (by
                have e1 : lowF (l.take (k + 1)) p = lowF (l.take k) p := filt_no HX.out hd1
                have e2 : midF (l.take (k + 1)) p q = midF (l.take k) p q := filt_no HX.out (decide_eq_false (by omega))
                have e3 : highF (l.take (k + 1)) q = highF (l.take k) q ++ [x] := filt_yes HX.out hd2'
                rw [e1, e2, e3]; exact hd2)
              clear f1 f2 f3 hd2 hpq
              go_wp2_with fail
              go_roundw
              case rel => exact ⟨k + 1, by go_num, by omega, HN.out⟩
              case measure => simp [intOf]; omega
            · have hd2' : decide (q < x) = false := decide_eq_false h2
              obtain ⟨g', c', w2, hrun, hd2⟩ := HD.out.mid hws (Nat.le_trans f2 hn) x
              have HN : Hid (Du3 w.heap.size _ (.slice (some ⟨g', 0, none⟩) ((midF (l.take k) p q).length + 1) c') _ (lowF (l.take (k + 1)) p) (midF (l.take (k + 1)) p q) (highF (l.take (k + 1)) q) w w2) := Lib.hid (by
                have e1 : lowF (l.take (k + 1)) p = lowF (l.take k) p := filt_no HX.out hd1
                have e2 : midF (l.take (k + 1)) p q = midF (l.take k) p q ++ [x] := filt_yes HX.out (decide_eq_true (by omega))
                have e3 : highF (l.take (k + 1)) q = highF (l.take k) q := filt_no HX.out hd2'
                rw [e1, e2, e3]; exact hd2)
              clear f1 f2 f3 hd2 hpq
              go_wp2_with fail
              go_roundw
              case rel => exact ⟨k + 1, by go_num, by omega, HN.out⟩
              case measure => simp [intOf]; omega
        · have hltz : ¬ (k : Int) < (l.length : Int) := by omega
          have hld : decide ((k : Int) < (l.length : Int)) = false := decide_eq_false hltz
          obtain rfl : k = l.length := by omega
          rw [List.take_length] at HD
          have HDL := Lib.hid (du_lens HPQ.out l)
          have HUF : Hid (duF l p q = lowF l p ++ midF l p q ++ highF l q) := Lib.hid rfl
          generalize lowF l p = A at *
          generalize midF l p q = B at *
          generalize highF l q = C at *
          obtain ⟨AB, hAB⟩ : ∃ AB, AB = A ++ B := ⟨_, rfl⟩
          rw [← hAB] at HUF
          have hABl : AB.length = A.length + B.length := by rw [hAB, List.length_append]
          have hl64 : A.length + B.length + C.length ≤ 64 := by have := HDL.out; omega
          obtain ⟨_, ga, ca, rfl⟩ := id HD.out.a
          obtain ⟨_, gb, cb, rfl⟩ := id HD.out.b
          obtain ⟨_, gc, cc, rfl⟩ := id HD.out.c
          obtain ⟨_, _, eb, _, _, hrowb⟩ := HD.out.b.row
          obtain ⟨_, _, ec, _, _, hrowc⟩ := HD.out.c.row
          simp at eb ec
          obtain ⟨rfl, rfl⟩ := eb
          obtain ⟨rfl, rfl⟩ := ec
          obtain ⟨v2, w2, hrun1, hd2, hb2, hf2, hz2⟩ := appM w.heap.size _ A gb 0 cb B wr HD.out.a hws (by omega) (fun j u hu => by rw [Nat.zero_add]; exact (hrowb.2 j u hu).1)
          have hrowc2 : CellRow w2 gc (ints C) := hrowc.same (hf2 gc hrowc.1 (fun hu => HD.out.ac gc hu rfl)) hz2
          rw [← hAB] at hd2
          obtain ⟨v3, w3, hrun2, hd3, hb3, _, _⟩ := appM w.heap.size _ AB gc 0 cc C w2 hd2 (Nat.le_trans hws hz2) (by omega) (fun j u hu => by rw [Nat.zero_add]; exact (hrowc2.2 j u hu).1)
          rw [← HUF.out] at hd3
          have HRES : Hid (RetI2 (duAll l p q) w (.returned (.tuple #[v3, .int .i64 (A.length : Int), .int .i64 ((A.length : Int) + (B.length : Int)), .bool true])) w3) := Lib.hid (by
            obtain ⟨g3, c3, e3, hg3, hc3, hr3⟩ := hd3.row
            rw [HF.out, e3]
            exact ⟨g3, c3, rfl, hc3, hg3, hr3, (HD.out.bl.trans hb2).trans hb3⟩)
          obtain ⟨_, g2, c2, rfl⟩ := id hd2
          clear hd2 hd3 hb2 hb3 hf2 hrowb hrowc hrowc2 HUF hAB hABl
          go_wp2_with fail
          refine bodyPost_ret (results_tmp4 rfl _ _ _) rfl ?_
          exact HRES.out
    · have hpz : q < p := by omega
      have hpd : decide (q < p) = true := decide_eq_true hpz
      have HN := Lib.hid (HNONE.out (fun h => hpq h.2))
      clear hok HNONE hv hpq
      go_enter Try.func46, Try.ntmps46
      go_wp2_with fail
      refine HV.out.mono ?_
      rintro e w1 ⟨rfl, hb1⟩
      have HRES := Lib.hid (HN.out w1 hb1)
      clear hb1 HV HN
      go_wp2_with fail
      refine bodyPost_ret (results_tmp4 rfl _ _ _) rfl ?_
      exact HRES.out
  · rw [decide_eq_false hok] at HV
    have HN := Lib.hid (HNONE.out (fun h => hok h.1))
    clear hok HNONE hv
    go_enter Try.func46, Try.ntmps46
    go_wp2_with fail
    refine HV.out.mono ?_
    rintro e w1 ⟨rfl, hb1⟩
    have HRES := Lib.hid (HN.out w1 hb1)
    clear hb1 HV HN
    go_wp2_with fail
    refine bodyPost_ret (results_tmp4 rfl _ _ _) rfl ?_
    exact HRES.out

end Go.Proofs.Ytipdfmedbcafpaa
