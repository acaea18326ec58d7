/- The program's BinaryInsertionSort, by its contract. -/
import Derived.Test.YtjmmhakmidddoaaCnt
import Derived.Test.YtjmmhakmidddoaaSets
import Derived.Test.YtjmmhakmidddoaaIList
import Derived.Test.YtjmmhakmidddoaaRet12
import Derived.Test.YtjmmhakmidddoaaInsP
import Derived.Laws.CopyOwn
namespace Go.Proofs.Ytjmmhakmidddoaa
open Go.RowKit P El
set_option linter.unusedVariables false

theorem But.two {s g : Nat} {a b : World} (h : But g a b) : But2 s g a b := ⟨h.os, h.tape, h.output, h.size, fun k hk _ hg => h.block k hk hg⟩

set_option maxRecDepth 100000 in
set_option maxHeartbeats 4000000 in
theorem insertionIndex_any {base s g cap : Nat} {L : List Int} {d m q : Nat} (x : Int) (i : Nat) (w : World) (h : Cnt base s g cap L d m q w) (hi : i ≤ L.length) (h64 : L.length ≤ 64) (hd : d ≤ 100000) :
    Calls Try.prog 85 #[.pointer (some ⟨s, 0, none⟩), .int .i64 x, .int .i64 (i : Int)] w fun e w' =>
      e = .returned (.int .i64 ((bs x L 0 i d).1 : Nat)) ∧ CntP base s g cap L (bs x L 0 i d).2 m q w w' := by
  have H0 : Hid (Cnt base s g cap L d m q w ∧ But2 s g w w) := Lib.hid ⟨h, But2.refl _ _ _⟩
  clear h
  generalize hR : bs x L 0 i d = R at *
  have HR := Lib.hid hR
  clear hR
  go_enter Try.func85, Try.ntmps85
  go_wp2_with fail
  go_loopw [7, 8, 9] (fun lv hv _ wr => ∃ (lo hi c : Nat), lo ≤ hi ∧ hi ≤ i ∧ c + (hi - lo) ≤ d + i ∧ lv = .int .i64 lo ∧ hv = .int .i64 hi ∧ bs x L lo hi c = R ∧ Cnt base s g cap L c m q wr ∧ But2 s g w wr) (fun lv hv _ _ => (intOf hv).toNat - (intOf lv).toNat)
  case atStart => exact ⟨0, i, d, Nat.zero_le _, Nat.le_refl _, by omega, rfl, rfl, HR.out, H0.out.1, H0.out.2⟩
  case round =>
    obtain ⟨lo, hi, c, hlh, hhi, hcb, rfl, rfl, hr, hcn, hb⟩ := hrel
    have HRR := Lib.hid hr
    have HC := Lib.hid hcn
    have HB := Lib.hid hb
    obtain ⟨hs0, _⟩ := hcn.c0
    have hc' : c ≤ 110000 := by omega
    clear hr hcn hb H0
    by_cases hlt2 : lo < hi
    · obtain ⟨mid, hm0⟩ : ∃ mid, mid = (lo + hi) / 2 := ⟨_, rfl⟩
      have hmid : ((lo : Int) + (hi : Int)) / 2 = (mid : Int) := by omega
      have hmL : mid < L.length := by omega
      obtain ⟨y, hy⟩ : ∃ y, y = L.getD mid 0 := ⟨_, rfl⟩
      obtain ⟨hcy, _⟩ := HC.out.at hmL
      rw [← hy] at hcy
      have HM := Lib.hid hm0
      have HY := Lib.hid hy
      have hmz : (mid : Int) < L.length := by omega
      have hlo64 : lo ≤ 64 := by omega
      have hhi64 : hi ≤ 64 := by omega
      have hm1 : lo ≤ mid := by omega
      have hm2 : mid < hi := by omega
      have HL := Lib.hid (isLess_any x y wr HC.out (by omega))
      clear hm0 hy
      by_cases hxy : x < y
      · rw [decide_eq_true hxy] at HL
        have HE : Hid (bs x L lo mid (c + 1) = R) := Lib.hid (by rw [← HRR.out, bs_lt c hlt2 (by rw [← HM.out, ← HY.out]; exact hxy), ← HM.out])
        go_wp2_with fail
        refine (HL.out).mono ?_
        rintro e w1 ⟨rfl, hcn, hb⟩
        have HN : Hid (Cnt base s g cap L (c + 1) m q w1 ∧ But2 s g w w1) := Lib.hid ⟨hcn, HB.out.trans hb⟩
        clear hcn hb HL hs0 hcy
        go_wp2_with fail
        go_roundw
        case rel => exact ⟨lo, mid, c + 1, by omega, by omega, by omega, rfl, by first | rfl | rw [hmid], HE.out, HN.out.1, HN.out.2⟩
        case measure => simp [intOf]; omega
      · rw [decide_eq_false hxy] at HL
        have HE : Hid (bs x L (mid + 1) hi (c + 1) = R) := Lib.hid (by rw [← HRR.out, bs_ge c hlt2 (by rw [← HM.out, ← HY.out]; exact hxy), ← HM.out])
        go_wp2_with fail
        refine (HL.out).mono ?_
        rintro e w1 ⟨rfl, hcn, hb⟩
        have HN : Hid (Cnt base s g cap L (c + 1) m q w1 ∧ But2 s g w w1) := Lib.hid ⟨hcn, HB.out.trans hb⟩
        clear hcn hb HL hs0 hcy
        go_wp2_with fail
        go_roundw
        case rel => exact ⟨mid + 1, hi, c + 1, by omega, by omega, by omega, by go_num, rfl, HE.out, HN.out.1, HN.out.2⟩
        case measure => simp [intOf]; omega
    · have HE : Hid ((lo, c) = R) := Lib.hid (by rw [← HRR.out, bs_end c hlt2])
      have hnlt : ¬ (lo : Int) < hi := by omega
      go_wp2_with fail
      go_ret
      exact ⟨by rw [← HE.out]; rfl, by rw [← HE.out]; exact HC.out, by exact HB.out⟩

/-- The built-in copy under a name that the walk does not open. -/
def heldCopy (ats : Array TypeId) (ty : TypeId) (args : Array Value) : Sem Value := Builtin.copy_ ats ty args
theorem builtin_copy_held (ats : Array TypeId) (ty : TypeId) (cs : Array Bool) (args : Array Value) : builtin .copy ats ty cs args = (do pure (.value (← heldCopy ats ty args))) := rfl

/-- A part of a row moved one place up. -/
theorem copy_up {g p i cp cp1 : Nat} {E : List Int} {W : World} (h : CellRow W g (ints E)) (hpi : p ≤ i) (hi : i < E.length) (ty : TypeId) (a : Option Addr) (ha : p < i → a = some ⟨g, p + 1, none⟩) :
    (heldCopy #[24, 24] ty #[.slice a (i - p) cp1, .slice (some ⟨g, p, none⟩) (i - p) cp]).run Try.prog W = .ok (goInt ((i - p : Nat) : Int)) (W.setCells g (p + 1) (ints ((E.drop p).take (i - p)))) := by
  have hinfo : (Try.prog.info? 3).map (·.size) = some 1 := by kernel_rfl
  have hl : ((E.drop p).take (i - p)).length = i - p := by simp; omega
  unfold heldCopy
  by_cases h0 : i - p = 0
  · have := run_copy_none (P := Try.prog) W 24 24 ty 3 a (some ⟨g, p, none⟩) (i - p) cp1 (i - p) cp Try.underlying24 hinfo (by rw [h0]; rfl)
    rw [this, h0]; simp [ints, World.setCells]
  · rw [ha (by omega)]
    have := run_copy_cells (P := Try.prog) W 24 24 ty 3 g (p + 1) (i - p) cp1 ⟨g, p, none⟩ (i - p) cp (ints ((E.drop p).take (i - p))) Try.underlying24 hinfo (by rw [ints_length, hl]; exact (Nat.min_self _).symm)
      (fun j v hj => by
        have hjl : j < i - p := by have := (List.getElem?_eq_some_iff.1 hj).1; rw [ints_length, hl] at this; exact this
        have e : (⟨g, p, none⟩ : Addr).add j = ⟨g, p + j, none⟩ := by
          unfold Addr.add; split
          · rename_i hh; subst hh; rfl
          · rfl
        rw [e]
        have hv : (ints E)[p + j]? = some v := by
          unfold ints at hj ⊢
          rw [List.getElem?_map, List.getElem?_take_of_lt hjl, List.getElem?_drop] at hj
          rw [List.getElem?_map]; exact hj
        exact (h.2 _ v hv).1)
      (fun j hj => by rw [ints_length, hl] at hj; rw [(h.2 (p + 1 + j) _ (ints_at (at_getD (by omega)))).1]; rfl)
      (fun j hj => by rw [ints_length, hl] at hj; exact (h.2 (p + 1 + j) _ (ints_at (at_getD (by omega)))).2)
      (fun v hv => by unfold ints at hv; obtain ⟨p, _, rfl⟩ := List.mem_map.1 hv; rfl)
    rw [this, ints_length, hl]

theorem up_list {E : List Int} {p i : Nat} (x : Int) (hpi : p ≤ i) (hi : i < E.length) : ((E.take (p + 1) ++ (E.drop p).take (i - p) ++ E.drop (p + 1 + (i - p))).set p x) = E.take p ++ [x] ++ (E.drop p).take (i - p) ++ E.drop (i + 1) := by
  have hA : (E.take p).length = p := by simp; omega
  have e1 : E.take (p + 1) = E.take p ++ [E.getD p 0] := by rw [List.take_add_one, at_getD (by omega)]; rfl
  rw [e1, show p + 1 + (i - p) = i + 1 by omega, List.append_assoc, List.append_assoc, List.append_assoc, List.append_assoc]
  rw [List.set_append_right _ _ (by omega), hA, Nat.sub_self, List.singleton_append, List.set_cons_zero, List.singleton_append]

theorem up_insert {O D : List Int} {p i : Nat} {x y : Int} (hO : O.length = i) (hp : p ≤ i) : (O ++ y :: D).take p ++ [x] ++ ((O ++ y :: D).drop p).take (i - p) ++ (O ++ y :: D).drop (i + 1) = (O.take p ++ [x] ++ O.drop p) ++ D := by
  have h1 : (O ++ y :: D).take p = O.take p := by rw [List.take_append_of_le_length (by omega)]
  have h2 : ((O ++ y :: D).drop p).take (i - p) = O.drop p := by
    rw [List.drop_append_of_le_length (by omega), List.take_append_of_le_length (by simp; omega), List.take_of_length_le (by simp; omega)]
  have h3 : (O ++ y :: D).drop (i + 1) = D := by
    rw [List.drop_append, List.drop_of_length_le (by omega), hO, show i + 1 - i = 1 by omega]; rfl
  rw [h1, h2, h3]

/-- The loop over the list. -/
structure BinO (base s g cap : Nat) (l : List Int) (i : Nat) (O : List Int) (d : Nat) (w W : World) : Prop where
  run : binTo l i = (O, d)
  le : i ≤ l.length
  cnt : Cnt base s g cap (O ++ l.drop i) d 0 0 W
  b : Below base w W

attribute [local go_sem ↓ high] builtin_copy_held

set_option maxRecDepth 100000 in
set_option maxHeartbeats 8000000 in
theorem implBin_any (b o c : Nat) (l : List Int) (w : World) (hv : FlatAt w (.slice (some ⟨b, o, none⟩) l.length c) l.length (ints l)) (hn : l.length ≤ 1048576) :
    Calls Try.prog 41 #[.slice (some ⟨b, o, none⟩) l.length c] w (RetI1 (binAll l) w) := by
  have HV := Lib.hid hv
  clear hv
  by_cases hok : OkL l
  · have hd : decide (OkL l) = true := decide_eq_true hok
    have HI := Lib.hid (fun W (h : FlatAt W (.slice (some ⟨b, o, none⟩) l.length c) l.length (ints l)) => by have := implValidList_any _ l W h hn; rw [hd] at this; exact this)
    have HCL := Lib.hid (fun W (h : FlatAt W (.slice (some ⟨b, o, none⟩) l.length c) l.length (ints l)) => counted_any b o c l W h hn)
    have HF := Lib.hid (binAll_yes hok)
    have h64 := hok.1
    clear hok hd
    go_enter Try.func41, Try.ntmps41
    go_wp2_with fail
    refine (HI.out _ HV.out).mono ?_
    rintro e w1 ⟨rfl, hb1⟩
    have HV1 := Lib.hid (HV.out.below hb1)
    have HB1 := Lib.hid hb1
    have HCELL : Hid (∀ (j : Nat) z, l[j]? = some z → b < w1.heap.size ∧ w1.cell? ⟨b, o + j, none⟩ = some (.int .i64 z)) := Lib.hid (fun j z hj => by
      obtain ⟨a0, c0, e0, _, h⟩ := HV1.out
      simp at e0
      obtain ⟨rfl, rfl⟩ := e0
      obtain ⟨b', o', e', h1, h2⟩ := h _ _ (ints_at hj)
      simp at e'
      obtain ⟨rfl, rfl⟩ := e'
      exact ⟨h1, h2⟩)
    clear hb1 HV HI
    go_wp2_with fail
    refine (HCL.out _ HV1.out).mono ?_
    rintro e w2 ⟨s, g, cap, rfl, hcn, hb2⟩
    have HS0 : Hid (BinO w1.heap.size s g cap l 0 [] 0 w1 w2) := Lib.hid ⟨rfl, Nat.zero_le _, hcn, hb2⟩
    clear hb2 hcn HCL HV1
    go_wp2_with fail
    go_loopw [6, 7, 8, 17] (fun _ _ _ iv wr => ∃ (i : Nat) (O : List Int) (d : Nat), iv = .int .i64 i ∧ BinO w1.heap.size s g cap l i O d w1 wr) (fun _ _ _ iv _ => l.length - (intOf iv).toNat)
    case atStart => exact ⟨0, [], 0, rfl, HS0.out⟩
    case round =>
      obtain ⟨i, O, d, rfl, ho⟩ := hrel
      have HO := Lib.hid ho
      have hil := ho.le
      have hOl : O.length = i := by have := binTo_length l i; rw [ho.run] at this; exact this
      have hd7 : d ≤ 448 := by have := binTo_bounds l i (by omega); rw [ho.run] at this; simp only at this; omega
      have hEl : (O ++ l.drop i).length = l.length := by rw [List.length_append, List.length_drop]; omega
      clear ho HS0
      by_cases hlt : i < l.length
      · obtain ⟨x, hx⟩ : ∃ x, x = l.getD i 0 := ⟨_, rfl⟩
        have hlx := at_getD hlt
        rw [← hx] at hlx
        obtain ⟨hbb, hcx0⟩ := HCELL.out _ _ hlx
        have hcx : wr.cell? ⟨b, o + i, none⟩ = some (.int .i64 x) := (HO.out.b.cell (p := ⟨b, o + i, none⟩) hbb).trans hcx0
        have HIX := Lib.hid (insertionIndex_any x i wr HO.out.cnt (by omega) (by omega) (by omega))
        have hbs : bs x (O ++ l.drop i) 0 i d = bs x O 0 i d := bs_app x O (l.drop i) i 0 i d (by omega) (by omega)
        have hbm := bs_main x O 7 0 i d (two_pow (by omega)) (Nat.zero_le _)
        rw [hbs] at HIX
        obtain ⟨pd, hpd⟩ : ∃ pd, pd = bs x O 0 i d := ⟨_, rfl⟩
        rw [← hpd] at HIX hbm
        obtain ⟨p, d'⟩ := pd
        obtain ⟨_, hpi, _⟩ := hbm
        simp only at HIX hpi
        have HSTEP : Hid (binTo l (i + 1) = (O.take p ++ [x] ++ O.drop p, d')) := Lib.hid (by rw [hx]; exact binTo_step HO.out.run (by rw [← hx]; exact hpd.symm))
        have hde : l.drop i = x :: l.drop (i + 1) := by
          rw [List.drop_eq_getElem_cons hlt]
          rw [List.getElem?_eq_getElem hlt] at hlx
          rw [Option.some.inj hlx]
        have hiz : (i : Int) < l.length := by omega
        have hd8 : d' ≤ 456 := by have := binTo_bounds l (i + 1) (by omega); rw [HSTEP.out] at this; simp only at this; omega
        have HOL := Lib.hid hOl
        have HDE := Lib.hid hde
        clear hx hlx hcx0 hbs hpd hOl hde
        go_wp2_with fail
        refine (HIX.out).mono ?_
        rintro e w3 ⟨rfl, hcn, hb3⟩
        obtain ⟨E, hE⟩ : ∃ E, E = O ++ l.drop i := ⟨_, rfl⟩
        rw [← hE] at hcn hEl
        obtain ⟨hs0, _⟩ := hcn.c0
        have hbs3 := hcn.bs
        have hbg3 := hcn.bg
        have hcp3 := hcn.cap
        have hB3 : Below w1.heap.size w1 w3 := HO.out.b.trans (hb3.below hbs3 hbg3 HO.out.b.size)
        obtain ⟨p1, hp1⟩ : ∃ p1, p1 = p + 1 := ⟨_, rfl⟩
        obtain ⟨i1, hi1⟩ : ∃ i1, i1 = i + 1 := ⟨_, rfl⟩
        have hwp : IntKind.i64.wrap ((p : Int) + 1) = (p1 : Int) := by rw [IntKind.wrap_i64]; omega
        have hwi : IntKind.i64.wrap ((i : Int) + 1) = (i1 : Int) := by rw [IntKind.wrap_i64]; omega
        have hcopy := fun (ty : TypeId) cp cp1 (a : Option Addr) (ha : p < i → a = some ⟨g, p1, none⟩) => copy_up (W := w3.drew) (cp := cp) (cp1 := cp1) (hcn.row.same rfl (Nat.le_refl _)) hpi (by rw [hEl]; exact hlt) ty a (by rw [← hp1]; exact ha)
        -- the world behind the copy
        have HC4 : Hid (Cnt w1.heap.size s g cap (E.take (p + 1) ++ (E.drop p).take (i - p) ++ E.drop (p + 1 + (i - p))) d' 0 0 (w3.drew.setCells g (p + 1) (ints ((E.drop p).take (i - p)))) ∧ Below w1.heap.size w1 (w3.drew.setCells g (p + 1) (ints ((E.drop p).take (i - p))))) := Lib.hid (by
          have hvl : (ints ((E.drop p).take (i - p))).length = i - p := by rw [ints_length]; simp; omega
          have hsets := hcn.row.sets (p + 1) 1 (ints ((E.drop p).take (i - p))) (by rw [hvl, ints_length]; omega)
          have hbut := (But.refl g w3).sets (p + 1) 1 (ints ((E.drop p).take (i - p)))
          rw [hvl] at hsets
          have e : (ints E).take (p + 1) ++ ints ((E.drop p).take (i - p)) ++ (ints E).drop (p + 1 + (i - p)) = ints (E.take (p + 1) ++ (E.drop p).take (i - p) ++ E.drop (p + 1 + (i - p))) := by unfold ints; simp
          rw [e] at hsets
          have hlen : (E.take (p + 1) ++ (E.drop p).take (i - p) ++ E.drop (p + 1 + (i - p))).length = E.length := by simp; omega
          refine ⟨⟨by rw [hlen]; exact hcn.st.same (hbut.block s hcn.st.1 (fun e => hcn.ne e.symm)) hbut.size, hsets, hcn.ne, hcn.bs, hcn.bg, by rw [hlen]; exact hcn.cap⟩, hB3.trans (hbut.below hbg3 hB3.size)⟩)
        rw [← hp1] at HC4 hcopy
        have HUP : Hid ((E.take p1 ++ (E.drop p).take (i - p) ++ E.drop (p1 + (i - p))).set p x = (O.take p ++ [x] ++ O.drop p) ++ l.drop (i + 1)) := Lib.hid (by
          rw [hp1, up_list x hpi (by omega), hE, HDE.out]; exact up_insert HOL.out hpi)
        have hsub : i1 - p1 = i - p := by omega
        have HP1 := Lib.hid hp1
        have HI1 := Lib.hid hi1
        have HEL := Lib.hid hEl
        rw [hEl] at hs0
        clear hcn hb3 hB3 hp1 hi1 HIX hE hcx
        generalize hvs : ints ((E.drop p).take (i - p)) = vs at *
        clear hvs
        have hpz : (p : Int) ≤ i := by omega
        have hp1z : (p1 : Int) ≤ i1 := by have := HP1.out; have := HI1.out; omega
        have hpn : p < l.length := by omega
        have hpnz : (p : Int) < l.length := by omega
        have hncap : l.length ≤ cap := by rw [← HEL.out]; exact hcp3
        have hi1c : i1 ≤ cap := by have := HI1.out; omega
        have hic : i ≤ cap := by omega
        have hpc : ¬ cap = p := by omega
        have hi1cz : (i1 : Int) ≤ cap := by omega
        have hicz : (i : Int) ≤ cap := by omega
        have HREST : Hid (∀ W, Cnt w1.heap.size s g cap (E.take p1 ++ (E.drop p).take (i - p) ++ E.drop (p1 + (i - p))) d' 0 0 W ∧ Below w1.heap.size w1 W → W.cell? ⟨s, 0, none⟩ = some (.slice (some ⟨g, 0, none⟩) l.length cap) ∧ (∃ u, W.cell? ⟨g, p, none⟩ = some (.int .i64 u)) ∧ W.frozen? ⟨g, p, none⟩ = false ∧ BinO w1.heap.size s g cap l (i + 1) (O.take p ++ [x] ++ O.drop p) d' w1 (W.setCell ⟨g, p, none⟩ (.int .i64 x))) := Lib.hid (fun W hW => by
          have hlen : (E.take p1 ++ (E.drop p).take (i - p) ++ E.drop (p1 + (i - p))).length = l.length := by rw [← HEL.out]; have := HP1.out; have := HEL.out; simp; omega
          obtain ⟨q0, _⟩ := hW.1.c0
          rw [hlen] at q0
          obtain ⟨q1, q2⟩ := hW.1.at (k := p) (by omega)
          have q3 := hW.1.put p x (by omega)
          rw [HUP.out] at q3
          exact ⟨q0, ⟨_, q1⟩, q2, HSTEP.out, by omega, q3, hW.2.setCell (p := ⟨g, p, none⟩) hbg3 _⟩)
        by_cases hpcap : cap = p1
        · have hcopy0 := fun ty => hcopy ty (cap - p) 0 (some ⟨g, 0, none⟩) (fun h => by have := HP1.out; omega)
          have hz : i - p = 0 := by have := HP1.out; have := HI1.out; omega
          subst hpcap
          rw [hz] at hcopy0 hsub
          go_wp2_with fail
          go_region
          generalize w3.drew.setCells g cap vs = W4 at HC4 ⊢
          obtain ⟨hs1, ⟨u, hcu⟩, hfu, hn⟩ := HREST.out W4 HC4.out
          have HN := Lib.hid hn
          clear hn HC4 HREST hcopy hcopy0 hs0
          go_wp2_with fail
          go_roundw
          case rel => exact ⟨i + 1, _, _, by first | go_num | rw [HI1.out], HN.out⟩
          case measure => have := HI1.out; simp [intOf]; omega
        · have hcopy0 := fun ty => hcopy ty (cap - p) (cap - p1) (some ⟨g, p1, none⟩) (fun _ => rfl)
          rw [← hsub] at hcopy0
          go_wp2_with fail
          go_region
          generalize w3.drew.setCells g p1 vs = W4 at HC4 ⊢
          obtain ⟨hs1, ⟨u, hcu⟩, hfu, hn⟩ := HREST.out W4 HC4.out
          have HN := Lib.hid hn
          clear hn HC4 HREST hcopy hcopy0 hs0
          go_wp2_with fail
          go_roundw
          case rel => exact ⟨i + 1, _, _, by first | go_num | rw [HI1.out], HN.out⟩
          case measure => have := HI1.out; simp [intOf]; omega
      · obtain rfl : i = l.length := by omega
        obtain ⟨hs0, hs1, _⟩ := HO.out.cnt.c0
        rw [hEl] at hs0
        have HRES : Hid (∀ n, RetI1 (binAll l) w (.returned (.tuple #[.slice (some ⟨g, 0, none⟩) l.length cap, .int .i64 (d : Int), .bool true])) (wr.drewN n)) := Lib.hid (fun n => by
          have h := HO.out
          have hO0 : O ++ l.drop l.length = O := by simp
          have hc := h.cnt
          rw [hO0] at hc
          rw [HF.out, h.run]
          exact ⟨g, cap, by simp only; rw [hOl], hc.cap, Nat.le_trans HB1.out.size hc.bg, hc.row.same rfl (Nat.le_refl _), (HB1.out.trans (h.b.mono HB1.out.size)).trans ⟨rfl, rfl, rfl, Nat.le_refl _, fun _ _ => rfl⟩⟩)
        clear hOl hEl
        go_wp2_with fail
        go_quiet (fail)
        go_wp2_with fail
        go_ret3
        exact HRES.out _
  · have hd : decide (OkL l) = false := decide_eq_false hok
    have HI := Lib.hid (fun W (h : FlatAt W (.slice (some ⟨b, o, none⟩) l.length c) l.length (ints l)) => by have := implValidList_any _ l W h hn; rw [hd] at this; exact this)
    have HF := Lib.hid (binAll_no hok)
    clear hok hd
    go_enter Try.func41, Try.ntmps41
    go_wp2_with fail
    refine (HI.out _ HV.out).mono ?_
    rintro e w1 ⟨rfl, hb1⟩
    have HRES : Hid (RetI1 (binAll l) w (.returned (.tuple #[.slice (some ⟨w1.heap.size, 0, none⟩) 0 0, .int .i64 0, .bool false])) (w1.alloc (.cells #[] 3))) := Lib.hid (by rw [HF.out]; exact RetI1.none w w1 hb1)
    clear hb1 HI
    go_wp2_with fail
    go_ret3
    exact HRES.out

end Go.Proofs.Ytjmmhakmidddoaa
