/- FnSplitJoin returns true at every code: splitting and joining are inverse, and the order of texts is strict. No condition. -/
import Derived.Test.YtgnmkmnodmlacaaRows
import Derived.WalkKit
import Derived.ProofKit
import Derived.OpenShut
import Derived.ShutString
import Derived.ChangeOld
import Derived.Below
import Derived.SliceStrings
import Derived.Test.YtgnmkmnodmlacaaSplitJoin
namespace Go.Proofs.Ytgnmkmnodmlacaa.fnSplitJoin
open Go.ChangeShapes Go.WideShapes Go.ChangeAt Go.RowKit
open Go.ChangeMaps (open_string shut_string)
set_option linter.unusedVariables false

theorem own : ownKnob Try.prog.godebug = none := by kernel_rfl
theorem laidOut : laidOutB Try.prog = true := by kernel_rfl

def IsRow (k : IntKind) (w : World) (a : Option Addr) (len cap : Nat) (zs : List Int) : Prop :=
  (a = none ∧ len = 0 ∧ cap = 0 ∧ zs = []) ∨
  ∃ x, a = some x ∧ len ≤ cap ∧ cap ≤ maxLen ∧ zs.length = cap ∧ (∀ i, i < zs.length → w.cell? (x.add i) = some (.int k (zs.getD i 0))) ∧ ∀ n ∈ zs, (Lit.int k n).wf = true

theorem keepRow {w w' : World} {base B g k cap : Nat} {t : TypeId} {size n : Nat} {xs : List Value} (h : w.ownsRow base t size (.slice (some ⟨g, 0, none⟩) k cap) n xs) (hb : Below B w w') (hB : g < B) : w'.ownsRow base t size (.slice (some ⟨g, 0, none⟩) k cap) n xs :=
  own_below h hb (fun j e => by
    have e' : some g = some j := e
    injection e' with e'
    omega)

theorem code_of {w : World} {a : Option Addr} {len cap : Nat} {zs : List Int} (h : IsRow .u8 w a len cap zs) : Code0 w a len := by
  intro k hk
  rcases h with ⟨_, rfl, _⟩ | ⟨x, rfl, hlc, _, hz, hc, hw⟩
  · omega
  · have hkz : k < zs.length := by omega
    have hd : zs.getD k 0 = zs[k] := by simp [List.getD, hkz]
    have hm := hw zs[k] (List.getElem_mem hkz)
    have hcell := hc k hkz
    rw [hd] at hcell
    have hlt := World.block_lt_of_cell? w _ hcell
    have hbk := Go.ChangeShapes.block_add x k
    have hr := bounds_u8 hm
    exact ⟨x, zs[k], rfl, by omega, hcell, hr.1, hr.2⟩

theorem vbig_no (a : Option Addr) (len cap : Nat) (w : World) (h : len ≤ 65536) : Calls Try.prog 8 #[.slice a len cap] w fun e w' => e = .returned (.bool false) ∧ w' = w := by
  go_enter Try.func8, Try.ntmps8
  have hq : decide ((65536 : Int) < (len : Int)) = false := decide_eq_false (by omega)
  go_wp2
  go_ret
  exact ⟨by rw [← hq]; rfl, rfl⟩

theorem split_none (s sep : ByteArray) (w : World) (hs : s.size ≤ 1048576) (h : sep.size ≠ 1) :
    Calls Try.prog 10 #[.string s, .string sep] w fun e w' => ∃ g c, e = .returned (.tuple #[.slice (some ⟨g, 0, none⟩) 0 c, .bool false]) ∧ Below w.heap.size w w' :=
  (implSplit_no s sep w hs (.inr h)).mono fun _ _ ⟨g, c, he, _, hb⟩ => ⟨g, c, he, hb⟩

set_option maxHeartbeats 2000000 in
theorem walk (a : Option Addr) (len cap : Nat) (z : List Int) (w : World) (w0 : IsRow .u8 w a len cap z) :
    Calls Try.prog 3 #[.slice a len cap] w fun e w' => e = .returned (.bool true) ∧ Below w.heap.size w w' := by
  have hlen : len ≤ maxLen := by
    rcases w0 with ⟨_, rfl, _⟩ | ⟨x, _, h1, h2, _⟩ <;> omega
  unfold maxLen at hlen
  have HCODE := Lib.hid (code_of w0)
  clear w0
  by_cases hbig : 65536 < len
  · clear HCODE
    go_enter Try.func3, Try.ntmps3
    go_wp2
    go_ret
    exact ⟨rfl, Below.refl _ _⟩
  · go_enter Try.func3, Try.ntmps3
    go_wp2_with fail
    refine (vbig_no a len cap _ (by omega)).mono ?_
    rintro e w0 ⟨rfl, rfl⟩
    go_wp2_with fail
    refine (drawSplit_any a len cap _ HCODE.out).mono ?_
    rintro e w1 ⟨s, sep, hs, hsep, rfl, hb1⟩
    have HCODE1 := Lib.hid (HCODE.out.below hb1)
    have HB1 := Lib.hid hb1
    clear hb1 HCODE
    by_cases h1 : sep.size = 1
    · have h0 : 0 < sep.size := by omega
      obtain ⟨b, hy⟩ : ∃ b, sep[0] = b := ⟨_, rfl⟩
      have HBACK := Lib.hid (join_back s sep b (by omega) h1 h0 hy)
      obtain ⟨P, hP⟩ : ∃ P, P = pieces s b := ⟨_, rfl⟩
      have hP1 : 1 ≤ P.length ∧ P.length ≤ 11 := by rw [hP]; exact ⟨pieces_one s b, by have := pieces_max s b; omega⟩
      have HPS : Hid (∀ (j : Nat) x, P[j]? = some x → x.size ≤ 1048576) := Lib.hid (fun j x hx => by rw [hP] at hx; have := pieces_small s b j x hx; omega)
      go_wp2_with fail
      refine (implSplit_yes s sep w1 (by omega) h1 b h0 hy).mono ?_
      rw [← hP] at HBACK ⊢
      clear hP
      rintro e w2 ⟨g, cg, rfl, hrow, hb2⟩
      have hg := (hrow.lt g rfl).2
      have HROW := Lib.hid hrow
      have HCODE2 := Lib.hid (HCODE1.out.below hb2)
      have HB2 := Lib.hid (HB1.out.trans (hb2.mono HB1.out.size))
      clear hb2 hrow HCODE1 HB1
      go_wp2_with fail
      refine (drawJoin_any a len cap _ HCODE2.out).mono ?_
      rintro e w3 ⟨v, Q, mk, hQ, hQs, hmk, rfl, hown, hb3⟩
      have HROW3 := Lib.hid (keepRow HROW.out hb3 hg)
      have HCODE3 := Lib.hid (HCODE2.out.below hb3)
      have hg3 : g < w3.heap.size := Nat.lt_of_lt_of_le hg hb3.size
      have HB3 := Lib.hid (HB2.out.trans (hb3.mono HB2.out.size))
      have HSV := Lib.hid (strsAt_gen hown)
      obtain ⟨t, r, hsp, him⟩ := specJoin_all Q mk (fun j x hx => by have := hQs x (List.mem_of_getElem? hx); omega) (by omega)
      have HSP := Lib.hid hsp
      have HIM := Lib.hid him
      clear hb3 hown hQs hsp him HROW HCODE2 HB2
      go_wp2_with fail
      refine (HIM.out _ _ HSV.out).mono ?_
      rintro e w4 ⟨rfl, hb4⟩
      have HROW4 := Lib.hid (keepRow HROW3.out hb4 hg3)
      have HCODE4 := Lib.hid (HCODE3.out.below hb4)
      have hg4 : g < w4.heap.size := Nat.lt_of_lt_of_le hg3 hb4.size
      have HB4 := Lib.hid (HB3.out.trans (hb4.mono HB3.out.size))
      have HSV4 := Lib.hid (HSV.out.below hb4)
      clear hb4 HROW3 HCODE3 HB3
      go_wp2_with fail
      refine (HSP.out _ _ HSV4.out).mono ?_
      rintro e w5 ⟨rfl, hb5⟩
      have HROW5 := Lib.hid (keepRow HROW4.out hb5 hg4)
      have HCODE5 := Lib.hid (HCODE4.out.below hb5)
      have hg5 : g < w5.heap.size := Nat.lt_of_lt_of_le hg4 hb5.size
      have HB5 := Lib.hid (HB4.out.trans (hb5.mono HB4.out.size))
      clear hb5 HROW4 HCODE4 HB4 HSV HSV4 HSP HIM
      go_wp2_with fail
      refine (drawLess_any a len cap _ HCODE5.out).mono ?_
      rintro e w6 ⟨x, y, hx, hy2, rfl, hb6⟩
      have HROW6 := Lib.hid (keepRow HROW5.out hb6 hg5)
      have hg6 : g < w6.heap.size := Nat.lt_of_lt_of_le hg5 hb6.size
      have HB6 := Lib.hid (HB5.out.trans (hb6.mono HB5.out.size))
      obtain ⟨p, q, hpq, hl1, hl2, hl3⟩ := less_all x y
      have HL1 := Lib.hid (hl1 w6)
      have HL2 := Lib.hid (hl2 w6)
      have HL3 := Lib.hid (hl3 w6)
      have HJ : Hid (Calls Try.prog 12 #[.slice (some ⟨g, 0, none⟩) P.length cg, .string sep] w6 fun e w' => e = .returned (.tuple #[.string s, .bool true]) ∧ Below w6.heap.size w6 w') := Lib.hid (by
        rw [← HBACK.out]
        exact implJoin_any _ P sep w6 (strsAt_own HROW6.out) hP1.1 (by omega) HPS.out h1 b h0 hy)
      clear hb6 HROW5 HCODE5 HB5 hl1 hl2 hl3 HROW6 hy HPS HBACK
      have hsn : ((sep.size : Int) != 1) = false := by rw [h1]; rfl
      cases p
      · go_wp2_with fail
        refine HL1.out.mono ?_
        rintro e w7 ⟨rfl, rfl⟩
        go_wp2_with fail
        refine HL2.out.mono ?_
        rintro e w7 ⟨rfl, rfl⟩
        go_wp2_with fail
        refine HL1.out.mono ?_
        rintro e w7 ⟨rfl, rfl⟩
        go_wp2_with fail
        refine HJ.out.mono ?_
        rintro e w8 ⟨rfl, hb8⟩
        have HB8 := Lib.hid (HB6.out.trans (hb8.mono HB6.out.size))
        clear hb8 HB6 HJ
        go_wp2_with fail
        go_ret
        exact ⟨rfl, HB8.out⟩
      · obtain rfl : q = false := by simpa using hpq
        go_wp2_with fail
        refine HL1.out.mono ?_
        rintro e w7 ⟨rfl, rfl⟩
        go_wp2_with fail
        refine HL2.out.mono ?_
        rintro e w7 ⟨rfl, rfl⟩
        go_wp2_with fail
        refine HL1.out.mono ?_
        rintro e w7 ⟨rfl, rfl⟩
        go_wp2_with fail
        refine HL3.out.mono ?_
        rintro e w7 ⟨rfl, rfl⟩
        go_wp2_with fail
        refine HJ.out.mono ?_
        rintro e w8 ⟨rfl, hb8⟩
        have HB8 := Lib.hid (HB6.out.trans (hb8.mono HB6.out.size))
        clear hb8 HB6 HJ
        go_wp2_with fail
        go_ret
        exact ⟨rfl, HB8.out⟩
    · have hsn : ((sep.size : Int) != 1) = true := by
        rw [bne_iff_ne]; omega
      go_wp2_with fail
      refine (split_none s sep w1 (by omega) h1).mono ?_
      rintro e w2 ⟨g, cg, rfl, hb2⟩
      have HCODE2 := Lib.hid (HCODE1.out.below hb2)
      have HB2 := Lib.hid (HB1.out.trans (hb2.mono HB1.out.size))
      clear hb2 HCODE1 HB1
      go_wp2_with fail
      refine (drawJoin_any a len cap _ HCODE2.out).mono ?_
      rintro e w3 ⟨v, Q, mk, hQ, hQs, hmk, rfl, hown, hb3⟩
      have HCODE3 := Lib.hid (HCODE2.out.below hb3)
      have HB3 := Lib.hid (HB2.out.trans (hb3.mono HB2.out.size))
      have HSV := Lib.hid (strsAt_gen hown)
      obtain ⟨t, r, hsp, him⟩ := specJoin_all Q mk (fun j x hx => by have := hQs x (List.mem_of_getElem? hx); omega) (by omega)
      have HSP := Lib.hid hsp
      have HIM := Lib.hid him
      clear hb3 hown hQs hsp him HCODE2 HB2
      go_wp2_with fail
      refine (HIM.out _ _ HSV.out).mono ?_
      rintro e w4 ⟨rfl, hb4⟩
      have HCODE4 := Lib.hid (HCODE3.out.below hb4)
      have HB4 := Lib.hid (HB3.out.trans (hb4.mono HB3.out.size))
      have HSV4 := Lib.hid (HSV.out.below hb4)
      clear hb4 HCODE3 HB3
      go_wp2_with fail
      refine (HSP.out _ _ HSV4.out).mono ?_
      rintro e w5 ⟨rfl, hb5⟩
      have HCODE5 := Lib.hid (HCODE4.out.below hb5)
      have HB5 := Lib.hid (HB4.out.trans (hb5.mono HB4.out.size))
      clear hb5 HCODE4 HB4 HSV HSV4 HSP HIM
      go_wp2_with fail
      refine (drawLess_any a len cap _ HCODE5.out).mono ?_
      rintro e w6 ⟨x, y, hx, hy2, rfl, hb6⟩
      have HB6 := Lib.hid (HB5.out.trans (hb6.mono HB5.out.size))
      obtain ⟨p, q, hpq, hl1, hl2, hl3⟩ := less_all x y
      have HL1 := Lib.hid (hl1 w6)
      have HL2 := Lib.hid (hl2 w6)
      have HL3 := Lib.hid (hl3 w6)
      clear hb6 HCODE5 HB5 hl1 hl2 hl3
      cases p
      · go_wp2_with fail
        refine HL1.out.mono ?_
        rintro e w7 ⟨rfl, rfl⟩
        go_wp2_with fail
        refine HL2.out.mono ?_
        rintro e w7 ⟨rfl, rfl⟩
        go_wp2_with fail
        refine HL1.out.mono ?_
        rintro e w7 ⟨rfl, rfl⟩
        go_wp2_with fail
        go_ret
        exact ⟨rfl, HB6.out⟩
      · obtain rfl : q = false := by simpa using hpq
        go_wp2_with fail
        refine HL1.out.mono ?_
        rintro e w7 ⟨rfl, rfl⟩
        go_wp2_with fail
        refine HL2.out.mono ?_
        rintro e w7 ⟨rfl, rfl⟩
        go_wp2_with fail
        refine HL1.out.mono ?_
        rintro e w7 ⟨rfl, rfl⟩
        go_wp2_with fail
        refine HL3.out.mono ?_
        rintro e w7 ⟨rfl, rfl⟩
        go_wp2_with fail
        go_ret
        exact ⟨rfl, HB6.out⟩

set_option maxRecDepth 100000 in
theorem lifted (os : Os) (started : os.Started) (H : Type) (enc : TypeId × Value → H) :
    ReturnsInHanded {} Try.checked os 3 .any (Rows.fnSplitJoinSpec.pre6 enc Try.prog Try.f3 Rows.fnSplitJoinRow.domain false) (Rows.fnSplitJoinSpec.post enc Try.prog Try.f3 false true false false) := by
  refine returnsInHanded_of_change (C := Try.checked) own started (by kernel_rfl) Try.func3
    (ChangeSpec.witness6 (enc := enc) (C := Try.checked) false ⟨#[], #[.slice none 0 0], []⟩ 8 (by kernel_rfl) (by kernel_rfl) (by kernel_rfl) (by kernel_rfl)) ?_
  intro W base args ds gs before hval0 hW hcnd _
  have hval : ∀ (j : Nat) t v, Try.f3.params[j]? = some t → args[j]? = some v → Value.okWide Try.prog W .any base t v := hval0
  have hW' := hW
  obtain ⟨p, q, hA0, hV, rfl, hfz, hnd⟩ := hW
  have hA : DataW.TrodAll enc Try.prog W 0 (fun _ => true) true Try.f3.params.toList args.toList ds p := hA0
  rw [Try.params3] at hA hval
  obtain ⟨v0, vs0, d0, ds0, p0, q0, hargs, rfl, rfl, h0, r0⟩ := trodAll_cons hA
  obtain ⟨rfl, rfl, rfl⟩ := trodAll_nil r0
  obtain rfl : args = #[v0] := by cases args; simp_all
  obtain ⟨rfl, rfl⟩ := trodVars_none hV
  obtain ⟨a0, len0, cap0, rfl⟩ := okWide_slice Try.underlying22 (hval 0 22 v0 rfl rfl)
  have k0 := h0
  have lt0 : ∀ x ∈ p0, x.block < W.heap.size := by obtain ⟨m, hm⟩ := k0; exact DataW.trod_lt m _ _ _ hm
  obtain ⟨z0, w0⟩ : ∃ zs, IsRow .u8 W a0 len0 cap0 zs := by
    obtain ⟨fuel, hf⟩ := h0
    rcases open_ints Try.underlying22 Try.underlying5 (by kernel_rfl) hf with ⟨hcs, _⟩ | ⟨x, l, c, zs, hcs, _, hl, hm, hz, _, hcell, hwz⟩
    · simp [Value.cells] at hcs
      obtain ⟨rfl, rfl, rfl⟩ := hcs
      exact ⟨[], .inl ⟨rfl, rfl, rfl, rfl⟩⟩
    · simp [Value.cells] at hcs
      obtain ⟨rfl, rfl, rfl⟩ := hcs
      exact ⟨zs, .inr ⟨_, rfl, hl, hm, by simpa using hz, hcell, hwz⟩⟩
  clear hA0 hval0
  refine (walk a0 len0 cap0 z0 W w0).mono fun e W' ⟨he, bel⟩ => ?_
  subst he
  exact ⟨_, rfl, _, _, _, [], _, [], hW', trodAll_mk1 (shut_bool Try.underlying4 _), (trodAll_cons_mk (Below.trod laidOut (by kernel_rfl) (of_decide_eq_true (by kernel_rfl)) k0 bel lt0) trodAll_mk0), rfl, bel.frame _, fun h => by cases h⟩

theorem over : Rows.fnSplitJoinRow.holds Try.pinned (OpenSpec.ofChange Rows.fnSplitJoinSpec) :=
  OpenClaim.holds_of_wide 3 Try.f3 rfl rfl rfl rfl rfl rfl rfl ⟨rfl, rfl, rfl, rfl, rfl⟩ rfl rfl rfl rfl rfl (by kernel_rfl) Try.func3 (by kernel_rfl)
    (of_decide_eq_true (by kernel_rfl)) (by unfold Func.isWrapper; first | (rw [if_pos (by decide +kernel)]; kernel_rfl) | (rw [if_neg (by decide +kernel)]; exact ⟨rfl, rfl⟩))
    (fun os started H enc _ => lifted os started H enc)

theorem proved : Rows.FnSplitJoinSaid := over
#print axioms proved
end Go.Proofs.Ytgnmkmnodmlacaa.fnSplitJoin
