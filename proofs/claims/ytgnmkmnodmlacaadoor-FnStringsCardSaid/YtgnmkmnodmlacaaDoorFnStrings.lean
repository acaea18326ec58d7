/- FnStrings returns true at every code: formatting and reading numbers are inverse, sealing and opening texts are inverse, and a changed byte is refused. No condition. -/
import Derived.Test.YtgnmkmnodmlacaaDoorCards
import Derived.Test.YtgnmkmnodmlacaaDoorTie
import Derived.WalkKit
import Derived.ProofKit
import Derived.OpenShut
import Derived.ShutString
import Derived.ChangeOld
import Derived.Below
import Derived.Deep.DeepHandedRow
import Derived.Lib.LaidTab
import Derived.LaidLaws
import Derived.Stop.LaidErr
import Derived.Test.YtgnmkmnodmlacaaDoorDrawN
import Derived.Test.YtgnmkmnodmlacaaDoorFlip
import Derived.Test.YtgnmkmnodmlacaaDoorBytesB
import Derived.Deep.RegionWith
namespace Go.Proofs.YtgnmkmnodmlacaaDoor.fnStrings
open Go.ChangeShapes Go.WideShapes Go.ChangeAt Go.RowKit
open Go.ChangeMaps (open_string shut_string)
set_option linter.unusedVariables false

theorem own : ownKnob Tryd.prog.godebug = none := by kernel_rfl
theorem laidOut : laidOutB Tryd.prog = true := by kernel_rfl

theorem g_internal_strconv_uint64pow10 : Tryd.prog.globalNamed "internal/strconv.uint64pow10" = some 2 := by kernel_rfl
theorem gt_internal_strconv_uint64pow10 : (Tryd.prog.globals[2]?).map (·.type) = some 88 := by kernel_rfl
theorem c_internal_strconv_uint64pow10 : Tryd.prog.cellsOf 88 = 20 := by kernel_rfl
theorem ce_internal_strconv_uint64pow10 : Tryd.prog.cellsOf 35 = 1 := by kernel_rfl
theorem tab_internal_strconv_uint64pow10 {W : World} (h : laidMetH Tryd.prog Rows.fnStringsRow.laid W) : Lib.TabIs Tryd.prog W "internal/strconv.uint64pow10" .u64 Lib.pow10Tab :=
  Lib.tabIs_of_head (rest := _) g_internal_strconv_uint64pow10 gt_internal_strconv_uint64pow10 Tryd.underlying88 Tryd.underlying35 ce_internal_strconv_uint64pow10 c_internal_strconv_uint64pow10 ((laidMet.tail (laidMet.tail (show laidMet Tryd.prog Rows.fnStringsRow.laid W from h))))

theorem star : "*" ++ "errors.errorString" = "*errors.errorString" := by decide
theorem rowE (u : TypeId) (h : Tryd.prog.typeName? 3 u = some "*errors.errorString") : u = 93 :=
  typeName_ptr_named (nm := "errors.errorString") (by rw [star]; kernel_rfl) (by kernel_rfl) (by decide) u (by rw [star]; exact h)
theorem cellsE : Tryd.prog.cellsOf 95 = 1 := by kernel_rfl
theorem cellsS : Tryd.prog.cellsOf 9 = 1 := by kernel_rfl
theorem g_strconv_ErrRange : Tryd.prog.globalNamed "strconv.ErrRange" = some 1 := by kernel_rfl
theorem gt_strconv_ErrRange : (Tryd.prog.globals[1]?).map (·.type) = some 46 := by kernel_rfl
theorem sent_strconv_ErrRange {W : World} (h : laidMetH Tryd.prog Rows.fnStringsRow.laid W) : VarIs W "strconv.ErrRange" := by
  obtain ⟨a0, s0, hv0, -, -, -⟩ := laid_sentinel (laidMet.tail (laidMet.tail (laidMet.tail (show laidMet Tryd.prog Rows.fnStringsRow.laid W from h)))) g_strconv_ErrRange gt_strconv_ErrRange Tryd.underlying46 rowE Tryd.underlying93 Tryd.underlying95 rfl rfl Tryd.underlying9 cellsE cellsS
  exact varIs_of g_strconv_ErrRange hv0

theorem g_strconv_ErrSyntax : Tryd.prog.globalNamed "strconv.ErrSyntax" = some 0 := by kernel_rfl
theorem gt_strconv_ErrSyntax : (Tryd.prog.globals[0]?).map (·.type) = some 46 := by kernel_rfl
theorem sent_strconv_ErrSyntax {W : World} (h : laidMetH Tryd.prog Rows.fnStringsRow.laid W) : VarIs W "strconv.ErrSyntax" := by
  obtain ⟨a0, s0, hv0, -, -, -⟩ := laid_sentinel (laidMet.tail (laidMet.tail (laidMet.tail (laidMet.tail (show laidMet Tryd.prog Rows.fnStringsRow.laid W from h))))) g_strconv_ErrSyntax gt_strconv_ErrSyntax Tryd.underlying46 rowE Tryd.underlying93 Tryd.underlying95 rfl rfl Tryd.underlying9 cellsE cellsS
  exact varIs_of g_strconv_ErrSyntax hv0

-- FACTS ⟨sent_strconv_ErrSyntax hL, sent_strconv_ErrRange hL, tab_internal_strconv_uint64pow10 hL⟩
def IsRow (k : IntKind) (w : World) (a : Option Addr) (len cap : Nat) (zs : List Int) : Prop :=
  (a = none ∧ len = 0 ∧ cap = 0 ∧ zs = []) ∨
  ∃ x, a = some x ∧ len ≤ cap ∧ cap ≤ maxLen ∧ zs.length = cap ∧ (∀ i, i < zs.length → w.cell? (x.add i) = some (.int k (zs.getD i 0))) ∧ ∀ n ∈ zs, (Lit.int k n).wf = true

theorem code_of {w : World} {a : Option Addr} {len cap : Nat} {zs : List Int} (h : IsRow .u8 w a len cap zs) : Code0 w a len := by
  intro k hk
  rcases h with ⟨_, rfl, _⟩ | ⟨x, rfl, hlc, _, hz, hc, hw⟩
  · omega
  · have hkz : k < zs.length := by omega
    have hd : zs.getD k 0 = zs[k] := by simp [List.getD, hkz]
    have hm := hw zs[k] (List.getElem_mem hkz)
    have hcell := hc k hkz
    rw [hd] at hcell
    have hlt := World.block_lt_of_cell? w _ hcell
    have hbk := Go.ChangeShapes.block_add x k
    have hr := bounds_u8 hm
    exact ⟨x, zs[k], rfl, by omega, hcell, hr.1, hr.2⟩

theorem vbig_no (a : Option Addr) (len cap : Nat) (w : World) (h : len ≤ 65536) : Calls Tryd.prog 8 #[.slice a len cap] w fun e w' => e = .returned (.bool false) ∧ w' = w := by
  go_enter Tryd.func8, Tryd.ntmps8
  have hq : decide ((65536 : Int) < (len : Int)) = false := decide_eq_false (by omega)
  go_wp2
  go_ret
  exact ⟨by rw [← hq]; rfl, rfl⟩

set_option maxRecDepth 100000 in
set_option maxHeartbeats 4000000 in
theorem walk (a : Option Addr) (len cap : Nat) (z : List Int) (w : World) (w0 : IsRow .u8 w a len cap z) (hd : Door w) :
    Calls Tryd.prog 3 #[.slice a len cap] w fun e w' => e = .returned (.bool true) ∧ Below w.heap.size w w' := by
  have hlen : len ≤ maxLen := by
    rcases w0 with ⟨_, rfl, _⟩ | ⟨x, _, h1, h2, _⟩ <;> omega
  unfold maxLen at hlen
  have HCODE := Lib.hid (code_of w0)
  have HD := Lib.hid hd
  clear w0 hd
  by_cases hbig : 65536 < len
  · clear HCODE HD
    go_enter Tryd.func3, Tryd.ntmps3
    go_wp2
    go_ret
    exact ⟨rfl, Below.refl _ _⟩
  · go_enter Tryd.func3, Tryd.ntmps3
    go_wp2_with fail
    refine (vbig_no a len cap _ (by omega)).mono ?_
    rintro e w0 ⟨rfl, rfl⟩
    go_wp2_with fail
    refine (drawFmt_any a len cap _ HCODE.out).mono ?_
    rintro e w1 ⟨n, hn0, hn1, rfl, hb1⟩
    have HB1 := Lib.hid hb1
    obtain ⟨s, ok, hs, hok, him, hsp⟩ := fmt_both n
    obtain ⟨m0, r0, hno, him0, _⟩ := parse_both s (by omega)
    have hback : ok = true → m0 = n ∧ r0 = true := fun e => by
      obtain ⟨h0, h1, h2⟩ := hok e
      exact numOf_own h0 h1 h2 hno
    have HIM := Lib.hid him
    have HSP := Lib.hid hsp
    have HIM0 := Lib.hid him0
    have HBACK := Lib.hid hback
    clear hb1 him hsp him0 hno hok hback
    go_wp2_with fail
    refine (HIM.out _ (HD.out.later HB1.out)).mono ?_
    rintro e w2 ⟨rfl, hb2⟩
    have HB2 := Lib.hid (HB1.out.trans (hb2.mono HB1.out.size))
    clear hb2 HB1
    go_wp2_with fail
    refine (HSP.out _).mono ?_
    rintro e w3 ⟨rfl, hb3⟩
    have HB3 := Lib.hid (HB2.out.trans (hb3.mono HB2.out.size))
    clear hb3 HB2
    go_wp2_with fail
    refine (drawParse_any a len cap _ (HCODE.out.below HB3.out)).mono ?_
    rintro e w4 ⟨t, ht, rfl, hb4⟩
    have HB4 := Lib.hid (HB3.out.trans (hb4.mono HB3.out.size))
    obtain ⟨m, fine, _, him1, hsp1⟩ := parse_both t (by omega)
    have HIM1 := Lib.hid him1
    have HSP1 := Lib.hid hsp1
    clear hb4 HB3 him1 hsp1 HIM HSP
    go_wp2_with fail
    refine (HIM1.out _ (HD.out.later HB4.out)).mono ?_
    rintro e w5 ⟨rfl, hb5⟩
    have HB5 := Lib.hid (HB4.out.trans (hb5.mono HB4.out.size))
    clear hb5 HB4
    go_wp2_with fail
    refine (HSP1.out _).mono ?_
    rintro e w6 ⟨rfl, hb6⟩
    have HB6 := Lib.hid (HB5.out.trans (hb6.mono HB5.out.size))
    clear hb6 HB5 HIM1 HSP1
    go_wp2_with fail
    refine (drawAppend_any a len cap _ (HCODE.out.below HB6.out)).mono ?_
    rintro e w7 ⟨x, hx, rfl, hb7⟩
    have HB7 := Lib.hid (HB6.out.trans (hb7.mono HB6.out.size))
    clear hb7 HB6
    by_cases hA : OkA x
    · have HA := Lib.hid hA
      have hav : appendVal x = .tuple #[.string (sealed x), .bool true] := by unfold appendVal; rw [if_pos hA]
      clear hA
      go_wp2_with fail
      refine (implAppend_any x _ (by omega) (HD.out.later HB7.out).tab).mono ?_
      rw [hav]
      rintro e w8 ⟨rfl, hb8⟩
      have HB8 := Lib.hid (HB7.out.trans (hb8.mono HB7.out.size))
      clear hb8 HB7
      go_wp2_with fail
      refine (specAppend_any x _ (by omega)).mono ?_
      rw [hav]
      rintro e w9 ⟨rfl, hb9⟩
      have HB9 := Lib.hid (HB8.out.trans (hb9.mono HB8.out.size))
      clear hb9 HB8 hav
      go_wp2_with fail
      refine (HIM0.out _ (HD.out.later HB9.out)).mono ?_
      rintro e w10 ⟨rfl, hb10⟩
      have HB10 := Lib.hid (HB9.out.trans (hb10.mono HB9.out.size))
      have hver : verVal (sealed x) = .tuple #[.string x, .bool true] := by
        have h := okV_sealed HA.out
        unfold verVal
        rw [if_pos h.1, h.2]
      clear hb10 HB9
      cases ok
      · clear HBACK
        go_wp2_with fail
        refine (implVer_any (sealed x) _ (by have := HA.out.2.2; omega) (HD.out.later HB10.out).tab).mono ?_
        rw [hver]
        rintro e w11 ⟨rfl, hb11⟩
        have HB11 := Lib.hid (HB10.out.trans (hb11.mono HB10.out.size))
        obtain ⟨C, wb, hconv, hC, hbytes, hb12⟩ := bytes_of (sealed x) w11
        have HBY := Lib.hid hbytes
        have HG : Hid (w0.heap.size ≤ w11.heap.size) := Lib.hid HB11.out.size
        have HB12 := Lib.hid (HB11.out.trans (hb12.mono HB11.out.size))
        clear hb11 HB10 hver hb12 hbytes HB11
        go_wp2_with fail
        refine (vAt_any a len cap 9 _ (HCODE.out.below HB12.out) (by omega) (by omega)).mono ?_
        rintro e w12 ⟨⟨v, hv0, hv1, rfl⟩, rfl⟩
        have hpos : 0 < (sealed x).size := by rw [sealed_size]; omega
        obtain ⟨y, hy⟩ : ∃ y, y = sealed x := ⟨_, rfl⟩
        rw [← hy] at hpos hconv hC HBY
        obtain ⟨k, hk⟩ : ∃ k : Nat, v % (y.size : Int) = k := ⟨(v % (y.size : Int)).toNat, by have := Int.emod_nonneg v (show (y.size : Int) ≠ 0 by omega); omega⟩
        have hky : k < y.size := by have := Int.emod_lt_of_pos v (show 0 < (y.size : Int) by omega); omega
        have hkl : k < y.data.toList.length := by rw [Array.length_toList]; exact hky
        have hcell := (HBY.out.2 k hkl).1
        have hfro := (HBY.out.2 k hkl).2
        obtain ⟨o, ho⟩ : ∃ o, o = y.data.toList[k] := ⟨_, rfl⟩
        rw [← ho] at hcell
        have HO := Lib.hid ho
        have HY := Lib.hid hy
        clear ho
        rw [← hy]
        have hylen : y.size ≤ 4000 := by rw [hy]; exact HA.out.2.2
        clear hy
        go_wp2_with fail
        simp only [hk]
        go_region_with (go_at_call 19; refine (vAt_any a len cap 10 _ (HCODE.out.below (HB12.out.trans (below_drewN _ _ _))) (by omega) (by omega)).mono ?_; rintro e w13 ⟨⟨u, hu0, hu1, rfl⟩, rfl⟩)
        all_goals (
          obtain ⟨c, hc, hq⟩ := flip_byte o u hu0
          rw [hq]
          clear hq
          have hB13 : BytesAt ((w12.drewN 1).setCell ⟨w11.heap.size, k, none⟩ (.int .u8 (c.toNat : Int))) w11.heap.size (y.data.toList.set k c) := (HBY.out.below (below_drewN w12.heap.size w12 1) HBY.out.1).set k c hkl
          have HB13 : Hid (Below w0.heap.size w0 ((w12.drewN 1).setCell ⟨w11.heap.size, k, none⟩ (.int .u8 (c.toNat : Int)))) := Lib.hid ((HB12.out.trans (below_drewN _ _ _)).setCell (p := ⟨w11.heap.size, k, none⟩) HG.out _)
          have hlen2 : (y.data.toList.set k c).length = y.size := by rw [List.length_set, Array.length_toList]; rfl
          have htext := text_of (y.data.toList.set k c) w11.heap.size C _ hB13
          rw [hlen2] at htext
          have hbad : verVal ⟨(y.data.toList.set k c).toArray⟩ = .tuple #[.string ⟨#[]⟩, .bool false] := by
            have h : ¬ OkV ⟨(y.data.toList.set k c).toArray⟩ := by
              refine flip_bad x HA.out.2.1 k c (by rw [← HY.out]; exact hkl) ?_ _ (by rw [← HY.out])
              rw [← HY.out, List.getElem?_eq_getElem hkl, ← HO.out]
              intro e
              exact hc (Option.some.inj e).symm
            unfold verVal
            rw [if_neg h]
          obtain ⟨yy, hyy⟩ : ∃ yy : ByteArray, yy = ⟨(y.data.toList.set k c).toArray⟩ := ⟨_, rfl⟩
          have hys : yy.size ≤ 1048576 := by rw [hyy, ba_size, hlen2]; omega
          rw [← hyy] at htext hbad
          obtain ⟨W, hW⟩ : ∃ W, W = (w12.drewN 1).setCell ⟨w11.heap.size, k, none⟩ (.int .u8 (c.toNat : Int)) := ⟨_, rfl⟩
          rw [← hW] at htext HB13 ⊢
          clear hB13 hW hyy hlen2 hc
          go_wp2_with fail
          refine (implVer_any yy _ hys (HD.out.later HB13.out).tab).mono ?_
          rw [hbad]
          rintro e w14 ⟨rfl, hb14⟩
          have HB14 := Lib.hid (HB13.out.trans (hb14.mono HB13.out.size))
          clear hb14 HB13 hbad htext
          go_wp2_with fail
          go_ret
          exact ⟨rfl, HB14.out⟩)
      · obtain ⟨rfl, rfl⟩ := HBACK.out rfl
        clear HBACK
        go_wp2_with fail
        refine (implVer_any (sealed x) _ (by have := HA.out.2.2; omega) (HD.out.later HB10.out).tab).mono ?_
        rw [hver]
        rintro e w11 ⟨rfl, hb11⟩
        have HB11 := Lib.hid (HB10.out.trans (hb11.mono HB10.out.size))
        obtain ⟨C, wb, hconv, hC, hbytes, hb12⟩ := bytes_of (sealed x) w11
        have HBY := Lib.hid hbytes
        have HG : Hid (w0.heap.size ≤ w11.heap.size) := Lib.hid HB11.out.size
        have HB12 := Lib.hid (HB11.out.trans (hb12.mono HB11.out.size))
        clear hb11 HB10 hver hb12 hbytes HB11
        go_wp2_with fail
        refine (vAt_any a len cap 9 _ (HCODE.out.below HB12.out) (by omega) (by omega)).mono ?_
        rintro e w12 ⟨⟨v, hv0, hv1, rfl⟩, rfl⟩
        have hpos : 0 < (sealed x).size := by rw [sealed_size]; omega
        obtain ⟨y, hy⟩ : ∃ y, y = sealed x := ⟨_, rfl⟩
        rw [← hy] at hpos hconv hC HBY
        obtain ⟨k, hk⟩ : ∃ k : Nat, v % (y.size : Int) = k := ⟨(v % (y.size : Int)).toNat, by have := Int.emod_nonneg v (show (y.size : Int) ≠ 0 by omega); omega⟩
        have hky : k < y.size := by have := Int.emod_lt_of_pos v (show 0 < (y.size : Int) by omega); omega
        have hkl : k < y.data.toList.length := by rw [Array.length_toList]; exact hky
        have hcell := (HBY.out.2 k hkl).1
        have hfro := (HBY.out.2 k hkl).2
        obtain ⟨o, ho⟩ : ∃ o, o = y.data.toList[k] := ⟨_, rfl⟩
        rw [← ho] at hcell
        have HO := Lib.hid ho
        have HY := Lib.hid hy
        clear ho
        rw [← hy]
        have hylen : y.size ≤ 4000 := by rw [hy]; exact HA.out.2.2
        clear hy
        go_wp2_with fail
        simp only [hk]
        go_region_with (go_at_call 19; refine (vAt_any a len cap 10 _ (HCODE.out.below (HB12.out.trans (below_drewN _ _ _))) (by omega) (by omega)).mono ?_; rintro e w13 ⟨⟨u, hu0, hu1, rfl⟩, rfl⟩)
        all_goals (
          obtain ⟨c, hc, hq⟩ := flip_byte o u hu0
          rw [hq]
          clear hq
          have hB13 : BytesAt ((w12.drewN 1).setCell ⟨w11.heap.size, k, none⟩ (.int .u8 (c.toNat : Int))) w11.heap.size (y.data.toList.set k c) := (HBY.out.below (below_drewN w12.heap.size w12 1) HBY.out.1).set k c hkl
          have HB13 : Hid (Below w0.heap.size w0 ((w12.drewN 1).setCell ⟨w11.heap.size, k, none⟩ (.int .u8 (c.toNat : Int)))) := Lib.hid ((HB12.out.trans (below_drewN _ _ _)).setCell (p := ⟨w11.heap.size, k, none⟩) HG.out _)
          have hlen2 : (y.data.toList.set k c).length = y.size := by rw [List.length_set, Array.length_toList]; rfl
          have htext := text_of (y.data.toList.set k c) w11.heap.size C _ hB13
          rw [hlen2] at htext
          have hbad : verVal ⟨(y.data.toList.set k c).toArray⟩ = .tuple #[.string ⟨#[]⟩, .bool false] := by
            have h : ¬ OkV ⟨(y.data.toList.set k c).toArray⟩ := by
              refine flip_bad x HA.out.2.1 k c (by rw [← HY.out]; exact hkl) ?_ _ (by rw [← HY.out])
              rw [← HY.out, List.getElem?_eq_getElem hkl, ← HO.out]
              intro e
              exact hc (Option.some.inj e).symm
            unfold verVal
            rw [if_neg h]
          obtain ⟨yy, hyy⟩ : ∃ yy : ByteArray, yy = ⟨(y.data.toList.set k c).toArray⟩ := ⟨_, rfl⟩
          have hys : yy.size ≤ 1048576 := by rw [hyy, ba_size, hlen2]; omega
          rw [← hyy] at htext hbad
          obtain ⟨W, hW⟩ : ∃ W, W = (w12.drewN 1).setCell ⟨w11.heap.size, k, none⟩ (.int .u8 (c.toNat : Int)) := ⟨_, rfl⟩
          rw [← hW] at htext HB13 ⊢
          clear hB13 hW hyy hlen2 hc
          go_wp2_with fail
          refine (implVer_any yy _ hys (HD.out.later HB13.out).tab).mono ?_
          rw [hbad]
          rintro e w14 ⟨rfl, hb14⟩
          have HB14 := Lib.hid (HB13.out.trans (hb14.mono HB13.out.size))
          clear hb14 HB13 hbad htext
          go_wp2_with fail
          go_ret
          exact ⟨rfl, HB14.out⟩)
    · have hav : appendVal x = .tuple #[.string ⟨#[]⟩, .bool false] := by unfold appendVal; rw [if_neg hA]
      clear hA
      go_wp2_with fail
      refine (implAppend_any x _ (by omega) (HD.out.later HB7.out).tab).mono ?_
      rw [hav]
      rintro e w8 ⟨rfl, hb8⟩
      have HB8 := Lib.hid (HB7.out.trans (hb8.mono HB7.out.size))
      clear hb8 HB7
      go_wp2_with fail
      refine (specAppend_any x _ (by omega)).mono ?_
      rw [hav]
      rintro e w9 ⟨rfl, hb9⟩
      have HB9 := Lib.hid (HB8.out.trans (hb9.mono HB8.out.size))
      clear hb9 HB8 hav
      go_wp2_with fail
      refine (HIM0.out _ (HD.out.later HB9.out)).mono ?_
      rintro e w10 ⟨rfl, hb10⟩
      have HB10 := Lib.hid (HB9.out.trans (hb10.mono HB9.out.size))
      clear hb10 HB9
      cases ok
      · clear HBACK
        go_wp2_with fail
        go_ret
        exact ⟨rfl, HB10.out⟩
      · obtain ⟨rfl, rfl⟩ := HBACK.out rfl
        clear HBACK
        go_wp2_with fail
        go_ret
        exact ⟨rfl, HB10.out⟩

theorem contract (H : Type) (enc : TypeId × Value → H) (W : World) (base : Nat) (args : Array Value) (ds gs : List (DataW H)) (before : List MemPlace)
    (hval : ∀ (j : Nat) t v, Tryd.f3.params[j]? = some t → args[j]? = some v → Value.okWide Tryd.prog W .any base t v)
    (hW : DataW.Whole enc Tryd.prog Tryd.f3.params.toList Rows.fnStringsSpec.vars false W args.toList ds gs before) (hL : laidMetH Tryd.prog Rows.fnStringsRow.laid W) :
    Calls Tryd.prog 3 args W fun e W' => ∃ v, e = .returned v ∧ Rows.fnStringsSpec.post enc Tryd.prog Tryd.f3 false true false false W args v W' := by
  have hW' := hW
  obtain ⟨p, q, hA0, hV, rfl, hfz, hnd⟩ := hW
  have hA : DataW.TrodAll enc Tryd.prog W 0 (fun _ => true) true Tryd.f3.params.toList args.toList ds p := hA0
  rw [Tryd.params3] at hA hval
  obtain ⟨v0, vs0, d0, ds0, p0, q0, hargs, rfl, rfl, h0, r0⟩ := trodAll_cons hA
  obtain ⟨rfl, rfl, rfl⟩ := trodAll_nil r0
  obtain rfl : args = #[v0] := by cases args; simp_all
  obtain ⟨rfl, rfl⟩ := trodVars_none hV
  obtain ⟨a0, len0, cap0, rfl⟩ := okWide_slice Tryd.underlying22 (hval 0 22 v0 rfl rfl)
  have k0 := h0
  have lt0 : ∀ x ∈ p0, x.block < W.heap.size := by obtain ⟨m, hm⟩ := k0; exact DataW.trod_lt m _ _ _ hm
  obtain ⟨z0, w0⟩ : ∃ zs, IsRow .u8 W a0 len0 cap0 zs := by
    obtain ⟨fuel, hf⟩ := h0
    rcases open_ints Tryd.underlying22 Tryd.underlying5 (by kernel_rfl) hf with ⟨hcs, _⟩ | ⟨x, l, c, zs, hcs, _, hl, hm, hz, _, hcell, hwz⟩
    · simp [Value.cells] at hcs
      obtain ⟨rfl, rfl, rfl⟩ := hcs
      exact ⟨[], .inl ⟨rfl, rfl, rfl, rfl⟩⟩
    · simp [Value.cells] at hcs
      obtain ⟨rfl, rfl, rfl⟩ := hcs
      exact ⟨zs, .inr ⟨_, rfl, hl, hm, by simpa using hz, hcell, hwz⟩⟩
  clear hA0
  simp only [List.append_nil] at hW'
  refine (walk a0 len0 cap0 z0 W w0 ⟨sent_strconv_ErrSyntax hL, sent_strconv_ErrRange hL, tab_internal_strconv_uint64pow10 hL⟩).mono fun e W' ⟨he, bel⟩ => ?_
  subst he
  exact ⟨_, rfl, _, _, _, [], _, [], hW', trodAll_mk1 (shut_bool Tryd.underlying4 _), (trodAll_cons_mk (Below.trod laidOut (by kernel_rfl) (of_decide_eq_true (by kernel_rfl)) k0 bel lt0) trodAll_mk0), rfl, bel.frame _, fun h => by cases h⟩

noncomputable def low : Nat := (World.holding Tryd.prog default ⟨#[], #[], []⟩).heap.size
/-- A start that fits: the listed variables hold what their initialisers lay. -/
noncomputable def laidWorld (os : Os) : World :=
  let w0 := World.holding Tryd.prog os ⟨#[.cells #[.string { data := #[118, 97, 108, 117, 101, 32, 111, 117, 116, 32, 111, 102, 32, 114, 97, 110, 103, 101] }] 95, .cells #[.string { data := #[105, 110, 118, 97, 108, 105, 100, 32, 115, 121, 110, 116, 97, 120] }] 95], #[], []⟩
  { w0 with heap := (((((w0.heap.modify 4 fun
    | .cells _ t frozen => .cells #[.int .u8 0, .int .u8 1, .int .u8 28, .int .u8 2, .int .u8 29, .int .u8 14, .int .u8 24, .int .u8 3, .int .u8 30, .int .u8 22, .int .u8 20, .int .u8 15, .int .u8 25, .int .u8 17, .int .u8 4, .int .u8 8, .int .u8 31, .int .u8 27, .int .u8 13, .int .u8 23, .int .u8 21, .int .u8 19, .int .u8 16, .int .u8 7, .int .u8 26, .int .u8 12, .int .u8 18, .int .u8 6, .int .u8 11, .int .u8 5, .int .u8 10, .int .u8 9] t frozen
    | o => o).modify 5 fun
    | .cells _ t frozen => .cells #[.int .u8 0, .int .u8 1, .int .u8 56, .int .u8 2, .int .u8 57, .int .u8 49, .int .u8 28, .int .u8 3, .int .u8 61, .int .u8 58, .int .u8 42, .int .u8 50, .int .u8 38, .int .u8 29, .int .u8 17, .int .u8 4, .int .u8 62, .int .u8 47, .int .u8 59, .int .u8 36, .int .u8 45, .int .u8 43, .int .u8 51, .int .u8 22, .int .u8 53, .int .u8 39, .int .u8 33, .int .u8 30, .int .u8 24, .int .u8 18, .int .u8 12, .int .u8 5, .int .u8 63, .int .u8 55, .int .u8 48, .int .u8 27, .int .u8 60, .int .u8 41, .int .u8 37, .int .u8 16, .int .u8 46, .int .u8 35, .int .u8 44, .int .u8 21, .int .u8 52, .int .u8 32, .int .u8 23, .int .u8 11, .int .u8 54, .int .u8 26, .int .u8 40, .int .u8 15, .int .u8 34, .int .u8 20, .int .u8 31, .int .u8 10, .int .u8 25, .int .u8 14, .int .u8 19, .int .u8 9, .int .u8 13, .int .u8 8, .int .u8 7, .int .u8 6] t frozen
    | o => o).modify 2 fun
    | .cells _ t frozen => .cells #[.int .u64 1, .int .u64 10, .int .u64 100, .int .u64 1000, .int .u64 10000, .int .u64 100000, .int .u64 1000000, .int .u64 10000000, .int .u64 100000000, .int .u64 1000000000, .int .u64 10000000000, .int .u64 100000000000, .int .u64 1000000000000, .int .u64 10000000000000, .int .u64 100000000000000, .int .u64 1000000000000000, .int .u64 10000000000000000, .int .u64 100000000000000000, .int .u64 1000000000000000000, .int .u64 10000000000000000000] t frozen
    | o => o).modify 1 fun
    | .cells _ t frozen => .cells #[.iface 93 (.pointer (some ⟨low + 0, 0, none⟩))] t frozen
    | o => o).modify 0 fun
    | .cells _ t frozen => .cells #[.iface 93 (.pointer (some ⟨low + 1, 0, none⟩))] t frozen
    | o => o) }
theorem laid_met (os : Os) : laidMet Tryd.prog Rows.fnStringsRow.laid ((laidWorld os).forCall (fun _ _ => 0) ⟨#[], #[.slice none 0 0], []⟩).memory :=
  laidMet_of_run' 8 (by kernel_rfl) (by kernel_rfl)
theorem reads (os : Os) {H : Type} (enc : TypeId × Value → H) : ∃ places, DataW.whole enc Tryd.prog ((laidWorld os).forCall (fun _ _ => 0) ⟨#[], #[.slice none 0 0], []⟩).memory Tryd.f3.params.toList Rows.fnStringsSpec.vars false (#[.slice none 0 0] : Array Value).toList 8 = some ([.nil], [], places) :=
  ⟨[], by kernel_rfl⟩

set_option maxRecDepth 100000 in
theorem lifted (os : Os) (started : os.Started) (H : Type) (enc : TypeId × Value → H) (F : Stop.Interp) :
    ReturnsInHanded {} Tryd.checked os 3 .any ((OpenSpec.ofChange Rows.fnStringsSpec).preRow enc Tryd.prog Tryd.f3 Rows.fnStringsRow.domain false Rows.fnStringsRow.laid) (((OpenSpec.ofChange Rows.fnStringsSpec).at F).post enc Tryd.prog Tryd.f3 false true false false) := by
  obtain ⟨places, hx⟩ := reads os enc
  refine returnsInHanded_of_row (C := Tryd.checked) (s := (OpenSpec.ofChange Rows.fnStringsSpec)) own started (by kernel_rfl) Tryd.func3
    (witness_row_at (enc := enc) (C := Tryd.checked) false (laidWorld os) #[.slice none 0 0] rfl (by kernel_rfl) (by kernel_rfl) (by kernel_rfl)
      (OpenSpec.preRow_of_cond 8 hx (by kernel_rfl) (fun k hk => by cases hk) (by kernel_rfl) (laid_met os))) ?_
  intro W base args ds gs before hval hW _ _ _ hL _ _
  exact contract H enc W base args ds gs before hval hW hL

theorem said : Rows.FnStringsSaid :=
  OpenClaim.holds_of_cond 3 Tryd.f3 rfl rfl rfl rfl rfl rfl rfl ⟨rfl, rfl, rfl, rfl, rfl⟩ rfl rfl rfl rfl rfl (by kernel_rfl) Tryd.func3 (by kernel_rfl)
    (of_decide_eq_true (by kernel_rfl)) (by unfold Func.isWrapper; first | (rw [if_pos (by decide +kernel)]; kernel_rfl) | (rw [if_neg (by decide +kernel)]; exact ⟨rfl, rfl⟩))
    (fun os started H enc _ F => by rw [OpenClaim.pre_eq_preRow]; exact lifted os started H enc F)

theorem plain (f : FuncId) (fn : Func) (hf : Tryd.pinned.checked.prog.funcNamed "loop.example/g00907/laws.FnStrings" = some f) (hfn : Tryd.pinned.checked.prog.funcs[f]? = some fn) :
    true = Tryd.pinned.checked.prog.looks [] ∧ ∀ (j : Nat) t, fn.params[j]? = some t → Tryd.pinned.checked.prog.wantsStandIn t = false := by
  obtain rfl : f = 3 := Option.some.inj ((show Tryd.prog.funcNamed "loop.example/g00907/laws.FnStrings" = some 3 by kernel_rfl).symm.trans hf) |>.symm
  obtain rfl : fn = Tryd.f3 := (Option.some.inj (Tryd.func3.symm.trans hfn)).symm
  refine ⟨by kernel_rfl, fun j t ht => ?_⟩
  rw [Tryd.params3] at ht
  obtain rfl : t = 22 := by simpa using Array.mem_of_getElem? ht
  exact (show Tryd.prog.wantsStandIn 22 = false by kernel_rfl)

theorem card : Rows.FnStringsCardSaid :=
  Claim7.holds_tied_plain_at .later [] _ _ _ _ said (fun _ h => by cases h) (by kernel_rfl) (fun _ h => by cases h) fnStrings_row_tie rfl ⟨rfl, rfl⟩ (by kernel_rfl) rfl plain (by kernel_rfl)
#print axioms card
end Go.Proofs.YtgnmkmnodmlacaaDoor.fnStrings
