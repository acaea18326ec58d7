/- The program's InsertionSort, by its contract. -/
import Derived.Test.YtipdfmedbcafpaaIIns
import Derived.Test.YtipdfmedbcafpaaIList
import Derived.Test.YtipdfmedbcafpaaRet12
import Derived.Test.YtipdfmedbcafpaaInsP
namespace Go.Proofs.Ytipdfmedbcafpaa
open Go.RowKit P El
set_option linter.unusedVariables false

/-- The loop over the gaps. -/
structure GapO (base s g cap : Nat) (gs : List Int) (L : List Int) (c0 m0 q j : Nat) (M : List Int) (c m : Nat) (w W : World) : Prop where
  run : gapsF ((gs.drop j).map Int.toNat) (M, c, m) = gapsF (gs.map Int.toNat) (L, c0, m0)
  len : M.length = L.length
  le : j ≤ gs.length
  cb : c ≤ c0 + 4096 * j
  mb : m ≤ m0 + 4160 * j
  cnt : Cnt base s g cap M c m q W
  b : But2 s g w W
/-- The loop over the elements. -/
structure GapI (base s g cap gap : Nat) (N : List Int) (cn mn q i : Nat) (M : List Int) (c m : Nat) (w W : World) : Prop where
  run : insN gap i (N.length - i) (M, c, m) = gapF (N, cn, mn) gap
  len : M.length = N.length
  le : i ≤ 64
  cb : c ≤ cn + 64 * i
  mb : m ≤ mn + 65 * i
  cnt : Cnt base s g cap M c m q W
  b : But2 s g w W

set_option maxRecDepth 100000 in
set_option maxHeartbeats 4000000 in
theorem insertAtGaps_any {base s g cap : Nat} {L : List Int} {c0 m0 q : Nat} (v : Value) (gs : List Int) (w : World) (h : Cnt base s g cap L c0 m0 q w) (hv : FlatAt w v gs.length (ints gs)) (hne : ∀ b o n cc, v = .slice (some ⟨b, o, none⟩) n cc → b ≠ s ∧ b ≠ g)
    (h64 : L.length ≤ 64) (hgs : gs.length ≤ 10) (hg : ∀ x ∈ gs, 1 ≤ x ∧ x ≤ 64) (hc0 : c0 = 0) (hm0 : m0 = 0) :
    Calls Try.prog 153 #[.pointer (some ⟨s, 0, none⟩), v] w fun e w' =>
      e = .returned (.tuple #[]) ∧ CntP base s g cap (gapsF (gs.map Int.toNat) (L, c0, m0)).1 (gapsF (gs.map Int.toNat) (L, c0, m0)).2.1 (gapsF (gs.map Int.toNat) (L, c0, m0)).2.2 q w w' := by
  obtain ⟨a, cc, rfl, _, hx⟩ := hv
  have HC : Hid (∀ (j : Nat) x, gs[j]? = some x → ∃ b o, a = some ⟨b, o, none⟩ ∧ ∀ W, But2 s g w W → W.cell? ⟨b, o + j, none⟩ = some (.int .i64 x)) := Lib.hid (fun j x hj => by
    obtain ⟨b, o, rfl, hlt, hc⟩ := hx _ _ (ints_at hj)
    obtain ⟨n1, n2⟩ := hne b o gs.length cc rfl
    exact ⟨b, o, rfl, fun W hW => by rw [World.cell?_of_block (w := w) (hW.block b hlt n1 n2)]; exact hc⟩)
  have HO0 : Hid (GapO base s g cap gs L c0 m0 q 0 L c0 m0 w w) := Lib.hid ⟨rfl, rfl, Nat.zero_le _, by omega, by omega, h, But2.refl _ _ _⟩
  have HG := Lib.hid hg
  clear hx h hne hg
  go_enter Try.func153, Try.ntmps153
  go_wp2_with fail
  go_loopw [5, 6, 9] (fun _ _ jv wr => ∃ (j : Nat) (M : List Int) (c m : Nat), jv = .int .i64 j ∧ GapO base s g cap gs L c0 m0 q j M c m w wr) (fun _ _ jv _ => gs.length - (intOf jv).toNat)
  case atStart => exact ⟨0, L, c0, m0, rfl, HO0.out⟩
  case round =>
    obtain ⟨j, M, c, m, rfl, ho⟩ := hrel
    have HO := Lib.hid ho
    have hc : c ≤ 50000 := by have := ho.cb; have := ho.le; omega
    have hm : m ≤ 50000 := by have := ho.mb; have := ho.le; omega
    clear ho HO0
    by_cases hlt : j < gs.length
    · obtain ⟨x, hx⟩ : ∃ x, gs[j]? = some x := ⟨_, List.getElem?_eq_getElem hlt⟩
      obtain ⟨hx1, hx2⟩ := HG.out x (List.mem_of_getElem? hx)
      obtain ⟨gap, rfl⟩ : ∃ gap : Nat, x = gap := ⟨x.toNat, by omega⟩
      obtain ⟨b, o, rfl, hcg⟩ := HC.out j _ hx
      have hcx := hcg wr HO.out.b
      have hg0 : 0 < gap := by omega
      have hg1 : gap ≤ 64 := by omega
      have hM64 : M.length ≤ 64 := by have := HO.out.len; omega
      have HSTEP : Hid (gapsF ((gs.drop (j + 1)).map Int.toNat) (gapF (M, c, m) gap) = gapsF (gs.map Int.toNat) (L, c0, m0)) := Lib.hid (by
        rw [← HO.out.run]
        obtain ⟨h1, h2⟩ := List.getElem?_eq_some_iff.1 hx
        rw [List.drop_eq_getElem_cons h1, h2]; rfl)
      have HI0 : Hid (GapI base s g cap gap M c m q gap M c m w wr) := Lib.hid ⟨rfl, rfl, hg1, by omega, by omega, HO.out.cnt, HO.out.b⟩
      clear hx hx1 hx2 hcg
      go_wp2_with fail
      go_loopw [6] (fun iv ws => ∃ (i : Nat) (M' : List Int) (c' m' : Nat), iv = .int .i64 i ∧ GapI base s g cap gap M c m q i M' c' m' w ws) (fun iv _ => M.length - (intOf iv).toNat)
      case atStart => exact ⟨gap, M, c, m, rfl, HI0.out⟩
      case round =>
        obtain ⟨i, M', c', m', rfl, hi⟩ := hrel
        have HI := Lib.hid hi
        have hc' : c' ≤ 60000 := by have := hi.cb; have := hi.le; omega
        have hm' : m' ≤ 60000 := by have := hi.mb; have := hi.le; omega
        have hi64 := hi.le
        obtain ⟨hs0, _⟩ := hi.cnt.c0
        rw [hi.len] at hs0
        clear hi HI0 hcx
        by_cases hil : i < M.length
        · have HIN := Lib.hid (insert_any i gap wr HI.out.cnt (by have := HI.out.len; omega) (by have := HI.out.len; omega) hg0 (by omega) (by omega))
          go_wp2_with fail
          refine (HIN.out).mono ?_
          rintro e w1 ⟨rfl, hcn, hb⟩
          have HN : Hid (GapI base s g cap gap M c m q (i + 1) (insAt gap i (M', c', m')).1 (insAt gap i (M', c', m')).2.1 (insAt gap i (M', c', m')).2.2 w w1) := Lib.hid (by
            have h := HI.out
            have hbd := insAt_bounds gap i (M', c', m')
            have h1 := h.cb
            have h2 := h.mb
            simp only at hbd
            refine ⟨?_, by rw [insAt_length]; exact h.len, by omega, by omega, by omega, hcn, h.b.trans hb⟩
            have hr := h.run
            rw [show M.length - i = M.length - (i + 1) + 1 by omega, insN_succ] at hr
            exact hr)
          clear hcn hb HIN hs0
          go_wp2_with fail
          go_roundw
          case rel => exact ⟨i + 1, _, _, _, by go_num, HN.out⟩
          case measure => simp [intOf]; omega
        · have HN : Hid (GapO base s g cap gs L c0 m0 q (j + 1) M' c' m' w wr) := Lib.hid (by
            have h := HI.out
            have hr := h.run
            rw [show M.length - i = 0 by omega] at hr
            have hst := HSTEP.out
            rw [← hr] at hst
            have hbd := gapF_bounds (M, c, m) gap hM64
            rw [← hr] at hbd
            have h1 := HO.out.cb
            have h2 := HO.out.mb
            have h3 := HO.out.len
            have h4 := h.len
            simp only [insN] at hbd
            exact ⟨hst, by omega, by omega, by omega, by omega, h.cnt, h.b⟩)
          go_wp2_with fail
          go_roundw
          case rel => exact ⟨j + 1, _, _, _, by go_num, HN.out⟩
          case measure => simp [intOf]; omega
    · have HRES : Hid (CntP base s g cap (gapsF (gs.map Int.toNat) (L, c0, m0)).1 (gapsF (gs.map Int.toNat) (L, c0, m0)).2.1 (gapsF (gs.map Int.toNat) (L, c0, m0)).2.2 q w wr) := Lib.hid (by
        have h := HO.out
        have hr := h.run
        rw [List.drop_of_length_le (by omega)] at hr
        rw [← hr]
        exact ⟨h.cnt, h.b⟩)
      go_wp2_with fail
      go_end0
      exact ⟨rfl, HRES.out⟩

theorem single_one : gapsF ([1].map Int.toNat) = fun S => gapF S 1 := by funext S; rfl

set_option maxRecDepth 100000 in
set_option maxHeartbeats 4000000 in
theorem implIns_any (b o c : Nat) (l : List Int) (w : World) (hv : FlatAt w (.slice (some ⟨b, o, none⟩) l.length c) l.length (ints l)) (hn : l.length ≤ 1048576) :
    Calls Try.prog 141 #[.slice (some ⟨b, o, none⟩) l.length c] w (RetI2 (insAll l) w) := by
  have HV := Lib.hid hv
  clear hv
  by_cases hok : OkL l
  · have hd : decide (OkL l) = true := decide_eq_true hok
    have HI := Lib.hid (fun W (h : FlatAt W (.slice (some ⟨b, o, none⟩) l.length c) l.length (ints l)) => by have := implValidList_any _ l W h hn; rw [hd] at this; exact this)
    have HCL := Lib.hid (fun W (h : FlatAt W (.slice (some ⟨b, o, none⟩) l.length c) l.length (ints l)) => counted_any b o c l W h hn)
    have HF := Lib.hid (insAll_yes hok)
    have h64 := hok.1
    clear hok hd
    go_enter Try.func141, Try.ntmps141
    go_wp2_with fail
    refine (HI.out _ HV.out).mono ?_
    rintro e w1 ⟨rfl, hb1⟩
    have HV1 := Lib.hid (HV.out.below hb1)
    have HB1 := Lib.hid hb1
    clear hb1 HV HI
    go_wp2_with fail
    refine (HCL.out _ HV1.out).mono ?_
    rintro e w2 ⟨s, g, cap, rfl, hcn, hb2⟩
    have HB2 := Lib.hid (HB1.out.trans (hb2.mono HB1.out.size))
    have HSZ : Hid (w.heap.size ≤ w1.heap.size) := Lib.hid HB1.out.size
    have hlt1 := hcn.st.1
    have hlt2 := hcn.row.1
    have hcn3 := hcn.below ((Below.refl _ _).alloc (Nat.le_refl _) (.cells #[.int .i64 1] 3))
    have HB3 := Lib.hid (HB2.out.alloc HB2.out.size (.cells #[.int .i64 1] 3))
    have hrow : RowIs (w2.alloc (.cells #[.int .i64 1] 3)) w2.heap.size 3 (ints [1]) := heap_alloc_new w2 _
    have HG := Lib.hid (insertAtGaps_any (.slice (some ⟨w2.heap.size, 0, none⟩) 1 1) [1] (w2.alloc (.cells #[.int .i64 1] 3)) hcn3 ((CellRow.of_row hrow).flat (Nat.le_refl _)) (fun b o n cc e => by simp at e; omega) h64 (by simp) (fun x hx => by simp at hx; omega) rfl rfl)
    rw [single_one] at HG
    simp only at HG
    have HR : Hid (gapF (l, 0, 0) 1 = insF l) := Lib.hid rfl
    rw [HR.out] at HG
    have HLO := Lib.hid (⟨hcn.bs, hcn.bg⟩ : w1.heap.size ≤ s ∧ w1.heap.size ≤ g)
    have HS3 : Hid (w.heap.size ≤ (w2.alloc (.cells #[.int .i64 1] 3)).heap.size) := Lib.hid HB3.out.size
    clear hb2 hcn hlt1 hlt2 hcn3 hrow HCL HB1 HV1 HB2 HR
    go_wp2_with fail
    refine (HG.out).mono ?_
    rintro e w4 ⟨rfl, hcn, hbut⟩
    obtain ⟨hs0, hs1, hs2, _⟩ := hcn.c0
    have HB4 := Lib.hid (HB3.out.trans (hbut.below (Nat.le_trans HSZ.out HLO.out.1) (Nat.le_trans HSZ.out HLO.out.2) HS3.out))
    have HRES : Hid (∀ n, RetI2 (insAll l) w (.returned (.tuple #[.slice (some ⟨g, 0, none⟩) (insF l).1.length cap, .int .i64 ((insF l).2.1 : Nat), .int .i64 ((insF l).2.2 : Nat), .bool true])) (w4.drewN n)) := Lib.hid (fun n => by
      rw [HF.out]
      exact ⟨g, cap, rfl, hcn.cap, Nat.le_trans HSZ.out HLO.out.2, hcn.row.same rfl (Nat.le_refl _), HB4.out.trans ⟨rfl, rfl, rfl, Nat.le_refl _, fun _ _ => rfl⟩⟩)
    clear hcn hbut HB4 HB3 HG HLO HSZ HS3
    generalize insF l = R at *
    go_wp2_with fail
    go_quiet (fail)
    go_wp2_with fail
    refine bodyPost_ret (v := .tuple #[.slice (some ⟨g, 0, none⟩) R.1.length cap, .int .i64 (R.2.1 : Nat), .int .i64 (R.2.2 : Nat), .bool true]) (by simp [results, Try.results141, go_sem]) rfl ?_
    exact HRES.out _
  · have hd : decide (OkL l) = false := decide_eq_false hok
    have HI := Lib.hid (fun W (h : FlatAt W (.slice (some ⟨b, o, none⟩) l.length c) l.length (ints l)) => by have := implValidList_any _ l W h hn; rw [hd] at this; exact this)
    have HF := Lib.hid (insAll_no hok)
    clear hok hd
    go_enter Try.func141, Try.ntmps141
    go_wp2_with fail
    refine (HI.out _ HV.out).mono ?_
    rintro e w1 ⟨rfl, hb1⟩
    have HRES : Hid (RetI2 (insAll l) w (.returned (.tuple #[.slice (some ⟨w1.heap.size, 0, none⟩) 0 0, .int .i64 0, .int .i64 0, .bool false])) (w1.alloc (.cells #[] 3))) := Lib.hid (by rw [HF.out]; exact RetI2.none w w1 hb1)
    clear hb1 HI
    go_wp2_with fail
    refine bodyPost_ret (v := .tuple #[.slice (some ⟨w1.heap.size, 0, none⟩) 0 0, .int .i64 0, .int .i64 0, .bool false]) (by simp [results, Try.results141, go_sem]) rfl ?_
    exact HRES.out

end Go.Proofs.Ytipdfmedbcafpaa
