/- The program's search by pivots (a goto back to its round), by its contract. -/
import Derived.Test.YtagibgphegoagaaSelP
import Derived.Test.YtagibgphegoagaaIDu2
import Derived.ScopeJumps
import Derived.WalkMore
namespace Go.Proofs.Ytagibgphegoagaa
open Go.RowKit P El Qk Sl
set_option linter.unusedVariables false

def lenOf : Value → Nat | .slice _ n _ => n | _ => 0

theorem scope_jumps2 {P : Program} {a : Act} {w : World} {Q : Exit → Act → World → Prop} {c rest : Code} (l : Nat) (J : Act → World → Prop) (μ : Act → World → Nat) (hf : findLabel c l = some (.seq .skip rest))
    (pass : ∀ a w, J a w → rest.wp P (Exit.jump l (fun a' w' => J a' w' ∧ μ a' w' < μ a w) Q) a w)
    (first : (∀ a w, J a w → rest.wp P (Exit.jump l J Q) a w) → c.wp P (Exit.jump l J Q) a w) : (Code.scope c).wp P Q a w :=
  wp_scope_jumps l J μ hf (first fun a w h => wp_mono (pass a w h) fun e a' w' hq => by
    cases e with
    | goto t => exact ⟨hq.1, hq.2.1⟩
    | normal => exact hq
    | ret => exact hq
    | exit _ => exact hq
    | panic _ => exact hq
    | outgrown => exact hq) (fun a w h => wp_seq (wp_skip (pass a w h)))

/-- The word at each round: the list, the rank, rounds and comparisons so far. -/
structure SbpW (piv : List Int → Int) (R : Int × Nat × Nat) (w W : World) (L : List Int) (b o c k r q n : Nat) : Prop where
  run : qk piv n L k r q = R
  len : L.length ≤ n
  lt : k < L.length
  ok : OkL L
  rr : r + L.length ≤ 64
  qq : q ≤ 64 * r
  row : FlatAt W (.slice (some ⟨b, o, none⟩) L.length c) L.length (ints L)
  b : Below w.heap.size w W

def SbpJ (piv : List Int → Int) (R : Int × Nat × Nat) (pf : Nat) (w : World) (a : Act) (W : World) : Prop :=
  ∃ (L : List Int) (b o c k r q n : Nat) (u11 u12 u13 u14 u15 u16 u17 u18 u19 u20 u21 u22 u23 u24 u25 u26 u27 u28 u29 u30 u31 u32 u33 u34 u35 u36 u37 u38 u39 u40 u41 u42 u43 u44 u45 u46 u47 u48 u49 u50 u51 u52 u53 u54 : Value), a = { tmps := #[.slice (some ⟨b, o, none⟩) L.length c, .int .i64 (k : Int), .func (.func pf) #[] #[], undef, undef, undef, .int .i64 0, .int .i64 0, .int .i64 0, .int .i64 (r : Int), .int .i64 (q : Int), u11, u12, u13, u14, u15, u16, u17, u18, u19, u20, u21, u22, u23, u24, u25, u26, u27, u28, u29, u30, u31, u32, u33, u34, u35, u36, u37, u38, u39, u40, u41, u42, u43, u44, u45, u46, u47, u48, u49, u50, u51, u52, u53, u54], defers := [] } ∧ SbpW piv R w W L b o c k r q n

theorem okL_filter {L : List Int} (h : OkL L) (p : Int → Bool) : OkL (L.filter p) := ⟨Nat.le_trans (List.length_filter_le _ _) h.1, fun x hx => h.2 x (List.mem_filter.1 hx).1⟩
theorem flat_addr {w : World} {a : Option Addr} {n c : Nat} {cs : List Value} (h : FlatAt w (.slice a n c) n cs) (h0 : 0 < cs.length) : ∃ b o, a = some ⟨b, o, none⟩ := by
  obtain ⟨a0, c0, e0, _, h1⟩ := h
  simp at e0
  obtain ⟨rfl, rfl⟩ := e0
  obtain ⟨b, o, e, _⟩ := h1 0 _ (List.getElem?_eq_getElem h0)
  exact ⟨b, o, e⟩
theorem flat_part {w : World} {g : Nat} {A B C : List Int} (h : CellRow w g (ints (A ++ B ++ C))) (m d : Nat) (hm : m = A.length) (hd : B.length ≤ d) : FlatAt w (.slice (some ⟨g, m, none⟩) B.length d) B.length (ints B) := by
  refine ⟨_, _, rfl, hd, fun j u hu => ⟨g, m, rfl, h.1, ?_⟩⟩
  refine (h.2 (m + j) u ?_).1
  have hj : j < B.length := by have := (List.getElem?_eq_some_iff.1 hu).1; rw [ints_length] at this; exact this
  rw [ints_append, ints_append, List.getElem?_append_left (by rw [List.length_append, ints_length, ints_length]; omega), List.getElem?_append_right (by rw [ints_length]; omega), ints_length, hm, Nat.add_sub_cancel_left]
  exact hu

set_option maxRecDepth 100000 in
set_option maxHeartbeats 8000000 in
theorem sbp_any (piv : List Int → Int) (hp : ∀ L, L ≠ [] → piv L ∈ L) (pf : Nat) (eg : ∀ args w, (callFunc pf args).run Try.prog w = .ok (.enter pf args) w)
    (hpf : ∀ (b o c : Nat) (L : List Int) (W : World), OkL L → L ≠ [] → FlatAt W (.slice (some ⟨b, o, none⟩) L.length c) L.length (ints L) → Calls Try.prog pf #[.slice (some ⟨b, o, none⟩) L.length c] W fun e w' => e = .returned (.int .i64 (piv L)) ∧ Below W.heap.size W w')
    (b o c : Nat) (l : List Int) (k : Nat) (w : World) (hv : FlatAt w (.slice (some ⟨b, o, none⟩) l.length c) l.length (ints l)) (hok : OkL l) (hk : k < l.length) :
    Calls Try.prog 106 #[.slice (some ⟨b, o, none⟩) l.length c, .int .i64 (k : Int), .func (.func pf) #[] #[]] w fun e w' => e = .returned (.tuple #[.int .i64 (qk piv l.length l k 0 0).1, .int .i64 ((qk piv l.length l k 0 0).2.1 : Nat), .int .i64 ((qk piv l.length l k 0 0).2.2 : Nat)]) ∧ Below w.heap.size w w' := by
  have HW0 : Hid (SbpW piv (qk piv l.length l k 0 0) w w l b o c k 0 0 l.length) := Lib.hid ⟨rfl, Nat.le_refl _, hk, hok, by have := hok.1; omega, Nat.zero_le _, hv, Below.refl _ _⟩
  have HPF := Lib.hid hpf
  have HPM := Lib.hid hp
  clear hv hok hk hpf hp
  generalize qk piv l.length l k 0 0 = R at *
  go_enter Try.func106, Try.ntmps106
  go_wp2_with fail
  refine scope_jumps2 0 (SbpJ piv R pf w) (fun a' _ => lenOf (a'.tmps.getD 0 undef)) rfl ?pass ?first
  case first =>
    intro hpass
    go_wp2_with fail
    refine wp_label ?_
    rename_i hK
    exact hK _ _ (hpass _ _ ⟨l, b, o, c, k, 0, 0, l.length, _, _, _, _, _, _, _, _, _, _, _, _, _, _, _, _, _, _, _, _, _, _, _, _, _, _, _, _, _, _, _, _, _, _, _, _, _, _, _, _, _, _, _, _, rfl, HW0.out⟩)
  case pass =>
    rintro a' W ⟨L, b, o, c, k, r, q, n, u11, u12, u13, u14, u15, u16, u17, u18, u19, u20, u21, u22, u23, u24, u25, u26, u27, u28, u29, u30, u31, u32, u33, u34, u35, u36, u37, u38, u39, u40, u41, u42, u43, u44, u45, u46, u47, u48, u49, u50, u51, u52, u53, u54, rfl, hw⟩
    have HW := Lib.hid hw
    have hL0 : L ≠ [] := fun e => by have := HW.out.lt; rw [e] at this; simp at this
    have HM := Lib.hid (mid_mem (HPM.out L hL0))
    have HL := Lib.hid (du_lens (Int.le_refl (piv L)) L)
    have HDL := Lib.hid (duF_length (Int.le_refl (piv L)) L)
    have HDU := Lib.hid (fun (W2 : World) (h : FlatAt W2 (.slice (some ⟨b, o, none⟩) L.length c) L.length (ints L)) => implDu_any b o c L (piv L) (piv L) W2 h (by have := HW.out.ok.1; omega))
    rw [duAll_yes ⟨HW.out.ok, Int.le_refl _⟩] at HDU
    have HPV := Lib.hid (HPF.out b o c L W HW.out.ok hL0 HW.out.row)
    have h64 := HW.out.ok.1
    have hrr := HW.out.rr
    have hqq := HW.out.qq
    have hkl := HW.out.lt
    have hlen := HW.out.len
    obtain ⟨m, hm⟩ : ∃ m, m = L.length - 1 := ⟨_, rfl⟩
    obtain ⟨r1, hr1⟩ : ∃ r1, r1 = r + 1 := ⟨_, rfl⟩
    obtain ⟨q1, hq1⟩ : ∃ q1, q1 = q + m := ⟨_, rfl⟩
    have ew1 : IntKind.i64.wrap ((r : Int) + 1) = (r1 : Int) := by rw [IntKind.wrap_i64]; omega
    have ew2 : IntKind.i64.wrap ((L.length : Int) - 1) = (m : Int) := by rw [IntKind.wrap_i64]; omega
    have ew3 : IntKind.i64.wrap ((q : Int) + (m : Int)) = (q1 : Int) := by rw [IntKind.wrap_i64]; omega
    obtain ⟨x, hx⟩ : ∃ x, x = piv L := ⟨_, rfl⟩
    obtain ⟨A, hA⟩ : ∃ A, A = lowF L x := ⟨_, rfl⟩
    obtain ⟨B, hB⟩ : ∃ B, B = midF L x x := ⟨_, rfl⟩
    obtain ⟨C, hC⟩ : ∃ C, C = highF L x := ⟨_, rfl⟩
    have HABC : Hid (duF L x x = A ++ B ++ C) := Lib.hid (by rw [hA, hB, hC]; rfl)
    rw [← hx] at HM HL HDL HDU HPV
    rw [← hA, ← hB] at HDU
    rw [← hA, ← hB, ← hC] at HL
    rw [← hB] at HM
    rw [HABC.out] at HDU HDL
    have HOK := Lib.hid HW.out.ok
    -- the three ways, pure
    have HLOW : Hid (k < A.length → ∃ n', n = n' + 1 ∧ qk piv n' A k r1 q1 = R) := Lib.hid (fun h => by
      obtain ⟨n', rfl⟩ : ∃ n', n = n' + 1 := ⟨n - 1, by omega⟩
      have := HW.out.run
      rw [qk_low r q (by rw [← hx, ← hA]; exact h), ← hx, ← hA, ← hm, ← hr1, ← hq1] at this
      exact ⟨n', rfl, this⟩)
    have HMID : Hid (¬ k < A.length → k < A.length + B.length → R = (x, r1, q1)) := Lib.hid (fun h h2 => by
      obtain ⟨n', rfl⟩ : ∃ n', n = n' + 1 := ⟨n - 1, by omega⟩
      have := HW.out.run
      rw [qk_mid r q (by rw [← hx, ← hA]; exact h) (by rw [← hx, ← hA, ← hB]; exact h2), ← hx, ← hm, ← hr1, ← hq1] at this
      exact this.symm)
    have HHIGH : Hid (¬ k < A.length → ¬ k < A.length + B.length → ∃ n', n = n' + 1 ∧ qk piv n' C (k - (A.length + B.length)) r1 q1 = R) := Lib.hid (fun h h2 => by
      obtain ⟨n', rfl⟩ : ∃ n', n = n' + 1 := ⟨n - 1, by omega⟩
      have := HW.out.run
      rw [qk_high r q (by rw [← hx, ← hA]; exact h) (by rw [← hx, ← hA, ← hB]; exact h2), ← hx, ← hA, ← hB, ← hC, ← hm, ← hr1, ← hq1] at this
      exact ⟨n', rfl, this⟩)
    have HOA : Hid (OkL A ∧ OkL C) := Lib.hid ⟨by rw [hA]; exact okL_filter HOK.out _, by rw [hC]; exact okL_filter HOK.out _⟩
    have HROW := Lib.hid HW.out.row
    have HBW := Lib.hid HW.out.b
    have HM1 := Lib.hid hm
    have HR1 := Lib.hid hr1
    have HQ1 := Lib.hid hq1
    clear hw HW hx hA hB hC hm hr1 hq1 HPF HPM HOK hL0
    have hMB := HM.out
    have hLL := HL.out
    obtain ⟨lo, hlo⟩ : ∃ lo, lo = A.length := ⟨_, rfl⟩
    obtain ⟨mi, hmi⟩ : ∃ mi, mi = A.length + B.length := ⟨_, rfl⟩
    have hmiz : (lo : Int) + (B.length : Int) = (mi : Int) := by omega
    have hDn : (A ++ B ++ C).length = L.length := HDL.out
    have hDne : A ++ B ++ C ≠ [] := fun e => by rw [e] at hDn; simp at hDn; omega
    rw [← hlo, hmiz] at HDU
    rw [← hlo] at HLOW HMID HHIGH
    rw [show lo + B.length = mi by omega] at HMID HHIGH
    obtain ⟨D, hD⟩ : ∃ D, D = A ++ B ++ C := ⟨_, rfl⟩
    rw [← hD] at HDU hDn hDne
    have HDN := Lib.hid hDn
    have HDNE := Lib.hid hDne
    have HD := Lib.hid hD
    have HLO := Lib.hid hlo
    have HMI := Lib.hid hmi
    have hlm : lo < mi := by omega
    have hml : mi ≤ L.length := by omega
    have HCL : Hid (C.length = L.length - mi) := Lib.hid (by omega)
    clear hDn hDne hD HDL HM HL hLL hMB hmiz hlo hmi
    by_cases h1 : k < lo
    · have h1z : (k : Int) < (lo : Int) := by omega
      have d1 : decide ((k : Int) < (lo : Int)) = true := decide_eq_true h1z
      obtain ⟨n', hn', hrun⟩ := HLOW.out h1
      have HRUN := Lib.hid hrun
      have HN' := Lib.hid hn'
      clear HLOW HMID HHIGH hn' hrun
      go_wp2_with fail
      refine HPV.out.mono ?_
      rintro e w1 ⟨rfl, hb1⟩
      have HF1 := Lib.hid (HROW.out.below hb1)
      have HB1 := Lib.hid (HBW.out.trans (hb1.mono HBW.out.size))
      clear hb1 HPV HROW HBW
      go_wp2_with fail
      refine (HDU.out _ HF1.out).mono ?_
      intro e w2 hq
      obtain ⟨g, cc, rfl, hcap, hg, hrow, hb2⟩ := hq.own HDNE.out
      simp only at hcap hrow
      have hloc : lo ≤ cc := by have := HDN.out; omega
      have HNEXT : Hid (SbpW piv R w w2 A g 0 cc k r1 q1 n') := Lib.hid ⟨HRUN.out, by have := HLO.out; have := HN'.out; omega, by have := HLO.out; omega, HOA.out.1, by have := HLO.out; have := HR1.out; omega, by have := HM1.out; have := HR1.out; have := HQ1.out; omega,
        by have hr := hrow; rw [HD.out, show A ++ B ++ C = [] ++ A ++ (B ++ C) by simp] at hr; exact flat_part hr 0 cc rfl (by have := HLO.out; omega), HB1.out.trans (hb2.mono HB1.out.size)⟩
      have HLEN : Hid (lo < L.length) := Lib.hid (by omega)
      have hDl := HDN.out
      clear hrow hb2 hg HDU HF1 HB1 HRUN HDNE HD hq
      rw [hDl]
      rw [hDl] at hcap
      clear hDl
      go_wp2_with fail
      rw [HLO.out]
      refine wp_goto ?_
      exact ⟨rfl, ⟨A, g, 0, cc, k, r1, q1, n', _, _, _, _, _, _, _, _, _, _, _, _, _, _, _, _, _, _, _, _, _, _, _, _, _, _, _, _, _, _, _, _, _, _, _, _, _, _, _, _, _, _, _, _, rfl, HNEXT.out⟩, by show A.length < L.length; rw [← HLO.out]; exact HLEN.out⟩
    · have h1z : ¬ (k : Int) < (lo : Int) := by omega
      have d1 : decide ((k : Int) < (lo : Int)) = false := decide_eq_false h1z
      by_cases h2 : k < mi
      · have h2z : ¬ (mi : Int) ≤ (k : Int) := by omega
        have d2 : decide ((mi : Int) ≤ (k : Int)) = false := decide_eq_false h2z
        have HRES := Lib.hid (HMID.out h1 h2)
        clear HLOW HMID HHIGH h1 h2
        go_wp2_with fail
        refine HPV.out.mono ?_
        rintro e w1 ⟨rfl, hb1⟩
        have HF1 := Lib.hid (HROW.out.below hb1)
        have HB1 := Lib.hid (HBW.out.trans (hb1.mono HBW.out.size))
        clear hb1 HPV HROW HBW
        go_wp2_with fail
        refine (HDU.out _ HF1.out).mono ?_
        intro e w2 hq
        obtain ⟨g, cc, rfl, hcap, hg, hrow, hb2⟩ := hq.own HDNE.out
        simp only at hcap hrow
        have HB2 := Lib.hid (HB1.out.trans (hb2.mono HB1.out.size))
        have hDl := HDN.out
        clear hrow hb2 hg HDU HF1 HB1 HDNE HD hq
        rw [hDl]
        rw [hDl] at hcap
        clear hDl
        go_wp2_with fail
        simp only [Exit.jump]
        go_ret3
        exact ⟨by rw [HRES.out]; rfl, HB2.out⟩
      · have h2z : (mi : Int) ≤ (k : Int) := by omega
        have d2 : decide ((mi : Int) ≤ (k : Int)) = true := decide_eq_true h2z
        obtain ⟨n', hn', hrun⟩ := HHIGH.out h1 h2
        obtain ⟨k1, hk1⟩ : ∃ k1, k1 = k - mi := ⟨_, rfl⟩
        rw [← hk1] at hrun
        have ek : IntKind.i64.wrap ((k : Int) - (mi : Int)) = (k1 : Int) := by rw [IntKind.wrap_i64]; omega
        have HRUN := Lib.hid hrun
        have HN' := Lib.hid hn'
        have HK1 := Lib.hid hk1
        clear HLOW HMID HHIGH hn' hrun hk1
        go_wp2_with fail
        refine HPV.out.mono ?_
        rintro e w1 ⟨rfl, hb1⟩
        have HF1 := Lib.hid (HROW.out.below hb1)
        have HB1 := Lib.hid (HBW.out.trans (hb1.mono HBW.out.size))
        clear hb1 HPV HROW HBW
        go_wp2_with fail
        refine (HDU.out _ HF1.out).mono ?_
        intro e w2 hq
        obtain ⟨g, cc, rfl, hcap, hg, hrow, hb2⟩ := hq.own HDNE.out
        simp only at hcap hrow
        have hDl := HDN.out
        obtain ⟨d, hd⟩ : ∃ d, d = cc - mi := ⟨_, rfl⟩
        obtain ⟨nl, hnl⟩ : ∃ nl, nl = L.length - mi := ⟨_, rfl⟩
        have HNL : Hid (nl = C.length) := Lib.hid (by rw [hnl, HCL.out])
        have HNEXT : Hid (SbpW piv R w w2 C g mi d k1 r1 q1 n') := Lib.hid ⟨HRUN.out, by have := HCL.out; have := HN'.out; omega, by have := HCL.out; have := HK1.out; omega, HOA.out.2, by have := HCL.out; have := HR1.out; omega, by have := HM1.out; have := HR1.out; have := HQ1.out; omega,
          by have hr := hrow; rw [HD.out, show A ++ B ++ C = (A ++ B) ++ C ++ [] by simp] at hr; exact flat_part hr mi d (by rw [List.length_append]; exact HMI.out) (by have := HCL.out; omega), HB1.out.trans (hb2.mono HB1.out.size)⟩
        have HLEN : Hid (nl < L.length) := Lib.hid (by omega)
        have ec1 : (L.length : Int) - (mi : Int) = (nl : Int) := by omega
        have ec2 : L.length - mi = nl := hnl.symm
        have ec3 : cc - mi = d := hd.symm
        have hne1 : ¬ mi = cc := by omega
        have hne2 : ¬ cc = mi := by omega
        have hmc : mi ≤ cc := by omega
        clear hrow hb2 hg HDU HF1 HB1 HRUN HDNE HD hq hd hnl
        rw [hDl]
        rw [hDl] at hcap
        clear hDl
        go_wp2_with fail
        rw [HNL.out]
        refine wp_goto ?_
        exact ⟨rfl, ⟨C, g, mi, d, k1, r1, q1, n', _, _, _, _, _, _, _, _, _, _, _, _, _, _, _, _, _, _, _, _, _, _, _, _, _, _, _, _, _, _, _, _, _, _, _, _, _, _, _, _, _, _, _, _, rfl, HNEXT.out⟩, by show C.length < L.length; rw [← HNL.out]; exact HLEN.out⟩

end Go.Proofs.Ytagibgphegoagaa
