/- FnOrders returns true at every input. No condition. -/
import Derived.Test.YtipdfmedbcafpaaRows
import Derived.WalkKit
import Derived.ProofKit
import Derived.OpenShut
import Derived.ShutString
import Derived.ChangeOld
import Derived.Below
import Derived.SliceStrings
import Derived.Test.YtipdfmedbcafpaaHead
import Derived.Test.YtipdfmedbcafpaaDrawOD
import Derived.Test.YtipdfmedbcafpaaOrdAll
import Derived.Test.YtipdfmedbcafpaaVInts
import Derived.Test.YtipdfmedbcafpaaCode
namespace Go.Proofs.Ytipdfmedbcafpaa.fnOrders
open Go.ChangeShapes Go.WideShapes Go.ChangeAt Go.RowKit
open Go.ChangeMaps (open_string shut_string)
set_option linter.unusedVariables false

theorem own : ownKnob Try.prog.godebug = none := by kernel_rfl
theorem laidOut : laidOutB Try.prog = true := by kernel_rfl

def IsRow (k : IntKind) (w : World) (a : Option Addr) (len cap : Nat) (zs : List Int) : Prop :=
  (a = none ∧ len = 0 ∧ cap = 0 ∧ zs = []) ∨
  ∃ x, a = some x ∧ len ≤ cap ∧ cap ≤ maxLen ∧ zs.length = cap ∧ (∀ i, i < zs.length → w.cell? (x.add i) = some (.int k (zs.getD i 0))) ∧ ∀ n ∈ zs, (Lit.int k n).wf = true

theorem code_of {w : World} {a : Option Addr} {len cap : Nat} {zs : List Int} (h : IsRow .u8 w a len cap zs) : Code0 w a len := by
  intro k hk
  rcases h with ⟨_, rfl, _⟩ | ⟨x, rfl, hlc, _, hz, hc, hw⟩
  · omega
  · have hkz : k < zs.length := by omega
    have hd : zs.getD k 0 = zs[k] := by simp [List.getD, hkz]
    have hm := hw zs[k] (List.getElem_mem hkz)
    have hcell := hc k hkz
    rw [hd] at hcell
    have hlt := World.block_lt_of_cell? w _ hcell
    have hbk := Go.ChangeShapes.block_add x k
    have hr := bounds_u8 hm
    exact ⟨x, zs[k], rfl, by omega, hcell, hr.1, hr.2⟩

theorem vbig_no (a : Option Addr) (len cap : Nat) (w : World) (h : len ≤ 65536) : Calls Try.prog 16 #[.slice a len cap] w fun e w' => e = .returned (.bool false) ∧ w' = w := by
  go_enter Try.func16, Try.ntmps16
  have hq : decide ((65536 : Int) < (len : Int)) = false := decide_eq_false (by omega)
  go_wp2
  go_ret
  exact ⟨by rw [← hq]; rfl, rfl⟩
open StC Cl


/-- What can come of a table. -/
theorem ord_split {M : List (List Bool)} {L : List Int} (h : OrdOf M L) :
    (L = [] ∧ decide (OkM M) = true ∧ OkM M ∧ DefectOf M [] ∧ clsF M = ((clsM M M.length).map P.nats, true)) ∨
    (clsF M = ([], false) ∧ ((L.length ≤ 1 ∧ (decide (OkM M) = true → L.length = 1)) ∨
      (decide (OkM M) = true ∧ OkM M ∧ ∃ i k : Nat, i < M.length ∧ k < M.length ∧ L = [(i : Int), (k : Int)] ∧ at2 M i k = true ∧ at2 M k i = true) ∨
      (decide (OkM M) = true ∧ OkM M ∧ ∃ i k m : Nat, i < M.length ∧ k < M.length ∧ m < M.length ∧ L = [(i : Int), (k : Int), (m : Int)] ∧ ((at2 M i k = true ∧ at2 M k m = true ∧ at2 M i m = false) ∨ (tie2 M i k = true ∧ tie2 M k m = true ∧ tie2 M i m = false))))) := by
  rcases clsF_ord h with ⟨h1, rfl, h2⟩ | ⟨h1, h2⟩
  · exact .inl ⟨rfl, decide_eq_true h1, h1, h2, clsF_yes h1 h2⟩
  · refine .inr ⟨h2, ?_⟩
    by_cases hok : OkM M
    · have hd : decide (OkM M) = true := decide_eq_true hok
      have hne : L ≠ [] := h1.resolve_left (fun h => h hok)
      rcases ord_cases h with ⟨i, rfl⟩ | rfl | ⟨i, k, a, b, c⟩ | ⟨i, k, m, a, b, c⟩
      · exact .inl ⟨Nat.le_refl _, fun _ => rfl⟩
      · exact absurd rfl hne
      · exact .inr (.inl ⟨hd, hok, i, k, a, b, c⟩)
      · exact .inr (.inr ⟨hd, hok, i, k, m, a, b, c⟩)
    · rcases h with ⟨h3, _⟩ | ⟨_, rfl⟩
      · exact absurd h3 hok
      · exact .inl ⟨Nat.zero_le _, fun h => absurd (of_decide_eq_true h) hok⟩

/-- The cells of a table, at a world. -/
def TabW (M : List (List Bool)) (a : Option Addr) (W : World) : Prop :=
  ∀ i k : Nat, i < M.length → k < M.length → ∃ b o b2 o2 c2, a = some ⟨b, o, none⟩ ∧ W.cell? ⟨b, o + i, none⟩ = some (.slice (some ⟨b2, o2, none⟩) M.length c2) ∧ W.cell? ⟨b2, o2 + k, none⟩ = some (.bool (at2 M i k))
theorem tabW {M : List (List Bool)} {a : Option Addr} {c : Nat} {W : World} (h : RowsAt W (.slice a M.length c) (M.map bools)) (hok : OkM M) : TabW M a W := by
  obtain ⟨a', c', e, _, H⟩ := h
  simp at e
  obtain ⟨rfl, rfl⟩ := e
  exact fun i k hi hk => rel_el H hok.2 hi hk

theorem cls_total (M : List (List Bool)) : offs ((clsM M M.length).map P.nats) ((clsM M M.length).map P.nats).length = M.length := by
  rw [offs_sum, nats_lens, sum_flat, clsM_total]

set_option maxRecDepth 100000 in
set_option maxHeartbeats 40000000 in
theorem walk (a : Option Addr) (len cap : Nat) (z : List Int) (w : World) (w0 : IsRow .u8 w a len cap z) :
    Calls Try.prog 3 #[.slice a len cap] w fun e w' => e = .returned (.bool true) ∧ Below w.heap.size w w' := by
  have hlen : len ≤ maxLen := by
    rcases w0 with ⟨_, rfl, _⟩ | ⟨x, _, h1, h2, _⟩ <;> omega
  unfold maxLen at hlen
  have HCODE := Lib.hid (code_of w0)
  clear w0
  by_cases hbig : 65536 < len
  · clear HCODE
    go_enter Try.func3, Try.ntmps3
    go_wp2
    go_ret
    exact ⟨rfl, Below.refl _ _⟩
  · go_enter Try.func3, Try.ntmps3
    go_wp2_with fail
    refine (vbig_no a len cap _ (by omega)).mono ?_
    rintro e w0 ⟨rfl, rfl⟩
    clear hlen hbig
    have B0 : Hid (Below w0.heap.size w0 w0) := Lib.hid (Below.refl _ _)
    go_wp2_with fail
    refine (drawOrd_any a len cap _ HCODE.out).mono ?_
    rintro e w_1 ⟨aT, cT, M, rfl, hrows, hM5, hM6, hb⟩
    clear HCODE
    have HT := Lib.hid hrows
    have BN := Lib.hid (B0.out.trans (hb.mono B0.out.size))
    clear B0
    have B0 := BN
    clear BN hrows hb
    have HM6 : Hid (∀ (j : Nat) x, M[j]? = some x → x.length ≤ 1048576) := Lib.hid (fun j x hx => by have := hM6 x (List.mem_of_getElem? hx); omega)
    clear hM6
    have hM1 : M.length ≤ 1048576 := by omega
    obtain ⟨ok, hok⟩ : ∃ b, b = decide (OkM M) := ⟨_, rfl⟩
    have HOI := Lib.hid (fun W (h : RowsAt W (.slice aT M.length cT) (M.map bools)) => by have := implOrd_any _ M W h hM1; unfold OrdC at this; rw [← hok] at this; exact this)
    have HOS := Lib.hid (fun W (h : RowsAt W (.slice aT M.length cT) (M.map bools)) => by have := specOrd_any _ M W h hM1 HM6.out; unfold OrdC at this; rw [← hok] at this; exact this)
    have HCI := Lib.hid (fun W (h : RowsAt W (.slice aT M.length cT) (M.map bools)) => implCls_any _ M W h hM1)
    have HCS := Lib.hid (fun W (h : RowsAt W (.slice aT M.length cT) (M.map bools)) => specCls_any _ M W h hM1 HM6.out)
    clear HM6 hM1
    have HOK := Lib.hid hok
    clear hok
    go_wp2_with fail
    refine (HOI.out _ HT.out).mono ?_
    rintro e w_2 ⟨gL, cL, L, rfl, hcL, hgL, hrL, hO, hb⟩
    clear HOI
    have HTz := Lib.hid (HT.out.below hb)
    clear HT
    have HT := HTz
    clear HTz
    have BN := Lib.hid (B0.out.trans (hb.mono B0.out.size))
    clear B0
    have B0 := BN
    have HRL := Lib.hid hrL
    have HO := Lib.hid hO
    clear BN hb hrL hO hgL
    obtain ⟨n, hn⟩ : ∃ n, n = L.length := ⟨_, rfl⟩
    rw [← hn] at hcL ⊢
    have HN := Lib.hid hn
    clear hn
    go_wp2_with fail
    refine (HOS.out _ HT.out).mono ?_
    rintro e w_3 ⟨gK, cK, K, rfl, hcK, hgK, hrK, hO, hb⟩
    obtain rfl : L = K := HO.out.uniq hO
    clear hO HOS hgK
    rw [← HN.out] at hcK ⊢
    have HTz := Lib.hid (HT.out.below hb)
    clear HT
    have HT := HTz
    clear HTz
    have BN := Lib.hid (B0.out.trans (hb.mono B0.out.size))
    clear B0
    have B0 := BN
    have HRLz := Lib.hid (HRL.out.below hb HRL.out.1)
    clear HRL
    have HRL := HRLz
    have HRK := Lib.hid hrK
    clear BN hb hrK HRLz
    have HFL : Hid (FlatAt w_3 (.slice (some ⟨gL, 0, none⟩) n cL) L.length (ints L)) := Lib.hid (by have := HRL.out.flat (n := n) hcL; rw [HN.out] at this ⊢; exact this)
    have HFK : Hid (FlatAt w_3 (.slice (some ⟨gK, 0, none⟩) n cK) L.length (ints L)) := Lib.hid (by have := HRK.out.flat (n := n) hcK; rw [HN.out] at this ⊢; exact this)
    have hL3 : L.length ≤ 1048576 := by have := HO.out.len; omega
    clear HRK hcL hcK
    have hbb : (ok == ok) = true := by cases ok <;> rfl
    have hbn : (ok != ok) = false := by cases ok <;> rfl
    cases ok
    case false =>
      have hs := ord_split HO.out
      rw [← HOK.out] at hs
      rcases hs with ⟨_, hs, _⟩ | ⟨hc, hs⟩
      · cases hs
      · have HC := Lib.hid hc
        have hL0 : L = [] := by
          rcases HO.out with ⟨h, _⟩ | ⟨_, h⟩
          · have := HOK.out; rw [decide_eq_true h] at this; cases this
          · exact h
        subst hL0
        obtain rfl : n = 0 := HN.out
        clear hs hc HO
        go_wp2_with fail
        refine (vInts_yes _ _ _ _ HFL.out HFK.out hL3).mono ?_
        rintro e w_4 ⟨rfl, hb⟩
        clear HFL HFK hL3
        have HTz := Lib.hid (HT.out.below hb)
        clear HT
        have HT := HTz
        clear HTz
        have HRLz := Lib.hid (HRL.out.below hb HRL.out.1)
        clear HRL
        have HRL := HRLz
        have BN := Lib.hid (B0.out.trans (hb.mono B0.out.size))
        clear B0
        have B0 := BN
        clear BN hb HRLz
        go_wp2_with fail
        refine (HCI.out _ HT.out).mono ?_
        rw [HC.out]
        rintro e w_5 ⟨gI, cI, GI, CI, rfl, hcI, hnest, hb⟩
        simp only at hcI hnest
        clear HCI
        have HYI := Lib.hid (hnest.rowsI hcI)
        have HTz := Lib.hid (HT.out.below hb)
        clear HT
        have HT := HTz
        clear HTz
        have HRLz := Lib.hid (HRL.out.below hb HRL.out.1)
        clear HRL
        have HRL := HRLz
        have BN := Lib.hid (B0.out.trans (hb.mono B0.out.size))
        clear B0
        have B0 := BN
        clear BN hb HRLz hnest
        go_wp2_with fail
        refine (HCS.out _ HT.out).mono ?_
        rw [HC.out]
        rintro e w_6 ⟨gS, cS, GS, CS, rfl, hcS, hnest, hb⟩
        simp only at hcS hnest
        clear HCS
        have HYS := Lib.hid (hnest.rowsI hcS)
        have HTz := Lib.hid (HT.out.below hb)
        clear HT
        have HT := HTz
        clear HTz
        have HYz := Lib.hid (HYI.out.below hb)
        clear HYI
        have HYI := HYz
        have HRLz := Lib.hid (HRL.out.below hb HRL.out.1)
        clear HRL
        have HRL := HRLz
        have BN := Lib.hid (B0.out.trans (hb.mono B0.out.size))
        clear B0
        have B0 := BN
        clear BN hb HRLz HYz hnest
        simp only [List.length_nil] at *
        go_wp2_with fail
        go_loopw [15, 16, 17] (fun nv iv _ wr => nv = .int .i64 0 ∧ iv = .int .i64 0 ∧ wr = w_6) (fun _ _ _ _ => 0)
        case atStart => exact ⟨rfl, rfl, rfl⟩
        case round =>
          obtain ⟨rfl, rfl, rfl⟩ := hrel
          go_wp2_with fail
          go_ret
          exact ⟨rfl, B0.out⟩
    case true =>
      have hs := ord_split HO.out
      rw [← HOK.out] at hs
      rcases hs with ⟨rfl, _, hok, hdef, hc⟩ | ⟨hc, ⟨hs, hs1⟩ | ⟨_, hok, i, k, hi, hk, rfl, h1, h2⟩ | ⟨_, hok, i, k, m, hi, hk, hm, rfl, h1⟩⟩
      · obtain rfl : n = 0 := HN.out
        obtain ⟨C, hC⟩ : ∃ C, C = clsM M M.length := ⟨_, rfl⟩
        rw [← hC] at hc
        have HOFF : Hid (offs (C.map P.nats) (C.map P.nats).length = M.length) := Lib.hid (by rw [hC]; exact cls_total M)
        have HBEF : Hid (∀ (i k : Nat) (c d : List Nat), C[i]? = some c → C[k]? = some d → i < k → ∀ y ∈ d, at2 M (hd c) y = true) := Lib.hid (by rw [hC]; exact fun i k c d hi hk hik y hy => cls_before hdef hi hk hik hy)
        have HMEM : Hid (∀ (i : Nat) (c : List Nat), C[i]? = some c → c ≠ [] ∧ hd c < M.length ∧ (∀ y ∈ c, y < M.length) ∧ c.length ≤ M.length) := Lib.hid (by
          rw [hC]
          intro i c hi
          have hm := List.mem_of_getElem? hi
          exact ⟨clsM_ne M _ c hm, clsM_hd hm, fun y hy => clsM_mem M _ y (List.mem_flatten.2 ⟨c, hm, hy⟩), clsM_row hm⟩)
        obtain ⟨R, hR⟩ : ∃ R, R = C.map P.nats := ⟨_, rfl⟩
        rw [← hR] at hc HOFF
        have HRC : Hid (∀ i : Nat, R[i]? = (C[i]?).map P.nats) := Lib.hid (fun i => by rw [hR, List.getElem?_map])
        have HC := Lib.hid hc
        have hRM : R.length ≤ M.length := by rw [hR, List.length_map, hC]; exact clsM_len M _
        have HOKM := Lib.hid hok
        clear hc hC hR hdef hok HOK HO
        go_wp2_with fail
        refine (vInts_yes _ _ _ _ HFL.out HFK.out hL3).mono ?_
        rintro e w_4 ⟨rfl, hb⟩
        clear HFL HFK hL3
        have HTz := Lib.hid (HT.out.below hb)
        clear HT
        have HT := HTz
        clear HTz
        have HRLz := Lib.hid (HRL.out.below hb HRL.out.1)
        clear HRL
        have HRL := HRLz
        have BN := Lib.hid (B0.out.trans (hb.mono B0.out.size))
        clear B0
        have B0 := BN
        clear BN hb HRLz
        go_wp2_with fail
        refine (HCI.out _ HT.out).mono ?_
        rw [HC.out]
        rintro e w_5 ⟨gI, cI, GI, CI, rfl, hcI, hnest, hb⟩
        simp only at hcI hnest
        clear HCI
        have HYI := Lib.hid (hnest.rowsI hcI)
        have HTz := Lib.hid (HT.out.below hb)
        clear HT
        have HT := HTz
        clear HTz
        have HRLz := Lib.hid (HRL.out.below hb HRL.out.1)
        clear HRL
        have HRL := HRLz
        have BN := Lib.hid (B0.out.trans (hb.mono B0.out.size))
        clear B0
        have B0 := BN
        clear BN hb HRLz hnest
        go_wp2_with fail
        refine (HCS.out _ HT.out).mono ?_
        rw [HC.out]
        rintro e w_6 ⟨gS, cS, GS, CS, rfl, hcS, hnest, hb⟩
        simp only at hcS hnest
        clear HCS
        have HYS := Lib.hid (hnest.rowsI hcS)
        have HTz := Lib.hid (HT.out.below hb)
        clear HT
        have HT := HTz
        clear HTz
        have HYz := Lib.hid (HYI.out.below hb)
        clear HYI
        have HYI := HYz
        have HRLz := Lib.hid (HRL.out.below hb HRL.out.1)
        clear HRL
        have HRL := HRLz
        have BN := Lib.hid (B0.out.trans (hb.mono B0.out.size))
        clear B0
        have B0 := BN
        clear BN hb HRLz HYz hnest
        have HTAB := Lib.hid (tabW HT.out HOKM.out)
        obtain ⟨_, _, hIe, _, hI⟩ := HYI.out
        obtain ⟨_, _, hSe, _, hS⟩ := HYS.out
        simp at hIe hSe
        obtain ⟨rfl, rfl⟩ := hIe
        obtain ⟨rfl, rfl⟩ := hSe
        have HI := Lib.hid hI
        have HS := Lib.hid hS
        clear hI hS HYI HYS HC HRL HN HT HOKM
        go_wp2_with fail
        go_loopw [15, 16, 17] (fun nv iv _ wr => ∃ i : Nat, i ≤ R.length ∧ nv = .int .i64 (offs R i : Nat) ∧ iv = .int .i64 i ∧ Below w_6.heap.size w_6 wr) (fun _ iv _ _ => R.length - (intOf iv).toNat)
        case atStart => exact ⟨0, Nat.zero_le _, rfl, rfl, Below.refl _ _⟩
        case round =>
          obtain ⟨i, hi, rfl, rfl, hb⟩ := hrel
          have HB := Lib.hid hb
          have ho1 := offs_le R i
          rw [HOFF.out] at ho1
          clear hb
          by_cases hlt : i < R.length
          · obtain ⟨x, hx⟩ : ∃ x, R[i]? = some x := ⟨_, List.getElem?_eq_getElem hlt⟩
            obtain ⟨c, hc, rfl⟩ : ∃ c, C[i]? = some c ∧ x = P.nats c := by
              have := HRC.out i
              rw [hx] at this
              cases h : C[i]? with
              | none => rw [h] at this; cases this
              | some c => rw [h] at this; exact ⟨c, rfl, by simpa using this⟩
            obtain ⟨hcn, hch, _, _⟩ := HMEM.out i c hc
            have hcs : (R.map ints)[i]? = some (ints (P.nats c)) := by rw [List.getElem?_map, hx]; rfl
            obtain ⟨b, o, u, e1, hbb, hcc, hu⟩ := HI.out i _ hcs
            obtain ⟨b', o', u', e2, hbb', hcc', hu'⟩ := HS.out i _ hcs
            simp at e1 e2
            obtain ⟨rfl, rfl⟩ := e1
            obtain ⟨rfl, rfl⟩ := e2
            have hcl : (P.nats c).length = c.length := P.nats_length c
            rw [ints_length] at hu hu'
            rw [Nat.zero_add] at hcc hcc'
            have HOS := Lib.hid (offs_succ hx)
            obtain ⟨x, hxe⟩ : ∃ x, x = P.nats c := ⟨_, rfl⟩
            have h0x : x[0]? = some ((hd c : Nat) : Int) := by rw [hxe]; unfold P.nats; rw [List.getElem?_map, hd_at hcn]; rfl
            rw [← hxe] at hu hu' HOS hcl
            obtain ⟨au, cu, rfl, hcu, hcell⟩ := id hu
            obtain ⟨au', cu', rfl, _, _⟩ := id hu'
            obtain ⟨bu, ou, rfl, hbu, hch0⟩ := hcell 0 _ (ints_at h0x)
            rw [Nat.add_zero] at hch0
            have hw1 : wr.cell? ⟨gI, i, none⟩ = some (.slice (some ⟨bu, ou, none⟩) x.length cu) := (HB.out.cell (p := ⟨gI, i, none⟩) hbb).trans hcc
            have hw2 : wr.cell? ⟨gS, i, none⟩ = some (.slice au' x.length cu') := (HB.out.cell (p := ⟨gS, i, none⟩) hbb').trans hcc'
            have HD : Hid (∀ n, Below w_6.heap.size w_6 (wr.drewN n)) := Lib.hid fun n => HB.out.trans (show Below w_6.heap.size wr (wr.drewN n) from ⟨rfl, rfl, rfl, Nat.le_refl _, fun _ _ => rfl⟩)
            have HU := Lib.hid (fun W (h : Below w_6.heap.size w_6 W) => hu.below h)
            have HU' := Lib.hid (fun W (h : Below w_6.heap.size w_6 W) => hu'.below h)
            have HH0 := Lib.hid hch0
            have hc0 : 0 < c.length := List.length_pos_iff.2 hcn
            have hxn : x.length ≤ 1048576 := by have := HOS.out; have h2 := offs_le R (i + 1); rw [HOFF.out] at h2; omega
            have HCC := Lib.hid hc
            have HCN := Lib.hid hch
            have HXL := Lib.hid hcl
            have hiz : (i : Int) < R.length := by omega
            clear hcc hcc' hx hcs hu hu' hcell hch0 hxe h0x hc hcn hch hcl
            go_wp2_with fail
            go_region_with (go_at_call 20; refine (vInts_yes _ _ x _ (HU.out _ (HD.out 1)) (HU'.out _ (HD.out 1)) hxn).mono ?_; rintro e w2 ⟨rfl, hb2⟩)
            all_goals
              have HB2 : Hid (Below w_6.heap.size w_6 w2) := Lib.hid ((HD.out 1).trans (hb2.mono (HD.out 1).size))
              have hw3 : w2.cell? ⟨gI, i, none⟩ = some (.slice (some ⟨bu, ou, none⟩) x.length cu) := (HB2.out.cell (p := ⟨gI, i, none⟩) hbb).trans ((HB.out.cell (p := ⟨gI, i, none⟩) hbb).symm.trans hw1)
              have hw4 : w2.cell? ⟨bu, ou, none⟩ = some (.int .i64 (hd c : Nat)) := (HB2.out.cell (p := ⟨bu, ou, none⟩) hbu).trans HH0.out
              have ho2 := HOS.out
              have ho3 := offs_le R (i + 1)
              rw [HOFF.out] at ho3
              obtain ⟨n1, hn1⟩ : ∃ n1, n1 = offs R (i + 1) := ⟨_, rfl⟩
              rw [← hn1] at ho2 ho3
              have HN1 := Lib.hid hn1
              clear hn1
              generalize offs R i = n0 at *
              have hxl0 : 0 < x.length := by rw [HXL.out]; exact hc0
              have hsum : IntKind.i64.wrap ((n0 : Int) + (x.length : Int)) = (n1 : Int) := by rw [IntKind.wrap_i64]; omega
              have hwi : IntKind.i64.wrap ((i : Int) + 1) = ((i + 1 : Nat) : Int) := by rw [IntKind.wrap_i64]; omega
              have hsum2 : (n0 : Int) + (x.length : Int) = (n1 : Int) := by omega
              have HSUM := Lib.hid hsum2
              clear hb2 hw1 hw2 HU HU' HD hsum2 ho2
              obtain ⟨i1, hi1⟩ : ∃ i1, i1 = i + 1 := ⟨_, rfl⟩
              rw [← hi1] at hwi
              have HI1 := Lib.hid hi1
              clear hi1
              go_wp2_with fail
              go_loopw [17] (fun kv ws => ∃ (k m : Nat), i1 ≤ k ∧ k ≤ R.length ∧ kv = .int .i64 k ∧ ws = w2.drewN m) (fun kv _ => R.length - (intOf kv).toNat)
              case atStart => exact ⟨i1, 0, Nat.le_refl _, by rw [HI1.out]; omega, by first | rfl | (rw [HI1.out]; go_num), rfl⟩
              case round =>
                obtain ⟨k, m, hk0, hk, rfl, rfl⟩ := hrel
                by_cases hkl : k < R.length
                · obtain ⟨d, hdk⟩ : ∃ d, C[k]? = some d := by
                    have h1 := HRC.out k
                    rw [List.getElem?_eq_getElem hkl] at h1
                    cases h : C[k]? with
                    | none => rw [h] at h1; cases h1
                    | some d => exact ⟨d, rfl⟩
                  have hyk : R[k]? = some (P.nats d) := by rw [HRC.out, hdk]; rfl
                  obtain ⟨hdn, _, hdm, hdl⟩ := HMEM.out k d hdk
                  have hd0 : 0 < d.length := List.length_pos_iff.2 hdn
                  obtain ⟨y, hye⟩ : ∃ y, y = P.nats d := ⟨_, rfl⟩
                  have hyl : y.length = d.length := by rw [hye]; exact P.nats_length d
                  rw [← hye] at hyk
                  have hcs : (R.map ints)[k]? = some (ints y) := by rw [List.getElem?_map, hyk]; rfl
                  obtain ⟨b, o, u, e1, hbbk, hcc, hu⟩ := HI.out k _ hcs
                  simp at e1
                  obtain ⟨rfl, rfl⟩ := e1
                  rw [ints_length] at hu
                  rw [Nat.zero_add] at hcc
                  obtain ⟨t, ht⟩ : ∃ t, t = d.length - 1 := ⟨_, rfl⟩
                  obtain ⟨v, hv⟩ : ∃ v, d[t]? = some v := ⟨_, List.getElem?_eq_getElem (by omega)⟩
                  have hvm := List.mem_of_getElem? hv
                  have hyt : y[t]? = some (v : Int) := by rw [hye]; unfold P.nats; rw [List.getElem?_map, hv]; rfl
                  obtain ⟨av, cv, rfl, hcv, hcell⟩ := hu
                  obtain ⟨bv, ov, rfl, hbv, hcv0⟩ := hcell t _ (ints_at hyt)
                  have hwk : w2.cell? ⟨gI, k, none⟩ = some (.slice (some ⟨bv, ov, none⟩) y.length cv) := (HB2.out.cell (p := ⟨gI, k, none⟩) hbbk).trans hcc
                  have hwv : w2.cell? ⟨bv, ov + t, none⟩ = some (.int .i64 (v : Int)) := (HB2.out.cell (p := ⟨bv, ov + t, none⟩) hbv).trans hcv0
                  have hvM : v < M.length := hdm v hvm
                  have hat : at2 M (hd c) v = true := HBEF.out i k c d HCC.out hdk (by have := HI1.out; omega) v hvm
                  obtain ⟨bT, oT, b2, o2, c2, eT, hT1, hT2⟩ := HTAB.out (hd c) v HCN.out hvM
                  subst eT
                  rw [hat] at hT2
                  have hT3 : w2.cell? ⟨bT, oT + hd c, none⟩ = some (.slice (some ⟨b2, o2, none⟩) M.length c2) := (HB2.out.cell (p := ⟨bT, oT + hd c, none⟩) (World.block_lt_of_cell? w_6 _ hT1)).trans hT1
                  have hT4 : w2.cell? ⟨b2, o2 + v, none⟩ = some (.bool true) := (HB2.out.cell (p := ⟨b2, o2 + v, none⟩) (World.block_lt_of_cell? w_6 _ hT2)).trans hT2
                  have hlast : IntKind.i64.wrap ((y.length : Int) - 1) = (t : Int) := by rw [IntKind.wrap_i64]; omega
                  have htz : (t : Int) < y.length := by omega
                  have hkz : (k : Int) < R.length := by omega
                  have hvz : (v : Int) < M.length := by omega
                  have hcz : ((hd c : Nat) : Int) < M.length := by have := HCN.out; omega
                  have hrk : IntKind.i64.wrap ((k : Int) + 1) = ((k + 1 : Nat) : Int) := by rw [IntKind.wrap_i64]; omega
                  generalize hd c = hh at *
                  clear hdl hyl ht hd0 hdk hyk hdn hdm hye hcs hcc hv hvm hyt hcell hcv0 hat hT1 hT2
                  go_wp2_with fail
                  go_quiet (fail)
                  go_wp2_with fail
                  go_roundw
                  case rel => exact ⟨k + 1, m + nq, by omega, by omega, by go_num, by first | trivial | rfl | simp⟩
                  case measure => simp [intOf]; omega
                · obtain rfl : k = R.length := by omega
                  have HB3 : Hid (Below w_6.heap.size w_6 (w2.drewN m)) := Lib.hid (HB2.out.trans ⟨rfl, rfl, rfl, Nat.le_refl _, fun _ _ => rfl⟩)
                  go_wp2_with fail
                  go_roundw
                  case rel => exact ⟨i + 1, by omega, by first | (rw [← HN1.out]; done) | (rw [← HN1.out, HSUM.out]), by first | (rw [HI1.out]; done) | (rw [HI1.out]; go_num), HB3.out⟩
                  case measure => have := HI1.out; simp [intOf]; omega
          · obtain rfl : i = R.length := by omega
            have hnn : offs R R.length = M.length := HOFF.out
            rw [hnn]
            clear hnn ho1
            have BN := Lib.hid (B0.out.trans (HB.out.mono B0.out.size))
            clear B0
            go_wp2_with fail
            go_ret
            exact ⟨rfl, BN.out⟩
      · have HC := Lib.hid hc
        obtain rfl : n = 1 := HN.out.trans (hs1 rfl)
        clear hs hs1 hc HO
        go_wp2_with fail
        refine (vInts_yes _ _ _ _ HFL.out HFK.out hL3).mono ?_
        rintro e w_4 ⟨rfl, hb⟩
        clear HFL HFK hL3
        have HTz := Lib.hid (HT.out.below hb)
        clear HT
        have HT := HTz
        clear HTz
        have HRLz := Lib.hid (HRL.out.below hb HRL.out.1)
        clear HRL
        have HRL := HRLz
        have BN := Lib.hid (B0.out.trans (hb.mono B0.out.size))
        clear B0
        have B0 := BN
        clear BN hb HRLz
        go_wp2_with fail
        refine (HCI.out _ HT.out).mono ?_
        rw [HC.out]
        rintro e w_5 ⟨gI, cI, GI, CI, rfl, hcI, hnest, hb⟩
        simp only at hcI hnest
        clear HCI
        have HYI := Lib.hid (hnest.rowsI hcI)
        have HTz := Lib.hid (HT.out.below hb)
        clear HT
        have HT := HTz
        clear HTz
        have HRLz := Lib.hid (HRL.out.below hb HRL.out.1)
        clear HRL
        have HRL := HRLz
        have BN := Lib.hid (B0.out.trans (hb.mono B0.out.size))
        clear B0
        have B0 := BN
        clear BN hb HRLz hnest
        go_wp2_with fail
        refine (HCS.out _ HT.out).mono ?_
        rw [HC.out]
        rintro e w_6 ⟨gS, cS, GS, CS, rfl, hcS, hnest, hb⟩
        simp only at hcS hnest
        clear HCS
        have HYS := Lib.hid (hnest.rowsI hcS)
        have HTz := Lib.hid (HT.out.below hb)
        clear HT
        have HT := HTz
        clear HTz
        have HYz := Lib.hid (HYI.out.below hb)
        clear HYI
        have HYI := HYz
        have HRLz := Lib.hid (HRL.out.below hb HRL.out.1)
        clear HRL
        have HRL := HRLz
        have BN := Lib.hid (B0.out.trans (hb.mono B0.out.size))
        clear B0
        have B0 := BN
        clear BN hb HRLz HYz hnest
        simp only [List.length_nil] at *
        go_wp2_with fail
        go_loopw [15, 16, 17] (fun nv iv _ wr => nv = .int .i64 0 ∧ iv = .int .i64 0 ∧ wr = w_6) (fun _ _ _ _ => 0)
        case atStart => exact ⟨rfl, rfl, rfl⟩
        case round =>
          obtain ⟨rfl, rfl, rfl⟩ := hrel
          go_wp2_with fail
          go_ret
          exact ⟨rfl, B0.out⟩
      · have HC := Lib.hid hc
        obtain rfl : n = 2 := HN.out
        have HOKM := Lib.hid hok
        have H1 := Lib.hid h1
        have H2 := Lib.hid h2
        clear hc HO hok h1 h2
        go_wp2_with fail
        refine (vInts_yes _ _ _ _ HFL.out HFK.out hL3).mono ?_
        rintro e w_4 ⟨rfl, hb⟩
        clear HFL HFK hL3
        have HTz := Lib.hid (HT.out.below hb)
        clear HT
        have HT := HTz
        clear HTz
        have HRLz := Lib.hid (HRL.out.below hb HRL.out.1)
        clear HRL
        have HRL := HRLz
        have BN := Lib.hid (B0.out.trans (hb.mono B0.out.size))
        clear B0
        have B0 := BN
        clear BN hb HRLz
        go_wp2_with fail
        refine (HCI.out _ HT.out).mono ?_
        rw [HC.out]
        rintro e w_5 ⟨gI, cI, GI, CI, rfl, hcI, hnest, hb⟩
        simp only at hcI hnest
        clear HCI
        have HYI := Lib.hid (hnest.rowsI hcI)
        have HTz := Lib.hid (HT.out.below hb)
        clear HT
        have HT := HTz
        clear HTz
        have HRLz := Lib.hid (HRL.out.below hb HRL.out.1)
        clear HRL
        have HRL := HRLz
        have BN := Lib.hid (B0.out.trans (hb.mono B0.out.size))
        clear B0
        have B0 := BN
        clear BN hb HRLz hnest
        go_wp2_with fail
        refine (HCS.out _ HT.out).mono ?_
        rw [HC.out]
        rintro e w_6 ⟨gS, cS, GS, CS, rfl, hcS, hnest, hb⟩
        simp only at hcS hnest
        clear HCS
        have HYS := Lib.hid (hnest.rowsI hcS)
        have HTz := Lib.hid (HT.out.below hb)
        clear HT
        have HT := HTz
        clear HTz
        have HYz := Lib.hid (HYI.out.below hb)
        clear HYI
        have HYI := HYz
        have HRLz := Lib.hid (HRL.out.below hb HRL.out.1)
        clear HRL
        have HRL := HRLz
        have BN := Lib.hid (B0.out.trans (hb.mono B0.out.size))
        clear B0
        have B0 := BN
        clear BN hb HRLz HYz hnest
        have HTAB := Lib.hid (tabW HT.out HOKM.out)
        obtain ⟨bT, oT, b2, o2, c2, eT, hT1, hT2⟩ := HTAB.out i k hi hk
        subst eT
        obtain ⟨bT', oT', b3, o3, c3, eT, hT3, hT4⟩ := HTAB.out k i hk hi
        simp at eT
        obtain ⟨rfl, rfl⟩ := eT
        rw [H1.out] at hT2
        rw [H2.out] at hT4
        have hl0 : w_6.cell? ⟨gL, 0, none⟩ = some (.int .i64 (i : Int)) := (HRL.out.2 0 _ rfl).1
        have hl1 : w_6.cell? ⟨gL, 1, none⟩ = some (.int .i64 (k : Int)) := (HRL.out.2 1 _ rfl).1
        have hiz : (i : Int) < M.length := by omega
        have hkz : (k : Int) < M.length := by omega
        clear HYI HYS HC HRL HN HT HTAB HOKM H1 H2 HOK
        simp only [List.length_nil] at *
        go_wp2_with fail
        go_quiet (fail)
        all_goals go_wp2_with fail
        all_goals go_ret
        all_goals exact ⟨rfl, B0.out.trans ⟨rfl, rfl, rfl, Nat.le_refl _, fun _ _ => rfl⟩⟩
      · have HC := Lib.hid hc
        obtain rfl : n = 3 := HN.out
        have HOKM := Lib.hid hok
        have H1 := Lib.hid h1
        clear hc HO hok h1
        go_wp2_with fail
        refine (vInts_yes _ _ _ _ HFL.out HFK.out hL3).mono ?_
        rintro e w_4 ⟨rfl, hb⟩
        clear HFL HFK hL3
        have HTz := Lib.hid (HT.out.below hb)
        clear HT
        have HT := HTz
        clear HTz
        have HRLz := Lib.hid (HRL.out.below hb HRL.out.1)
        clear HRL
        have HRL := HRLz
        have BN := Lib.hid (B0.out.trans (hb.mono B0.out.size))
        clear B0
        have B0 := BN
        clear BN hb HRLz
        go_wp2_with fail
        refine (HCI.out _ HT.out).mono ?_
        rw [HC.out]
        rintro e w_5 ⟨gI, cI, GI, CI, rfl, hcI, hnest, hb⟩
        simp only at hcI hnest
        clear HCI
        have HYI := Lib.hid (hnest.rowsI hcI)
        have HTz := Lib.hid (HT.out.below hb)
        clear HT
        have HT := HTz
        clear HTz
        have HRLz := Lib.hid (HRL.out.below hb HRL.out.1)
        clear HRL
        have HRL := HRLz
        have BN := Lib.hid (B0.out.trans (hb.mono B0.out.size))
        clear B0
        have B0 := BN
        clear BN hb HRLz hnest
        go_wp2_with fail
        refine (HCS.out _ HT.out).mono ?_
        rw [HC.out]
        rintro e w_6 ⟨gS, cS, GS, CS, rfl, hcS, hnest, hb⟩
        simp only at hcS hnest
        clear HCS
        have HYS := Lib.hid (hnest.rowsI hcS)
        have HTz := Lib.hid (HT.out.below hb)
        clear HT
        have HT := HTz
        clear HTz
        have HYz := Lib.hid (HYI.out.below hb)
        clear HYI
        have HYI := HYz
        have HRLz := Lib.hid (HRL.out.below hb HRL.out.1)
        clear HRL
        have HRL := HRLz
        have BN := Lib.hid (B0.out.trans (hb.mono B0.out.size))
        clear B0
        have B0 := BN
        clear BN hb HRLz HYz hnest
        have HTAB := Lib.hid (tabW HT.out HOKM.out)
        obtain ⟨bT, oT, b2, o2, c2, eT, hT1, hT2⟩ := HTAB.out i k hi hk
        subst eT
        have HGET : Hid (∀ p q : Nat, p < M.length → q < M.length → ∃ b2 o2 c2, w_6.cell? ⟨bT, oT + p, none⟩ = some (.slice (some ⟨b2, o2, none⟩) M.length c2) ∧ w_6.cell? ⟨b2, o2 + q, none⟩ = some (.bool (at2 M p q))) := Lib.hid (fun p q hp hq => by
          obtain ⟨bT', oT', b3, o3, c3, eT, h3, h4⟩ := HTAB.out p q hp hq
          simp at eT
          obtain ⟨rfl, rfl⟩ := eT
          exact ⟨_, _, _, h3, h4⟩)
        have HROW : Hid (∀ p : Nat, p < M.length → ∃ b2 o2 c2, w_6.cell? ⟨bT, oT + p, none⟩ = some (.slice (some ⟨b2, o2, none⟩) M.length c2) ∧ ∀ q : Nat, q < M.length → w_6.cell? ⟨b2, o2 + q, none⟩ = some (.bool (at2 M p q))) := Lib.hid (fun p hp => by
          obtain ⟨b2, o2, c2, h3, h4⟩ := HGET.out p p hp hp
          refine ⟨b2, o2, c2, h3, fun q hq => ?_⟩
          obtain ⟨b4, o4, c4, h5, h6⟩ := HGET.out p q hp hq
          rw [h3] at h5
          simp at h5
          obtain ⟨⟨rfl, rfl⟩, rfl⟩ := h5
          exact h6)
        clear hT1 hT2 HTAB HGET
        obtain ⟨b3, o3, c3, hT1, hT2⟩ := HROW.out i hi
        obtain ⟨b4, o4, c4, hT3, hT4⟩ := HROW.out k hk
        obtain ⟨b5, o5, c5, hT5, hT6⟩ := HROW.out m hm
        have hik := hT2 k hk
        have him := hT2 m hm
        have hki := hT4 i hi
        have hkm := hT4 m hm
        have hmk := hT6 k hk
        have hmi := hT6 i hi
        have hl0 : w_6.cell? ⟨gL, 0, none⟩ = some (.int .i64 (i : Int)) := (HRL.out.2 0 _ rfl).1
        have hl1 : w_6.cell? ⟨gL, 1, none⟩ = some (.int .i64 (k : Int)) := (HRL.out.2 1 _ rfl).1
        have hl2 : w_6.cell? ⟨gL, 2, none⟩ = some (.int .i64 (m : Int)) := (HRL.out.2 2 _ rfl).1
        have hiz : (i : Int) < M.length := by omega
        have hkz : (k : Int) < M.length := by omega
        have hmz : (m : Int) < M.length := by omega
        clear HYI HYS HC HRL HN HT HROW HOKM HOK hT2 hT4 hT6
        have mixed : Try.prog.follows .mixedOrders = true := by kernel_rfl
        rcases H1.out with ⟨h1, h2, h3⟩ | ⟨h1, h2, h3⟩
        · rw [h1] at hik
          rw [h2] at hkm
          rw [h3] at him
          clear hki hmk hmi h1 h2 h3 H1
          simp only [List.length_nil] at *
          go_wp2_with fail
          go_big_region
          go_upto_region 14 with fail
          dsimp only [List.append]
          go_wp2_with fail
          go_ret
          exact ⟨rfl, B0.out.trans ⟨rfl, rfl, rfl, Nat.le_refl _, fun _ _ => rfl⟩⟩
        · unfold tie2 at h1 h2 h3
          rw [Bool.and_eq_true, Bool.not_eq_true', Bool.not_eq_true'] at h1 h2
          rw [h1.1] at hik
          rw [h1.2] at hki
          rw [h2.1] at hkm
          rw [h2.2] at hmk
          clear h1 h2 H1
          cases hx1 : at2 M i m
          · rw [hx1] at him h3
            have hx2 : at2 M m i = true := by cases h : at2 M m i with
              | true => rfl
              | false => rw [h] at h3; cases h3
            rw [hx2] at hmi
            clear hx1 hx2 h3
            simp only [List.length_nil] at *
            go_wp2_with fail
            go_big_region
            go_upto_region 14 with fail
            dsimp only [List.append]
            go_wp2_with fail
            go_ret
            exact ⟨rfl, B0.out.trans ⟨rfl, rfl, rfl, Nat.le_refl _, fun _ _ => rfl⟩⟩
          · rw [hx1] at him
            clear hx1 h3 hmi
            simp only [List.length_nil] at *
            go_wp2_with fail
            go_big_region
            go_upto_region 14 with fail
            dsimp only [List.append]
            go_wp2_with fail
            go_ret
            exact ⟨rfl, B0.out.trans ⟨rfl, rfl, rfl, Nat.le_refl _, fun _ _ => rfl⟩⟩

set_option maxRecDepth 100000 in
theorem lifted (os : Os) (started : os.Started) (H : Type) (enc : TypeId × Value → H) :
    ReturnsInHanded {} Try.checked os 3 .any (Rows.fnOrdersSpec.pre6 enc Try.prog Try.f3 Rows.fnOrdersRow.domain false) (Rows.fnOrdersSpec.post enc Try.prog Try.f3 false true false false) := by
  refine returnsInHanded_of_change (C := Try.checked) own started (by kernel_rfl) Try.func3
    (ChangeSpec.witness6 (enc := enc) (C := Try.checked) false ⟨#[], #[.slice none 0 0], []⟩ 8 (by kernel_rfl) (by kernel_rfl) (by kernel_rfl) (by kernel_rfl)) ?_
  intro W base args ds gs before hval0 hW hcnd _
  have hval : ∀ (j : Nat) t v, Try.f3.params[j]? = some t → args[j]? = some v → Value.okWide Try.prog W .any base t v := hval0
  have hW' := hW
  obtain ⟨p, q, hA0, hV, rfl, hfz, hnd⟩ := hW
  have hA : DataW.TrodAll enc Try.prog W 0 (fun _ => true) true Try.f3.params.toList args.toList ds p := hA0
  rw [Try.params3] at hA hval
  obtain ⟨v0, vs0, d0, ds0, p0, q0, hargs, rfl, rfl, h0, r0⟩ := trodAll_cons hA
  obtain ⟨rfl, rfl, rfl⟩ := trodAll_nil r0
  obtain rfl : args = #[v0] := by cases args; simp_all
  obtain ⟨rfl, rfl⟩ := trodVars_none hV
  obtain ⟨a0, len0, cap0, rfl⟩ := okWide_slice Try.underlying22 (hval 0 22 v0 rfl rfl)
  have k0 := h0
  have lt0 : ∀ x ∈ p0, x.block < W.heap.size := by obtain ⟨m, hm⟩ := k0; exact DataW.trod_lt m _ _ _ hm
  obtain ⟨z0, w0⟩ : ∃ zs, IsRow .u8 W a0 len0 cap0 zs := by
    obtain ⟨fuel, hf⟩ := h0
    rcases open_ints Try.underlying22 Try.underlying5 (by kernel_rfl) hf with ⟨hcs, _⟩ | ⟨x, l, c, zs, hcs, _, hl, hm, hz, _, hcell, hwz⟩
    · simp [Value.cells] at hcs
      obtain ⟨rfl, rfl, rfl⟩ := hcs
      exact ⟨[], .inl ⟨rfl, rfl, rfl, rfl⟩⟩
    · simp [Value.cells] at hcs
      obtain ⟨rfl, rfl, rfl⟩ := hcs
      exact ⟨zs, .inr ⟨_, rfl, hl, hm, by simpa using hz, hcell, hwz⟩⟩
  clear hA0 hval0
  refine (walk a0 len0 cap0 z0 W w0).mono fun e W' ⟨he, bel⟩ => ?_
  subst he
  exact ⟨_, rfl, _, _, _, [], _, [], hW', trodAll_mk1 (shut_bool Try.underlying4 _), (trodAll_cons_mk (Below.trod laidOut (by kernel_rfl) (of_decide_eq_true (by kernel_rfl)) k0 bel lt0) trodAll_mk0), rfl, bel.frame _, fun h => by cases h⟩

theorem closed : joinedFacts Try.prog 3 Try.f3 Rows.fnOrdersSpec Rows.fnOrdersRow = true := by
  unfold joinedFacts
  rw [head_enter, head_final, head_make]
  kernel_rfl

theorem over : Rows.fnOrdersRow.holds Try.pinned (OpenSpec.ofChange Rows.fnOrdersSpec) :=
  OpenClaim.holds_of_wide 3 Try.f3 rfl rfl rfl rfl rfl rfl rfl ⟨rfl, rfl, rfl, rfl, rfl⟩ rfl rfl rfl rfl rfl (by kernel_rfl) Try.func3 closed
    (of_decide_eq_true (by kernel_rfl)) (by unfold Func.isWrapper; first | (rw [if_pos (by decide +kernel)]; kernel_rfl) | (rw [if_neg (by decide +kernel)]; exact ⟨rfl, rfl⟩))
    (fun os started H enc _ => lifted os started H enc)

theorem proved : Rows.FnOrdersSaid := over
#print axioms proved
end Go.Proofs.Ytipdfmedbcafpaa.fnOrders
