/- FnStable returns true at every input. No condition. -/
import Derived.Test.YtcbeoihgaccjcaaRows
import Derived.WalkKit
import Derived.ProofKit
import Derived.OpenShut
import Derived.ShutString
import Derived.ChangeOld
import Derived.Below
import Derived.SliceStrings
import Derived.Test.YtcbeoihgaccjcaaVRec
import Derived.Test.YtcbeoihgaccjcaaISort
import Derived.Test.YtcbeoihgaccjcaaBoolS
import Derived.Test.YtcbeoihgaccjcaaStabMark
namespace Go.Proofs.Ytcbeoihgaccjcaa.fnStable
open Go.ChangeShapes Go.WideShapes Go.ChangeAt Go.RowKit
open Go.ChangeMaps (open_string shut_string)
set_option linter.unusedVariables false

theorem own : ownKnob Try.prog.godebug = none := by kernel_rfl
theorem laidOut : laidOutB Try.prog = true := by kernel_rfl

def IsRow (k : IntKind) (w : World) (a : Option Addr) (len cap : Nat) (zs : List Int) : Prop :=
  (a = none ∧ len = 0 ∧ cap = 0 ∧ zs = []) ∨
  ∃ x, a = some x ∧ len ≤ cap ∧ cap ≤ maxLen ∧ zs.length = cap ∧ (∀ i, i < zs.length → w.cell? (x.add i) = some (.int k (zs.getD i 0))) ∧ ∀ n ∈ zs, (Lit.int k n).wf = true

theorem code_of {w : World} {a : Option Addr} {len cap : Nat} {zs : List Int} (h : IsRow .u8 w a len cap zs) : Code0 w a len := by
  intro k hk
  rcases h with ⟨_, rfl, _⟩ | ⟨x, rfl, hlc, _, hz, hc, hw⟩
  · omega
  · have hkz : k < zs.length := by omega
    have hd : zs.getD k 0 = zs[k] := by simp [List.getD, hkz]
    have hm := hw zs[k] (List.getElem_mem hkz)
    have hcell := hc k hkz
    rw [hd] at hcell
    have hlt := World.block_lt_of_cell? w _ hcell
    have hbk := Go.ChangeShapes.block_add x k
    have hr := bounds_u8 hm
    exact ⟨x, zs[k], rfl, by omega, hcell, hr.1, hr.2⟩

theorem vbig_no (a : Option Addr) (len cap : Nat) (w : World) (h : len ≤ 65536) : Calls Try.prog 12 #[.slice a len cap] w fun e w' => e = .returned (.bool false) ∧ w' = w := by
  go_enter Try.func12, Try.ntmps12
  have hq : decide ((65536 : Int) < (len : Int)) = false := decide_eq_false (by omega)
  go_wp2
  go_ret
  exact ⟨by rw [← hq]; rfl, rfl⟩

set_option maxRecDepth 100000 in
set_option maxHeartbeats 40000000 in
theorem walk (a : Option Addr) (len cap : Nat) (z : List Int) (w : World) (w0 : IsRow .u8 w a len cap z) :
    Calls Try.prog 3 #[.slice a len cap] w fun e w' => e = .returned (.bool true) ∧ Below w.heap.size w w' := by
  have hlen : len ≤ maxLen := by
    rcases w0 with ⟨_, rfl, _⟩ | ⟨x, _, h1, h2, _⟩ <;> omega
  unfold maxLen at hlen
  have HCODE := Lib.hid (code_of w0)
  clear w0
  by_cases hbig : 65536 < len
  · clear HCODE
    go_enter Try.func3, Try.ntmps3
    go_wp2
    go_ret
    exact ⟨rfl, Below.refl _ _⟩
  · go_enter Try.func3, Try.ntmps3
    go_wp2_with fail
    refine (vbig_no a len cap _ (by omega)).mono ?_
    rintro e w0 ⟨rfl, rfl⟩
    go_wp2_with fail
    refine (drawStable_any a len cap _ HCODE.out).mono ?_
    rintro e w1 ⟨v, l, hl, hall, rfl, hown, hb1, hnn⟩
    obtain ⟨gl, cl, rfl⟩ : ∃ gl cl, v = .slice (some ⟨gl, 0, none⟩) l.length cl := by
      rcases hown.2 with ⟨e, _⟩ | ⟨g, cap, _, e, _⟩
      · exact absurd e hnn
      · exact ⟨g, cap, e⟩
    obtain ⟨_, hcl, hrow⟩ := CellRow.of_own hown
    have RL1 := Lib.hid hrow
    have B1 := Lib.hid hb1
    have hl1 : l.length ≤ 1048576 := by omega
    clear hown hb1 hnn hrow hall HCODE
    go_wp2_with fail
    refine (implSort_any gl 0 cl l w1 (RL1.out.flat hcl) hl1).mono ?_
    rintro e w2 ⟨g, cg, S, rfl, hcg, hg, hrow, hof, hb⟩
    have OS := Lib.hid hof
    have RS2 := Lib.hid hrow
    have RL2 := Lib.hid (RL1.out.below hb RL1.out.1)
    have B2 := Lib.hid (B1.out.trans (hb.mono B1.out.size))
    have hS : S.length ≤ 1048576 := Nat.le_trans hof.len hl1
    clear hrow hof hb RL1 B1 hg
    go_wp2_with fail
    refine (specSort_any gl 0 cl l w2 (RL2.out.flat hcl) hl1).mono ?_
    rintro e w3 ⟨gw, cw, W, rfl, hcw, hgw, hrow, hof, hb⟩
    obtain rfl : W = S := SortedOf.uniq hof OS.out
    have RW3 := Lib.hid hrow
    have RS3 := Lib.hid (RS2.out.below hb RS2.out.1)
    have RL3 := Lib.hid (RL2.out.below hb RL2.out.1)
    have B3 := Lib.hid (B2.out.trans (hb.mono B2.out.size))
    clear hrow hof hb RL2 RS2 B2 hgw
    go_wp2_with fail
    refine (vRecords_yes _ _ W w3 (RS3.out.flat hcg) (RW3.out.flat hcw) hS).mono ?_
    rintro e w4 ⟨rfl, hb⟩
    have RS4 := Lib.hid (RS3.out.below hb RS3.out.1)
    have RL4 := Lib.hid (RL3.out.below hb RL3.out.1)
    have B4 := Lib.hid (B3.out.trans (hb.mono B3.out.size))
    clear hb RL3 RS3 RW3 B3
    go_wp2_with fail
    refine (implValidRecs_any _ l w4 (RL4.out.flat hcl) hl1).mono ?_
    rintro e w5 ⟨rfl, hb⟩
    have RS5 := Lib.hid (RS4.out.below hb RS4.out.1)
    have RL5 := Lib.hid (RL4.out.below hb RL4.out.1)
    have B5 := Lib.hid (B4.out.trans (hb.mono B4.out.size))
    clear hb RL4 RS4 B4
    go_wp2_with fail
    refine (specValidRecs_any _ l w5 (RL5.out.flat hcl) hl1).mono ?_
    rintro e w6 ⟨rfl, hb⟩
    have RS6 := Lib.hid (RS5.out.below hb RS5.out.1)
    have RL6 := Lib.hid (RL5.out.below hb RL5.out.1)
    have B6 := Lib.hid (B5.out.trans (hb.mono B5.out.size))
    clear hb RL5 RS5 B5
    by_cases hok : OkR l
    · rw [decide_eq_true hok]
      have HOF : Hid (Stab.Of (·.1) l W) := Lib.hid (by
        rcases OS.out with ⟨_, h⟩ | ⟨h, _⟩
        · exact h
        · exact absurd hok h)
      clear hok OS
      have hmk := makeBools l.length hl1 w6
      obtain ⟨σ, s1, s2, s3⟩ := Stab.Of.positions HOF.out
      have hWl : W.length = l.length := Stab.Of.length HOF.out
      obtain ⟨w7, hw7⟩ : ∃ w7, w7 = w6.alloc (.cells (bools (List.replicate l.length false)).toArray 4) := ⟨_, rfl⟩
      have hrow : RowIs w7 w6.heap.size 4 (bools (List.replicate l.length false)) := by unfold RowIs; rw [hw7]; exact heap_alloc_new w6 _
      have hb7 : Below w6.heap.size w6 w7 := by rw [hw7]; exact (Below.refl _ _).alloc (Nat.le_refl _) _
      have RU := Lib.hid (CellRow.of_row hrow)
      have RS7 := Lib.hid (RS6.out.below hb7 RS6.out.1)
      have RL7 := Lib.hid (RL6.out.below hb7 RL6.out.1)
      have B7 := Lib.hid (B6.out.trans (hb7.mono B6.out.size))
      have HG6 := Lib.hid B6.out.size
      have hgs : g < w6.heap.size := RS6.out.1
      have hgl6 : gl < w6.heap.size := RL6.out.1
      have HSIG := Lib.hid (And.intro s1 (And.intro s2 s3))
      clear hrow hb7 RS6 RL6 B6 s1 s2 s3
      go_wp2_with fail
      rw [← hw7]
      obtain ⟨gu, hgu⟩ : ∃ gu, gu = w6.heap.size := ⟨_, rfl⟩
      rw [← hgu] at RU HG6 hgs hgl6 ⊢
      clear hgu hw7 hmk
      go_loopw [9, 10] (fun last i wr => ∃ (n : Nat) (U : List Bool), n ≤ W.length ∧ i = .int .i64 n ∧ Stab.Used σ l.length n U ∧ ((n = 0 ∧ last = .int .i64 (-1)) ∨ ∃ m : Nat, n = m + 1 ∧ last = .int .i64 (σ m : Int)) ∧ CellRow wr gu (bools U) ∧ But gu w7 wr) (fun _ i _ => W.length - (intOf i).toNat)
      case atStart => exact ⟨0, _, Nat.zero_le _, rfl, Stab.Used.start σ l.length, .inl ⟨rfl, rfl⟩, RU.out, But.refl _ _⟩
      case round =>
        obtain ⟨n, U, hn, rfl, hused, hlast, hru, hbu⟩ := hrel
        have HUSED := Lib.hid hused
        have HLAST := Lib.hid hlast
        have HRU := Lib.hid hru
        have HBU := Lib.hid hbu
        clear hused hlast hru hbu RU
        by_cases hnl : n < W.length
        · obtain ⟨x, hx⟩ : ∃ x, W[n]? = some x := ⟨_, List.getElem?_eq_getElem hnl⟩
          obtain ⟨f1, f2, f3⟩ := Stab.first_unused (key := fun p : Int × Int => p.1) HSIG.out.1 HSIG.out.2.1 HSIG.out.2.2 HUSED.out rfl hx
          have hat := HSIG.out.1 n x hx
          obtain ⟨sn, hsn⟩ : ∃ sn, sn = σ n := ⟨_, rfl⟩
          rw [← hsn] at f1 f2 f3 hat
          have F2 := Lib.hid f2
          have F3 := Lib.hid f3
          have HAT := Lib.hid hat
          have HXN := Lib.hid hx
          have HSN := Lib.hid hsn
          clear f2 f3 hat hx hsn
          go_wp2_with fail
          go_loopw [11, 12] (fun at_ k ws => ∃ k' : Nat, ((k' ≤ sn ∧ at_ = .int .i64 (-1)) ∨ (k' = sn + 1 ∧ at_ = .int .i64 (sn : Int))) ∧ k = .int .i64 k' ∧ CellRow ws gu (bools U) ∧ But gu w7 ws) (fun _ k _ => l.length - (intOf k).toNat)
          case atStart => exact ⟨0, .inl ⟨Nat.zero_le _, rfl⟩, rfl, HRU.out, HBU.out⟩
          case round =>
            obtain ⟨k, hk, rfl, hru, hbu⟩ := hrel
            have HRU2 := Lib.hid hru
            have HBU2 := Lib.hid hbu
            have RS8 := Lib.hid (RS7.out.but hbu (by omega))
            have RL8 := Lib.hid (RL7.out.but hbu (by omega))
            clear hru hbu
            rcases hk with ⟨hk, rfl⟩ | ⟨rfl, rfl⟩
            · have hkl : k < l.length := by omega
              obtain ⟨p, hp⟩ : ∃ p, l[k]? = some p := ⟨_, List.getElem?_eq_getElem hkl⟩
              obtain ⟨hp1, hp2⟩ := recs_at hp
              obtain ⟨hx1, hx2⟩ := recs_at HXN.out
              have hc1 := (RL8.out.2 _ _ hp1).1
              have hc2 := (RL8.out.2 _ _ hp2).1
              have hc3 := (RS8.out.2 _ _ hx1).1
              have hc4 := (RS8.out.2 _ _ hx2).1
              obtain ⟨ub, hub⟩ : ∃ ub, U[k]? = some ub := ⟨_, List.getElem?_eq_getElem (by rw [HUSED.out.1]; exact hkl)⟩
              have hc5 := (HRU2.out.2 _ _ (bools_at hub)).1
              have HP := Lib.hid hp
              have HUB := Lib.hid hub
              clear hp hp1 hp2 hx1 hx2 hub
              cases ub
              · by_cases hks : k = sn
                · subst hks
                  obtain rfl : p = x := Option.some.inj (HP.out.symm.trans HAT.out)
                  go_wp2_with fail
                  go_quiet (fail)
                  go_wp2_with fail
                  go_roundw
                  case rel => exact ⟨k + 1, .inr ⟨rfl, rfl⟩, by go_num, HRU2.out.same rfl (Nat.le_refl _), HBU2.out.drewN _⟩
                  case measure => simp [intOf]; omega
                · have hpx : p ≠ x := fun e => by
                    have h1 := F3.out k (by omega) p HP.out e
                    rw [HUB.out] at h1
                    cases h1
                  by_cases hk1 : p.1 = x.1
                  · have hk2 : p.2 ≠ x.2 := fun e => hpx (Prod.ext hk1 e)
                    go_wp2_with fail
                    go_quiet (fail)
                    go_wp2_with fail
                    go_roundw
                    case rel => exact ⟨k + 1, .inl ⟨by omega, rfl⟩, by go_num, HRU2.out.same rfl (Nat.le_refl _), HBU2.out.drewN _⟩
                    case measure => simp [intOf]; omega
                  · go_wp2_with fail
                    go_quiet (fail)
                    go_wp2_with fail
                    go_roundw
                    case rel => exact ⟨k + 1, .inl ⟨by omega, rfl⟩, by go_num, HRU2.out.same rfl (Nat.le_refl _), HBU2.out.drewN _⟩
                    case measure => simp [intOf]; omega
              · have hne : k ≠ sn := fun e => by
                  have h1 := HUB.out
                  rw [e, F2.out] at h1
                  cases h1
                go_wp2_with fail
                go_quiet (fail)
                go_wp2_with fail
                go_roundw
                case rel => exact ⟨k + 1, .inl ⟨by omega, rfl⟩, by go_num, HRU2.out.same rfl (Nat.le_refl _), HBU2.out.drewN _⟩
                case measure => simp [intOf]; omega
            · have hat1 : sn < l.length := (List.getElem?_eq_some_iff.1 HAT.out).1
              have hd1 : decide ((sn : Int) < 0) = false := decide_eq_false (by omega)
              rcases HLAST.out with ⟨rfl, rfl⟩ | ⟨m, rfl, rfl⟩
              · clear HLAST
                by_cases hq9 : sn + 1 < l.length
                · go_wp2_with fail
                  go_quiet (fail)
                  obtain ⟨wq, hq⟩ : ∃ wq, wq = wr.drewN nq := ⟨_, rfl⟩
                  rw [← hq]
                  have HR3 : Hid (CellRow wq gu (bools U)) := Lib.hid (by rw [hq]; exact HRU2.out.same rfl (Nat.le_refl _))
                  have HB3 : Hid (But gu w7 wq) := Lib.hid (by rw [hq]; exact HBU2.out.drewN _)
                  clear hq HRU2 HBU2 RS8 RL8 HRU HBU
                  obtain ⟨hc5, hf5⟩ := HR3.out.2 _ _ (bools_at F2.out)
                  have hgu := HR3.out.1
                  go_wp2_with fail
                  go_roundw
                  case rel => exact ⟨1, U.set sn true, by omega, by go_num, by rw [HSN.out]; exact HUSED.out.step (by rw [← HSN.out]; omega), .inr ⟨0, rfl, by rw [HSN.out]⟩, by rw [← bools_set]; exact HR3.out.set sn _ (by rw [bools_length, HUSED.out.1]; exact hat1), HB3.out.setCell sn _⟩
                  case measure => simp [intOf]; omega
                · go_wp2_with fail
                  go_quiet (fail)
                  obtain ⟨wq, hq⟩ : ∃ wq, wq = wr.drewN nq := ⟨_, rfl⟩
                  rw [← hq]
                  have HR3 : Hid (CellRow wq gu (bools U)) := Lib.hid (by rw [hq]; exact HRU2.out.same rfl (Nat.le_refl _))
                  have HB3 : Hid (But gu w7 wq) := Lib.hid (by rw [hq]; exact HBU2.out.drewN _)
                  clear hq HRU2 HBU2 RS8 RL8 HRU HBU
                  obtain ⟨hc5, hf5⟩ := HR3.out.2 _ _ (bools_at F2.out)
                  have hgu := HR3.out.1
                  go_wp2_with fail
                  go_roundw
                  case rel => exact ⟨1, U.set sn true, by omega, by go_num, by rw [HSN.out]; exact HUSED.out.step (by rw [← HSN.out]; omega), .inr ⟨0, rfl, by rw [HSN.out]⟩, by rw [← bools_set]; exact HR3.out.set sn _ (by rw [bools_length, HUSED.out.1]; exact hat1), HB3.out.setCell sn _⟩
                  case measure => simp [intOf]; omega
              · clear HLAST
                obtain ⟨y, hy⟩ : ∃ y, W[m]? = some y := ⟨_, List.getElem?_eq_getElem (by omega)⟩
                have hle : y.1 ≤ x.1 := by
                  obtain ⟨hm1, hm2⟩ := List.getElem?_eq_some_iff.1 hy
                  obtain ⟨hn1, hn2⟩ := List.getElem?_eq_some_iff.1 HXN.out
                  have := List.pairwise_iff_getElem.1 HOF.out.sorted m (m + 1) hm1 hn1 (by omega)
                  rw [hm2, hn2] at this
                  exact this
                obtain ⟨sm, hsm⟩ : ∃ sm, sm = σ m := ⟨_, rfl⟩
                have hslt : y.1 = x.1 → sm < sn := fun e => by
                  rw [HSN.out, hsm]
                  exact HSIG.out.2.1 m (m + 1) y x (by omega) hy HXN.out e
                rw [← hsm]
                obtain ⟨hx1, hx2⟩ := recs_at HXN.out
                obtain ⟨hy1, hy2⟩ := recs_at hy
                have hc3 := (RS8.out.2 _ _ hx1).1
                have hc4 := (RS8.out.2 _ _ hy1).1
                clear hx1 hx2 hy1 hy2 hy hsm
                by_cases hlt : y.1 < x.1
                · obtain ⟨y1, y2⟩ := y
                  clear hslt hle
                  dsimp only at hc4 hlt
                  have hml : m + 1 < l.length := by omega
                  have hd2 : decide (x.1 < y1) = false := decide_eq_false (by omega)
                  have hd3 : decide (y1 = x.1) = false := decide_eq_false (by omega)
                  have hd4 : (y1 == x.1) = false := by simpa using (show ¬ y1 = x.1 from by omega)
                  by_cases hq9 : sn + 1 < l.length
                  · go_wp2_with fail
                    have e1 : IntKind.i64.wrap ((m : Int) + 1 - 1) = (m : Int) := by rw [show (m : Int) + 1 - 1 = (m : Int) from by omega]; exact IntWalk.i64_in _ (by omega)
                    have e2 : IntKind.i64.wrap (m : Int) = (m : Int) := IntWalk.i64_in _ (by omega)
                    have e3 : (0 : Int) ≤ (m : Int) := by omega
                    have e4 : (m : Int) < (l.length : Int) := by omega
                    have e5 : (0 : Int) ≤ (m : Int) + 1 := by omega
                    have e6 : (m : Int) + 1 < (l.length : Int) := by omega
                    have e7 : ((m : Int) + 1).toNat = m + 1 := by omega
                    go_quiet (fail)
                    clear e1 e2 e3 e4 e5 e6 e7
                    obtain ⟨wq, hq⟩ : ∃ wq, wq = wr.drewN nq := ⟨_, rfl⟩
                    rw [← hq]
                    have HR3 : Hid (CellRow wq gu (bools U)) := Lib.hid (by rw [hq]; exact HRU2.out.same rfl (Nat.le_refl _))
                    have HB3 : Hid (But gu w7 wq) := Lib.hid (by rw [hq]; exact HBU2.out.drewN _)
                    clear hq HRU2 HBU2 RS8 RL8 HRU HBU
                    obtain ⟨hc5, hf5⟩ := HR3.out.2 _ _ (bools_at F2.out)
                    have hgu := HR3.out.1
                    go_wp2_with fail
                    go_roundw
                    case rel => exact ⟨m + 1 + 1, U.set sn true, by omega, by go_num, by rw [HSN.out]; exact HUSED.out.step (by rw [← HSN.out]; omega), .inr ⟨(m + 1), rfl, by rw [HSN.out]⟩, by rw [← bools_set]; exact HR3.out.set sn _ (by rw [bools_length, HUSED.out.1]; exact hat1), HB3.out.setCell sn _⟩
                    case measure => simp [intOf]; omega
                  · go_wp2_with fail
                    have e1 : IntKind.i64.wrap ((m : Int) + 1 - 1) = (m : Int) := by rw [show (m : Int) + 1 - 1 = (m : Int) from by omega]; exact IntWalk.i64_in _ (by omega)
                    have e2 : IntKind.i64.wrap (m : Int) = (m : Int) := IntWalk.i64_in _ (by omega)
                    have e3 : (0 : Int) ≤ (m : Int) := by omega
                    have e4 : (m : Int) < (l.length : Int) := by omega
                    have e5 : (0 : Int) ≤ (m : Int) + 1 := by omega
                    have e6 : (m : Int) + 1 < (l.length : Int) := by omega
                    have e7 : ((m : Int) + 1).toNat = m + 1 := by omega
                    go_quiet (fail)
                    clear e1 e2 e3 e4 e5 e6 e7
                    obtain ⟨wq, hq⟩ : ∃ wq, wq = wr.drewN nq := ⟨_, rfl⟩
                    rw [← hq]
                    have HR3 : Hid (CellRow wq gu (bools U)) := Lib.hid (by rw [hq]; exact HRU2.out.same rfl (Nat.le_refl _))
                    have HB3 : Hid (But gu w7 wq) := Lib.hid (by rw [hq]; exact HBU2.out.drewN _)
                    clear hq HRU2 HBU2 RS8 RL8 HRU HBU
                    obtain ⟨hc5, hf5⟩ := HR3.out.2 _ _ (bools_at F2.out)
                    have hgu := HR3.out.1
                    go_wp2_with fail
                    go_roundw
                    case rel => exact ⟨m + 1 + 1, U.set sn true, by omega, by go_num, by rw [HSN.out]; exact HUSED.out.step (by rw [← HSN.out]; omega), .inr ⟨(m + 1), rfl, by rw [HSN.out]⟩, by rw [← bools_set]; exact HR3.out.set sn _ (by rw [bools_length, HUSED.out.1]; exact hat1), HB3.out.setCell sn _⟩
                    case measure => simp [intOf]; omega
                · have heq : y.1 = x.1 := by omega
                  have hsl := hslt heq
                  obtain ⟨y1, y2⟩ := y
                  have heq2 : y1 = x.1 := heq
                  subst heq2
                  clear heq hslt hle
                  dsimp only at hc4 hlt
                  by_cases hq9 : sn + 1 < l.length
                  · go_wp2_with fail
                    go_quiet (fail)
                    obtain ⟨wq, hq⟩ : ∃ wq, wq = wr.drewN nq := ⟨_, rfl⟩
                    rw [← hq]
                    have HR3 : Hid (CellRow wq gu (bools U)) := Lib.hid (by rw [hq]; exact HRU2.out.same rfl (Nat.le_refl _))
                    have HB3 : Hid (But gu w7 wq) := Lib.hid (by rw [hq]; exact HBU2.out.drewN _)
                    clear hq HRU2 HBU2 RS8 RL8 HRU HBU
                    obtain ⟨hc5, hf5⟩ := HR3.out.2 _ _ (bools_at F2.out)
                    have hgu := HR3.out.1
                    go_wp2_with fail
                    go_roundw
                    case rel => exact ⟨m + 1 + 1, U.set sn true, by omega, by go_num, by rw [HSN.out]; exact HUSED.out.step (by rw [← HSN.out]; omega), .inr ⟨(m + 1), rfl, by rw [HSN.out]⟩, by rw [← bools_set]; exact HR3.out.set sn _ (by rw [bools_length, HUSED.out.1]; exact hat1), HB3.out.setCell sn _⟩
                    case measure => simp [intOf]; omega
                  · go_wp2_with fail
                    go_quiet (fail)
                    obtain ⟨wq, hq⟩ : ∃ wq, wq = wr.drewN nq := ⟨_, rfl⟩
                    rw [← hq]
                    have HR3 : Hid (CellRow wq gu (bools U)) := Lib.hid (by rw [hq]; exact HRU2.out.same rfl (Nat.le_refl _))
                    have HB3 : Hid (But gu w7 wq) := Lib.hid (by rw [hq]; exact HBU2.out.drewN _)
                    clear hq HRU2 HBU2 RS8 RL8 HRU HBU
                    obtain ⟨hc5, hf5⟩ := HR3.out.2 _ _ (bools_at F2.out)
                    have hgu := HR3.out.1
                    go_wp2_with fail
                    go_roundw
                    case rel => exact ⟨m + 1 + 1, U.set sn true, by omega, by go_num, by rw [HSN.out]; exact HUSED.out.step (by rw [← HSN.out]; omega), .inr ⟨(m + 1), rfl, by rw [HSN.out]⟩, by rw [← bools_set]; exact HR3.out.set sn _ (by rw [bools_length, HUSED.out.1]; exact hat1), HB3.out.setCell sn _⟩
                    case measure => simp [intOf]; omega
        · obtain rfl : n = W.length := by omega
          go_wp2_with fail
          go_ret
          exact ⟨by rw [hWl]; simp, B7.out.trans (HBU.out.below HG6.out B7.out.size)⟩
    · have hW : W = [] := by
        rcases OS.out with ⟨h, _⟩ | ⟨_, h⟩
        · exact absurd h hok
        · exact h
      rw [decide_eq_false hok]
      subst hW
      clear hok OS
      go_wp2_with fail
      go_ret
      exact ⟨rfl, B6.out⟩

set_option maxRecDepth 100000 in
theorem lifted (os : Os) (started : os.Started) (H : Type) (enc : TypeId × Value → H) :
    ReturnsInHanded {} Try.checked os 3 .any (Rows.fnStableSpec.pre6 enc Try.prog Try.f3 Rows.fnStableRow.domain false) (Rows.fnStableSpec.post enc Try.prog Try.f3 false true false false) := by
  refine returnsInHanded_of_change (C := Try.checked) own started (by kernel_rfl) Try.func3
    (ChangeSpec.witness6 (enc := enc) (C := Try.checked) false ⟨#[], #[.slice none 0 0], []⟩ 8 (by kernel_rfl) (by kernel_rfl) (by kernel_rfl) (by kernel_rfl)) ?_
  intro W base args ds gs before hval0 hW hcnd _
  have hval : ∀ (j : Nat) t v, Try.f3.params[j]? = some t → args[j]? = some v → Value.okWide Try.prog W .any base t v := hval0
  have hW' := hW
  obtain ⟨p, q, hA0, hV, rfl, hfz, hnd⟩ := hW
  have hA : DataW.TrodAll enc Try.prog W 0 (fun _ => true) true Try.f3.params.toList args.toList ds p := hA0
  rw [Try.params3] at hA hval
  obtain ⟨v0, vs0, d0, ds0, p0, q0, hargs, rfl, rfl, h0, r0⟩ := trodAll_cons hA
  obtain ⟨rfl, rfl, rfl⟩ := trodAll_nil r0
  obtain rfl : args = #[v0] := by cases args; simp_all
  obtain ⟨rfl, rfl⟩ := trodVars_none hV
  obtain ⟨a0, len0, cap0, rfl⟩ := okWide_slice Try.underlying22 (hval 0 22 v0 rfl rfl)
  have k0 := h0
  have lt0 : ∀ x ∈ p0, x.block < W.heap.size := by obtain ⟨m, hm⟩ := k0; exact DataW.trod_lt m _ _ _ hm
  obtain ⟨z0, w0⟩ : ∃ zs, IsRow .u8 W a0 len0 cap0 zs := by
    obtain ⟨fuel, hf⟩ := h0
    rcases open_ints Try.underlying22 Try.underlying5 (by kernel_rfl) hf with ⟨hcs, _⟩ | ⟨x, l, c, zs, hcs, _, hl, hm, hz, _, hcell, hwz⟩
    · simp [Value.cells] at hcs
      obtain ⟨rfl, rfl, rfl⟩ := hcs
      exact ⟨[], .inl ⟨rfl, rfl, rfl, rfl⟩⟩
    · simp [Value.cells] at hcs
      obtain ⟨rfl, rfl, rfl⟩ := hcs
      exact ⟨zs, .inr ⟨_, rfl, hl, hm, by simpa using hz, hcell, hwz⟩⟩
  clear hA0 hval0
  refine (walk a0 len0 cap0 z0 W w0).mono fun e W' ⟨he, bel⟩ => ?_
  subst he
  exact ⟨_, rfl, _, _, _, [], _, [], hW', trodAll_mk1 (shut_bool Try.underlying4 _), (trodAll_cons_mk (Below.trod laidOut (by kernel_rfl) (of_decide_eq_true (by kernel_rfl)) k0 bel lt0) trodAll_mk0), rfl, bel.frame _, fun h => by cases h⟩

theorem over : Rows.fnStableRow.holds Try.pinned (OpenSpec.ofChange Rows.fnStableSpec) :=
  OpenClaim.holds_of_wide 3 Try.f3 rfl rfl rfl rfl rfl rfl rfl ⟨rfl, rfl, rfl, rfl, rfl⟩ rfl rfl rfl rfl rfl (by kernel_rfl) Try.func3 (by kernel_rfl)
    (of_decide_eq_true (by kernel_rfl)) (by unfold Func.isWrapper; first | (rw [if_pos (by decide +kernel)]; kernel_rfl) | (rw [if_neg (by decide +kernel)]; exact ⟨rfl, rfl⟩))
    (fun os started H enc _ => lifted os started H enc)

theorem proved : Rows.FnStableSaid := over
#print axioms proved
end Go.Proofs.Ytcbeoihgaccjcaa.fnStable
