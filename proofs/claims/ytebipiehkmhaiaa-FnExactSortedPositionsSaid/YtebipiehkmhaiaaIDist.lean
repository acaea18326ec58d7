/- The program's distribution of records by buckets, by its contract. -/
import Derived.Test.YtebipiehkmhaiaaIBkt
import Derived.Test.YtebipiehkmhaiaaRecS
import Derived.Test.YtebipiehkmhaiaaIntS
import Derived.Test.YtebipiehkmhaiaaHeldC
import Derived.Test.YtebipiehkmhaiaaRetI
namespace Go.Proofs.Ytebipiehkmhaiaa
open Go.RowKit Rx
set_option linter.unusedVariables false
attribute [local go_sem ↓ high] alloc_tab load_tab store_tab box_tab
attribute [local go_sem] run_tabNew

theorem rec_new (w : World) (x y : Int) : CellRow (w.alloc (.cells #[.int .i64 x, .int .i64 y] 45)) w.heap.size [.int .i64 x, .int .i64 y] := CellRow.of_row (heap_alloc_new w _)

set_option maxRecDepth 100000 in
set_option maxHeartbeats 4000000 in
theorem keysOf_any (v : Value) (l : List (Int × Int)) (w : World) (hv : FlatAt w v l.length (recs l)) (hn : l.length ≤ 1048576) :
    Calls Try.prog 81 #[v] w fun e w' => ∃ g, e = .returned (.slice (some ⟨g, 0, none⟩) l.length l.length) ∧ w.heap.size ≤ g ∧ CellRow w' g (ints (l.map (·.1))) ∧ Below w.heap.size w w' := by
  obtain ⟨a, c, rfl, _, h⟩ := hv
  have H := Lib.hid h
  clear h
  have hmk := makeInts l.length hn
  have hlm : (l.map (·.1)).length = l.length := by simp
  have hrow := heap_alloc_new w (.cells (ints (fill (l.map (·.1)) 0 0)).toArray 3)
  rw [fill_zero, hlm] at hrow
  have HROW : Hid (CellRow (w.alloc (.cells (ints (List.replicate l.length 0)).toArray 3)) w.heap.size (ints (fill (l.map (·.1)) 0 0))) := Lib.hid (by rw [fill_zero, hlm]; exact CellRow.of_row hrow)
  have HB0 : Hid (Below w.heap.size w (w.alloc (.cells (ints (List.replicate l.length 0)).toArray 3))) := Lib.hid ((Below.refl _ _).alloc (Nat.le_refl _) _)
  have HLM := Lib.hid hlm
  clear hrow hlm
  go_enter Try.func81, Try.ntmps81
  go_wp2_with fail
  go_loopw [4, 11] (fun _ i wr => ∃ k : Nat, k ≤ l.length ∧ i = .int .i64 k ∧ CellRow wr w.heap.size (ints (fill (l.map (·.1)) 0 k)) ∧ Below w.heap.size w wr) (fun _ i _ => l.length - (intOf i).toNat)
  case atStart => exact ⟨0, Nat.zero_le _, rfl, HROW.out, HB0.out⟩
  case round =>
    obtain ⟨k, hk, rfl, hr, hb⟩ := hrel
    have HR := Lib.hid hr
    have HB := Lib.hid hb
    clear hr hb hmk HROW HB0
    by_cases hlt : k < l.length
    · have hltz : (k : Int) < (l.length : Int) := by omega
      obtain ⟨p, hp⟩ : ∃ p, l[k]? = some p := ⟨_, List.getElem?_eq_getElem hlt⟩
      obtain ⟨b, o, rfl, hbb, hc1, hc2⟩ := recs_el H.out hp
      have hw1 : wr.cell? ⟨b, o + k * 2, none⟩ = some (.int .i64 p.1) := (HB.out.cell (p := ⟨b, o + k * 2, none⟩) hbb).trans hc1
      have hw2 : wr.cell? ⟨b, o + k * 2 + 1, none⟩ = some (.int .i64 p.2) := (HB.out.cell (p := ⟨b, o + k * 2 + 1, none⟩) hbb).trans hc2
      have HP := Lib.hid (show (l.map (·.1))[k]? = some p.1 by rw [List.getElem?_map, hp]; rfl)
      clear hc1 hc2 hp
      obtain ⟨x, y⟩ := p
      simp only at hw1 hw2 HP
      obtain ⟨hg1, hf1⟩ := HR.out.2 k _ (ints_at (fill_at (d := (0 : Int)) (show k < (l.map (·.1)).length by rw [HLM.out]; exact hlt)))
      have hgl := HR.out.1
      have HNEW : Hid (CellRow ((wr.setCell ⟨w.heap.size, k, none⟩ (.int .i64 x)).alloc (.cells #[.int .i64 x, .int .i64 y] 45)) w.heap.size (ints (fill (l.map (·.1)) 0 (k + 1))) ∧ Below w.heap.size w ((wr.setCell ⟨w.heap.size, k, none⟩ (.int .i64 x)).alloc (.cells #[.int .i64 x, .int .i64 y] 45))) := Lib.hid (by
        have hb := HB.out.setCell (p := ⟨w.heap.size, k, none⟩) (Nat.le_refl _) (.int .i64 x)
        refine ⟨?_, hb.alloc hb.size _⟩
        have := HR.out.set k (.int .i64 x) (by rw [ints_length, fill_length _ _ _ (by rw [HLM.out]; omega), HLM.out]; exact hlt)
        rw [ints_set, fill_set HP.out] at this
        exact this.same (heap_alloc_old _ _ this.1) (by simp))
      clear HP HR HB HLM
      go_wp2_with fail
      go_roundw
      case rel => exact ⟨k + 1, by omega, by go_num, HNEW.out.1, HNEW.out.2⟩
      case measure => simp [intOf]; omega
    · have hltz : ¬ (k : Int) < (l.length : Int) := by omega
      obtain rfl : k = l.length := by omega
      have HRES : Hid (CellRow wr w.heap.size (ints (l.map (·.1)))) := Lib.hid (by
        have := HR.out
        rw [← HLM.out, fill_all] at this; exact this)
      go_wp2_with fail
      go_ret
      exact ⟨_, rfl, Nat.le_refl _, HRES.out, HB.out⟩

/-- What stands ahead of the rounds of the distribution. -/
def DistI (f : Int → Nat) (l : List (Int × Int)) (w : World) (gn gs : Nat) (k : Nat) (wr : World) : Prop :=
  ∃ S, TabAt wr gn (nx (fun p : Int × Int => f p.1) l k) ∧ CellRow wr gs (recs S) ∧ Fill (fun p : Int × Int => f p.1) l 1001 k S ∧ Below w.heap.size w wr

theorem cnt_map (f : Int → Nat) (l : List (Int × Int)) (d : Nat) : cnt f (l.map (·.1)) d = cnt (fun p : Int × Int => f p.1) l d := by
  unfold cnt inB
  rw [List.filter_map, List.length_map]; rfl
theorem st_map (f : Int → Nat) (l : List (Int × Int)) : ∀ d, st f (l.map (·.1)) d = st (fun p : Int × Int => f p.1) l d
  | 0 => rfl
  | d + 1 => by simp only [st, st_map f l d, cnt_map f l d]

set_option maxRecDepth 100000 in
set_option maxHeartbeats 8000000 in
theorem distributed_any (f : Int → Nat) (g : Nat) (lb : Array Value) (eg : ∀ args w, (callFunc g args).run Try.prog w = .ok (.enter g args) w) (v : Value) (l : List (Int × Int)) (w : World) (hv : FlatAt w v l.length (recs l)) (hn : l.length ≤ 1048576)
    (hf : ∀ p ∈ l, f p.1 < 1001) (hp : ∀ (W : World) x, x ∈ l.map (·.1) → Below w.heap.size w W → Calls Try.prog g (#[.int .i64 x] ++ lb) W fun e w' => e = .returned (.int .i64 (f x : Nat)) ∧ Below W.heap.size W w') :
    Calls Try.prog 73 #[v, .func (.func g) #[] lb] w (RowOfC (bk (fun p : Int × Int => f p.1) l 1001) w) := by
  have hfm : ∀ x ∈ l.map (·.1), f x < 1001 := fun x hx => by
    obtain ⟨p, hp, rfl⟩ := List.mem_map.1 hx; exact hf p hp
  obtain ⟨M, hM⟩ : ∃ M, M = bk (fun p : Int × Int => f p.1) l 1001 := ⟨_, rfl⟩
  have HDONE : Hid (∀ S, Fill (fun p : Int × Int => f p.1) l 1001 l.length S → S = M) := Lib.hid (fun S h => (h.done hf).trans hM.symm)
  rw [← hM]
  clear hM
  have HKEYS := Lib.hid (keysOf_any v l w hv hn)
  have HBC := Lib.hid (fun (gk : Nat) W (hk : CellRow W gk (ints (l.map (·.1)))) (hW : Below w.heap.size w W) => bucketCounts_any f g lb eg (.slice (some ⟨gk, 0, none⟩) l.length l.length) (l.map (·.1)) W (by rw [List.length_map]; exact hk.flat (Nat.le_refl _)) (by simpa using hn) hfm (fun W2 x hx h2 => hp W2 x hx (hW.trans (h2.mono hW.size))))
  have HST := Lib.hid (fun W => starts_any f (l.map (·.1)) W hfm (by simpa using hn))
  have HPR := Lib.hid hp
  have HF := Lib.hid hf
  have hmk := makeRec l.length hn
  obtain ⟨a, c, rfl, _, h⟩ := hv
  have H := Lib.hid h
  clear h hp hf hfm
  go_enter Try.func73, Try.ntmps73
  go_wp2_with fail
  refine HKEYS.out.mono ?_
  rintro e w1 ⟨gk, rfl, hgk, hrk, hb1⟩
  have HB1 := Lib.hid hb1
  have HC := Lib.hid (HBC.out gk w1 hrk hb1)
  clear hrk hb1 HKEYS HBC hgk
  go_wp2_with fail
  refine HC.out.mono ?_
  rintro e w2 ⟨rfl, hb2⟩
  have HB2 := Lib.hid (HB1.out.trans (hb2.mono HB1.out.size))
  clear hb2 HC HB1
  go_wp2_with fail
  refine (HST.out _).mono ?_
  rintro e w3 ⟨rfl, hb3⟩
  have HB3 := Lib.hid (HB2.out.trans (hb3.mono HB2.out.size))
  clear hb3 HST HB2
  obtain ⟨hr1, hr2⟩ := (TabAt.new w3 (fun _ => 0)).row (st f (l.map (·.1)))
  have hst := run_tabStore (st f (l.map (·.1))) (TabAt.new w3 (fun _ => 0))
  obtain ⟨W4, hW4⟩ : ∃ W4, W4 = (w3.alloc (.cells (tabA fun _ => 0) 95)).setRow w3.heap.size (tabA (st f (l.map (·.1)))) := ⟨_, rfl⟩
  rw [← hW4] at hr1 hr2 hst
  have hb34 : Below w3.heap.size w3 W4 := ((Below.refl _ _).alloc (Nat.le_refl _) _).trans (hr2.below (Nat.le_refl _) (by simp))
  have hsz4 : W4.heap.size = w3.heap.size + 1 := by rw [hW4]; unfold World.setRow; simp
  have HB4 := Lib.hid (HB3.out.trans (hb34.mono HB3.out.size))
  have hrow := heap_alloc_new W4 (.cells (recs (List.replicate l.length (0, 0))).toArray 45)
  have HI0 : Hid (DistI f l w w3.heap.size W4.heap.size 0 (W4.alloc (.cells (recs (List.replicate l.length (0, 0))).toArray 45))) := Lib.hid ⟨List.replicate l.length (0, 0), by
      have h1 : TabAt W4 w3.heap.size (nx (fun p : Int × Int => f p.1) l 0) := hr1.congr (fun d _ => by rw [st_map]; unfold nx; simp [cnt, inB])
      exact h1.below ((Below.refl W4.heap.size _).alloc (Nat.le_refl _) _) h1.lt, CellRow.of_row hrow, Fill.start _ _ _ (by simp), HB4.out.alloc HB4.out.size _⟩
  have hgn : w.heap.size ≤ w3.heap.size := HB3.out.size
  have HSZ := Lib.hid hsz4
  clear hr1 hr2 hW4 hb34 hrow HB3 HB4 hsz4
  go_wp2_with fail
  obtain ⟨gn, hgne⟩ : ∃ gn, gn = w3.heap.size := ⟨_, rfl⟩
  obtain ⟨gs, hgse⟩ : ∃ gs, gs = W4.heap.size := ⟨_, rfl⟩
  rw [← hgne, ← hgse] at HI0
  rw [← hgne] at hgn HSZ ⊢
  rw [← hgse] at HSZ ⊢
  have hgsn : gn < gs := by have := HSZ.out; omega
  have hng : ¬ gn = gs := by omega
  have hng2 : ¬ gs = gn := by omega
  clear HSZ hst hmk hgne hgse
  go_loopw [8, 9, 20] (fun _ _ i wr => ∃ k : Nat, k ≤ l.length ∧ i = .int .i64 k ∧ DistI f l w gn gs k wr) (fun _ _ i _ => l.length - (intOf i).toNat)
  case atStart => exact ⟨0, Nat.zero_le _, rfl, HI0.out⟩
  case round =>
    obtain ⟨k, hk, rfl, hd⟩ := hrel
    have HD := Lib.hid hd
    clear hd HI0
    by_cases hlt : k < l.length
    · have hltz : (k : Int) < (l.length : Int) := by omega
      obtain ⟨p, hp⟩ : ∃ p, l[k]? = some p := ⟨_, List.getElem?_eq_getElem hlt⟩
      obtain ⟨S, hT, hS, hFl, hB⟩ := HD.out
      obtain ⟨b, o, rfl, hbb, hc1, hc2⟩ := recs_el H.out hp
      have hw1 : wr.cell? ⟨b, o + k * 2, none⟩ = some (.int .i64 p.1) := (hB.cell (p := ⟨b, o + k * 2, none⟩) hbb).trans hc1
      have hw2 : wr.cell? ⟨b, o + k * 2 + 1, none⟩ = some (.int .i64 p.2) := (hB.cell (p := ⟨b, o + k * 2 + 1, none⟩) hbb).trans hc2
      have hpm := List.mem_of_getElem? hp
      have hfp := HF.out p hpm
      have hnl := nx_lt (f := fun p : Int × Int => f p.1) HF.out hp
      have HSTEP := Lib.hid (hFl.step HF.out hp)
      have HNX := Lib.hid (fun d => cnt_take_succ (f := fun p : Int × Int => f p.1) hp d)
      have hsl := hFl.1
      obtain ⟨x, y⟩ := p
      simp only at hw1 hw2 hfp hnl HSTEP HNX
      have hbA : Below wr.heap.size wr (wr.alloc (.cells #[.int .i64 x, .int .i64 y] 45)) := (Below.refl _ _).alloc (Nat.le_refl _) _
      have hbA2 : Below w.heap.size w (wr.alloc (.cells #[.int .i64 x, .int .i64 y] 45)) := hB.trans (hbA.mono hB.size)
      have HCALL := Lib.hid (HPR.out (wr.alloc (.cells #[.int .i64 x, .int .i64 y] 45)) x (List.mem_map_of_mem (f := (·.1)) hpm) hbA2)
      obtain ⟨d, hd⟩ : ∃ d, d = f x := ⟨_, rfl⟩
      obtain ⟨n, hn'⟩ : ∃ n, n = nx (fun p : Int × Int => f p.1) l k d := ⟨_, rfl⟩
      rw [← hd] at HCALL hfp hnl HSTEP HNX
      rw [← hn'] at hnl HSTEP
      have HN := Lib.hid hn'
      have hn64 : n ≤ 1048576 := by omega
      have HT := Lib.hid hT
      have HS := Lib.hid hS
      have HB := Lib.hid hB
      have HBA := Lib.hid hbA
      have hgl := hS.1
      have htl := hT.lt
      have hszA : (wr.alloc (.cells #[.int .i64 x, .int .i64 y] 45)).heap.size = wr.heap.size + 1 := by simp
      have HRC := Lib.hid (rec_new wr x y)
      have hdz : (d : Int) < 1001 := by omega
      have hnz : (n : Int) < (l.length : Int) := by omega
      clear hc1 hc2 hp hpm hd hn' hT hS hFl hB hbA hbA2 HF HPR HD
      go_wp2_with (
        go_at_fn g
        refine (HCALL.out).mono ?_
        rintro e w' ⟨rfl, hb'⟩
        rw [hszA] at hb'
        have HBW := Lib.hid (HBA.out.trans (hb'.mono (by omega)))
        obtain ⟨ct, ft⟩ := (HT.out.below HBW.out htl).at hfp
        rw [← HN.out] at ct
        obtain ⟨cr1, _⟩ := (HRC.out.below hb' (by omega)).2 0 _ rfl
        obtain ⟨cr2, _⟩ := (HRC.out.below hb' (by omega)).2 1 _ rfl
        obtain ⟨q, hq⟩ : ∃ q, S[n]? = some q := ⟨_, List.getElem?_eq_getElem (by omega)⟩
        obtain ⟨cs1, fs1⟩ := (HS.out.below HBW.out hgl).2 _ _ (recs_at hq).1
        obtain ⟨cs2, fs2⟩ := (HS.out.below HBW.out hgl).2 _ _ (recs_at hq).2
        clear hq hb')
      have HRES : Hid (DistI f l w gn gs (k + 1) (((w'.setCell ⟨gs, n * 2, none⟩ (.int .i64 x)).setCell ⟨gs, n * 2 + 1, none⟩ (.int .i64 y)).setCell ⟨gn, d, none⟩ (.int .i64 ((n : Int) + 1))).drew) := Lib.hid (by
        have hb1 : But gs w' ((w'.setCell ⟨gs, n * 2, none⟩ (.int .i64 x)).setCell ⟨gs, n * 2 + 1, none⟩ (.int .i64 y)) := ((But.refl gs w').setCell (n * 2) _).setCell (n * 2 + 1) _
        have hb2 : But gn ((w'.setCell ⟨gs, n * 2, none⟩ (.int .i64 x)).setCell ⟨gs, n * 2 + 1, none⟩ (.int .i64 y)) (((w'.setCell ⟨gs, n * 2, none⟩ (.int .i64 x)).setCell ⟨gs, n * 2 + 1, none⟩ (.int .i64 y)).setCell ⟨gn, d, none⟩ (.int .i64 ((n : Int) + 1))).drew := ((But.refl gn _).setCell d (.int .i64 ((n : Int) + 1))).drewN 1
        have hB := HB.out.trans (HBW.out.mono HB.out.size)
        have hB2 := hB.trans (hb1.below (by omega) hB.size)
        refine ⟨S.set n (x, y), ?_, ?_, HSTEP.out, hB2.trans (hb2.below hgn hB2.size)⟩
        · have h1 := (((HT.out.below HBW.out htl).but hb1 hng).put d (n + 1)).congr (h := nx (fun p : Int × Int => f p.1) l (k + 1)) (fun q _ => by
            have h2 := HNX.out q
            by_cases hq : q = d
            · subst hq
              rw [if_pos rfl] at h2 ⊢
              have := HN.out
              unfold nx at this ⊢
              omega
            · rw [if_neg (fun e => hq e.symm)] at h2
              rw [if_neg hq]
              unfold nx
              omega)
          exact h1
        · have h1 := ((HS.out.below HBW.out hgl).set (n * 2) (.int .i64 x) (by rw [recs_length]; omega)).set (n * 2 + 1) (.int .i64 y) (by rw [List.length_set, recs_length]; omega)
          rw [recs_set S n (x, y) (by omega)] at h1
          exact h1.but hb2 hng2)
      clear HSTEP HNX HN HT HS HB HBA HBW HRC HCALL
      go_wp2_with fail
      go_region
      all_goals (
        go_wp2_with fail
        go_roundw
        case rel => exact ⟨k + 1, by omega, by go_num, HRES.out⟩
        case measure => simp [intOf]; omega)
    · have hltz : ¬ (k : Int) < (l.length : Int) := by omega
      obtain rfl : k = l.length := by omega
      obtain ⟨S, hT, hS, hFl, hB⟩ := HD.out
      have HRES : Hid (RowOfC M w (.returned (.slice (some ⟨gs, 0, none⟩) l.length l.length)) wr) := Lib.hid (by
        have hl := hFl.1
        have e := HDONE.out S hFl
        rw [e] at hl hS
        exact ⟨gs, l.length, by rw [hl], Nat.le_of_eq hl, Nat.le_trans hgn (Nat.le_of_lt hgsn), hS, hB⟩)
      clear hT hS hFl hB HD HF HPR HDONE
      go_wp2_with fail
      go_ret
      exact HRES.out

end Go.Proofs.Ytebipiehkmhaiaa
