/- The model's FlagPass, by its contract: the walk. -/
import Derived.Test.YtebipiehkmhaiaaSFlag
namespace Go.Proofs.Ytebipiehkmhaiaa
open Go.RowKit Rx P El
set_option linter.unusedVariables false

set_option maxRecDepth 100000 in
set_option maxHeartbeats 16000000 in
theorem specFpY_any (b' o c : Nat) (l : List Int) (b p : Nat) (w : World) (hv : FlatAt w (.slice (some ⟨b', o, none⟩) l.length c) l.length (ints l)) (hok : OkL l) (hb : 2 ≤ b) (hb2 : b ≤ 256) (hp : p ≤ 17) :
    Calls Try.prog 53 #[.slice (some ⟨b', o, none⟩) l.length c, .int .i64 (b : Int), .int .i64 (p : Int)] w (RetE1 ((flagR (dgI b p) b l).L, (((flagR (dgI b p) b l).sw : Nat) : Int), true) w) := by
  have h64 := hok.1
  have HV := Lib.hid (l2List_any _ l w hv (by omega))
  rw [decide_eq_true hok] at HV
  have HB := Lib.hid (fun W => l8Place_any (b : Int) (p : Int) W)
  rw [decide_eq_true (show OkBP (b : Int) (p : Int) from ⟨⟨by omega, by omega⟩, by omega, by omega⟩)] at HB
  have HOWN := Lib.hid (fun W (hW : Below w.heap.size w W) => l1Own_any b' o c l W (hv.below hW) (by omega))
  have HREAD : Hid (∀ (k : Nat) x, l[k]? = some x → b' < w.heap.size ∧ w.cell? ⟨b', o + k, none⟩ = some (.int .i64 x)) := Lib.hid (fun k x hx => by
    obtain ⟨a0, c0, e0, _, h⟩ := hv
    simp at e0
    obtain ⟨rfl, rfl⟩ := e0
    obtain ⟨b2, o2, e2, h1, h2⟩ := h _ _ (ints_at hx)
    obtain rfl : b' = b2 := congrArg Addr.block (Option.some.inj e2)
    obtain rfl : o = o2 := congrArg Addr.off (Option.some.inj e2)
    exact ⟨h1, h2⟩)
  have HD : Hid (∀ x ∈ l, ∀ W, Calls Try.prog 108 #[.int .i64 x, .int .i64 (b : Int), .int .i64 (p : Int)] W fun e w' => e = .returned (.int .i64 (dgI b p x : Nat)) ∧ w' = W) := Lib.hid (fun x hx W => l8Digit_any x (sk x) b p W (sk_eq (hok.2 x hx).1) hb hb2 hp (sk_le (hok.2 x hx).2))
  obtain ⟨R, hR⟩ : ∃ R, R = flagR (dgI b p) b l := ⟨_, rfl⟩
  have HF : Hid (∀ x ∈ l, dgI b p x < b) := Lib.hid (dgI_lt (by omega) p l)
  have HFL0 : Hid (Fl (dgI b p) (fun d => st (dgI b p) l (d + 1)) b 0 ⟨l, st (dgI b p) l, 0⟩ R) := Lib.hid (by rw [hR]; exact (flagR_is HF.out).1)
  have HLEN : Hid (R.L.length = l.length) := Lib.hid (by rw [hR]; exact flag_len l p (by omega))
  have hmk := makeInts (b + 1) (by omega)
  have hbw : IntKind.i64.wrap ((b : Int) + 1) = ((b + 1 : Nat) : Int) := by rw [IntKind.wrap_i64]; omega
  have hbpos : 0 < b := by omega
  have hbn0 : ¬ b = 0 := by omega
  rw [← hR]
  clear hok hv hb hp hR
  generalize dgI b p = f at *
  obtain ⟨b1, hb1⟩ : ∃ b1, b1 = b + 1 := ⟨_, rfl⟩
  rw [← hb1] at hmk hbw
  have HB1 : Hid (b1 = b + 1) := Lib.hid hb1
  have hb1z : (b1 : Int) ≤ 257 := by omega
  clear hb1
  go_enter Try.func53, Try.ntmps53
  go_wp2_with fail
  refine HV.out.mono ?_
  rintro e w1 ⟨rfl, hb1⟩
  have HBW1 := Lib.hid hb1
  clear hb1 HV
  go_wp2_with fail
  refine (HB.out _).mono ?_
  rintro e w1' ⟨rfl, rfl⟩
  clear HB
  go_wp2_with fail
  refine (HOWN.out _ HBW1.out).mono ?_
  rintro e w2 ⟨go, co, rfl, hco, hgo, hro, hb2'⟩
  have HRO := Lib.hid hro
  have HCO := Lib.hid hco
  have hgw : w.heap.size ≤ go := Nat.le_trans HBW1.out.size hgo
  have HBW2 := Lib.hid (HBW1.out.trans (hb2'.mono HBW1.out.size))
  have HGX0 : Hid (go < w2.heap.size) := Lib.hid hro.1
  clear hco hgo hro hb2' HBW1 HOWN
  have HN0 : Hid (RngAt (w2.alloc (.cells (ints (List.replicate b1 0)).toArray 3)) w2.heap.size (nx1 f (l.take 0)) (b + 1) ∧ CellRow (w2.alloc (.cells (ints (List.replicate b1 0)).toArray 3)) go (ints l) ∧ Below w.heap.size w (w2.alloc (.cells (ints (List.replicate b1 0)).toArray 3))) := Lib.hid (by
    refine ⟨?_, HRO.out.same (heap_alloc_old _ _ HGX0.out) (by simp), HBW2.out.alloc HBW2.out.size _⟩
    have h1 : RngAt (w2.alloc (.cells (ints (List.replicate b1 0)).toArray 3)) w2.heap.size (fun _ => 0) (b + 1) := by
      unfold RngAt; rw [rng_zero, HB1.out]; exact CellRow.of_row (heap_alloc_new w2 _)
    exact h1.congr fun d _ => by cases d <;> simp [nx1, cnt, inB])
  have hgx : w.heap.size ≤ w2.heap.size := HBW2.out.size
  clear HBW2 HRO
  go_wp2_with fail
  obtain ⟨gx, hgxe⟩ : ∃ g, g = w2.heap.size := ⟨_, rfl⟩
  rw [← hgxe] at HN0 hgx HGX0 ⊢
  clear hgxe hmk
  have hgox : ¬ go = gx := by have := HGX0.out; omega
  -- the counts
  go_loopw [11] (fun iv wr => ∃ k : Nat, k ≤ l.length ∧ iv = .int .i64 (k : Int) ∧ RngAt wr gx (nx1 f (l.take k)) (b + 1) ∧ CellRow wr go (ints l) ∧ Below w.heap.size w wr) (fun iv _ => l.length - (intOf iv).toNat)
  case atStart => exact ⟨0, Nat.zero_le _, rfl, HN0.out.1, HN0.out.2.1, HN0.out.2.2⟩
  case round =>
    obtain ⟨k, hk, rfl, hr, hro, hb⟩ := hrel
    have HR := Lib.hid hr
    have HRO := Lib.hid hro
    have HBW := Lib.hid hb
    clear hr hro hb HN0
    by_cases hlt : k < l.length
    · have hltz : (k : Int) < (l.length : Int) := by omega
      obtain ⟨x, hx⟩ : ∃ x, l[k]? = some x := ⟨_, List.getElem?_eq_getElem hlt⟩
      obtain ⟨hbb, hc0⟩ := HREAD.out k x hx
      have hw0 : wr.cell? ⟨b', o + k, none⟩ = some (.int .i64 x) := (HBW.out.cell (p := ⟨b', o + k, none⟩) hbb).trans hc0
      have hxm := List.mem_of_getElem? hx
      have HDG := Lib.hid (HD.out x hxm)
      have hd2 := HF.out x hxm
      obtain ⟨d, hd⟩ : ∃ d, d = f x := ⟨_, rfl⟩
      rw [← hd] at HDG hd2
      obtain ⟨d1, hd1⟩ : ∃ d1, d1 = d + 1 := ⟨_, rfl⟩
      have hdw : IntKind.i64.wrap ((d : Int) + 1) = (d1 : Int) := by rw [IntKind.wrap_i64]; omega
      have hd1b : d1 < b + 1 := by omega
      have hd1z : (d1 : Int) < (b1 : Int) := by have := HB1.out; omega
      obtain ⟨m, hm⟩ : ∃ m, m = cnt f (l.take k) d := ⟨_, rfl⟩
      have hm64 : m ≤ 64 := by
        rw [hm]
        have := cnt_le f (l.take k) d
        have h2 : (l.take k).length ≤ l.length := by rw [List.length_take]; omega
        omega
      obtain ⟨cc, cf⟩ := HR.out.at hd1b
      have e1 : nx1 f (l.take k) d1 = m := by rw [hd1, hm]; rfl
      rw [e1] at cc
      have HNEW : Hid (RngAt (wr.setCell ⟨gx, d1, none⟩ (.int .i64 ((m : Int) + 1))) gx (nx1 f (l.take (k + 1))) (b + 1) ∧ CellRow (wr.setCell ⟨gx, d1, none⟩ (.int .i64 ((m : Int) + 1))) go (ints l) ∧ Below w.heap.size w (wr.setCell ⟨gx, d1, none⟩ (.int .i64 ((m : Int) + 1)))) := Lib.hid (by
        refine ⟨?_, HRO.out.but ((But.refl _ _).setCell _ _) hgox, HBW.out.setCell (p := ⟨gx, d1, none⟩) hgx _⟩
        have := (HR.out.put d1 (m + 1) hd1b).congr (h := nx1 f (l.take (k + 1))) (fun j _ => by
          cases j with
          | zero => rw [if_neg (by omega)]; rfl
          | succ j =>
            show _ = cnt f (l.take (k + 1)) j
            rw [cnt_take_succ hx, ← hd]
            by_cases hj : d = j
            · rw [if_pos (by omega), if_pos hj, ← hj, ← hm]
            · rw [if_neg (by omega), if_neg hj, Nat.add_zero]; rfl)
        exact this)
      clear hc0 hx hxm hd hd1 hm e1 HR HRO HBW HREAD HD
      go_wp2_with fail
      refine (HDG.out _).mono ?_
      rintro e w3 ⟨rfl, rfl⟩
      go_wp2_with fail
      go_roundw
      case rel => exact ⟨k + 1, by omega, by go_num, HNEW.out.1, HNEW.out.2.1, HNEW.out.2.2⟩
      case measure => simp [intOf]; omega
    · have hltz : ¬ (k : Int) < (l.length : Int) := by omega
      obtain rfl : k = l.length := by omega
      rw [List.take_length] at HR
      have HR0 : Hid (RngAt wr gx (nx2 f l 0) (b + 1)) := Lib.hid (HR.out.congr fun j _ => nx2_zero f l j)
      clear HR
      go_wp2_with fail
      -- the sums
      go_loopw [12] (fun iv wr => ∃ k : Nat, k ≤ b ∧ iv = .int .i64 (k : Int) ∧ RngAt wr gx (nx2 f l k) (b + 1) ∧ CellRow wr go (ints l) ∧ Below w.heap.size w wr) (fun iv _ => b - (intOf iv).toNat)
      case atStart => exact ⟨0, Nat.zero_le _, rfl, HR0.out, HRO.out, HBW.out⟩
      case round =>
        obtain ⟨k, hk, rfl, hr, hro, hb⟩ := hrel
        have HR := Lib.hid hr
        have HRO' := Lib.hid hro
        have HBW' := Lib.hid hb
        clear hr hro hb HR0 HRO HBW
        by_cases hlt : k < b
        · have hltz2 : (k : Int) < (b : Int) := by omega
          obtain ⟨s1, s2, s3⟩ := nx2_step f l k
          obtain ⟨m, hm⟩ : ∃ m, m = cnt f l k := ⟨_, rfl⟩
          obtain ⟨q, hq⟩ : ∃ q, q = st f l k := ⟨_, rfl⟩
          have hm64 : m ≤ 64 := by rw [hm]; have := cnt_le f l k; omega
          have hq64 : q ≤ 64 := by rw [hq]; have := st_le HF.out (Nat.le_of_lt hlt); omega
          obtain ⟨k1, hk1⟩ : ∃ k1, k1 = k + 1 := ⟨_, rfl⟩
          have hkw : IntKind.i64.wrap ((k : Int) + 1) = (k1 : Int) := by rw [IntKind.wrap_i64]; omega
          obtain ⟨c1, f1⟩ := HR.out.at (k := k1) (by omega)
          obtain ⟨c2, _⟩ := HR.out.at (k := k) (by omega)
          rw [hk1, s1, ← hm, ← hk1] at c1
          rw [s2, ← hq] at c2
          have hk1z : (k1 : Int) < (b1 : Int) := by have := HB1.out; omega
          have hkz : (k : Int) < (b1 : Int) := by have := HB1.out; omega
          have HNEW : Hid (RngAt (wr.setCell ⟨gx, k1, none⟩ (.int .i64 ((m : Int) + (q : Int)))).drew gx (nx2 f l k1) (b + 1) ∧ CellRow (wr.setCell ⟨gx, k1, none⟩ (.int .i64 ((m : Int) + (q : Int)))).drew go (ints l) ∧ Below w.heap.size w (wr.setCell ⟨gx, k1, none⟩ (.int .i64 ((m : Int) + (q : Int)))).drew) := Lib.hid (by
            have hbt : But gx wr (wr.setCell ⟨gx, k1, none⟩ (.int .i64 ((m : Int) + (q : Int)))).drew := ((But.refl gx wr).setCell k1 _).drewN 1
            refine ⟨?_, HRO'.out.but hbt hgox, HBW'.out.trans (hbt.below hgx HBW'.out.size)⟩
            have := (HR.out.put k1 (m + q) (by omega)).congr (h := nx2 f l (k + 1)) (fun j _ => by
              rw [← s3 j, hk1]
              by_cases hj : j = k + 1
              · rw [if_pos hj, if_pos hj, st_succ, hm, hq]; omega
              · rw [if_neg hj, if_neg hj])
            rw [Int.natCast_add] at this
            have e : nx2 f l k1 = nx2 f l (k + 1) := by rw [hk1]
            rw [e]
            exact this)
          have hk1k : Hid (k1 = k + 1) := Lib.hid hk1
          clear hm hq hk1 s1 s2 s3 HR HRO' HBW'
          go_wp2_with fail
          go_region
          all_goals (
            go_wp2_with fail
            go_roundw
            case rel => exact ⟨k1, by have := hk1k.out; omega, by first | rfl | (have := hk1k.out; go_num), HNEW.out.1, HNEW.out.2.1, HNEW.out.2.2⟩
            case measure => have := hk1k.out; simp [intOf]; omega)
        · have hltz2 : ¬ (k : Int) < (b : Int) := by omega
          obtain rfl : k = b := by omega
          have HR1 : Hid (RngAt wr gx (st f l) (k + 1)) := Lib.hid (HR.out.congr fun j hj => by unfold nx2; rw [if_pos (by omega)])
          have HE := Lib.hid (l1Own_any gx 1 k (rng (fun d => st f l (d + 1)) k) wr ⟨_, k, by rw [rng_length], by rw [rng_length]; exact Nat.le_refl _, fun j u hu => by
            have hj := (List.getElem?_eq_some_iff.1 hu).1
            rw [ints_length, rng_length] at hj
            refine ⟨gx, 1, rfl, HR1.out.lt, ?_⟩
            rw [Nat.add_comm 1 j, (HR1.out.at (k := j + 1) (by omega)).1, ← hu]
            exact (ints_at (rng_at (fun d => st f l (d + 1)) hj)).symm⟩ (by rw [rng_length]; omega))
          rw [rng_length] at HE
          have hb1m : b1 - 1 = k := by have := HB1.out; omega
          have hb11 : 1 ≤ b1 := by have := HB1.out; omega
          have hb11z : (1 : Int) ≤ (b1 : Int) := by omega
          have hb1n : ¬ b1 = 1 := by have := HB1.out; omega
          clear HR
          go_wp2_with fail
          refine HE.out.mono ?_
          rintro e w4 ⟨ge, ce, rfl, hce, hge, hre, hb4⟩
          have hgxl := HR1.out.lt
          have HI0 : Hid (FlS f l k go gx ge R w 0 ⟨l, st f l, 0⟩ w4) := Lib.hid ⟨HR1.out.below hb4 HR1.out.lt, hre, HRO'.out.below hb4 HRO'.out.1, HFL0.out, FGood.start f l k, HBW'.out.trans (hb4.mono HBW'.out.size)⟩
          have hgeg : ¬ ge = gx := by omega
          have hgol := HRO'.out.1
          have hgeo : ¬ ge = go := by omega
          rw [rng_length]
          clear hce hge hre hb4 HE HR1 HRO' HBW' HREAD HFL0 hb1m hb11 hb11z hb1n hbw hgxl hgol
          go_wp2_with fail
          obtain ⟨μ, hμ⟩ := flag_measureR f l k gx
          have HMU := Lib.hid hμ
          clear hμ
          go_loopw [14, 15, 16, 17] (fun xv iv _ _ wr => ∃ (q : Nat) (s : FS), q ≤ k ∧ iv = .int .i64 (q : Int) ∧ xv = .int .i64 (s.sw : Int) ∧ FlS f l k go gx ge R w q s wr) (fun _ iv _ _ _ => k - (intOf iv).toNat)
          case atStart => exact ⟨0, _, Nat.zero_le _, rfl, rfl, HI0.out⟩
          case round =>
            obtain ⟨q, s, hq, rfl, rfl, hi⟩ := hrel
            have HI := Lib.hid hi
            clear hi HI0
            by_cases hlt3 : q < k
            · have hltz3 : (q : Int) < (k : Int) := by omega
              have hqb1 : (q : Int) < (b1 : Int) := by have := HB1.out; omega
              go_wp2_with fail
              go_loopw [14, 16, 17] (fun xv _ _ ws => ∃ s : FS, xv = .int .i64 (s.sw : Int) ∧ FlS f l k go gx ge R w q s ws) (fun _ _ _ ws => μ ws)
              case atStart => exact ⟨s, rfl, HI.out⟩
              case round =>
                clear HI
                obtain ⟨s, rfl, hi⟩ := hrel
                have HI := Lib.hid hi
                obtain ⟨a, ha⟩ : ∃ a, a = s.nx q := ⟨_, rfl⟩
                have ha64 : a ≤ 64 := by rw [ha]; exact Nat.le_trans (hi.good.nx_le HF.out hlt3) h64
                have hsw64 : s.sw ≤ 64 := Nat.le_trans (hi.good.sw_le HF.out) h64
                obtain ⟨e1, he1⟩ : ∃ e1, e1 = st f l (q + 1) := ⟨_, rfl⟩
                have he64 : e1 ≤ 64 := by rw [he1]; exact Nat.le_trans (st_le HF.out hlt3) h64
                obtain ⟨c7, _⟩ := hi.tx.at (k := q) (by omega)
                obtain ⟨c6, _⟩ := hi.te.at hlt3
                rw [← ha] at c7
                rw [← he1] at c6
                have HA := Lib.hid ha
                have HE1 := Lib.hid he1
                have HBQ : Hid (∀ n, Below wr.heap.size wr (wr.drewN n)) := Lib.hid (fun n => ⟨rfl, rfl, rfl, Nat.le_refl _, fun _ _ => rfl⟩)
                clear ha he1 hi
                by_cases hlt4 : a < e1
                · have hlt4z : decide ((a : Int) < (e1 : Int)) = true := decide_eq_true (by omega)
                  have hlt4y : (a : Int) < (e1 : Int) := by omega
                  have HLT : Hid (s.nx q < st f l (q + 1)) := Lib.hid (by rw [← HA.out, ← HE1.out]; exact hlt4)
                  go_wp2_with fail
                  go_quiet (fail)
                  have HIq := Lib.hid (HI.out.same (HBQ.out nq))
                  have HMUq : Hid (μ (wr.drewN nq) = μ wr) := Lib.hid (by rw [HMU.out _ _ HIq.out.tx, HMU.out _ _ HI.out.tx])
                  generalize wr.drewN nq = wq at HIq HMUq ⊢
                  clear c7 c6 HI HBQ
                  have F := HIq.out.good.found HF.out hlt3 HLT.out
                  have hcur := F.cur
                  have hdig := F.dig
                  have hinto := F.into
                  have hroom := F.room
                  rw [← HA.out] at hcur hdig hinto hroom
                  have hperm := HIq.out.good.perm.length_eq
                  obtain ⟨x, hx⟩ : ∃ x, x = s.L.getD a 0 := ⟨_, rfl⟩
                  obtain ⟨cx, fx⟩ := HIq.out.row.2 a _ (ints_at (at_getD (l := s.L) (k := a) (by omega)))
                  rw [← hx] at cx hdig hinto hroom
                  have hxm : x ∈ l := by rw [hx]; exact HIq.out.good.perm.mem_iff.1 (Rx.getD_mem (by omega))
                  obtain ⟨d, hd⟩ : ∃ d, d = f x := ⟨_, rfl⟩
                  have HC := Lib.hid (HD.out x hxm wq)
                  rw [← hd] at HC hdig hinto hroom
                  obtain ⟨nd, hnd⟩ : ∃ nd, nd = s.nx d := ⟨_, rfl⟩
                  rw [← hnd] at hinto
                  have hnd64 : nd ≤ 64 := by omega
                  obtain ⟨y, hy⟩ : ∃ y, y = s.L.getD nd 0 := ⟨_, rfl⟩
                  obtain ⟨cy, fy⟩ := HIq.out.row.2 nd _ (ints_at (at_getD (l := s.L) (k := nd) (by omega)))
                  rw [← hy] at cy
                  obtain ⟨cq, fq⟩ := HIq.out.tx.at (k := q) (by omega)
                  obtain ⟨cd, fd⟩ := HIq.out.tx.at (k := d) (by omega)
                  rw [← HA.out] at cq
                  rw [← hnd] at cd
                  have HFX : Hid (f (s.L.getD (s.nx q) 0) = d) := Lib.hid (by rw [← HA.out, ← hx, hd])
                  have HTOT := Lib.hid (HIq.out.tots HF.out hlt3 HLT.out)
                  have hcurz : (a : Int) < (l.length : Int) := by omega
                  have hdz : (d : Int) < (b1 : Int) := by have := HB1.out; omega
                  have hndz : (nd : Int) < (l.length : Int) := by omega
                  by_cases hdb : d = q
                  · subst hdb
                    have HN : Hid (FlS f l k go gx ge R w d ⟨s.L, upd s.nx d (a + 1), s.sw⟩ (wq.setCell ⟨gx, d, none⟩ (.int .i64 ((a : Int) + 1)))) := Lib.hid (by
                      have := HIq.out.own HF.out hlt3 HLT.out HFX.out hgeg hgox hgx
                      rw [← HA.out] at this; exact this)
                    have HTT : Hid (tot f l (upd s.nx d (a + 1)) k = tot f l s.nx k + 1 ∧ tot f l s.nx k + 1 ≤ l.length) := Lib.hid (by
                      have h1 := HTOT.out
                      have e : fst f d s = ⟨s.L, upd s.nx d (s.nx d + 1), s.sw⟩ := by unfold fst; rw [if_pos HFX.out]
                      rw [e, ← HA.out] at h1; exact h1)
                    clear HTOT HFX HLT F hx hd hxm hperm hnd hy cy fy cd fd hroom
                    go_wp2_with fail
                    refine HC.out.mono ?_
                    rintro e w5 ⟨rfl, rfl⟩
                    go_wp2_with fail
                    go_roundw
                    case rel => exact ⟨⟨s.L, upd s.nx d (a + 1), s.sw⟩, rfl, HN.out⟩
                    case measure =>
                      have h1 : μ _ = l.length - tot f l (upd s.nx d (a + 1)) k := HMU.out _ _ HN.out.tx
                      have h2 := HMU.out _ _ HIq.out.tx
                      have h3 := HTT.out
                      have h4 := HMUq.out
                      omega
                  · have hdbz : ¬ (d : Int) = (q : Int) := by omega
                    have hdbz2 : ¬ (q : Int) = (d : Int) := by omega
                    have hne := HIq.out.good.ne HLT.out (d := d) (by rw [← hnd]; rw [← hnd] at hroom; exact hroom) hdb
                    rw [← HA.out, ← hnd] at hne
                    have hne2 : ¬ nd = a := fun e => hne e.symm
                    have HN : Hid (FlS f l k go gx ge R w q ⟨swapped s.L a nd, upd s.nx d (nd + 1), s.sw + 1⟩ (((wq.setCell ⟨go, nd, none⟩ (.int .i64 x)).setCell ⟨go, a, none⟩ (.int .i64 y)).setCell ⟨gx, d, none⟩ (.int .i64 ((nd : Int) + 1))).drew) := Lib.hid (by
                      have := HIq.out.swap HF.out hlt3 HLT.out HFX.out hdb hdig hgeg hgox hgeo hgx hgw
                      rw [← HA.out, ← hnd, ← hx, ← hy] at this; exact this)
                    have HTT : Hid (tot f l (upd s.nx d (nd + 1)) k = tot f l s.nx k + 1 ∧ tot f l s.nx k + 1 ≤ l.length) := Lib.hid (by
                      have h1 := HTOT.out
                      have e : fst f q s = ⟨swapped s.L (s.nx q) (s.nx d), upd s.nx d (s.nx d + 1), s.sw + 1⟩ := by unfold fst; rw [HFX.out, if_neg hdb]
                      rw [e, ← HA.out, ← hnd] at h1; exact h1)
                    have hgxo : ¬ gx = go := fun e => hgox e.symm
                    clear HTOT HFX HLT F hx hd hxm hperm hnd hy hroom
                    go_wp2_with fail
                    refine HC.out.mono ?_
                    rintro e w5 ⟨rfl, rfl⟩
                    go_wp2_with fail
                    go_region
                    all_goals (
                      go_wp2_with fail
                      go_roundw
                      case rel => exact ⟨⟨swapped s.L a nd, upd s.nx d (nd + 1), s.sw + 1⟩, by go_num, HN.out⟩
                      case measure =>
                        have h1 : μ _ = l.length - tot f l (upd s.nx d (nd + 1)) k := HMU.out _ _ HN.out.tx
                        have h2 := HMU.out _ _ HIq.out.tx
                        have h3 := HTT.out
                        have h4 := HMUq.out
                        omega)
                · have hlt4z : decide ((a : Int) < (e1 : Int)) = false := decide_eq_false (by omega)
                  have hlt4y : ¬ (a : Int) < (e1 : Int) := by omega
                  have HNLT : Hid (¬ s.nx q < st f l (q + 1)) := Lib.hid (by rw [← HA.out, ← HE1.out]; exact hlt4)
                  have HN : Hid (∀ n, FlS f l k go gx ge R w (q + 1) s (wr.drewN n)) := Lib.hid (fun n => by
                    have h := HI.out.same (HBQ.out n)
                    exact ⟨h.tx, h.te, h.row, h.fl.on hlt3 HNLT.out, h.good.next hlt3 HNLT.out, h.bel⟩)
                  clear HI HNLT HBQ HA HE1
                  go_wp2_with fail
                  go_quiet (fail)
                  go_wp2_with fail
                  go_roundw
                  case rel => exact ⟨q + 1, s, by omega, by go_num, rfl, HN.out _⟩
                  case measure => simp [intOf]; omega
            · have hltz3 : ¬ (q : Int) < (k : Int) := by omega
              have HE : Hid (s = R) := Lib.hid (by
                have h := HI.out.fl
                have e : q = k := by omega
                rw [e] at h; exact h.atEnd)
              have HRES : Hid (RetE1 (R.L, (R.sw : Int), true) w (.returned (.tuple #[.slice (some ⟨go, 0, none⟩) l.length co, .int .i64 (s.sw : Int), .bool true])) wr) := Lib.hid (by
                have hr := HI.out.row
                rw [HE.out] at hr ⊢
                exact .inl ⟨go, co, by rw [HLEN.out], by rw [HLEN.out]; exact HCO.out, hgw, hr, HI.out.bel⟩)
              clear HI HE
              go_wp2_with fail
              go_ret3
              exact HRES.out

theorem specFp_any (b' o c : Nat) (l : List Int) (b p : Int) (w : World) (hv : FlatAt w (.slice (some ⟨b', o, none⟩) l.length c) l.length (ints l)) (hn : l.length ≤ 1048576) :
    Calls Try.prog 53 #[.slice (some ⟨b', o, none⟩) l.length c, .int .i64 b, .int .i64 p] w (RetE1 (fpAll l b p) w) := by
  have HV := Lib.hid (l2List_any _ l w hv hn)
  have HB := Lib.hid (fun W => l8Place_any b p W)
  have HNONE := Lib.hid (fun (h : ¬ (OkL l ∧ OkBP b p)) => fpAll_no h)
  by_cases hok : OkL l
  · by_cases hbp : OkBP b p
    · rw [fpAll_yes ⟨hok, hbp⟩]
      obtain ⟨⟨hb1, hb2⟩, hp1, hp2⟩ := hbp
      obtain ⟨b, rfl⟩ : ∃ n : Nat, b = n := ⟨b.toNat, by omega⟩
      obtain ⟨p, rfl⟩ : ∃ n : Nat, p = n := ⟨p.toNat, by omega⟩
      simp only [Int.toNat_natCast]
      exact specFpY_any b' o c l b p w hv hok (by omega) (by omega) (by omega)
    · rw [decide_eq_true hok] at HV
      rw [decide_eq_false hbp] at HB
      rw [HNONE.out fun h => hbp h.2]
      clear hok hbp hv HNONE
      go_enter Try.func53, Try.ntmps53
      go_wp2_with fail
      refine HV.out.mono ?_
      rintro e w1 ⟨rfl, hb1⟩
      have HRES := Lib.hid (RetE1.nil0 w w1 hb1)
      clear hb1 HV
      go_wp2_with fail
      refine (HB.out _).mono ?_
      rintro e w1' ⟨rfl, rfl⟩
      go_wp2_with fail
      go_ret3
      exact HRES.out
  · rw [decide_eq_false hok] at HV
    rw [HNONE.out fun h => hok h.1]
    clear hok hv HNONE
    go_enter Try.func53, Try.ntmps53
    go_wp2_with fail
    refine HV.out.mono ?_
    rintro e w1 ⟨rfl, hb1⟩
    have HRES := Lib.hid (RetE1.nil0 w w1 hb1)
    clear hb1 HV
    go_wp2_with fail
    go_ret3
    exact HRES.out

end Go.Proofs.Ytebipiehkmhaiaa
