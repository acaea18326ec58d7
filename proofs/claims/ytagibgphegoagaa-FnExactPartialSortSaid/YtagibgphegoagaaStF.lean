/- slices.SortStableFunc, its blocks and its passes (int). -/
import Derived.Test.YtagibgphegoagaaSyF
import Derived.Shelf.SlSortCmp.Insertion
namespace Go.Proofs.Ytagibgphegoagaa
open Go.Shelf Go.RowKit Go.Lib Go.Sort StC
variable {NN : Nat}

set_option maxHeartbeats 40000000 in
set_option maxRecDepth 1000000 in
theorem insertionF (cf : (Fin (NN + 1)) → (Fin (NN + 1)) → Int) (g : Nat) (cb : Array Value) (blk off cap : Nat) (d0 : Array (Fin (NN + 1))) (w0 : World) (R : RowK encF 1 w0 blk off d0) (hsz : d0.size < 4611686018427387904)
    (eg : ∀ args w, (callFunc g args).run Try.prog w = .ok (.enter g args) w) (hcmp : CmpF Try.prog g cb cf blk off d0.size w0)
    (d : Array (Fin (NN + 1))) (w : World) (hs0 : d.size = d0.size) (S : SWK encF 1 w0 blk off d w) (a b : Nat) (hab : a ≤ b) (hb : b ≤ d0.size) (az bz : Int) (haz : az = (a : Nat)) (hbz : bz = (b : Nat)) :
    Calls Try.prog 195 #[.slice (some ⟨blk, off, none⟩) d0.size cap, .int .i64 az, .int .i64 bz, .func (.func g) #[] cb] w fun e w' =>
      e = .returned (.tuple #[]) ∧ SWK encF 1 w0 blk off (insertionSort (ltOf cf) d a b) w' := by
  subst haz hbz
  have HC : Aside _ := hcmp
  have S0 : Aside (SWK encF 1 w0 blk off d w) := S
  have mixed : Try.prog.follows .mixedOrders = true := by kernel_rfl
  clear hcmp S
  go_enter Try.func195, Try.ntmps195
  go_wp2
  go_loopg [8] (b - a) (fun g1 vi wr => ∃ (i : Nat) (dk : Array (Fin (NN + 1))), vi = .int .i64 i ∧ a < i ∧ i ≤ b + 1 ∧ b + 1 - i ≤ g1 + 1 ∧ dk.size = d0.size ∧ Aside (SWK encF 1 w0 blk off dk wr) ∧ Hid (insOuter (ltOf cf) a b i dk = insOuter (ltOf cf) a b (a + 1) d))
  case atStart => exact ⟨a + 1, d, by go_num, by omega, by omega, by omega, hs0, S0, rfl⟩
  case round =>
    clear S0
    obtain ⟨i, dk, rfl, hai, hib, hg1, hsk, S1, HO⟩ := hrel
    by_cases hlt : i < b
    · have hltz : (i : Int) < (b : Int) := by omega
      go_wp2
      go_loopg [9] i (fun g2 vj wr2 => ∃ (j : Nat) (dj : Array (Fin (NN + 1))), vj = .int .i64 j ∧ a ≤ j ∧ j ≤ i ∧ j ≤ g2 ∧ dj.size = d0.size ∧ Aside (SWK encF 1 w0 blk off dj wr2) ∧ Hid (insInner (ltOf cf) a j dj = insInner (ltOf cf) a i dk))
      case atStart => exact ⟨i, dk, rfl, by omega, Nat.le_refl _, Nat.le_refl _, hsk, S1, rfl⟩
      case round =>
        clear S1
        obtain ⟨j, dj, rfl, haj, hji, hg2, hsj, S1, HI⟩ := hrel
        have out : (j ≤ a ∨ (ltOf cf) dj[j]! dj[j - 1]! = false) → Hid (insOuter (ltOf cf) a b (i + 1) dj = insOuter (ltOf cf) a b (a + 1) d) := fun hs => by
          show _ = _
          rw [← HO.out, insOuter_go _ _ _ _ _ hlt, ← HI.out, insInner_stop _ _ _ _ hs]
        have OUT : Aside _ := out
        clear out
        by_cases hja : a < j
        · have hjaz : (a : Int) < (j : Int) := by omega
          obtain ⟨jp, rfl⟩ : ∃ jp, j = jp + 1 := ⟨j - 1, by omega⟩
          have hjaz' : (a : Int) < (jp : Int) + 1 := by omega
          cases hL : (ltOf cf) dj[jp + 1]! dj[jp]! with
          | true =>
            have eap : ((jp : Int) + 1).toNat = jp + 1 := by omega
            have pap : (0 : Int) ≤ (jp : Int) + 1 := by omega
            have bap : (jp : Int) + 1 < (d0.size : Int) := by omega
            have rap : IntKind.i64.wrap ((jp : Int) + 1) = (jp : Int) + 1 := by rw [IntKind.wrap_i64]; omega
            have ecp : ((jp : Int)).toNat = jp := by omega
            have pcp : (0 : Int) ≤ (jp : Int) := by omega
            have bcp : (jp : Int) < (d0.size : Int) := by omega
            have rcp : IntKind.i64.wrap ((jp : Int)) = (jp : Int) := by rw [IntKind.wrap_i64]; omega
            obtain ⟨xp, hxp⟩ : ∃ x, x = dj[jp + 1]! := ⟨_, rfl⟩
            obtain ⟨yp, hyp⟩ : ∃ x, x = dj[jp]! := ⟨_, rfl⟩
            have lap0 : ∀ n os, (grow (wr.drewN n) os).cell? ⟨blk, off + (jp + 1), none⟩ = some (.int .i64 ((xp).val : Int)) := fun n os => by rw [hxp]; exact (cellsF (S1.out.grown n os) R hsj (jp + 1) (by omega)).1
            have lbp0 : ∀ n os, (grow (wr.drewN n) os).cell? ⟨blk, off + (jp), none⟩ = some (.int .i64 ((yp).val : Int)) := fun n os => by rw [hyp]; exact (cellsF (S1.out.grown n os) R hsj (jp) (by omega)).1
            have hcp := cmpF S1.out HC.out hsj xp yp
            have hvp : cf xp yp < 0 := by rw [hxp, hyp]; exact of_decide_eq_true hL
            have hdp : decide (cf xp yp < 0) = true := decide_eq_true hvp
            clear hxp hyp
            go_wp2_with fail
            go_quiet_grown (first | (go_at_fn g; refine Calls.grown_of (hcp _ _)))
            have S2 : Aside (SWK encF 1 w0 blk off dj (grow (wr.drewN nq) osq)) := S1.out.grown nq osq
            clear lap0 lbp0 hcp S1
            generalize grow (wr.drewN nq) osq = w2 at S2 ⊢
            clear nq osq

            go_wp2_with fail
            have eas : ((jp : Int) + 1).toNat = jp + 1 := by omega
            have pas : (0 : Int) ≤ (jp : Int) + 1 := by omega
            have bas : (jp : Int) + 1 < (d0.size : Int) := by omega
            have ras : IntKind.i64.wrap ((jp : Int) + 1) = (jp : Int) + 1 := by rw [IntKind.wrap_i64]; omega
            have ecs : ((jp : Int)).toNat = jp := by omega
            have pcs : (0 : Int) ≤ (jp : Int) := by omega
            have bcs : (jp : Int) < (d0.size : Int) := by omega
            have rcs : IntKind.i64.wrap ((jp : Int)) = (jp : Int) := by rw [IntKind.wrap_i64]; omega
            obtain ⟨xs, hxs⟩ : ∃ x, x = dj[jp + 1]! := ⟨_, rfl⟩
            obtain ⟨ys, hys⟩ : ∃ x, x = dj[jp]! := ⟨_, rfl⟩
            have S3 : Aside (SWK encF 1 w0 blk off (swp dj (jp + 1) (jp)) ((w2.setCell ⟨blk, off + (jp + 1), none⟩ (.int .i64 ((ys).val : Int))).setCell ⟨blk, off + (jp), none⟩ (.int .i64 ((xs).val : Int))).drew) := by rw [hxs, hys]; have h := S2.out.swapped R (jp + 1) (jp) (by omega) (by omega); rw [Nat.mul_one, Nat.mul_one] at h; exact h
            have has := cellsF S2.out.drew R hsj (jp + 1) (by omega)
            have hbs := cellsF S2.out.drew R hsj (jp) (by omega)
            have hds := cellsF S2.out R hsj (jp + 1) (by omega)
            have hes := cellsF S2.out R hsj (jp) (by omega)
            rw [← hxs] at has hds
            rw [← hys] at hbs hes
            obtain ⟨las0, fas0⟩ := has
            obtain ⟨lbs0, fbs0⟩ := hbs
            obtain ⟨lds0, fds0⟩ := hds
            obtain ⟨les0, fes0⟩ := hes
            have nes00 : ¬ (off + (jp) = off + (jp + 1)) := by omega
            clear S2 hxs hys
            go_wp2_with fail
            go_big_region_o
            clear las0 fas0 lbs0 fbs0 lds0 fds0 les0 fes0
            generalize ((w2.setCell ⟨blk, off + (jp + 1), none⟩ (.int .i64 ((ys).val : Int))).setCell ⟨blk, off + (jp), none⟩ (.int .i64 ((xs).val : Int))).drew = w3 at S3 ⊢
            go_wp2

            go_roundg jp
            case measure => omega
            case rel =>
              refine ⟨jp, swp dj (jp + 1) jp, by first | rfl | go_num | (congr 1; omega), by omega, by omega, Nat.le_refl _, by rw [size_swp]; exact hsj, S3, (show Hid _ from ?_)⟩
              show _ = _
              have := insInner_go (ltOf cf) a (jp + 1) dj hja (by simp only [Nat.add_sub_cancel]; exact hL)
              simp only [Nat.add_sub_cancel] at this
              rw [← HI.out, this]
          | false =>
            have eaq : ((jp : Int) + 1).toNat = jp + 1 := by omega
            have paq : (0 : Int) ≤ (jp : Int) + 1 := by omega
            have baq : (jp : Int) + 1 < (d0.size : Int) := by omega
            have raq : IntKind.i64.wrap ((jp : Int) + 1) = (jp : Int) + 1 := by rw [IntKind.wrap_i64]; omega
            have ecq : ((jp : Int)).toNat = jp := by omega
            have pcq : (0 : Int) ≤ (jp : Int) := by omega
            have bcq : (jp : Int) < (d0.size : Int) := by omega
            have rcq : IntKind.i64.wrap ((jp : Int)) = (jp : Int) := by rw [IntKind.wrap_i64]; omega
            obtain ⟨xq, hxq⟩ : ∃ x, x = dj[jp + 1]! := ⟨_, rfl⟩
            obtain ⟨yq, hyq⟩ : ∃ x, x = dj[jp]! := ⟨_, rfl⟩
            have laq0 : ∀ n os, (grow (wr.drewN n) os).cell? ⟨blk, off + (jp + 1), none⟩ = some (.int .i64 ((xq).val : Int)) := fun n os => by rw [hxq]; exact (cellsF (S1.out.grown n os) R hsj (jp + 1) (by omega)).1
            have lbq0 : ∀ n os, (grow (wr.drewN n) os).cell? ⟨blk, off + (jp), none⟩ = some (.int .i64 ((yq).val : Int)) := fun n os => by rw [hyq]; exact (cellsF (S1.out.grown n os) R hsj (jp) (by omega)).1
            have hcq := cmpF S1.out HC.out hsj xq yq
            have hvq : ¬ cf xq yq < 0 := by rw [hxq, hyq]; exact of_decide_eq_false hL
            have hdq : decide (cf xq yq < 0) = false := decide_eq_false hvq
            clear hxq hyq
            go_wp2_with fail
            go_quiet_grown (first | (go_at_fn g; refine Calls.grown_of (hcq _ _)))
            have S2 : Aside (SWK encF 1 w0 blk off dj (grow (wr.drewN nq) osq)) := S1.out.grown nq osq
            clear laq0 lbq0 hcq S1
            generalize grow (wr.drewN nq) osq = w2 at S2 ⊢
            clear nq osq

            go_wp2
            go_roundg (b - (i + 1))
            case measure => omega
            case rel => exact ⟨i + 1, dj, by go_num, by omega, by omega, by omega, hsj, S2, OUT.out (Or.inr (by simp only [Nat.add_sub_cancel]; exact hL))⟩
        · have hjaz : decide ((j : Int) > (a : Int)) = false := decide_eq_false (by omega)
          have hjaz' : ¬ (a : Int) < (j : Int) := by omega
          have S2 : Aside (SWK encF 1 w0 blk off dj wr.drew) := S1.out.drew
          clear S1
          go_wp2_with fail
          go_big_region_o
          all_goals go_wp2
          go_roundg (b - (i + 1))
          case measure => omega
          case rel => exact ⟨i + 1, dj, by go_num, by omega, by omega, by omega, hsj, S2, OUT.out (Or.inl (by omega))⟩
    · have hltz : ¬ (i : Int) < (b : Int) := by omega
      go_wp2
      go_end0
      refine ⟨rfl, ?_⟩
      unfold Sort.insertionSort
      rw [← HO.out, insOuter_stop _ _ _ _ _ hlt]
      exact S1.out

/-- One block. -/
theorem blockF (cf : (Fin (NN + 1)) → (Fin (NN + 1)) → Int) (hO : SWO (ltOf cf)) (g : Nat) (cb : Array Value) (blk off cap : Nat) (d0 : Array (Fin (NN + 1))) (w0 : World) (R : RowK encF 1 w0 blk off d0) (hsz : d0.size < 4611686018427387904)
    (eg : ∀ args w, (callFunc g args).run Try.prog w = .ok (.enter g args) w) (hcmp : CmpF Try.prog g cb cf blk off d0.size w0)
    (p l s : List (Fin (NN + 1))) (w : World) (hN : d0.size = p.length + l.length + s.length) (az bz : Int) (haz : az = (p.length : Nat)) (hbz : bz = (p.length + l.length : Nat)) (S : SWK encF 1 w0 blk off (p ++ l ++ s).toArray w) :
    Calls Try.prog 195 #[.slice (some ⟨blk, off, none⟩) d0.size cap, .int .i64 az, .int .i64 bz, .func (.func g) #[] cb] w fun e w' =>
      e = .returned (.tuple #[]) ∧ ∃ M, St (ltOf cf) l M ∧ SWK encF 1 w0 blk off (p ++ M ++ s).toArray w' := by
  obtain ⟨Y, h1, h2⟩ := insertion_parts hO p l s (a := p.length) (b := p.length + l.length) rfl rfl
  refine (insertionF cf g cb blk off cap d0 w0 R hsz eg hcmp (p ++ l ++ s).toArray w (by simp; omega) S p.length (p.length + l.length) (by omega) (by omega) az bz haz hbz).mono ?_
  rintro e w' ⟨he, hS⟩
  rw [h2] at hS
  exact ⟨he, Y, h1, hS⟩

set_option maxHeartbeats 40000000 in
set_option maxRecDepth 1000000 in
theorem stableF (cf : (Fin (NN + 1)) → (Fin (NN + 1)) → Int) (hO : SWO (ltOf cf)) (g : Nat) (cb : Array Value) (blk off cap : Nat) (d0 : Array (Fin (NN + 1))) (w0 : World) (R : RowK encF 1 w0 blk off d0) (hsz : d0.size < 4611686018427387904)
    (eg : ∀ args w, (callFunc g args).run Try.prog w = .ok (.enter g args) w) (hcmp : CmpF Try.prog g cb cf blk off d0.size w0) (hsm : d0.size ≤ 4294967296)
    (l : List (Fin (NN + 1))) (w : World) (hN : l.length = d0.size) (S : SWK encF 1 w0 blk off l.toArray w) :
    Calls Try.prog 185 #[.slice (some ⟨blk, off, none⟩) d0.size cap, .int .i64 (l.length : Nat), .func (.func g) #[] cb] w fun e w' =>
      e = .returned (.tuple #[]) ∧ ∃ M, St (ltOf cf) l M ∧ SWK encF 1 w0 blk off M.toArray w' := by
  have HBLK := Lib.hid (fun (w : World) (p l s : List (Fin (NN + 1))) hN az bz haz hbz S => blockF cf hO g cb blk off cap d0 w0 R hsz eg hcmp p l s w hN az bz haz hbz S)
  have HSYM := Lib.hid (symMergeF cf hO g cb blk off cap d0 w0 R hsz eg hcmp)
  have S0 : Aside (SWK encF 1 w0 blk off l.toArray w) := S
  have mixed : Try.prog.follows .mixedOrders = true := by kernel_rfl
  obtain ⟨N, hNN⟩ : ∃ N, N = l.length := ⟨_, rfl⟩
  have hN2 : N = d0.size := by omega
  rw [← hNN]
  have HNN := Lib.hid hNN
  have HN2 := Lib.hid hN2
  have bnd : N ≤ 4294967296 := by omega
  clear hcmp S hO hN hNN hN2
  go_enter Try.func185, Try.ntmps185
  go_wp2_with fail
  -- the blocks of twenty
  go_loopg [7, 8] N (fun kx s7 s8 wr => ∃ (t : Nat) (X : List (Fin (NN + 1))), s7 = .int .i64 (t * 20 : Nat) ∧ s8 = .int .i64 (t * 20 + 20 : Nat) ∧ t * 20 ≤ N ∧ N - t * 20 ≤ kx ∧ Aside (Upto (ltOf cf) 20 l l X t) ∧ Aside (SWK encF 1 w0 blk off X.toArray wr))
  case atStart => exact ⟨0, l, rfl, rfl, by omega, by omega, Upto.start rfl, S0⟩
  case round =>
    clear S0
    obtain ⟨t, X, rfl, rfl, htN, hkx, U, S1⟩ := hrel
    obtain ⟨a, ha⟩ : ∃ a, a = t * 20 := ⟨_, rfl⟩
    rw [← ha] at htN hkx ⊢
    have HA := Lib.hid ha
    have hXl : X.length = N := by rw [HNN.out]; exact U.out.1
    have HXL := Lib.hid hXl
    have hdrop : X.drop a = l.drop a := by rw [ha]; exact U.out.2.2
    have HDR := Lib.hid hdrop
    clear ha hXl hdrop
    have rab : IntKind.i64.wrap ((a : Int) + 20 + 20) = (a : Int) + 20 + 20 := by rw [IntKind.wrap_i64]; omega
    have ecast : (((a + 20 : Nat)) : Int) = (a : Int) + 20 := by omega
    by_cases hlt : a + 20 ≤ N
    · have hltz : (a : Int) + 20 ≤ (N : Int) := by omega
      have q := HBLK.out wr (X.take a) (seg X a 20) (X.drop (a + 20)) (by have := HXL.out; have := HN2.out; rw [seg_len]; simp; omega) a (a + 20 : Nat) (by have := HXL.out; simp; omega) (by have := HXL.out; rw [seg_len]; simp; omega) (by rw [← parts]; exact S1.out)
      have HQ := Lib.hid q
      clear q S1
      go_wp2_with fail
      refine (HQ.out).mono ?_
      rintro e w1 ⟨rfl, M, hM, S2⟩
      have U2 : Aside (Upto (ltOf cf) 20 l l (put X (t * 20) 20 M) (t + 1)) := U.out.step (by rw [← HA.out, ← HNN.out]; exact htN) (by
        have e : seg l (t * 20) 20 = seg X a 20 := by unfold seg; rw [← HA.out, HDR.out]
        rw [e]; exact hM)
      have S3 : Aside (SWK encF 1 w0 blk off (put X (t * 20) 20 M).toArray w1) := by show SWK encF 1 w0 blk off _ _; unfold put; rw [← HA.out]; exact S2
      clear HQ S2 hM U
      go_wp2
      go_roundg (N - (a + 20))
      case measure => omega
      case rel => exact ⟨t + 1, _, by have := HA.out; congr 1; omega, by have := HA.out; congr 1; omega, by have := HA.out; omega, by have := HA.out; omega, U2, S3⟩
    · have hltz : ¬ (a : Int) + 20 ≤ (N : Int) := by omega
      have q := HBLK.out wr (X.take a) (seg X a 20) (X.drop (a + 20)) (by have := HXL.out; have := HN2.out; rw [seg_len]; simp; omega) a N (by have := HXL.out; simp; omega) (by have := HXL.out; rw [seg_len]; simp; omega) (by rw [← parts]; exact S1.out)
      have HQ := Lib.hid q
      clear q S1
      go_wp2_with fail
      refine (HQ.out).mono ?_
      rintro e w1 ⟨rfl, M, hM, S2⟩
      have hB0 : Blocks (ltOf cf) 20 l (put X (t * 20) 20 M) := (U.out.step (by rw [← HA.out, ← HNN.out]; exact htN) (by
        have e : seg l (t * 20) 20 = seg X a 20 := by unfold seg; rw [← HA.out, HDR.out]
        rw [e]; exact hM)).blocks (by have := HA.out; have := HNN.out; omega)
      have S3 : Aside (SWK encF 1 w0 blk off (put X (t * 20) 20 M).toArray w1) := by show SWK encF 1 w0 blk off _ _; unfold put; rw [← HA.out]; exact S2
      have B0 : Aside (Blocks (ltOf cf) 20 l (put X (t * 20) 20 M)) := hB0
      generalize put X (t * 20) 20 M = W0 at B0 S3
      clear HQ S2 hM U hB0 HDR HXL HA rab ecast
      go_wp2
      -- the passes
      go_loopg [6] N (fun kx s6 wr => ∃ (bs : Nat) (W : List (Fin (NN + 1))), s6 = .int .i64 bs ∧ 1 ≤ bs ∧ bs ≤ 2 * N + 20 ∧ N - bs ≤ kx ∧ Aside (Blocks (ltOf cf) bs l W) ∧ Aside (SWK encF 1 w0 blk off W.toArray wr))
      case atStart => exact ⟨20, W0, rfl, by omega, by omega, by omega, B0, S3⟩
      case round =>
        clear B0 S3
        obtain ⟨bs, W, rfl, hb1, hb2, hkx2, B, S1⟩ := hrel
        have hWl : W.length = N := by rw [HNN.out]; exact B.out.1
        have HWL := Lib.hid hWl
        clear hWl
        have rbs : IntKind.i64.wrap (2 * (bs : Int)) = 2 * (bs : Int) := by rw [IntKind.wrap_i64]; omega
        have rbs2 : IntKind.i64.wrap ((bs : Int) * 2) = (bs : Int) * 2 := by rw [IntKind.wrap_i64]; omega
        by_cases hlt2 : bs < N
        · have hlt2z : (bs : Int) < (N : Int) := by omega
          go_wp2
          go_loopg [7, 8] N (fun ky s7 s8 wr => ∃ (t a : Nat) (X : List (Fin (NN + 1))), s7 = .int .i64 a ∧ s8 = .int .i64 (a + 2 * bs : Nat) ∧ a ≤ N ∧ N - a ≤ ky ∧ Hid (a = t * (2 * bs)) ∧ Aside (Upto (ltOf cf) (2 * bs) l W X t) ∧ Aside (SWK encF 1 w0 blk off X.toArray wr))
          case atStart => exact ⟨0, 0, W, rfl, by congr 1; omega, by omega, by omega, (show 0 = 0 * (2 * bs) by omega), Upto.start B.out.1, S1⟩
          case round =>
            clear S1
            obtain ⟨t, a, X, rfl, rfl, haN, hky, HA, U, S1⟩ := hrel
            have HXL : Hid (X.length = N) := Lib.hid (by rw [HNN.out]; exact U.out.1)
            have HDR : Hid (X.drop a = W.drop a) := Lib.hid (by rw [HA.out]; exact U.out.2.2)
            have ecast : ((a + 2 * bs : Nat) : Int) = (a : Int) + 2 * (bs : Int) := by omega
            have rab : IntKind.i64.wrap ((a : Int) + (bs : Int)) = (a : Int) + (bs : Int) := by rw [IntKind.wrap_i64]; omega
            have rab2 : IntKind.i64.wrap ((a : Int) + 2 * (bs : Int) + 2 * (bs : Int)) = (a : Int) + 2 * (bs : Int) + 2 * (bs : Int) := by rw [IntKind.wrap_i64]; omega
            rw [ecast]
            have hseg : seg X a bs ++ seg X (a + bs) bs = seg W (t * (2 * bs)) bs ++ seg W (t * (2 * bs) + bs) bs := by
              rw [← HA.out]; unfold seg
              rw [← List.drop_drop, ← List.drop_drop, HDR.out]
            have hparts : X = X.take a ++ seg X a bs ++ seg X (a + bs) bs ++ X.drop (a + 2 * bs) := by
              have := parts X a (2 * bs)
              rw [seg_two] at this
              rw [← List.append_assoc] at this
              exact this
            have hsort : (seg X a bs).Pairwise (fun a b => ltOf cf b a = false) ∧ (seg X (a + bs) bs).Pairwise (fun a b => ltOf cf b a = false) := by
              have e1 : seg X a bs = seg W (2 * t * bs) bs := by
                have e : a = 2 * t * bs := by rw [HA.out, ← Nat.mul_assoc, Nat.mul_comm t 2]
                unfold seg; rw [HDR.out, e]
              have e2 : seg X (a + bs) bs = seg W ((2 * t + 1) * bs) bs := by
                have e : a + bs = (2 * t + 1) * bs := by rw [HA.out, ← Nat.mul_assoc, Nat.mul_comm t 2, Nat.add_mul, Nat.one_mul]
                unfold seg; rw [← List.drop_drop, HDR.out, List.drop_drop, e]
              exact ⟨e1 ▸ (B.out.2 (2 * t)).sorted, e2 ▸ (B.out.2 (2 * t + 1)).sorted⟩
            have step : ∀ M, St (ltOf cf) (seg X a bs ++ seg X (a + bs) bs) M → Upto (ltOf cf) (2 * bs) l W (put X (t * (2 * bs)) (2 * bs) M) (t + 1) := fun M hM =>
              U.out.step (by rw [← HA.out, ← HNN.out]; exact haN) (B.out.pair t (by rw [← hseg]; exact hM))
            have STEP := Lib.hid step
            have HS := Lib.hid hsort
            have HP := Lib.hid hparts
            clear step hsort hparts hseg
            by_cases hfull : a + 2 * bs ≤ N
            · have hfz : (a : Int) + 2 * (bs : Int) ≤ (N : Int) := by omega
              have hsl : (seg X a bs).length = bs ∧ (seg X (a + bs) bs).length = bs := by have := HXL.out; constructor <;> rw [seg_len] <;> omega
              have q := HSYM.out (bs + bs) (X.take a) (seg X a bs) (seg X (a + bs) bs) (X.drop (a + 2 * bs)) wr (by omega) (by omega) (by omega) HS.out.1 HS.out.2 (by have := HXL.out; have := HN2.out; rw [hsl.1, hsl.2]; simp; omega) a ((a : Int) + (bs : Int)) ((a : Int) + 2 * (bs : Int)) (by have := HXL.out; simp; omega) (by have := HXL.out; rw [hsl.1]; simp; omega) (by have := HXL.out; rw [hsl.1, hsl.2]; simp; omega) (by rw [← HP.out]; exact S1.out)
              have HQ := Lib.hid q
              clear q S1 hsl
              go_wp2_with fail
              refine (HQ.out).mono ?_
              rintro e w1 ⟨rfl, M, hM, S2⟩
              have U2 := Lib.hid (STEP.out M hM)
              have S3 : Aside (SWK encF 1 w0 blk off (put X (t * (2 * bs)) (2 * bs) M).toArray w1) := by show SWK encF 1 w0 blk off _ _; unfold put; rw [← HA.out]; exact S2
              clear HQ S2 hM U
              go_wp2
              go_roundg (N - (a + 2 * bs))
              case measure => omega
              case rel => exact ⟨t + 1, a + 2 * bs, _, by first | rfl | go_num | (congr 1; omega), by first | rfl | go_num | (congr 1; omega), hfull, Nat.le_refl _, (show a + 2 * bs = (t + 1) * (2 * bs) by rw [HA.out, Nat.add_mul, Nat.one_mul]), U2.out, S3⟩
            · have hfz : ¬ (a : Int) + 2 * (bs : Int) ≤ (N : Int) := by omega
              have hend : l.length ≤ (t + 1) * (2 * bs) := by rw [Nat.add_mul, Nat.one_mul, ← HA.out, ← HNN.out]; omega
              have HEND := Lib.hid hend
              clear hend
              by_cases hm : a + bs < N
              · have hmz : (a : Int) + (bs : Int) < (N : Int) := by omega
                have hsl : (seg X a bs).length = bs ∧ (seg X (a + bs) bs).length = N - (a + bs) := by have := HXL.out; constructor <;> rw [seg_len] <;> omega
                have q := HSYM.out (bs + bs) (X.take a) (seg X a bs) (seg X (a + bs) bs) (X.drop (a + 2 * bs)) wr (by omega) (by omega) (by omega) HS.out.1 HS.out.2 (by have := HXL.out; have := HN2.out; rw [hsl.1, hsl.2]; simp; omega) a ((a : Int) + (bs : Int)) N (by have := HXL.out; simp; omega) (by have := HXL.out; rw [hsl.1]; simp; omega) (by have := HXL.out; rw [hsl.1, hsl.2]; simp; omega) (by rw [← HP.out]; exact S1.out)
                have HQ := Lib.hid q
                clear q S1 hsl
                go_wp2_with fail
                refine (HQ.out).mono ?_
                rintro e w1 ⟨rfl, M, hM, S2⟩
                have U2 := Lib.hid ((STEP.out M hM).blocks HEND.out)
                have S3 : Aside (SWK encF 1 w0 blk off (put X (t * (2 * bs)) (2 * bs) M).toArray w1) := by show SWK encF 1 w0 blk off _ _; unfold put; rw [← HA.out]; exact S2
                clear HQ S2 hM U
                go_wp2
                go_roundg (N - 2 * bs)
                case measure => omega
                case rel => exact ⟨2 * bs, _, by first | rfl | (congr 1; omega), by omega, by omega, Nat.le_refl _, U2.out, S3⟩
              · have hmz : ¬ (a : Int) + (bs : Int) < (N : Int) := by omega
                have U2 : Hid (Blocks (ltOf cf) (2 * bs) l X) := Lib.hid (by
                  have h0 : seg X (a + bs) bs = [] := seg_out _ _ (by have := HXL.out; omega)
                  have h1 := STEP.out (seg X a bs ++ seg X (a + bs) bs) (by rw [h0, List.append_nil]; exact St.self HS.out.1)
                  rw [← seg_two, ← HA.out, put_self] at h1
                  exact h1.blocks HEND.out)
                clear U
                go_wp2
                go_roundg (N - 2 * bs)
                case measure => omega
                case rel => exact ⟨2 * bs, X, by first | rfl | (congr 1; omega), by omega, by omega, Nat.le_refl _, U2.out, S1⟩
        · have hlt2z : ¬ (bs : Int) < (N : Int) := by omega
          go_wp2
          go_end0
          exact ⟨rfl, W, B.out.whole (by have := HNN.out; omega), S1.out⟩

theorem sortStableF (cf : (Fin (NN + 1)) → (Fin (NN + 1)) → Int) (hO : SWO (ltOf cf)) (g : Nat) (cb : Array Value) (blk off cap : Nat) (d0 : Array (Fin (NN + 1))) (w0 : World) (R : RowK encF 1 w0 blk off d0) (hsz : d0.size < 4611686018427387904)
    (eg : ∀ args w, (callFunc g args).run Try.prog w = .ok (.enter g args) w) (hcmp : CmpF Try.prog g cb cf blk off d0.size w0) (hsm : d0.size ≤ 4294967296)
    (l : List (Fin (NN + 1))) (w : World) (hN : l.length = d0.size) (S : SWK encF 1 w0 blk off l.toArray w) :
    Calls Try.prog 166 #[.slice (some ⟨blk, off, none⟩) d0.size cap, .func (.func g) #[] cb] w fun e w' =>
      e = .returned (.tuple #[]) ∧ ∃ M, St (ltOf cf) l M ∧ SWK encF 1 w0 blk off M.toArray w' := by
  have HQ := Lib.hid (stableF cf hO g cb blk off cap d0 w0 R hsz eg hcmp hsm l w hN S)
  have e : (d0.size : Int) = (l.length : Int) := by omega
  rw [← hN] at HQ ⊢
  clear hcmp S hO e hN
  go_enter Try.func166, Try.ntmps166
  go_wp2_with fail
  refine (HQ.out).mono ?_
  rintro e w1 ⟨rfl, M, hM, S2⟩
  have HM := Lib.hid hM
  have HS := Lib.hid S2
  clear hM S2
  go_wp2_with fail
  go_end0
  exact ⟨rfl, M, HM.out, HS.out⟩

end Go.Proofs.Ytagibgphegoagaa
