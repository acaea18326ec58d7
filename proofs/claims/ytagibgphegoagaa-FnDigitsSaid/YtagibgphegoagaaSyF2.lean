/- slices.symMergeCmpFunc: two ascending neighbours become their stable arrangement (int). -/
import Derived.Test.YtagibgphegoagaaSwF
namespace Go.Proofs.Ytagibgphegoagaa
open Go.Shelf Go.RowKit Go.Lib Go.Sort StC
variable {NN : Nat}

set_option maxHeartbeats 40000000 in
set_option maxRecDepth 1000000 in
theorem symMergeF_2 (cf : (Fin (NN + 1)) → (Fin (NN + 1)) → Int) (hO : SWO (ltOf cf)) (g : Nat) (cb : Array Value) (blk off cap : Nat) (d0 : Array (Fin (NN + 1))) (w0 : World) (R : RowK encF 1 w0 blk off d0) (hsz : d0.size < 4611686018427387904)
    (eg : ∀ args w, (callFunc g args).run Try.prog w = .ok (.enter g args) w) (hcmp : CmpF Try.prog g cb cf blk off d0.size w0)
    (p l r s : List (Fin (NN + 1))) (w : World) (hl : 0 < l.length) (_hr : 0 < r.length) (sl : l.Pairwise (fun a b => ltOf cf b a = false)) (sr : r.Pairwise (fun a b => ltOf cf b a = false)) (hN : d0.size = p.length + l.length + r.length + s.length)
    (az mz bz : Int) (haz : az = (p.length : Nat)) (hmz : mz = (p.length + l.length : Nat)) (hbz : bz = (p.length + l.length + r.length : Nat)) (S : SWK encF 1 w0 blk off (p ++ l ++ r ++ s).toArray w) (h1 : ¬ l.length = 1) (h2 : r.length = 1) :
    Calls Try.prog 196 #[.slice (some ⟨blk, off, none⟩) d0.size cap, .int .i64 az, .int .i64 mz, .int .i64 bz, .func (.func g) #[] cb] w fun e w' =>
      e = .returned (.tuple #[]) ∧ ∃ M, St (ltOf cf) (l ++ r) M ∧ SWK encF 1 w0 blk off (p ++ M ++ s).toArray w' := by
  obtain ⟨a, ha⟩ : ∃ a, a = p.length := ⟨_, rfl⟩
  obtain ⟨m, hm⟩ : ∃ m, m = p.length + l.length := ⟨_, rfl⟩
  obtain ⟨b, hb⟩ : ∃ b, b = p.length + l.length + r.length := ⟨_, rfl⟩
  rw [← ha] at haz
  rw [← hm] at hmz
  rw [← hb] at hbz
  subst haz hmz hbz
  have HC : Aside _ := hcmp
  obtain ⟨dk, hdk⟩ : ∃ dk, dk = (p ++ l ++ r ++ s).toArray := ⟨_, rfl⟩
  rw [← hdk] at S
  have S0 : Aside (SWK encF 1 w0 blk off dk w) := S
  have HN2 : Hid (dk.size = d0.size) := Lib.hid (by rw [hdk]; simp; omega)
  have DK := Lib.hid hdk
  have HO := Lib.hid hO
  have SL := Lib.hid sl
  have SR := Lib.hid sr
  have HN := Lib.hid hN
  have HA := Lib.hid ha
  have HM := Lib.hid hm
  have HB := Lib.hid hb
  have hn2 : dk.size = d0.size := HN2.out
  have bnd : a < m ∧ m < b ∧ b ≤ d0.size := by omega
  have mixed : Try.prog.follows .mixedOrders = true := by kernel_rfl
  have r1 : IntKind.i64.wrap ((m : Int) - (a : Int)) = (m : Int) - (a : Int) := by rw [IntKind.wrap_i64]; omega
  have r2 : IntKind.i64.wrap ((b : Int) - (m : Int)) = (b : Int) - (m : Int) := by rw [IntKind.wrap_i64]; omega
  have H2 : Hid (b = m + 1) := Lib.hid (by omega)
  have h2z : (b : Int) - (m : Int) = 1 := by have := H2.out; omega
  have h1z : ¬ ((m : Int) - (a : Int) = 1) := by omega
  have h1b : ((m : Int) - (a : Int) == 1) = false := by simpa using h1z
  clear hcmp S hdk hO sl sr hN ha hm hb hl _hr h1 h2
  go_enter Try.func196, Try.ntmps196
  obtain ⟨y, rfl⟩ : ∃ y, r = [y] := List.length_eq_one_iff.1 (by have := HB.out; have := HM.out; have := H2.out; omega)
  go_wp2
  clear h1z h2z h1b
  go_loopg [14, 15] (m - a) (fun kx s14 s15 wr => ∃ lo hi : Nat, s14 = .int .i64 lo ∧ s15 = .int .i64 hi ∧ a ≤ lo ∧ lo ≤ hi ∧ hi ≤ m ∧ hi - lo ≤ kx ∧ Aside (SWK encF 1 w0 blk off dk wr) ∧ Hid ((lo = a ∨ ltOf cf dk[m]! dk[lo - 1]! = false) ∧ (hi = m ∨ ltOf cf dk[m]! dk[hi]! = true)))
  case atStart => exact ⟨a, m, rfl, rfl, Nat.le_refl _, by omega, Nat.le_refl _, Nat.le_refl _, S0, ⟨Or.inl rfl, Or.inl rfl⟩⟩
  case round =>
    clear S0
    obtain ⟨lo, hi, rfl, rfl, hml, hlh, hhb, hkx, S1, I⟩ := hrel
    by_cases hlt : lo < hi
    · have hltz : (lo : Int) < (hi : Int) := by omega
      obtain ⟨h, hh⟩ : ∃ h, h = (lo + hi) / 2 := ⟨_, rfl⟩
      have hz : ((lo : Int) + (hi : Int)) / 2 = (h : Int) := by omega
      have hb2 : lo ≤ h ∧ h < hi := by omega
      clear hh
      cases hL : ltOf cf dk[m]! dk[h]! with
      | false =>
        have eap : ((m : Int)).toNat = m := by omega
        have pap : (0 : Int) ≤ (m : Int) := by omega
        have bap : (m : Int) < (d0.size : Int) := by omega
        have rap : IntKind.i64.wrap ((m : Int)) = (m : Int) := by rw [IntKind.wrap_i64]; omega
        have ecp : ((h : Int)).toNat = h := by omega
        have pcp : (0 : Int) ≤ (h : Int) := by omega
        have bcp : (h : Int) < (d0.size : Int) := by omega
        have rcp : IntKind.i64.wrap ((h : Int)) = (h : Int) := by rw [IntKind.wrap_i64]; omega
        obtain ⟨xp, hxp⟩ : ∃ x, x = dk[m]! := ⟨_, rfl⟩
        obtain ⟨yp, hyp⟩ : ∃ x, x = dk[h]! := ⟨_, rfl⟩
        have lap0 : ∀ n os, (grow (wr.drewN n) os).cell? ⟨blk, off + (m), none⟩ = some (.int .i64 ((xp).val : Int)) := fun n os => by rw [hxp]; exact (cellsF (S1.out.grown n os) R HN2.out (m) (by omega)).1
        have lbp0 : ∀ n os, (grow (wr.drewN n) os).cell? ⟨blk, off + (h), none⟩ = some (.int .i64 ((yp).val : Int)) := fun n os => by rw [hyp]; exact (cellsF (S1.out.grown n os) R HN2.out (h) (by omega)).1
        have hcp := cmpF S1.out HC.out HN2.out xp yp
        have hvp : ¬ cf xp yp < 0 := by rw [hxp, hyp]; exact of_decide_eq_false hL
        have hdp : decide (cf xp yp < 0) = false := decide_eq_false hvp
        clear hxp hyp
        go_wp2_with fail
        go_quiet_grown (first | (go_at_fn g; refine Calls.grown_of (hcp _ _)))
        have S2 : Aside (SWK encF 1 w0 blk off dk (grow (wr.drewN nq) osq)) := S1.out.grown nq osq
        clear lap0 lbp0 hcp S1
        generalize grow (wr.drewN nq) osq = w2 at S2 ⊢
        clear nq osq

        go_wp2
        go_roundg (hi - (h + 1))
        case measure => omega
        case rel => exact ⟨h + 1, hi, by go_num, rfl, by omega, by omega, hhb, Nat.le_refl _, S2, ⟨Or.inr (by rw [Nat.add_sub_cancel]; exact hL), I.out.2⟩⟩
      | true =>
        have eaq : ((m : Int)).toNat = m := by omega
        have paq : (0 : Int) ≤ (m : Int) := by omega
        have baq : (m : Int) < (d0.size : Int) := by omega
        have raq : IntKind.i64.wrap ((m : Int)) = (m : Int) := by rw [IntKind.wrap_i64]; omega
        have ecq : ((h : Int)).toNat = h := by omega
        have pcq : (0 : Int) ≤ (h : Int) := by omega
        have bcq : (h : Int) < (d0.size : Int) := by omega
        have rcq : IntKind.i64.wrap ((h : Int)) = (h : Int) := by rw [IntKind.wrap_i64]; omega
        obtain ⟨xq, hxq⟩ : ∃ x, x = dk[m]! := ⟨_, rfl⟩
        obtain ⟨yq, hyq⟩ : ∃ x, x = dk[h]! := ⟨_, rfl⟩
        have laq0 : ∀ n os, (grow (wr.drewN n) os).cell? ⟨blk, off + (m), none⟩ = some (.int .i64 ((xq).val : Int)) := fun n os => by rw [hxq]; exact (cellsF (S1.out.grown n os) R HN2.out (m) (by omega)).1
        have lbq0 : ∀ n os, (grow (wr.drewN n) os).cell? ⟨blk, off + (h), none⟩ = some (.int .i64 ((yq).val : Int)) := fun n os => by rw [hyq]; exact (cellsF (S1.out.grown n os) R HN2.out (h) (by omega)).1
        have hcq := cmpF S1.out HC.out HN2.out xq yq
        have hvq : cf xq yq < 0 := by rw [hxq, hyq]; exact of_decide_eq_true hL
        have hdq : decide (cf xq yq < 0) = true := decide_eq_true hvq
        clear hxq hyq
        go_wp2_with fail
        go_quiet_grown (first | (go_at_fn g; refine Calls.grown_of (hcq _ _)))
        have S2 : Aside (SWK encF 1 w0 blk off dk (grow (wr.drewN nq) osq)) := S1.out.grown nq osq
        clear laq0 lbq0 hcq S1
        generalize grow (wr.drewN nq) osq = w2 at S2 ⊢
        clear nq osq

        go_wp2
        go_roundg (h - lo)
        case measure => omega
        case rel => exact ⟨lo, h, rfl, rfl, hml, by omega, by omega, Nat.le_refl _, S2, ⟨I.out.1, Or.inr hL⟩⟩
    · have hltz : ¬ (lo : Int) < (hi : Int) := by omega
      obtain rfl : lo = hi := by omega
      obtain ⟨L1, L2, hR, hR1, hSt⟩ := one_right HO.out p l s y SL.out a m lo HA.out (by have := HM.out; have := HA.out; omega) hml hhb dk DK.out I.out
      have hlen : L2.length = m - lo := by have := HM.out; have := HA.out; have := congrArg List.length hR; simp at this; omega
      have HR := Lib.hid hR
      have HR1 := Lib.hid hR1
      have HL2 := Lib.hid hlen
      have HST := Lib.hid hSt
      have S2 : Aside (SWK encF 1 w0 blk off (p ++ L1 ++ L2.take (m - lo) ++ y :: (L2.drop (m - lo) ++ s)).toArray wr) := by
        have := S1.out
        rw [DK.out, hR] at this
        show SWK encF 1 w0 blk off _ _
        rw [← hlen, List.take_length, List.drop_length]
        simpa using this
      clear S1 I hR hR1 hSt hlen
      go_wp2
      go_loopg [17] (m - lo) (fun kx s17 wr => ∃ (k : Nat) (dj : Array (Fin (NN + 1))), s17 = .int .i64 k ∧ lo ≤ k ∧ k ≤ m ∧ k - lo ≤ kx ∧ dj.size = d0.size ∧ Aside (SWK encF 1 w0 blk off dj wr) ∧ Hid (dj = (p ++ L1 ++ L2.take (k - lo) ++ y :: (L2.drop (k - lo) ++ s)).toArray))
      case atStart => exact ⟨m, _, rfl, hhb, Nat.le_refl _, Nat.le_refl _, by have := HN.out; have := HR.out; subst this; simp at *; omega, S2, rfl⟩
      case round =>
        clear S2
        obtain ⟨k, dj, rfl, hak, hkl, hkx, hs, S1, HD⟩ := hrel
        by_cases hlt2 : lo < k
        · have hltz2 : (lo : Int) < (k : Int) := by omega
          have ear : ((k : Int)).toNat = k := by omega
          have par : (0 : Int) ≤ (k : Int) := by omega
          have bar : (k : Int) < (d0.size : Int) := by omega
          have rar : IntKind.i64.wrap ((k : Int)) = (k : Int) := by rw [IntKind.wrap_i64]; omega
          have ecr : ((k : Int) - 1).toNat = k - 1 := by omega
          have pcr : (0 : Int) ≤ (k : Int) - 1 := by omega
          have bcr : (k : Int) - 1 < (d0.size : Int) := by omega
          have rcr : IntKind.i64.wrap ((k : Int) - 1) = (k : Int) - 1 := by rw [IntKind.wrap_i64]; omega
          obtain ⟨xr, hxr⟩ : ∃ x, x = dj[k]! := ⟨_, rfl⟩
          obtain ⟨yr, hyr⟩ : ∃ x, x = dj[k - 1]! := ⟨_, rfl⟩
          have S2 : Aside (SWK encF 1 w0 blk off (swp dj (k) (k - 1)) ((wr.setCell ⟨blk, off + (k), none⟩ (.int .i64 ((yr).val : Int))).setCell ⟨blk, off + (k - 1), none⟩ (.int .i64 ((xr).val : Int))).drew) := by rw [hxr, hyr]; have h := S1.out.swapped R (k) (k - 1) (by omega) (by omega); rw [Nat.mul_one, Nat.mul_one] at h; exact h
          have har := cellsF S1.out.drew R hs (k) (by omega)
          have hbr := cellsF S1.out.drew R hs (k - 1) (by omega)
          have hdr := cellsF S1.out R hs (k) (by omega)
          have her := cellsF S1.out R hs (k - 1) (by omega)
          rw [← hxr] at har hdr
          rw [← hyr] at hbr her
          obtain ⟨lar0, far0⟩ := har
          obtain ⟨lbr0, fbr0⟩ := hbr
          obtain ⟨ldr0, fdr0⟩ := hdr
          obtain ⟨ler0, fer0⟩ := her
          have ner00 : ¬ (off + (k - 1) = off + (k)) := by omega
          clear S1 hxr hyr
          go_wp2_with fail
          go_big_region_o
          clear lar0 far0 lbr0 fbr0 ldr0 fdr0 ler0 fer0
          generalize ((wr.setCell ⟨blk, off + (k), none⟩ (.int .i64 ((yr).val : Int))).setCell ⟨blk, off + (k - 1), none⟩ (.int .i64 ((xr).val : Int))).drew = w2 at S2 ⊢
          go_wp2

          go_roundg (k - 1 - lo)
          case measure => omega
          case rel =>
            refine ⟨k - 1, _, by congr 1; omega, by omega, by omega, Nat.le_refl _, ?_, S2, (show _ = _ from ?_)⟩
            · rw [size_swp]; exact hs
            · have := shift_left (p ++ L1) L2 s y (k - 1 - lo) (by have := HL2.out; omega) (a := k) (b := k - 1) (by have := HA.out; have := HR1.out; simp; omega) (by have := HA.out; have := HR1.out; simp; omega)
              rw [show k - 1 - lo + 1 = k - lo by omega] at this
              rw [HD.out, this]
        · have hltz2 : ¬ (lo : Int) < (k : Int) := by omega
          have e : k = lo := by omega
          subst e
          go_wp2
          (try simp only [Exit.inBlock, Exit.then])
          refine bodyPost_ret (results_none rfl _ _ _) rfl ?_
          refine ⟨rfl, L1 ++ y :: L2, HST.out, ?_⟩
          have h2 := S1.out
          rw [HD.out, Nat.sub_self, List.take_zero, List.drop_zero] at h2
          simpa using h2

end Go.Proofs.Ytagibgphegoagaa
