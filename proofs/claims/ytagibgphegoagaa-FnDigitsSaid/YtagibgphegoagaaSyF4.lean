/- slices.symMergeCmpFunc: two ascending neighbours become their stable arrangement (int). -/
import Derived.Test.YtagibgphegoagaaSwF
namespace Go.Proofs.Ytagibgphegoagaa
open Go.Shelf Go.RowKit Go.Lib Go.Sort StC
variable {NN : Nat}

set_option maxHeartbeats 40000000 in
set_option maxRecDepth 1000000 in
theorem symMergeF_4 (cf : (Fin (NN + 1)) → (Fin (NN + 1)) → Int) (hO : SWO (ltOf cf)) (g : Nat) (cb : Array Value) (blk off cap : Nat) (d0 : Array (Fin (NN + 1))) (w0 : World) (R : RowK encF 1 w0 blk off d0) (hsz : d0.size < 4611686018427387904)
    (eg : ∀ args w, (callFunc g args).run Try.prog w = .ok (.enter g args) w) (hcmp : CmpF Try.prog g cb cf blk off d0.size w0)
    (fuel : Nat) (ih : ∀ (p l r s : List (Fin (NN + 1))) (w : World), 0 < l.length → 0 < r.length → l.length + r.length ≤ fuel → l.Pairwise (fun a b => ltOf cf b a = false) → r.Pairwise (fun a b => ltOf cf b a = false) → d0.size = p.length + l.length + r.length + s.length →
    ∀ (az mz bz : Int), az = (p.length : Nat) → mz = (p.length + l.length : Nat) → bz = (p.length + l.length + r.length : Nat) → SWK encF 1 w0 blk off (p ++ l ++ r ++ s).toArray w →
    Calls Try.prog 196 #[.slice (some ⟨blk, off, none⟩) d0.size cap, .int .i64 az, .int .i64 mz, .int .i64 bz, .func (.func g) #[] cb] w fun e w' =>
      e = .returned (.tuple #[]) ∧ ∃ M, St (ltOf cf) (l ++ r) M ∧ SWK encF 1 w0 blk off (p ++ M ++ s).toArray w')
    (p l r s : List (Fin (NN + 1))) (w : World) (hl : 0 < l.length) (hr : 0 < r.length) (sl : l.Pairwise (fun a b => ltOf cf b a = false)) (sr : r.Pairwise (fun a b => ltOf cf b a = false)) (hN : d0.size = p.length + l.length + r.length + s.length)
    (az mz bz : Int) (haz : az = (p.length : Nat)) (hmz : mz = (p.length + l.length : Nat)) (hbz : bz = (p.length + l.length + r.length : Nat)) (S : SWK encF 1 w0 blk off (p ++ l ++ r ++ s).toArray w) (hf : l.length + r.length ≤ fuel + 1) (h1 : ¬ l.length = 1) (h2 : ¬ r.length = 1) (hg : ¬ (p.length + (p.length + l.length + r.length)) / 2 < p.length + l.length) :
    Calls Try.prog 196 #[.slice (some ⟨blk, off, none⟩) d0.size cap, .int .i64 az, .int .i64 mz, .int .i64 bz, .func (.func g) #[] cb] w fun e w' =>
      e = .returned (.tuple #[]) ∧ ∃ M, St (ltOf cf) (l ++ r) M ∧ SWK encF 1 w0 blk off (p ++ M ++ s).toArray w' := by
  obtain ⟨a, ha⟩ : ∃ a, a = p.length := ⟨_, rfl⟩
  obtain ⟨m, hm⟩ : ∃ m, m = p.length + l.length := ⟨_, rfl⟩
  obtain ⟨b, hb⟩ : ∃ b, b = p.length + l.length + r.length := ⟨_, rfl⟩
  rw [← ha] at haz
  rw [← hm] at hmz
  rw [← hb] at hbz
  subst haz hmz hbz
  have HC : Aside _ := hcmp
  obtain ⟨dk, hdk⟩ : ∃ dk, dk = (p ++ l ++ r ++ s).toArray := ⟨_, rfl⟩
  rw [← hdk] at S
  have S0 : Aside (SWK encF 1 w0 blk off dk w) := S
  have HN2 : Hid (dk.size = d0.size) := Lib.hid (by rw [hdk]; simp; omega)
  have DK := Lib.hid hdk
  have HO := Lib.hid hO
  have SL := Lib.hid sl
  have SR := Lib.hid sr
  have HN := Lib.hid hN
  have HA := Lib.hid ha
  have HM := Lib.hid hm
  have HB := Lib.hid hb
  have hn2 : dk.size = d0.size := HN2.out
  have bnd : a < m ∧ m < b ∧ b ≤ d0.size := by omega
  have mixed : Try.prog.follows .mixedOrders = true := by kernel_rfl
  have r1 : IntKind.i64.wrap ((m : Int) - (a : Int)) = (m : Int) - (a : Int) := by rw [IntKind.wrap_i64]; omega
  have r2 : IntKind.i64.wrap ((b : Int) - (m : Int)) = (b : Int) - (m : Int) := by rw [IntKind.wrap_i64]; omega
  have HF := Lib.hid hf
  have HROT := Lib.hid (fun (w : World) (p A B s : List (Fin (NN + 1))) hA hB hN az mz bz haz hmz hbz S => rotateF g cb blk off cap d0 w0 w R hsz p A B s hA hB hN az mz bz haz hmz hbz S)
  have HREC := Lib.hid ih
  have h1 : ¬ m = a + 1 := by omega
  have h2 : ¬ b = m + 1 := by omega
  have h1z : ¬ ((m : Int) - (a : Int) = 1) := by omega
  have h1b : ((m : Int) - (a : Int) == 1) = false := by simpa using h1z
  have h2z : ¬ ((b : Int) - (m : Int) = 1) := by omega
  have h2b : ((b : Int) - (m : Int) == 1) = false := by simpa using h2z
  obtain ⟨mid, hmid⟩ : ∃ mid, mid = (a + b) / 2 := ⟨_, rfl⟩
  have hg2 : ¬ mid < m := by rw [hmid, ha, hb, hm]; exact hg
  have hmidz : ((a : Int) + (b : Int)) / 2 = (mid : Int) := by omega
  have rab : IntKind.i64.wrap ((a : Int) + (b : Int)) = (a : Int) + (b : Int) := by rw [IntKind.wrap_i64]; omega
  have rau : IntKind.u64.wrap ((a : Int) + (b : Int)) = (a : Int) + (b : Int) := by simp [IntKind.wrap, IntKind.bits, IntKind.signed]; omega
  have rmid : IntKind.i64.wrap (mid : Int) = (mid : Int) := by rw [IntKind.wrap_i64]; omega
  have rmidu : IntKind.u64.wrap (mid : Int) = (mid : Int) := by simp [IntKind.wrap, IntKind.bits, IntKind.signed]; omega
  obtain ⟨n, hn⟩ : ∃ n, n = mid + m := ⟨_, rfl⟩
  have hnz : (mid : Int) + (m : Int) = (n : Int) := by omega
  obtain ⟨P, hP⟩ : ∃ P, P = mid + m - 1 := ⟨_, rfl⟩
  have hPz : (n : Int) - 1 = (P : Int) := by omega
  have HP := Lib.hid hP
  have hmid2 : 2 * mid ≤ a + b ∧ a + b ≤ 2 * mid + 1 := by omega
  have hmb : a < mid ∧ mid < b := by omega
  clear hg
  have hg := hg2
  clear hcmp S hdk hO sl sr hN ha hm hb hl hr ih hf h1 h2 hmid hn hP hg2
  go_enter Try.func196, Try.ntmps196
  have hgz : ¬ (mid : Int) < (m : Int) := by omega
  skip
  skip
  skip
  go_wp2
  go_loopg [20, 21] (m - a) (fun kx s20 s21 wr => ∃ lo hi : Nat, s20 = .int .i64 lo ∧ s21 = .int .i64 hi ∧ a ≤ lo ∧ lo ≤ hi ∧ hi ≤ m ∧ hi - lo ≤ kx ∧ Aside (SWK encF 1 w0 blk off dk wr) ∧ Hid ((lo = a ∨ ltOf cf dk[P - (lo - 1)]! dk[lo - 1]! = false) ∧ (hi = m ∨ ltOf cf dk[P - hi]! dk[hi]! = true)))
  case atStart => exact ⟨a, m, rfl, rfl, Nat.le_refl _, by omega, Nat.le_refl _, Nat.le_refl _, S0, ⟨Or.inl rfl, Or.inl rfl⟩⟩
  case round =>
    clear S0
    obtain ⟨lo, hi, rfl, rfl, hml, hlh, hhb, hkx, S1, I⟩ := hrel
    by_cases hlt : lo < hi
    · have hltz : (lo : Int) < (hi : Int) := by omega
      obtain ⟨h, hh⟩ : ∃ h, h = (lo + hi) / 2 := ⟨_, rfl⟩
      have hz : ((lo : Int) + (hi : Int)) / 2 = (h : Int) := by omega
      have hb2 : lo ≤ h ∧ h < hi := by omega
      obtain ⟨q, hq⟩ : ∃ q, q = P - h := ⟨_, rfl⟩
      have hqz : (P : Int) - (h : Int) = (q : Int) := by omega
      have hqb : q < d0.size := by omega
      have HQE := Lib.hid hq
      clear hh hq
      cases hL : ltOf cf dk[q]! dk[h]! with
      | false =>
        have eap : ((q : Int)).toNat = q := by omega
        have pap : (0 : Int) ≤ (q : Int) := by omega
        have bap : (q : Int) < (d0.size : Int) := by omega
        have rap : IntKind.i64.wrap ((q : Int)) = (q : Int) := by rw [IntKind.wrap_i64]; omega
        have ecp : ((h : Int)).toNat = h := by omega
        have pcp : (0 : Int) ≤ (h : Int) := by omega
        have bcp : (h : Int) < (d0.size : Int) := by omega
        have rcp : IntKind.i64.wrap ((h : Int)) = (h : Int) := by rw [IntKind.wrap_i64]; omega
        obtain ⟨xp, hxp⟩ : ∃ x, x = dk[q]! := ⟨_, rfl⟩
        obtain ⟨yp, hyp⟩ : ∃ x, x = dk[h]! := ⟨_, rfl⟩
        have lap0 : ∀ n os, (grow (wr.drewN n) os).cell? ⟨blk, off + (q), none⟩ = some (.int .i64 ((xp).val : Int)) := fun n os => by rw [hxp]; exact (cellsF (S1.out.grown n os) R HN2.out (q) (by omega)).1
        have lbp0 : ∀ n os, (grow (wr.drewN n) os).cell? ⟨blk, off + (h), none⟩ = some (.int .i64 ((yp).val : Int)) := fun n os => by rw [hyp]; exact (cellsF (S1.out.grown n os) R HN2.out (h) (by omega)).1
        have hcp := cmpF S1.out HC.out HN2.out xp yp
        have hvp : ¬ cf xp yp < 0 := by rw [hxp, hyp]; exact of_decide_eq_false hL
        have hdp : decide (cf xp yp < 0) = false := decide_eq_false hvp
        clear hxp hyp
        go_wp2_with fail
        go_quiet_grown (first | (go_at_fn g; refine Calls.grown_of (hcp _ _)))
        have S2 : Aside (SWK encF 1 w0 blk off dk (grow (wr.drewN nq) osq)) := S1.out.grown nq osq
        clear lap0 lbp0 hcp S1
        generalize grow (wr.drewN nq) osq = w2 at S2 ⊢
        clear nq osq

        go_wp2
        go_roundg (hi - (h + 1))
        case measure => omega
        case rel => exact ⟨h + 1, hi, by go_num, rfl, by omega, by omega, hhb, Nat.le_refl _, S2, ⟨Or.inr (by rw [Nat.add_sub_cancel, ← HQE.out]; exact hL), I.out.2⟩⟩
      | true =>
        have eaq : ((q : Int)).toNat = q := by omega
        have paq : (0 : Int) ≤ (q : Int) := by omega
        have baq : (q : Int) < (d0.size : Int) := by omega
        have raq : IntKind.i64.wrap ((q : Int)) = (q : Int) := by rw [IntKind.wrap_i64]; omega
        have ecq : ((h : Int)).toNat = h := by omega
        have pcq : (0 : Int) ≤ (h : Int) := by omega
        have bcq : (h : Int) < (d0.size : Int) := by omega
        have rcq : IntKind.i64.wrap ((h : Int)) = (h : Int) := by rw [IntKind.wrap_i64]; omega
        obtain ⟨xq, hxq⟩ : ∃ x, x = dk[q]! := ⟨_, rfl⟩
        obtain ⟨yq, hyq⟩ : ∃ x, x = dk[h]! := ⟨_, rfl⟩
        have laq0 : ∀ n os, (grow (wr.drewN n) os).cell? ⟨blk, off + (q), none⟩ = some (.int .i64 ((xq).val : Int)) := fun n os => by rw [hxq]; exact (cellsF (S1.out.grown n os) R HN2.out (q) (by omega)).1
        have lbq0 : ∀ n os, (grow (wr.drewN n) os).cell? ⟨blk, off + (h), none⟩ = some (.int .i64 ((yq).val : Int)) := fun n os => by rw [hyq]; exact (cellsF (S1.out.grown n os) R HN2.out (h) (by omega)).1
        have hcq := cmpF S1.out HC.out HN2.out xq yq
        have hvq : cf xq yq < 0 := by rw [hxq, hyq]; exact of_decide_eq_true hL
        have hdq : decide (cf xq yq < 0) = true := decide_eq_true hvq
        clear hxq hyq
        go_wp2_with fail
        go_quiet_grown (first | (go_at_fn g; refine Calls.grown_of (hcq _ _)))
        have S2 : Aside (SWK encF 1 w0 blk off dk (grow (wr.drewN nq) osq)) := S1.out.grown nq osq
        clear laq0 lbq0 hcq S1
        generalize grow (wr.drewN nq) osq = w2 at S2 ⊢
        clear nq osq

        go_wp2
        go_roundg (h - lo)
        case measure => omega
        case rel => exact ⟨lo, h, rfl, rfl, hml, by omega, by omega, Nat.le_refl _, S2, ⟨I.out.1, Or.inr (by rw [← HQE.out]; exact hL)⟩⟩
    · have hltz : ¬ (lo : Int) < (hi : Int) := by omega
      obtain rfl : lo = hi := by omega
      obtain ⟨c, hc⟩ : ∃ c, c = lo := ⟨_, rfl⟩
      subst hc
      obtain ⟨e, he⟩ : ∃ e, e = mid + m - c := ⟨_, rfl⟩
      have hez : (n : Int) - (c : Int) = (e : Int) := by omega
      clear he
      have hcb : a ≤ c ∧ c ≤ m ∧ c ≤ mid ∧ mid + m ≤ c + b := by omega
      obtain ⟨L1, L2, R1, R2, hl1, hr1, hn1, hn2, hsp⟩ := sym_cut HO.out p l r s SL.out SR.out a m b mid c HA.out (by have := HM.out; have := HA.out; omega) (by have := HB.out; have := HM.out; omega) hcb.1 hcb.2.1 hcb.2.2.1 hcb.2.2.2 dk DK.out
        (by rcases I.out.1 with h | h
            · left; exact h
            · right; right; rw [HP.out] at h; exact h)
        (by rcases I.out.2 with h | h
            · right; left; exact h
            · right; right; rw [HP.out] at h; exact h)
      subst hl1 hr1
      have HSP := Lib.hid hsp
      have HLN : Hid (L1.length = c - a ∧ L2.length = m - c ∧ R1.length = mid - c ∧ R2.length = b - e ∧ a + L1.length = c ∧ c + L2.length = m ∧ m + R1.length = e ∧ e + R2.length = b ∧ c + R1.length = mid ∧ L1.length + R1.length ≤ fuel ∧ L2.length + R2.length ≤ fuel) := by
        have h1 := HM.out
        have h2 := HB.out
        have h3 := HA.out
        have h4 := HF.out
        show _ ∧ _
        simp only [List.length_append] at h1 h2 h4
        refine ⟨hn1, ?_, hn2, ?_, ?_, ?_, ?_, ?_, ?_, ?_, ?_⟩ <;> omega
      have HSL1 := Lib.hid (List.pairwise_append.1 SL.out).1
      have HSL2 := Lib.hid (List.pairwise_append.1 SL.out).2.1
      have HSR1 := Lib.hid (List.pairwise_append.1 SR.out).1
      have HSR2 := Lib.hid (List.pairwise_append.1 SR.out).2.1
      have S2 : Aside (SWK encF 1 w0 blk off (p ++ (L1 ++ L2) ++ (R1 ++ R2) ++ s).toArray wr) := by have := S1.out; rw [DK.out] at this; exact this
      clear S1 I hsp hn1 hn2
      have S1 := S2
      clear S2
      go_upto_region 39 with fail
      clear bnd hn2 h1z h1b h2z h2b hmidz hmid2 rab rau rmid rmidu hnz hPz hmb hg hgz hltz hlt hml hlh hhb hkx r1 r2
      go_cut [185] from 178 to 185 (fun sx wx => sx = .bool (decide (c < m ∧ c < mid)) ∧ wx = wr)
      case first =>
        by_cases hA : c < m
        · have q1 : (c : Int) < (m : Int) := by have := HLN.out; omega
          by_cases hB : c < mid
          · have q2 : (m : Int) < (e : Int) := by have := HLN.out; omega
            go_wp2_with fail
            go_meet
            exact ⟨by rw [decide_eq_true (show c < m ∧ c < mid from ⟨hA, hB⟩)], rfl⟩
          · have q2 : ¬ ((m : Int) < (e : Int)) := by have := HLN.out; omega
            go_wp2_with fail
            go_meet
            exact ⟨by rw [decide_eq_false (show ¬ (c < m ∧ c < mid) from fun h => hB h.2)], rfl⟩
        · have q1 : ¬ ((c : Int) < (m : Int)) := by have := HLN.out; omega
          go_wp2_with fail
          go_meet
          exact ⟨by rw [decide_eq_false (show ¬ (c < m ∧ c < mid) from fun h => hA h.1)], rfl⟩
      case rest =>
        obtain ⟨rfl, rfl⟩ := hcut
        go_upto_if 185 with fail
        go_cut [] from 185 to 191 (fun wx => Aside (SWK encF 1 w0 blk off (p ++ L1 ++ R1 ++ L2 ++ R2 ++ s).toArray wx))
        case first =>
          by_cases hA : c < m ∧ c < mid
          · have q1 : decide (c < m ∧ c < mid) = true := decide_eq_true hA
            have HQ := Lib.hid (HROT.out wc (p ++ L1) L2 R1 (R2 ++ s) (by have := HLN.out; omega) (by have := HLN.out; omega) (by have k1 := HLN.out; have k2 := HN.out; have k3 := HA.out; simp only [List.length_append] at k2 ⊢; omega) c m e (by have k1 := HLN.out; have k2 := HN.out; have k3 := HA.out; simp only [List.length_append] at k2 ⊢; omega) (by have k1 := HLN.out; have k2 := HN.out; have k3 := HA.out; simp only [List.length_append] at k2 ⊢; omega) (by have k1 := HLN.out; have k2 := HN.out; have k3 := HA.out; simp only [List.length_append] at k2 ⊢; omega) (by have := S1.out; simpa using this))
            clear hA
            rw [q1]
            go_wp2_with fail
            refine (HQ.out).mono ?_
            rintro ex w2 ⟨rfl, S2⟩
            have S3 : Aside (SWK encF 1 w0 blk off (p ++ L1 ++ R1 ++ L2 ++ R2 ++ s).toArray w2) := by show SWK encF 1 w0 blk off _ _; simpa using S2
            clear S1 S2 HQ
            go_wp2_with fail
            go_meet
            exact S3
          · have q1 : decide (c < m ∧ c < mid) = false := decide_eq_false hA
            have S3 : Aside (SWK encF 1 w0 blk off (p ++ L1 ++ R1 ++ L2 ++ R2 ++ s).toArray wc) := by
              have h := S1.out
              show SWK encF 1 w0 blk off _ _
              by_cases hB : c < m
              · obtain rfl : R1 = [] := List.length_eq_zero_iff.1 (by have := HLN.out; omega)
                simpa using h
              · obtain rfl : L2 = [] := List.length_eq_zero_iff.1 (by have := HLN.out; omega)
                simpa using h
            clear S1 hA
            rw [q1]
            go_wp2_with fail
            go_meet
            exact S3
        case rest =>
          clear S1
          have S3 := hcut
          clear hcut
          go_upto_region 41 with fail
          go_cut [199] from 192 to 199 (fun sx wx => sx = .bool (decide (a < c ∧ c < mid)) ∧ wx = wc)
          case first =>
            by_cases hA : a < c
            · have q1 : (a : Int) < (c : Int) := by have := HLN.out; omega
              by_cases hB : c < mid
              · have q2 : (c : Int) < (mid : Int) := by have := HLN.out; omega
                go_wp2_with fail
                go_meet
                exact ⟨by rw [decide_eq_true (show a < c ∧ c < mid from ⟨hA, hB⟩)], rfl⟩
              · have q2 : ¬ ((c : Int) < (mid : Int)) := by have := HLN.out; omega
                go_wp2_with fail
                go_meet
                exact ⟨by rw [decide_eq_false (show ¬ (a < c ∧ c < mid) from fun h => hB h.2)], rfl⟩
            · have q1 : ¬ ((a : Int) < (c : Int)) := by have := HLN.out; omega
              go_wp2_with fail
              go_meet
              exact ⟨by rw [decide_eq_false (show ¬ (a < c ∧ c < mid) from fun h => hA h.1)], rfl⟩
          case rest =>
            obtain ⟨rfl, rfl⟩ := hcut
            go_upto_if 199 with fail
            go_cut [] from 199 to 205 (fun wx => ∃ X, Hid (St (ltOf cf) (L1 ++ R1) X) ∧ Aside (SWK encF 1 w0 blk off (p ++ X ++ L2 ++ R2 ++ s).toArray wx))
            case first =>
              by_cases hA : a < c ∧ c < mid
              · have q1 : decide (a < c ∧ c < mid) = true := decide_eq_true hA
                have HQ := Lib.hid (HREC.out p L1 R1 (L2 ++ R2 ++ s) wc (by have := HLN.out; omega) (by have := HLN.out; omega) (by have := HLN.out; omega) HSL1.out HSR1.out (by have k1 := HLN.out; have k2 := HN.out; have k3 := HA.out; simp only [List.length_append] at k2 ⊢; omega) a c mid (by have := HA.out; omega) (by have k1 := HLN.out; have k2 := HN.out; have k3 := HA.out; simp only [List.length_append] at k2 ⊢; omega) (by have k1 := HLN.out; have k2 := HN.out; have k3 := HA.out; simp only [List.length_append] at k2 ⊢; omega) (by have := S3.out; simpa using this))
                clear hA
                rw [q1]
                go_wp2_with fail
                refine (HQ.out).mono ?_
                rintro ex w3 ⟨rfl, X, hX, S4⟩
                have HX := Lib.hid hX
                have S5 : Aside (SWK encF 1 w0 blk off (p ++ X ++ L2 ++ R2 ++ s).toArray w3) := by show SWK encF 1 w0 blk off _ _; simpa using S4
                clear S3 S4 HQ hX
                go_wp2_with fail
                go_meet
                exact ⟨X, HX, S5⟩
              · have q1 : decide (a < c ∧ c < mid) = false := decide_eq_false hA
                have HE : ∃ X, Hid (St (ltOf cf) (L1 ++ R1) X) ∧ Aside (SWK encF 1 w0 blk off (p ++ X ++ L2 ++ R2 ++ s).toArray wc) := by
                  have h := S3.out
                  by_cases hB : a < c
                  · obtain rfl : R1 = [] := List.length_eq_zero_iff.1 (by have := HLN.out; omega)
                    exact ⟨L1, (show St _ _ _ by simpa using St.self HSL1.out), (show SWK encF 1 w0 blk off _ _ by simpa using h)⟩
                  · obtain rfl : L1 = [] := List.length_eq_zero_iff.1 (by have := HLN.out; omega)
                    exact ⟨R1, (show St _ _ _ by simpa using St.self HSR1.out), (show SWK encF 1 w0 blk off _ _ by simpa using h)⟩
                clear S3 hA
                rw [q1]
                go_wp2_with fail
                go_meet
                exact HE
            case rest =>
              clear S3
              obtain ⟨X, HX, S5⟩ := hcut
              go_upto_region 43 with fail
              go_cut [213] from 206 to 213 (fun sx wx => sx = .bool (decide (mid < e ∧ e < b)) ∧ wx = wc)
              case first =>
                by_cases hA : mid < e
                · have q1 : (mid : Int) < (e : Int) := by have := HLN.out; omega
                  by_cases hB : e < b
                  · have q2 : (e : Int) < (b : Int) := by have := HLN.out; omega
                    go_wp2_with fail
                    go_meet
                    exact ⟨by rw [decide_eq_true (show mid < e ∧ e < b from ⟨hA, hB⟩)], rfl⟩
                  · have q2 : ¬ ((e : Int) < (b : Int)) := by have := HLN.out; omega
                    go_wp2_with fail
                    go_meet
                    exact ⟨by rw [decide_eq_false (show ¬ (mid < e ∧ e < b) from fun h => hB h.2)], rfl⟩
                · have q1 : ¬ ((mid : Int) < (e : Int)) := by have := HLN.out; omega
                  go_wp2_with fail
                  go_meet
                  exact ⟨by rw [decide_eq_false (show ¬ (mid < e ∧ e < b) from fun h => hA h.1)], rfl⟩
              case rest =>
                obtain ⟨rfl, rfl⟩ := hcut
                by_cases hA : mid < e ∧ e < b
                · have q1 : decide (mid < e ∧ e < b) = true := decide_eq_true hA
                  have HQ := Lib.hid (HREC.out (p ++ X) L2 R2 s wc (by have := HLN.out; omega) (by have := HLN.out; omega) (by have := HLN.out; omega) HSL2.out HSR2.out (by have k1 := HLN.out; have k2 := HN.out; have k3 := HA.out; have k4 := HX.out.len; simp only [List.length_append] at k2 k4 ⊢; omega) mid e b (by have k1 := HLN.out; have k2 := HN.out; have k3 := HA.out; have k4 := HX.out.len; simp only [List.length_append] at k2 k4 ⊢; omega) (by have k1 := HLN.out; have k2 := HN.out; have k3 := HA.out; have k4 := HX.out.len; simp only [List.length_append] at k2 k4 ⊢; omega) (by have k1 := HLN.out; have k2 := HN.out; have k3 := HA.out; have k4 := HX.out.len; simp only [List.length_append] at k2 k4 ⊢; omega) (by have := S5.out; simpa using this))
                  clear hA
                  rw [q1]
                  go_wp2_with fail
                  refine (HQ.out).mono ?_
                  rintro ex w4 ⟨rfl, Y, hY, S6⟩
                  have HY := Lib.hid hY
                  have S7 : Aside (SWK encF 1 w0 blk off (p ++ X ++ Y ++ s).toArray w4) := S6
                  clear S5 S6 HQ hY
                  go_wp2_with fail
                  go_end0
                  exact ⟨rfl, X ++ Y, HSP.out X Y HX.out HY.out, by have := S7.out; simpa using this⟩
                · have q1 : decide (mid < e ∧ e < b) = false := decide_eq_false hA
                  have HE : ∃ M, St (ltOf cf) (L1 ++ L2 ++ (R1 ++ R2)) M ∧ SWK encF 1 w0 blk off (p ++ M ++ s).toArray wc := by
                    have h := S5.out
                    by_cases hB : mid < e
                    · obtain rfl : R2 = [] := List.length_eq_zero_iff.1 (by have := HLN.out; omega)
                      exact ⟨X ++ L2, HSP.out X L2 HX.out (by simpa using St.self HSL2.out), by simpa using h⟩
                    · obtain rfl : L2 = [] := List.length_eq_zero_iff.1 (by have := HLN.out; omega)
                      exact ⟨X ++ R2, HSP.out X R2 HX.out (by simpa using St.self HSR2.out), by simpa using h⟩
                  have HEH := Lib.hid HE
                  clear S5 hA HE
                  rw [q1]
                  go_wp2_with fail
                  go_end0
                  exact ⟨rfl, HEH.out⟩

end Go.Proofs.Ytagibgphegoagaa
