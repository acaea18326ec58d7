/- slices.symMergeCmpFunc: two ascending neighbours become their stable arrangement (int). -/
import Derived.Test.YtagibgphegoagaaSwF
namespace Go.Proofs.Ytagibgphegoagaa
open Go.Shelf Go.RowKit Go.Lib Go.Sort StC
variable {NN : Nat}

set_option maxHeartbeats 40000000 in
set_option maxRecDepth 1000000 in
theorem symMergeF_1 (cf : (Fin (NN + 1)) → (Fin (NN + 1)) → Int) (hO : SWO (ltOf cf)) (g : Nat) (cb : Array Value) (blk off cap : Nat) (d0 : Array (Fin (NN + 1))) (w0 : World) (R : RowK encF 1 w0 blk off d0) (hsz : d0.size < 4611686018427387904)
    (eg : ∀ args w, (callFunc g args).run Try.prog w = .ok (.enter g args) w) (hcmp : CmpF Try.prog g cb cf blk off d0.size w0)
    (p l r s : List (Fin (NN + 1))) (w : World) (_hl : 0 < l.length) (hr : 0 < r.length) (sl : l.Pairwise (fun a b => ltOf cf b a = false)) (sr : r.Pairwise (fun a b => ltOf cf b a = false)) (hN : d0.size = p.length + l.length + r.length + s.length)
    (az mz bz : Int) (haz : az = (p.length : Nat)) (hmz : mz = (p.length + l.length : Nat)) (hbz : bz = (p.length + l.length + r.length : Nat)) (S : SWK encF 1 w0 blk off (p ++ l ++ r ++ s).toArray w) (h1 : l.length = 1) :
    Calls Try.prog 196 #[.slice (some ⟨blk, off, none⟩) d0.size cap, .int .i64 az, .int .i64 mz, .int .i64 bz, .func (.func g) #[] cb] w fun e w' =>
      e = .returned (.tuple #[]) ∧ ∃ M, St (ltOf cf) (l ++ r) M ∧ SWK encF 1 w0 blk off (p ++ M ++ s).toArray w' := by
  obtain ⟨a, ha⟩ : ∃ a, a = p.length := ⟨_, rfl⟩
  obtain ⟨m, hm⟩ : ∃ m, m = p.length + l.length := ⟨_, rfl⟩
  obtain ⟨b, hb⟩ : ∃ b, b = p.length + l.length + r.length := ⟨_, rfl⟩
  rw [← ha] at haz
  rw [← hm] at hmz
  rw [← hb] at hbz
  subst haz hmz hbz
  have HC : Aside _ := hcmp
  obtain ⟨dk, hdk⟩ : ∃ dk, dk = (p ++ l ++ r ++ s).toArray := ⟨_, rfl⟩
  rw [← hdk] at S
  have S0 : Aside (SWK encF 1 w0 blk off dk w) := S
  have HN2 : Hid (dk.size = d0.size) := Lib.hid (by rw [hdk]; simp; omega)
  have DK := Lib.hid hdk
  have HO := Lib.hid hO
  have SL := Lib.hid sl
  have SR := Lib.hid sr
  have HN := Lib.hid hN
  have HA := Lib.hid ha
  have HM := Lib.hid hm
  have HB := Lib.hid hb
  have hn2 : dk.size = d0.size := HN2.out
  have bnd : a < m ∧ m < b ∧ b ≤ d0.size := by omega
  have mixed : Try.prog.follows .mixedOrders = true := by kernel_rfl
  have r1 : IntKind.i64.wrap ((m : Int) - (a : Int)) = (m : Int) - (a : Int) := by rw [IntKind.wrap_i64]; omega
  have r2 : IntKind.i64.wrap ((b : Int) - (m : Int)) = (b : Int) - (m : Int) := by rw [IntKind.wrap_i64]; omega
  have H1 : Hid (m = a + 1) := Lib.hid (by omega)
  have h1z : (m : Int) - (a : Int) = 1 := by have := H1.out; omega
  clear hcmp S hdk hO sl sr hN ha hm hb _hl hr h1
  go_enter Try.func196, Try.ntmps196
  obtain ⟨x, rfl⟩ : ∃ x, l = [x] := List.length_eq_one_iff.1 (by have := HM.out; have := HA.out; have := H1.out; omega)
  go_wp2
  clear h1z
  go_loopg [10, 11] (b - m) (fun kx s10 s11 wr => ∃ lo hi : Nat, s10 = .int .i64 lo ∧ s11 = .int .i64 hi ∧ m ≤ lo ∧ lo ≤ hi ∧ hi ≤ b ∧ hi - lo ≤ kx ∧ Aside (SWK encF 1 w0 blk off dk wr) ∧ Hid ((lo = m ∨ ltOf cf dk[lo - 1]! dk[a]! = true) ∧ (hi = b ∨ ltOf cf dk[hi]! dk[a]! = false)))
  case atStart => exact ⟨m, b, rfl, rfl, Nat.le_refl _, by omega, Nat.le_refl _, Nat.le_refl _, S0, ⟨Or.inl rfl, Or.inl rfl⟩⟩
  case round =>
    clear S0
    obtain ⟨lo, hi, rfl, rfl, hml, hlh, hhb, hkx, S1, I⟩ := hrel
    by_cases hlt : lo < hi
    · have hltz : (lo : Int) < (hi : Int) := by omega
      obtain ⟨h, hh⟩ : ∃ h, h = (lo + hi) / 2 := ⟨_, rfl⟩
      have hz : ((lo : Int) + (hi : Int)) / 2 = (h : Int) := by omega
      have hb2 : lo ≤ h ∧ h < hi := by omega
      clear hh
      cases hL : ltOf cf dk[h]! dk[a]! with
      | true =>
        have eap : ((h : Int)).toNat = h := by omega
        have pap : (0 : Int) ≤ (h : Int) := by omega
        have bap : (h : Int) < (d0.size : Int) := by omega
        have rap : IntKind.i64.wrap ((h : Int)) = (h : Int) := by rw [IntKind.wrap_i64]; omega
        have ecp : ((a : Int)).toNat = a := by omega
        have pcp : (0 : Int) ≤ (a : Int) := by omega
        have bcp : (a : Int) < (d0.size : Int) := by omega
        have rcp : IntKind.i64.wrap ((a : Int)) = (a : Int) := by rw [IntKind.wrap_i64]; omega
        obtain ⟨xp, hxp⟩ : ∃ x, x = dk[h]! := ⟨_, rfl⟩
        obtain ⟨yp, hyp⟩ : ∃ x, x = dk[a]! := ⟨_, rfl⟩
        have lap0 : ∀ n os, (grow (wr.drewN n) os).cell? ⟨blk, off + (h), none⟩ = some (.int .i64 ((xp).val : Int)) := fun n os => by rw [hxp]; exact (cellsF (S1.out.grown n os) R HN2.out (h) (by omega)).1
        have lbp0 : ∀ n os, (grow (wr.drewN n) os).cell? ⟨blk, off + (a), none⟩ = some (.int .i64 ((yp).val : Int)) := fun n os => by rw [hyp]; exact (cellsF (S1.out.grown n os) R HN2.out (a) (by omega)).1
        have hcp := cmpF S1.out HC.out HN2.out xp yp
        have hvp : cf xp yp < 0 := by rw [hxp, hyp]; exact of_decide_eq_true hL
        have hdp : decide (cf xp yp < 0) = true := decide_eq_true hvp
        clear hxp hyp
        go_wp2_with fail
        go_quiet_grown (first | (go_at_fn g; refine Calls.grown_of (hcp _ _)))
        have S2 : Aside (SWK encF 1 w0 blk off dk (grow (wr.drewN nq) osq)) := S1.out.grown nq osq
        clear lap0 lbp0 hcp S1
        generalize grow (wr.drewN nq) osq = w2 at S2 ⊢
        clear nq osq

        go_wp2
        go_roundg (hi - (h + 1))
        case measure => omega
        case rel => exact ⟨h + 1, hi, by go_num, rfl, by omega, by omega, hhb, Nat.le_refl _, S2, ⟨Or.inr (by rw [Nat.add_sub_cancel]; exact hL), I.out.2⟩⟩
      | false =>
        have eaq : ((h : Int)).toNat = h := by omega
        have paq : (0 : Int) ≤ (h : Int) := by omega
        have baq : (h : Int) < (d0.size : Int) := by omega
        have raq : IntKind.i64.wrap ((h : Int)) = (h : Int) := by rw [IntKind.wrap_i64]; omega
        have ecq : ((a : Int)).toNat = a := by omega
        have pcq : (0 : Int) ≤ (a : Int) := by omega
        have bcq : (a : Int) < (d0.size : Int) := by omega
        have rcq : IntKind.i64.wrap ((a : Int)) = (a : Int) := by rw [IntKind.wrap_i64]; omega
        obtain ⟨xq, hxq⟩ : ∃ x, x = dk[h]! := ⟨_, rfl⟩
        obtain ⟨yq, hyq⟩ : ∃ x, x = dk[a]! := ⟨_, rfl⟩
        have laq0 : ∀ n os, (grow (wr.drewN n) os).cell? ⟨blk, off + (h), none⟩ = some (.int .i64 ((xq).val : Int)) := fun n os => by rw [hxq]; exact (cellsF (S1.out.grown n os) R HN2.out (h) (by omega)).1
        have lbq0 : ∀ n os, (grow (wr.drewN n) os).cell? ⟨blk, off + (a), none⟩ = some (.int .i64 ((yq).val : Int)) := fun n os => by rw [hyq]; exact (cellsF (S1.out.grown n os) R HN2.out (a) (by omega)).1
        have hcq := cmpF S1.out HC.out HN2.out xq yq
        have hvq : ¬ cf xq yq < 0 := by rw [hxq, hyq]; exact of_decide_eq_false hL
        have hdq : decide (cf xq yq < 0) = false := decide_eq_false hvq
        clear hxq hyq
        go_wp2_with fail
        go_quiet_grown (first | (go_at_fn g; refine Calls.grown_of (hcq _ _)))
        have S2 : Aside (SWK encF 1 w0 blk off dk (grow (wr.drewN nq) osq)) := S1.out.grown nq osq
        clear laq0 lbq0 hcq S1
        generalize grow (wr.drewN nq) osq = w2 at S2 ⊢
        clear nq osq

        go_wp2
        go_roundg (h - lo)
        case measure => omega
        case rel => exact ⟨lo, h, rfl, rfl, hml, by omega, by omega, Nat.le_refl _, S2, ⟨I.out.1, Or.inr hL⟩⟩
    · have hltz : ¬ (lo : Int) < (hi : Int) := by omega
      obtain rfl : lo = hi := by omega
      obtain ⟨R1, R2, hR, hR1, hSt⟩ := one_left HO.out p r s x SR.out a m b lo HA.out H1.out (by have := HB.out; have := HM.out; omega) hml hhb dk DK.out I.out
      have HR := Lib.hid hR
      have HR1 := Lib.hid hR1
      have HST := Lib.hid hSt
      have S2 : Aside (SWK encF 1 w0 blk off (p ++ R1.take (a - a) ++ x :: (R1.drop (a - a) ++ (R2 ++ s))).toArray wr) := by
        have := S1.out
        rw [DK.out, hR] at this
        show SWK encF 1 w0 blk off _ _
        rw [Nat.sub_self]
        simpa using this
      have hlow : IntKind.i64.wrap ((lo : Int) - 1) = (lo : Int) - 1 := by rw [IntKind.wrap_i64]; omega
      clear S1 I hR hR1 hSt
      go_wp2
      go_loopg [13] (lo - 1 - a) (fun kx s13 wr => ∃ (k : Nat) (dj : Array (Fin (NN + 1))), s13 = .int .i64 k ∧ a ≤ k ∧ k ≤ lo - 1 ∧ lo - 1 - k ≤ kx ∧ dj.size = d0.size ∧ Aside (SWK encF 1 w0 blk off dj wr) ∧ Hid (dj = (p ++ R1.take (k - a) ++ x :: (R1.drop (k - a) ++ (R2 ++ s))).toArray))
      case atStart => exact ⟨a, _, rfl, Nat.le_refl _, by omega, Nat.le_refl _, by have := HN.out; have := HR.out; subst this; simp at *; omega, S2, rfl⟩
      case round =>
        clear S2
        obtain ⟨k, dj, rfl, hak, hkl, hkx, hs, S1, HD⟩ := hrel
        by_cases hlt2 : k < lo - 1
        · have hltz2 : (k : Int) < (lo : Int) - 1 := by omega
          have ear : ((k : Int)).toNat = k := by omega
          have par : (0 : Int) ≤ (k : Int) := by omega
          have bar : (k : Int) < (d0.size : Int) := by omega
          have rar : IntKind.i64.wrap ((k : Int)) = (k : Int) := by rw [IntKind.wrap_i64]; omega
          have ecr : ((k : Int) + 1).toNat = k + 1 := by omega
          have pcr : (0 : Int) ≤ (k : Int) + 1 := by omega
          have bcr : (k : Int) + 1 < (d0.size : Int) := by omega
          have rcr : IntKind.i64.wrap ((k : Int) + 1) = (k : Int) + 1 := by rw [IntKind.wrap_i64]; omega
          obtain ⟨xr, hxr⟩ : ∃ x, x = dj[k]! := ⟨_, rfl⟩
          obtain ⟨yr, hyr⟩ : ∃ x, x = dj[k + 1]! := ⟨_, rfl⟩
          have S2 : Aside (SWK encF 1 w0 blk off (swp dj (k) (k + 1)) ((wr.setCell ⟨blk, off + (k), none⟩ (.int .i64 ((yr).val : Int))).setCell ⟨blk, off + (k + 1), none⟩ (.int .i64 ((xr).val : Int))).drew) := by rw [hxr, hyr]; have h := S1.out.swapped R (k) (k + 1) (by omega) (by omega); rw [Nat.mul_one, Nat.mul_one] at h; exact h
          have har := cellsF S1.out.drew R hs (k) (by omega)
          have hbr := cellsF S1.out.drew R hs (k + 1) (by omega)
          have hdr := cellsF S1.out R hs (k) (by omega)
          have her := cellsF S1.out R hs (k + 1) (by omega)
          rw [← hxr] at har hdr
          rw [← hyr] at hbr her
          obtain ⟨lar0, far0⟩ := har
          obtain ⟨lbr0, fbr0⟩ := hbr
          obtain ⟨ldr0, fdr0⟩ := hdr
          obtain ⟨ler0, fer0⟩ := her
          have ner00 : ¬ (off + (k + 1) = off + (k)) := by omega
          clear S1 hxr hyr
          go_wp2_with fail
          go_big_region_o
          clear lar0 far0 lbr0 fbr0 ldr0 fdr0 ler0 fer0
          generalize ((wr.setCell ⟨blk, off + (k), none⟩ (.int .i64 ((yr).val : Int))).setCell ⟨blk, off + (k + 1), none⟩ (.int .i64 ((xr).val : Int))).drew = w2 at S2 ⊢
          go_wp2

          go_roundg (lo - 1 - (k + 1))
          case measure => omega
          case rel =>
            refine ⟨k + 1, _, by go_num, by omega, by omega, Nat.le_refl _, ?_, S2, (show _ = _ from ?_)⟩
            · rw [size_swp]; exact hs
            · rw [HD.out, shift_right p R1 (R2 ++ s) x (k - a) (by have := HR1.out; have := H1.out; omega) (by have := HA.out; omega) (by have := HA.out; omega), show k - a + 1 = k + 1 - a by omega]
        · have hltz2 : ¬ (k : Int) < (lo : Int) - 1 := by omega
          go_wp2
          (try simp only [Exit.inBlock, Exit.then])
          refine bodyPost_ret (results_none rfl _ _ _) rfl ?_
          refine ⟨rfl, R1 ++ x :: R2, HST.out, ?_⟩
          have h2 := S1.out
          rw [HD.out, List.take_of_length_le (by have := HR1.out; omega), List.drop_eq_nil_of_le (by have := HR1.out; omega)] at h2
          simpa using h2

end Go.Proofs.Ytagibgphegoagaa
