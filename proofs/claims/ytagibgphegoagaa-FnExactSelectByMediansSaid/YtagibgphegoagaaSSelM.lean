/- The model's SelectByMedians, by its contract. -/
import Derived.Test.YtagibgphegoagaaSQsel
import Derived.Test.YtagibgphegoagaaSPiv
namespace Go.Proofs.Ytagibgphegoagaa
open Go.RowKit P El Qk Sl
set_option linter.unusedVariables false

set_option maxRecDepth 100000 in
set_option maxHeartbeats 8000000 in
theorem specSelM_any (b o c : Nat) (l : List Int) (k : Int) (w : World) (hv : FlatAt w (.slice (some ⟨b, o, none⟩) l.length c) l.length (ints l)) (hn : l.length ≤ 1048576) :
    Calls Try.prog 56 #[.slice (some ⟨b, o, none⟩) l.length c, .int .i64 k] w fun e w' => e = .returned (.tuple #[.int .i64 (smAll l k).1, .int .i64 (smAll l k).2.1, .bool (smAll l k).2.2]) ∧ Below w.heap.size w w' := by
  have HRK := Lib.hid (l9Rank_any _ l (some ⟨b, o, none⟩) c rfl k w hv hn)
  have HV := Lib.hid hv
  clear hv
  by_cases hok : OkK l k
  · rw [decide_eq_true hok] at HRK
    obtain ⟨K, rfl⟩ : ∃ K : Nat, k = (K : Int) := ⟨k.toNat, by have := hok.2.1; omega⟩
    have hK : K < l.length := by have := hok.2.2; omega
    have h64 := hok.1.1
    have HF := Lib.hid (smAll_yes hok.1 hK)
    have HW0 := Lib.hid (fun W (hb : Below w.heap.size w W) => (⟨rfl, Nat.le_refl _, hK, h64, by omega, Nat.zero_le _, HV.out.below hb, hb⟩ : SqW momF (qk momF l.length l K 0 0) w W l b o c K 0 0 l.length))
    clear hok hK h64 HV
    generalize qk momF l.length l K 0 0 = R at *
    go_enter Try.func56, Try.ntmps56
    go_wp2_with fail
    refine HRK.out.mono ?_
    rintro e w1 ⟨rfl, hb1⟩
    have HW1 := Lib.hid (HW0.out w1 hb1)
    clear hb1 HW0 HRK
    go_wp2_with fail
    go_loopw [0, 1, 7, 8, 9, 10] (fun lv kv qv _ _ _ wr => ∃ (L : List Int) (b o c k r q n : Nat), lv = .slice (some ⟨b, o, none⟩) L.length c ∧ kv = .int .i64 (k : Int) ∧ qv = .int .i64 (r : Int) ∧ SqW momF R w wr L b o c k r q n) (fun lv _ _ _ _ _ _ => lenQ lv)
    case atStart => exact ⟨l, b, o, c, K, 0, 0, l.length, rfl, rfl, rfl, HW1.out⟩
    case round =>
      clear HW1 hn
      obtain ⟨L, b', o', c', k, r, q, n, rfl, rfl, rfl, hw⟩ := hrel
      have HW := Lib.hid hw
      have hL0 : L ≠ [] := fun e => by have := hw.lt; rw [e] at this; simp at this
      obtain ⟨x, hx⟩ : ∃ x, x = momF L := ⟨_, rfl⟩
      have HM : Hid (0 < (midF L x x).length) := Lib.hid (by rw [hx]; exact mid_mem (momF_mem L hL0))
      have HSPL := Lib.hid (fun W (h : FlatAt W (.slice (some ⟨b', o', none⟩) L.length c') L.length (ints L)) => l9Split_any b' o' c' L x W h (by have := hw.l64; omega))
      have HLOW := Lib.hid (fun (W2 : World) (g cc : Nat) hk hr hb => hw.low (W2 := W2) (g := g) (cc := cc) (by rw [← hx]; exact HM.out) hk hr hb)
      have HHIGH := Lib.hid (fun (W2 : World) (g cc : Nat) hk hk2 hr hb => hw.high (W2 := W2) (g := g) (cc := cc) (by rw [← hx]; exact HM.out) hk hk2 hr hb)
      have HMID := Lib.hid (fun hk hk2 => hw.mid hk hk2)
      rw [← hx] at HLOW HHIGH HMID
      have hme : ∀ y ∈ midF L x x, y = x := fun y hy => mid_eq hy
      have HL := Lib.hid (du_lens (Int.le_refl x) L)
      have h64 := hw.l64
      have hrr := hw.rr
      have hqq := hw.qq
      have hkl := hw.lt
      have hLL := HL.out
      have hMB := HM.out
      have HPV := Lib.hid (fun W (h : FlatAt W (.slice (some ⟨b', o', none⟩) L.length c') L.length (ints L)) => l9Pivot_any b' o' c' L W h h64 hL0)
      rw [← hx] at HPV
      have HROW := Lib.hid hw.row
      have HBW := Lib.hid hw.b
      clear hw HW hx hL0 HL HM
      obtain ⟨A, hA⟩ : ∃ A, A = lowF L x := ⟨_, rfl⟩
      obtain ⟨B, hB⟩ : ∃ B, B = midF L x x := ⟨_, rfl⟩
      obtain ⟨C, hC⟩ : ∃ C, C = highF L x := ⟨_, rfl⟩
      rw [← hA, ← hB, ← hC] at hLL
      rw [← hB] at hMB hme
      rw [← hA] at HLOW
      rw [← hA, ← hB, ← hC] at HHIGH
      rw [← hA, ← hB] at HMID
      rw [← hA, ← hB, ← hC] at HSPL
      clear hA hB hC
      obtain ⟨lo, hlo⟩ : ∃ lo, lo = A.length := ⟨_, rfl⟩
      obtain ⟨bl, hbl⟩ : ∃ bl, bl = B.length := ⟨_, rfl⟩
      obtain ⟨mi, hmi⟩ : ∃ mi, mi = lo + bl := ⟨_, rfl⟩
      have HLO := Lib.hid hlo
      have HBL := Lib.hid hbl
      have HMI := Lib.hid hmi
      obtain ⟨r1, hr1⟩ : ∃ r1, r1 = r + 1 := ⟨_, rfl⟩
      obtain ⟨q1, hq1⟩ : ∃ q1, q1 = q + (L.length - 1) := ⟨_, rfl⟩
      obtain ⟨q0, hq0⟩ : ∃ q0, q0 = q + L.length := ⟨_, rfl⟩
      have ew1 : IntKind.i64.wrap ((r : Int) + 1) = (r1 : Int) := by rw [IntKind.wrap_i64]; omega
      have ew2 : IntKind.i64.wrap ((q : Int) + (L.length : Int)) = (q0 : Int) := by rw [IntKind.wrap_i64]; omega
      have ew3 : IntKind.i64.wrap ((q0 : Int) - 1) = (q1 : Int) := by rw [IntKind.wrap_i64]; omega
      have ew4 : IntKind.i64.wrap ((lo : Int) + (bl : Int)) = (mi : Int) := by rw [IntKind.wrap_i64]; omega
      rw [← hr1, ← hq1] at HLOW HHIGH HMID
      obtain ⟨y0, hy0⟩ : ∃ y, B[0]? = some y := ⟨_, List.getElem?_eq_getElem hMB⟩
      have hyx : y0 = x := hme y0 (List.mem_of_getElem? hy0)
      rw [hyx] at hy0
      have HY := Lib.hid hy0
      have HR1 := Lib.hid hr1
      have HQ1 := Lib.hid hq1
      have hblp : 0 < bl := by omega
      have hlm : lo ≤ L.length := by omega
      have HLEN : Hid (lo < L.length ∧ C.length < L.length) := Lib.hid (by omega)
      have hkz : (k : Int) < (L.length : Int) := by omega
      rw [← hlo] at HLOW
      rw [← hlo, ← hbl, ← hmi] at HHIGH HMID
      rw [← hlo, ← hbl] at HSPL
      clear hlo hbl hr1 hq1 hq0 hme hy0 hyx hLL hMB hqq hrr
      by_cases h1 : k < lo
      · have h1z : (k : Int) < (lo : Int) := by omega
        have d1 : decide ((k : Int) < (lo : Int)) = true := decide_eq_true h1z
        have HNX := Lib.hid (fun W2 g cc hr hb => HLOW.out W2 g cc h1 hr hb)
        clear HLOW HHIGH HMID hmi
        go_wp2_with fail
        refine (HPV.out _ HROW.out).mono ?_
        rintro e w1x ⟨rfl, hb1⟩
        have HROW1 := Lib.hid (HROW.out.below hb1)
        have HB01 := Lib.hid hb1
        clear hb1 HPV HROW
        go_wp2_with fail
        refine (HSPL.out _ HROW1.out).mono ?_
        rintro e w2 ⟨ga, ca, gb, cb, gc, cc, rfl, hd⟩
        obtain ⟨_, _, ea, hga, hca, hra⟩ := hd.a.row
        simp only [Value.slice.injEq, Option.some.injEq, Addr.mk.injEq, and_true] at ea
        obtain ⟨rfl, hq9, rfl⟩ := ea
        clear hq9
        obtain ⟨n', hn'⟩ := HNX.out w2 ga ca (by rw [HLO.out]; exact hra.flat hca) (HB01.out.trans (hd.bl.mono HB01.out.size))
        have HN := Lib.hid hn'
        clear hd hra hn' HSPL HROW1 HB01 HNX hca hga
        go_wp2_with fail
        go_roundw
        case rel => exact ⟨A, ga, 0, ca, k, r1, q1, n', by first | rfl | rw [HLO.out], rfl, rfl, HN.out.1⟩
        case measure => have e1 := HLEN.out.1; have e2 := HLO.out; simp only [lenQ]; omega
      · have h1z : ¬ (k : Int) < (lo : Int) := by omega
        have d1 : decide ((k : Int) < (lo : Int)) = false := decide_eq_false h1z
        by_cases h2 : k < mi
        · have h2z : (k : Int) < (mi : Int) := by omega
          have d2 : decide ((k : Int) < (mi : Int)) = true := decide_eq_true h2z
          have HRES := Lib.hid (HMID.out h1 h2)
          clear HLOW HHIGH HMID hmi h1 h2
          go_wp2_with fail
          refine (HPV.out _ HROW.out).mono ?_
          rintro e w1x ⟨rfl, hb1⟩
          have HROW1 := Lib.hid (HROW.out.below hb1)
          have HB01 := Lib.hid hb1
          clear hb1 HPV HROW
          go_wp2_with fail
          refine (HSPL.out _ HROW1.out).mono ?_
          rintro e w2 ⟨ga, ca, gb, cb, gc, cc, rfl, hd⟩
          obtain ⟨_, _, ea, hga, hca, hra⟩ := hd.b.row
          simp only [Value.slice.injEq, Option.some.injEq, Addr.mk.injEq, and_true] at ea
          obtain ⟨rfl, hq9, rfl⟩ := ea
          clear hq9
          obtain ⟨hcx, _⟩ := hra.2 _ _ (ints_at HY.out)
          have HB2 := Lib.hid (HBW.out.trans ((HB01.out.trans (hd.bl.mono HB01.out.size)).mono HBW.out.size))
          clear hd hra HSPL HROW1 HB01 hca hga HBW
          have hbz : (0 : Int) < (bl : Int) := by omega
          go_wp2_with fail
          go_ret3
          exact ⟨by rw [HF.out, HRES.out]; rfl, HB2.out⟩
        · have h2z : ¬ (k : Int) < (mi : Int) := by omega
          have d2 : decide ((k : Int) < (mi : Int)) = false := decide_eq_false h2z
          have HNX := Lib.hid (fun W2 g cc hr hb => HHIGH.out W2 g cc h1 h2 hr hb)
          obtain ⟨k0, hk0⟩ : ∃ k0, k0 = k - lo := ⟨_, rfl⟩
          obtain ⟨k1, hk1⟩ : ∃ k1, k1 = k - mi := ⟨_, rfl⟩
          rw [← hk1] at HNX
          have ek0 : IntKind.i64.wrap ((k : Int) - (lo : Int)) = (k0 : Int) := by rw [IntKind.wrap_i64]; omega
          have ek1 : IntKind.i64.wrap ((k0 : Int) - (bl : Int)) = (k1 : Int) := by rw [IntKind.wrap_i64]; omega
          have ek2 : IntKind.i64.wrap ((k : Int) - (lo : Int) - (bl : Int)) = (k1 : Int) := by rw [IntKind.wrap_i64]; omega
          have ek3 : IntKind.i64.wrap ((k : Int) - (lo : Int) - (B.length : Int)) = (k1 : Int) := by rw [← HBL.out]; exact ek2
          clear HLOW HHIGH HMID hmi hk0 hk1
          go_wp2_with fail
          refine (HPV.out _ HROW.out).mono ?_
          rintro e w1x ⟨rfl, hb1⟩
          have HROW1 := Lib.hid (HROW.out.below hb1)
          have HB01 := Lib.hid hb1
          clear hb1 HPV HROW
          go_wp2_with fail
          refine (HSPL.out _ HROW1.out).mono ?_
          rintro e w2 ⟨ga, ca, gb, cb, gc, cc, rfl, hd⟩
          obtain ⟨_, _, ea, hga, hca, hra⟩ := hd.c.row
          simp only [Value.slice.injEq, Option.some.injEq, Addr.mk.injEq, and_true, true_and] at ea
          obtain ⟨rfl, rfl⟩ := ea
          obtain ⟨n', hn'⟩ := HNX.out w2 gc cc (hra.flat hca) (HB01.out.trans (hd.bl.mono HB01.out.size))
          have HN := Lib.hid hn'
          clear hd hra hn' HSPL HROW1 HB01 HNX hca hga
          go_wp2_with fail
          go_roundw
          case rel => exact ⟨C, gc, 0, cc, k1, r1, q1, n', rfl, rfl, rfl, HN.out.1⟩
          case measure => have e1 := HLEN.out.2; simp only [lenQ]; omega
  · rw [decide_eq_false hok] at HRK
    have HF := Lib.hid (smAll_no hok)
    clear hok
    go_enter Try.func56, Try.ntmps56
    go_wp2_with fail
    refine HRK.out.mono ?_
    rintro e w1 ⟨rfl, hb1⟩
    have HB1 := Lib.hid hb1
    clear hb1 HV HRK
    go_wp2_with fail
    go_ret3
    exact ⟨by rw [HF.out]; rfl, HB1.out⟩

end Go.Proofs.Ytagibgphegoagaa
