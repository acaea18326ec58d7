/- CycleWrites, the program's and the model's, by contracts. -/
import Derived.Test.YtjmmhakmidddoaaSortedI
import Derived.Test.YtjmmhakmidddoaaIList
import Derived.Test.YtjmmhakmidddoaaSrt
import Derived.Test.YtjmmhakmidddoaaHam
import Derived.BigQuiet
import Derived.Deep.QuietTactic
namespace Go.Proofs.Ytjmmhakmidddoaa
open Go.RowKit P El
set_option linter.unusedVariables false

set_option maxRecDepth 100000 in
set_option maxHeartbeats 4000000 in
theorem specWrites_any (b o cc : Nat) (l : List Int) (w : World) (hv : FlatAt w (.slice (some ⟨b, o, none⟩) l.length cc) l.length (ints l)) (hn : l.length ≤ 1048576) :
    Calls Try.prog 50 #[.slice (some ⟨b, o, none⟩) l.length cc] w fun e w' => e = .returned (.tuple #[.int .i64 (writesAll l).1, .bool (writesAll l).2]) ∧ Below w.heap.size w w' := by
  have HV := Lib.hid hv
  clear hv
  by_cases hok : OkL l
  · have hd : decide (OkL l) = true := decide_eq_true hok
    have HI := Lib.hid (fun W (h : FlatAt W (.slice (some ⟨b, o, none⟩) l.length cc) l.length (ints l)) => by have := l2List_any _ l W h hn; rw [hd] at this; exact this)
    have HSO := Lib.hid (fun W (h : FlatAt W (.slice (some ⟨b, o, none⟩) l.length cc) l.length (ints l)) => l2Sorted_any b o cc l W h hok.1)
    have HF := Lib.hid (writesAll_yes hok)
    have h64 := hok.1
    clear hok hd
    go_enter Try.func50, Try.ntmps50
    go_wp2_with fail
    refine (HI.out _ HV.out).mono ?_
    rintro e w1 ⟨rfl, hb1⟩
    have HV1 := Lib.hid (HV.out.below hb1)
    have HB1 := Lib.hid hb1
    clear hb1 HV HI
    go_wp2_with fail
    refine (HSO.out _ HV1.out).mono ?_
    rintro e w2 ⟨g, cap, rfl, hcap, hg, hrow, hb2⟩
    have HV2 := Lib.hid (HV1.out.below hb2)
    have HB2 := Lib.hid (HB1.out.trans (hb2.mono HB1.out.size))
    have HROW := Lib.hid hrow
    obtain ⟨s, hs⟩ : ∃ s, s = srt l := ⟨_, rfl⟩
    have hsl : s.length = l.length := by rw [hs]; exact srt_length l
    rw [← hs] at HROW HF hcap ⊢
    rw [hsl]
    have HSL := Lib.hid hsl
    clear hb2 hrow HSO HV1 HB1 hg hs hsl
    have HF2 : Hid (writesAll l = (((ham l s : Nat) : Int), true)) := Lib.hid (by have := HF.out; simpa using this)
    go_wp2_with fail
    go_loopw [5, 6] (fun nv iv wr => ∃ (k m : Nat), k ≤ l.length ∧ nv = .int .i64 (ham (l.take k) (s.take k) : Nat) ∧ iv = .int .i64 k ∧ wr = w2.drewN m) (fun _ iv _ => l.length - (intOf iv).toNat)
    case atStart => exact ⟨0, 0, Nat.zero_le _, rfl, rfl, rfl⟩
    case round =>
      obtain ⟨k, m, hk, rfl, rfl, rfl⟩ := hrel
      have hham := ham_le (l.take k) (s.take k)
      have hhk : ham (l.take k) (s.take k) ≤ 64 := by rw [List.length_take] at hham; omega
      by_cases hlt : k < l.length
      · obtain ⟨x, hx⟩ : ∃ x, x = l.getD k 0 := ⟨_, rfl⟩
        obtain ⟨y, hy⟩ : ∃ y, y = s.getD k 0 := ⟨_, rfl⟩
        have h1 := at_getD hlt
        have h2 := at_getD (l := s) (k := k) (by rw [HSL.out]; exact hlt)
        rw [← hx] at h1
        rw [← hy] at h2
        obtain ⟨a0, c0, e0, _, h0⟩ := HV2.out
        simp at e0
        obtain ⟨rfl, rfl⟩ := e0
        obtain ⟨b', o', e', _, hcx⟩ := h0 _ _ (ints_at h1)
        simp at e'
        obtain ⟨rfl, rfl⟩ := e'
        obtain ⟨hcy, _⟩ := HROW.out.2 k _ (ints_at h2)
        have HT := Lib.hid (ham_take l s k x y h1 h2)
        have hkz : (k : Int) < l.length := by omega
        clear h1 h2 hx hy h0 hham
        generalize ham (l.take k) (s.take k) = n at *
        by_cases he : y = x
        · have hbe : (y == x) = true := by simpa using he
          have HE : Hid (ham (l.take (k + 1)) (s.take (k + 1)) = n) := Lib.hid (by rw [HT.out, if_pos he.symm]; rfl)
          subst he
          go_wp2_with fail
          go_quiet (fail)
          go_wp2_with fail
          go_roundw
          case rel => exact ⟨k + 1, m + nq, by omega, by rw [HE.out], by go_num, by first | trivial | rfl | simp⟩
          case measure => simp [intOf]; omega
        · have hbe : (y == x) = false := by simpa using he
          have HE : Hid (ham (l.take (k + 1)) (s.take (k + 1)) = n + 1) := Lib.hid (by rw [HT.out, if_neg (fun e => he e.symm)])
          go_wp2_with fail
          go_quiet (fail)
          go_wp2_with fail
          go_roundw
          case rel => exact ⟨k + 1, m + nq, by omega, by rw [HE.out]; go_num, by go_num, by first | trivial | rfl | simp⟩
          case measure => simp [intOf]; omega
      · obtain rfl : k = l.length := by omega
        have HE : Hid (ham (l.take l.length) (s.take l.length) = ham l s) := Lib.hid (by rw [List.take_length, ← HSL.out, List.take_length])
        rw [HE.out]
        generalize ham l s = n at *
        clear hham hhk HE
        go_wp2_with fail
        go_ret2
        exact ⟨by rw [HF2.out]; rfl, HB2.out.trans ⟨rfl, rfl, rfl, Nat.le_refl _, fun _ _ => rfl⟩⟩
  · have hd : decide (OkL l) = false := decide_eq_false hok
    have HI := Lib.hid (fun W (h : FlatAt W (.slice (some ⟨b, o, none⟩) l.length cc) l.length (ints l)) => by have := l2List_any _ l W h hn; rw [hd] at this; exact this)
    have HF := Lib.hid (writesAll_no hok)
    clear hok hd
    go_enter Try.func50, Try.ntmps50
    go_wp2_with fail
    refine (HI.out _ HV.out).mono ?_
    rintro e w1 ⟨rfl, hb1⟩
    have HB1 := Lib.hid hb1
    clear hb1 HI
    go_wp2_with fail
    go_ret2
    exact ⟨by rw [HF.out]; rfl, HB1.out⟩

set_option maxRecDepth 100000 in
set_option maxHeartbeats 4000000 in
theorem implWrites_any (b o cc : Nat) (l : List Int) (w : World) (hv : FlatAt w (.slice (some ⟨b, o, none⟩) l.length cc) l.length (ints l)) (hn : l.length ≤ 1048576) :
    Calls Try.prog 49 #[.slice (some ⟨b, o, none⟩) l.length cc] w fun e w' => e = .returned (.tuple #[.int .i64 (writesAll l).1, .bool (writesAll l).2]) ∧ Below w.heap.size w w' := by
  have HV := Lib.hid hv
  clear hv
  by_cases hok : OkL l
  · have hd : decide (OkL l) = true := decide_eq_true hok
    have HI := Lib.hid (fun W (h : FlatAt W (.slice (some ⟨b, o, none⟩) l.length cc) l.length (ints l)) => by have := implValidList_any _ l W h hn; rw [hd] at this; exact this)
    have HVS := Lib.hid (fun W => vals_any (some ⟨b, o, none⟩) l.length cc W)
    have HF := Lib.hid (writesAll_yes hok)
    have h64 := hok.1
    clear hok hd
    go_enter Try.func49, Try.ntmps49
    go_wp2_with fail
    refine (HI.out _ HV.out).mono ?_
    rintro e w1 ⟨rfl, hb1⟩
    have HV1 := Lib.hid (HV.out.below hb1)
    have HB1 := Lib.hid hb1
    clear hb1 HV HI
    go_wp2_with fail
    refine (HVS.out _).mono ?_
    rintro e w2 ⟨rfl, rfl⟩
    have hal : Below w1.heap.size w1 (w1.alloc (.cells #[.slice (some ⟨b, o, none⟩) l.length cc] 24)) := (Below.refl _ _).alloc (Nat.le_refl _) _
    have bN := (Boxed.new w1 24 (.slice (some ⟨b, o, none⟩) l.length cc)).cell
    have hsz : (w1.alloc (.cells #[.slice (some ⟨b, o, none⟩) l.length cc] 24)).heap.size = w1.heap.size + 1 := by simp
    have HV2 := Lib.hid (HV1.out.below hal)
    have HB2 := Lib.hid (HB1.out.trans (hal.mono HB1.out.size))
    generalize w1.alloc (.cells #[.slice (some ⟨b, o, none⟩) l.length cc] 24) = w2 at *
    obtain ⟨bp, oo, hbp, hcp⟩ : ∃ bp oo, bp < w2.heap.size ∧ ∀ (j : Nat) x, l[j]? = some x → (some ⟨b, o, none⟩ : Option Addr) = some ⟨bp, oo, none⟩ ∧ w2.cell? ⟨bp, oo + j, none⟩ = some (.int .i64 x) := by
      obtain ⟨a0, c0, e0, _, h0⟩ := HV2.out
      simp at e0
      obtain ⟨rfl, rfl⟩ := e0
      cases hl0 : l[0]? with
      | none =>
        refine ⟨w1.heap.size, 0, by omega, fun j x hj => ?_⟩
        have := List.getElem?_eq_none_iff.1 hl0
        have := (List.getElem?_eq_some_iff.1 hj).1
        omega
      | some x0 =>
        obtain ⟨b', o', e', hlt, _⟩ := h0 0 _ (ints_at hl0)
        refine ⟨b', o', hlt, fun j x hj => ?_⟩
        obtain ⟨b2, o2, e2, _, hc⟩ := h0 j _ (ints_at hj)
        have e3 := e'.symm.trans e2
        simp at e3
        obtain ⟨rfl, rfl⟩ := e3
        exact ⟨e2, hc⟩
    have HSO := Lib.hid (sortedI_any w2 w1.heap.size bp oo cc (some ⟨b, o, none⟩) l (by omega) (by omega) hbp bN hcp)
    clear hal bN hbp hcp HVS HV1 HB1 hsz
    go_wp2_with fail
    refine (HSO.out).mono ?_
    rintro e w3 ⟨a3, c3, rfl, hfl, hb3⟩
    have HV3 := Lib.hid (HV2.out.below hb3)
    have HB3 := Lib.hid (HB2.out.trans (hb3.mono HB2.out.size))
    have HFL := Lib.hid hfl
    obtain ⟨s, hs⟩ : ∃ s, s = srt l := ⟨_, rfl⟩
    have hsl : s.length = l.length := by rw [hs]; exact srt_length l
    rw [← hs] at HFL HF ⊢
    rw [hsl] at HFL ⊢
    have HSL := Lib.hid hsl
    have HF2 : Hid (writesAll l = (((ham l s : Nat) : Int), true)) := Lib.hid (by have := HF.out; simpa using this)
    clear hb3 hfl HSO HV2 HB2 hs hsl HF
    go_wp2_with fail
    go_loopw [5, 6, 7, 16] (fun nv _ _ iv wr => ∃ k : Nat, k ≤ l.length ∧ nv = .int .i64 (ham (l.take k) (s.take k) : Nat) ∧ iv = .int .i64 k ∧ wr = w3) (fun _ _ _ iv _ => l.length - (intOf iv).toNat)
    case atStart => exact ⟨0, Nat.zero_le _, rfl, rfl, rfl⟩
    case round =>
      obtain ⟨k, hk, rfl, rfl, rfl⟩ := hrel
      have hham := ham_le (l.take k) (s.take k)
      have hhk : ham (l.take k) (s.take k) ≤ 64 := by rw [List.length_take] at hham; omega
      by_cases hlt : k < l.length
      · obtain ⟨x, hx⟩ : ∃ x, x = l.getD k 0 := ⟨_, rfl⟩
        obtain ⟨y, hy⟩ : ∃ y, y = s.getD k 0 := ⟨_, rfl⟩
        have h1 := at_getD hlt
        have h2 := at_getD (l := s) (k := k) (by rw [HSL.out]; exact hlt)
        rw [← hx] at h1
        rw [← hy] at h2
        obtain ⟨a0, c0, e0, _, h0⟩ := HV3.out
        simp at e0
        obtain ⟨rfl, rfl⟩ := e0
        obtain ⟨b', o', e', _, hcx⟩ := h0 _ _ (ints_at h1)
        simp at e'
        obtain ⟨rfl, rfl⟩ := e'
        obtain ⟨a5, c5, e5, _, h5⟩ := HFL.out
        simp at e5
        obtain ⟨rfl, rfl⟩ := e5
        obtain ⟨b6, o6, rfl, _, hcy⟩ := h5 _ _ (ints_at h2)
        have HT := Lib.hid (ham_take l s k x y h1 h2)
        have hkz : (k : Int) < l.length := by omega
        clear h1 h2 hx hy h0 h5 hham
        generalize ham (l.take k) (s.take k) = n at *
        by_cases he : x = y
        · have hbe : (x == y) = true := by simpa using he
          have HE : Hid (ham (l.take (k + 1)) (s.take (k + 1)) = n) := Lib.hid (by rw [HT.out, if_pos he]; rfl)
          subst he
          go_wp2_with fail
          go_roundw
          case rel => exact ⟨k + 1, by omega, by rw [HE.out], by go_num, by first | rfl | trivial⟩
          case measure => simp [intOf]; omega
        · have hbe : (x == y) = false := by simpa using he
          have HE : Hid (ham (l.take (k + 1)) (s.take (k + 1)) = n + 1) := Lib.hid (by rw [HT.out, if_neg he])
          go_wp2_with fail
          go_roundw
          case rel => exact ⟨k + 1, by omega, by rw [HE.out]; go_num, by go_num, by first | rfl | trivial⟩
          case measure => simp [intOf]; omega
      · obtain rfl : k = l.length := by omega
        have HE : Hid (ham (l.take l.length) (s.take l.length) = ham l s) := Lib.hid (by rw [List.take_length, ← HSL.out, List.take_length])
        rw [HE.out]
        generalize ham l s = n at *
        clear hham hhk HE
        go_wp2_with fail
        go_ret2
        exact ⟨by rw [HF2.out]; rfl, HB3.out⟩
  · have hd : decide (OkL l) = false := decide_eq_false hok
    have HI := Lib.hid (fun W (h : FlatAt W (.slice (some ⟨b, o, none⟩) l.length cc) l.length (ints l)) => by have := implValidList_any _ l W h hn; rw [hd] at this; exact this)
    have HF := Lib.hid (writesAll_no hok)
    clear hok hd
    go_enter Try.func49, Try.ntmps49
    go_wp2_with fail
    refine (HI.out _ HV.out).mono ?_
    rintro e w1 ⟨rfl, hb1⟩
    have HB1 := Lib.hid hb1
    clear hb1 HI
    go_wp2_with fail
    go_ret2
    exact ⟨by rw [HF.out]; rfl, HB1.out⟩

end Go.Proofs.Ytjmmhakmidddoaa
