/- DrawFromInversionTable, by its contract: a list of at most 65 numbers. -/
import Derived.Test.YtjlldjekjnlcaaaPick
import Derived.Test.YtjlldjekjnlcaaaAmong
import Derived.Test.YtjlldjekjnlcaaaDrawIH
import Derived.Test.YtjlldjekjnlcaaaCode
namespace Go.Proofs.Ytjlldjekjnlcaaa
open Go.RowKit
set_option linter.unusedVariables false

attribute [local go_sem ↓ high] builtin_append_held

/-- A new list of at most n numbers. -/
def ListN (n : Nat) (w : World) (e : Ending) (w' : World) : Prop :=
  ∃ (g c : Nat) (L : List Int), L.length ≤ n ∧ e = .returned (.slice (some ⟨g, 0, none⟩) L.length c) ∧ L.length ≤ c ∧ w.heap.size ≤ g ∧ CellRow w' g (ints L) ∧ Below w.heap.size w w'

theorem But.thenB {g : Nat} {w a b : World} (h : But g w a) (k : Below w.heap.size a b) : But g w b :=
  ⟨k.os.trans h.os, k.tape.trans h.tape, k.output.trans h.output, Nat.le_trans h.size k.size, fun i hi hg => (k.block i hi).trans (h.block i hi hg)⟩

set_option maxRecDepth 100000 in
set_option maxHeartbeats 4000000 in
theorem drawFt_any (a : Option Addr) (len cap : Nat) (w : World) (h : Code0 w a len) :
    Calls Try.prog 24 #[.slice a len cap] w (ListN 65 w) := by
  have H := Lib.hid (cur_new h cap 50)
  have HBW : Hid (Below w.heap.size w (w.alloc (.cells #[.slice a len cap, .int .i64 0, .int .u64 0] 50))) := Lib.hid ((Below.refl _ _).alloc (Nat.le_refl _) _)
  obtain ⟨wb, hwb⟩ : ∃ wb, wb = w.alloc (.cells #[.slice a len cap, .int .i64 0, .int .u64 0] 50) := ⟨_, rfl⟩
  have hsz : wb.heap.size = w.heap.size + 1 := by rw [hwb]; simp
  rw [← hwb] at H HBW
  have HWB := Lib.hid hwb
  have HSZ := Lib.hid hsz
  obtain ⟨B, hB⟩ : ∃ B, B = w.heap.size := ⟨_, rfl⟩
  have HBE := Lib.hid hB
  have HSB : Hid (B + 1 = wb.heap.size) := Lib.hid (by omega)
  clear h hsz hwb
  have HFIN : Hid (∀ (g c : Nat) (L : List Int) w', L.length ≤ 65 → L.length ≤ c → B + 1 ≤ g → CellRow w' g (ints L) → But B wb w' → ListN 65 w (.returned (.slice (some ⟨g, 0, none⟩) L.length c)) w') := Lib.hid (fun g c L w' h1 h2 h3 h4 h5 =>
    ⟨g, c, L, h1, rfl, h2, by omega, h4, by
      have hs := HSZ.out
      exact ⟨h5.os.trans HBW.out.os, h5.tape.trans HBW.out.tape, h5.output.trans HBW.out.output, Nat.le_trans HBW.out.size h5.size, fun k hk => (h5.block k (by omega) (by omega)).trans (HBW.out.block k hk)⟩⟩)
  rw [← hB] at H
  go_enter Try.func24, Try.ntmps24
  go_wp2_with fail
  rw [← HWB.out, ← hB]
  clear hB
  refine (pick_any B B a len cap 0 9 _ H.out (by omega) (by omega)).mono ?_
  rintro e w1 ⟨n, hn0, hn1, rfl, hc, hb⟩
  obtain ⟨n, rfl⟩ : ∃ k : Nat, n = k := ⟨n.toNat, by omega⟩
  have hn : n ≤ 65 := by omega
  have HC1 := Lib.hid hc
  have HB1 := Lib.hid hb
  clear hc hb hn0 hn1 H
  go_wp2_with fail
  refine (one_any B B a len cap _ 40 _ HC1.out (by omega) (by omega)).mono ?_
  rintro e w2 ⟨b, rfl, hc, hb⟩
  have HC2 := Lib.hid hc
  have HB2 := Lib.hid (HB1.out.trans hb)
  clear hc hb HC1 HB1
  cases b
  case false =>
    have HO0 : Hid (Held (B + 1) (w2.alloc (.cells #[] 3)) (.slice (some ⟨w2.heap.size, 0, none⟩) 0 0) []) := Lib.hid (Held.start w2 (B + 1) (by have := HB2.out.size; have := HSB.out; omega))
    have HCA : Hid (Cur B B a len cap (10 + 2 * 0) (w2.alloc (.cells #[] 3))) := Lib.hid ((HC2.out.alloc _).more (by omega))
    have HBA : Hid (But B wb (w2.alloc (.cells #[] 3))) := Lib.hid (HB2.out.trans (But.alloc B w2 _))
    clear HC2 HB2
    go_wp2_with fail
    go_loopw [5, 6] (fun v i wr => ∃ (k : Nat) (L : List Int), k ≤ n ∧ i = .int .i64 k ∧ L.length = k ∧ Held (B + 1) wr v L ∧ Cur B B a len cap (10 + 2 * k) wr ∧ But B wb wr) (fun _ i _ => n - (intOf i).toNat)
    case atStart => exact ⟨0, [], Nat.zero_le _, rfl, rfl, HO0.out, HCA.out, HBA.out⟩
    case round =>
      obtain ⟨k, L, hk, rfl, hL, hO, hc, hb⟩ := hrel
      have HLL := Lib.hid hL
      have HO := Lib.hid hO
      have HC := Lib.hid hc
      have HB := Lib.hid hb
      clear hL hO hc hb HO0 HCA HBA
      by_cases hlt : k < n
      · have hw1 : IntKind.i64.wrap ((n : Int) - (k : Int)) = (n : Int) - k := by rw [IntKind.wrap_i64]; omega
        have HPI := Lib.hid (fun W (h : Cur B B a len cap (10 + 2 * k) W) => pick_any B B a len cap (10 + 2 * k) ((n : Int) - k) W h (by omega) (by omega))
        go_wp2_with fail
        refine (HPI.out _ HC.out).mono ?_
        rintro e w4 ⟨r, _, _, rfl, hc, hb⟩
        have hs4 : B + 1 ≤ w4.heap.size := by have := (HB.out.trans hb).size; have := HSB.out; omega
        have hO4 : Held (B + 1) w4 _ L := Held.butH HO.out hb (by omega)
        obtain ⟨v', w6, hrun, hown, hbel⟩ := appendOne (B + 1) _ L r w4 hO4 hs4 (by have := HLL.out; omega)
        have HO6 := Lib.hid hown
        have HC6 := Lib.hid (hc.keep (hbel.mono (Nat.le_refl _)))
        have HB6 : Hid (But B wb w6) := Lib.hid ((HB.out.trans hb).thenB (by rw [← HSB.out]; exact hbel))
        have HL6 : Hid ((L ++ [r]).length = k + 1) := Lib.hid (by rw [List.length_append, HLL.out]; rfl)
        clear hs4 hO4 hown hbel hc hb HO HC HB HPI
        go_wp2_with fail
        go_roundw
        case rel => exact ⟨k + 1, L ++ [r], by omega, by go_num, HL6.out, HO6.out, HC6.out.more (by omega), HB6.out⟩
        case measure => simp [intOf]; omega
      · obtain rfl : k = n := by omega
        obtain ⟨go, co, rfl, hgo, hco, hrow⟩ := HO.out.row
        have HR := Lib.hid hrow
        have hl65 : L.length ≤ 65 := by have := HLL.out; omega
        clear hrow HO
        go_wp2_with fail
        refine (one_any B B a len cap _ 12 _ HC.out (by omega) (by omega)).mono ?_
        rintro e w4 ⟨b, rfl, hc, hb⟩
        have HC4 := Lib.hid hc
        have HB4 := Lib.hid (HB.out.trans hb)
        have HR4 := Lib.hid (HR.out.but hb (by omega))
        clear hc hb HC HB HR
        cases b
        · have HRES := Lib.hid (HFIN.out go co L w4 hl65 hco hgo HR4.out HB4.out)
          go_wp2_with fail
          go_ret
          exact HRES.out
        · by_cases hk0 : 0 < k
          · have hkz : (0 : Int) < (k : Int) := by omega
            have hkd : decide ((0 : Int) < (k : Int)) = true := decide_eq_true hkz
            have hkd2 : decide (0 < k) = true := decide_eq_true hk0
            go_wp2_with fail
            refine (pick_any B B a len cap _ (k : Int) _ HC4.out (by omega) (by omega)).mono ?_
            rintro e w5 ⟨i, hi0, hi1, rfl, hc, hb⟩
            obtain ⟨i, rfl⟩ : ∃ q : Nat, i = q := ⟨i.toNat, by omega⟩
            have hiL : i < L.length := by have := HLL.out; omega
            have HC5 := Lib.hid hc
            have HB5 := Lib.hid (HB4.out.trans hb)
            have HR5 := Lib.hid (HR4.out.but hb (by omega))
            clear hc hb HC4 HB4 HR4 hi0 hi1
            go_wp2_with fail
            refine (among_lit B B a len cap _ [-1, (k : Int), 1] 3 _ _ rfl rfl _ HC5.out (by omega) (by simp) (by simp)).mono ?_
            rintro e w6 ⟨y, hy, rfl, hc, hb⟩
            obtain ⟨x, hz, rfl⟩ := List.mem_map.1 hy
            have HB6 := Lib.hid (HB5.out.trans hb)
            have HR6 := Lib.hid (HR5.out.but hb (by omega))
            obtain ⟨hw4, hf4⟩ := HR6.out.2 i _ (ints_at (List.getElem?_eq_getElem hiL))
            have HRES : Hid (ListN 65 w (.returned (.slice (some ⟨go, 0, none⟩) L.length co)) (w6.setCell ⟨go, i, none⟩ (.int .i64 x))) := Lib.hid (by
              have h1 := HR6.out.set i (.int .i64 x) (by rw [ints_length]; exact hiL)
              rw [ints_set] at h1
              have h2 := HFIN.out go co (L.set i x) (w6.setCell ⟨go, i, none⟩ (.int .i64 x)) (by rw [List.length_set]; exact hl65) (by rw [List.length_set]; exact hco) hgo h1 (HB6.out.thenB (by
                rw [← HSB.out]
                exact (Below.refl _ _).setCell (p := ⟨go, i, none⟩) hgo _))
              rw [List.length_set] at h2
              exact h2)
            have hiz : (i : Int) < (L.length : Int) := by omega
            have hgw := HR6.out.1
            clear hc hb HB5 HR5 HC5 hy hz HB6
            go_wp2_with fail
            go_ret
            exact HRES.out
          · have hkz : ¬ (0 : Int) < (k : Int) := by omega
            have hkd : decide ((0 : Int) < (k : Int)) = false := decide_eq_false hkz
            have hkd2 : decide (0 < k) = false := decide_eq_false hk0
            have HRES := Lib.hid (HFIN.out go co L w4 hl65 hco hgo HR4.out HB4.out)
            go_wp2_with fail
            go_ret
            exact HRES.out
  case true =>
    go_wp2_with fail
    refine (pick_any B B a len cap _ 2 _ HC2.out (by omega) (by omega)).mono ?_
    rintro e w3 ⟨r, hr0, hr1, rfl, hc, hb⟩
    obtain ⟨r, rfl⟩ : ∃ q : Nat, r = q := ⟨r.toNat, by omega⟩
    have HC3 := Lib.hid hc
    have HB3 := Lib.hid (HB2.out.trans hb)
    have hws : IntKind.i64.wrap (64 + (r : Int)) = ((64 + r : Nat) : Int) := by rw [IntKind.wrap_i64]; omega
    have hr65 : 64 + r ≤ 65 := by omega
    clear hc hb HC2 HB2 hr0 hr1 hn
    obtain ⟨n', hn'⟩ : ∃ n', n' = 64 + r := ⟨_, rfl⟩
    rw [← hn'] at hws hr65
    clear hn'
    have HO0 : Hid (Held (B + 1) (w3.alloc (.cells #[] 3)) (.slice (some ⟨w3.heap.size, 0, none⟩) 0 0) []) := Lib.hid (Held.start w3 (B + 1) (by have := HB3.out.size; have := HSB.out; omega))
    have HCA : Hid (Cur B B a len cap (10 + 2 * 0) (w3.alloc (.cells #[] 3))) := Lib.hid ((HC3.out.alloc _).more (by omega))
    have HBA : Hid (But B wb (w3.alloc (.cells #[] 3))) := Lib.hid (HB3.out.trans (But.alloc B w3 _))
    clear HC3 HB3
    go_wp2_with fail
    clear hws
    go_loopw [5, 6] (fun v i wr => ∃ (k : Nat) (L : List Int), k ≤ n' ∧ i = .int .i64 k ∧ L.length = k ∧ Held (B + 1) wr v L ∧ Cur B B a len cap (10 + 2 * k) wr ∧ But B wb wr) (fun _ i _ => n' - (intOf i).toNat)
    case atStart => exact ⟨0, [], Nat.zero_le _, rfl, rfl, HO0.out, HCA.out, HBA.out⟩
    case round =>
      obtain ⟨k, L, hk, rfl, hL, hO, hc, hb⟩ := hrel
      have HLL := Lib.hid hL
      have HO := Lib.hid hO
      have HC := Lib.hid hc
      have HB := Lib.hid hb
      clear hL hO hc hb HO0 HCA HBA
      by_cases hlt : k < n'
      · have hw1 : IntKind.i64.wrap ((n' : Int) - (k : Int)) = (n' : Int) - k := by rw [IntKind.wrap_i64]; omega
        have HPI := Lib.hid (fun W (h : Cur B B a len cap (10 + 2 * k) W) => pick_any B B a len cap (10 + 2 * k) ((n' : Int) - k) W h (by omega) (by omega))
        go_wp2_with fail
        refine (HPI.out _ HC.out).mono ?_
        rintro e w4 ⟨r, _, _, rfl, hc, hb⟩
        have hs4 : B + 1 ≤ w4.heap.size := by have := (HB.out.trans hb).size; have := HSB.out; omega
        have hO4 : Held (B + 1) w4 _ L := Held.butH HO.out hb (by omega)
        obtain ⟨v', w6, hrun, hown, hbel⟩ := appendOne (B + 1) _ L r w4 hO4 hs4 (by have := HLL.out; omega)
        have HO6 := Lib.hid hown
        have HC6 := Lib.hid (hc.keep (hbel.mono (Nat.le_refl _)))
        have HB6 : Hid (But B wb w6) := Lib.hid ((HB.out.trans hb).thenB (by rw [← HSB.out]; exact hbel))
        have HL6 : Hid ((L ++ [r]).length = k + 1) := Lib.hid (by rw [List.length_append, HLL.out]; rfl)
        clear hs4 hO4 hown hbel hc hb HO HC HB HPI
        go_wp2_with fail
        go_roundw
        case rel => exact ⟨k + 1, L ++ [r], by omega, by go_num, HL6.out, HO6.out, HC6.out.more (by omega), HB6.out⟩
        case measure => simp [intOf]; omega
      · obtain rfl : k = n' := by omega
        obtain ⟨go, co, rfl, hgo, hco, hrow⟩ := HO.out.row
        have HR := Lib.hid hrow
        have hl65 : L.length ≤ 65 := by have := HLL.out; omega
        clear hrow HO
        go_wp2_with fail
        refine (one_any B B a len cap _ 12 _ HC.out (by omega) (by omega)).mono ?_
        rintro e w4 ⟨b, rfl, hc, hb⟩
        have HC4 := Lib.hid hc
        have HB4 := Lib.hid (HB.out.trans hb)
        have HR4 := Lib.hid (HR.out.but hb (by omega))
        clear hc hb HC HB HR
        cases b
        · have HRES := Lib.hid (HFIN.out go co L w4 hl65 hco hgo HR4.out HB4.out)
          go_wp2_with fail
          go_ret
          exact HRES.out
        · by_cases hk0 : 0 < k
          · have hkz : (0 : Int) < (k : Int) := by omega
            have hkd : decide ((0 : Int) < (k : Int)) = true := decide_eq_true hkz
            have hkd2 : decide (0 < k) = true := decide_eq_true hk0
            go_wp2_with fail
            refine (pick_any B B a len cap _ (k : Int) _ HC4.out (by omega) (by omega)).mono ?_
            rintro e w5 ⟨i, hi0, hi1, rfl, hc, hb⟩
            obtain ⟨i, rfl⟩ : ∃ q : Nat, i = q := ⟨i.toNat, by omega⟩
            have hiL : i < L.length := by have := HLL.out; omega
            have HC5 := Lib.hid hc
            have HB5 := Lib.hid (HB4.out.trans hb)
            have HR5 := Lib.hid (HR4.out.but hb (by omega))
            clear hc hb HC4 HB4 HR4 hi0 hi1
            go_wp2_with fail
            refine (among_lit B B a len cap _ [-1, (k : Int), 1] 3 _ _ rfl rfl _ HC5.out (by omega) (by simp) (by simp)).mono ?_
            rintro e w6 ⟨y, hy, rfl, hc, hb⟩
            obtain ⟨x, hz, rfl⟩ := List.mem_map.1 hy
            have HB6 := Lib.hid (HB5.out.trans hb)
            have HR6 := Lib.hid (HR5.out.but hb (by omega))
            obtain ⟨hw4, hf4⟩ := HR6.out.2 i _ (ints_at (List.getElem?_eq_getElem hiL))
            have HRES : Hid (ListN 65 w (.returned (.slice (some ⟨go, 0, none⟩) L.length co)) (w6.setCell ⟨go, i, none⟩ (.int .i64 x))) := Lib.hid (by
              have h1 := HR6.out.set i (.int .i64 x) (by rw [ints_length]; exact hiL)
              rw [ints_set] at h1
              have h2 := HFIN.out go co (L.set i x) (w6.setCell ⟨go, i, none⟩ (.int .i64 x)) (by rw [List.length_set]; exact hl65) (by rw [List.length_set]; exact hco) hgo h1 (HB6.out.thenB (by
                rw [← HSB.out]
                exact (Below.refl _ _).setCell (p := ⟨go, i, none⟩) hgo _))
              rw [List.length_set] at h2
              exact h2)
            have hiz : (i : Int) < (L.length : Int) := by omega
            have hgw := HR6.out.1
            clear hc hb HB5 HR5 HC5 hy hz HB6
            go_wp2_with fail
            go_ret
            exact HRES.out
          · have hkz : ¬ (0 : Int) < (k : Int) := by omega
            have hkd : decide ((0 : Int) < (k : Int)) = false := decide_eq_false hkz
            have hkd2 : decide (0 < k) = false := decide_eq_false hk0
            have HRES := Lib.hid (HFIN.out go co L w4 hl65 hco hgo HR4.out HB4.out)
            go_wp2_with fail
            go_ret
            exact HRES.out

end Go.Proofs.Ytjlldjekjnlcaaa
