/- The model's FromInversionTable, by its contract. -/
import Derived.Test.YtjlldjekjnlcaaaInvP
import Derived.Test.YtjlldjekjnlcaaaIn
import Derived.Test.YtjlldjekjnlcaaaRetIE
import Derived.Test.YtjlldjekjnlcaaaOwnFlat
import Derived.BigRegion
import Derived.Laws.BitsLemmas
namespace Go.Proofs.Ytjlldjekjnlcaaa
open Go.RowKit P Iv
set_option linter.unusedVariables false

attribute [local go_sem ↓ high] builtin_append_held

set_option maxRecDepth 100000 in
set_option maxHeartbeats 8000000 in
theorem specFi_any (v : Value) (l : List Int) (w : World) (hv : FlatAt w v l.length (ints l)) (hn : l.length ≤ 1048576) :
    Calls Try.prog 25 #[v] w (RetIE (fiF l) w) := by
  obtain ⟨a, c, rfl, _, hx⟩ := hv
  have HE := Lib.hid (fun j x (hj : l[j]? = some x) => by
    obtain ⟨b, o, e, hb, hh⟩ := hx _ _ (ints_at hj)
    exact (⟨b, o, e, hb, hh⟩ : ∃ b o, a = some ⟨b, o, none⟩ ∧ b < w.heap.size ∧ w.cell? ⟨b, o + j, none⟩ = some (.int .i64 x)))
  clear hx
  by_cases h64 : l.length ≤ 64
  · have hz : ¬ (64 : Int) < l.length := by omega
    have HOK : Hid ((∀ i, i < l.length → 0 ≤ l.getD i 0 ∧ l.getD i 0 < (l.length : Int) - i) → OkT l) := Lib.hid (fun h => ⟨h64, h⟩)
    have HNO : Hid (∀ i, i < l.length → ¬ (0 ≤ l.getD i 0 ∧ l.getD i 0 < (l.length : Int) - i) → fiF l = ([], false)) := Lib.hid (fun i hi h => fiF_no fun hh => h (hh.2 i hi))
    have HS0 : Hid (Held w.heap.size (w.alloc (.cells #[] 3)) (.slice (some ⟨w.heap.size, 0, none⟩) 0 0) (iota 0)) := Lib.hid (Held.start w w.heap.size (Nat.le_refl _))
    have HB0 : Hid (Below w.heap.size w (w.alloc (.cells #[] 3))) := Lib.hid ((Below.refl _ _).alloc (Nat.le_refl _) _)
    have HIN := Lib.hid (fun (x u : Int) (W : World) (h0 : 0 ≤ x) (h1 : x ≤ u) => l1In_yes x 0 u W h0 h1)
    have HIX := Lib.hid (fun (x u : Int) (W : World) (h : x < 0 ∨ u < x) => l1In_no x 0 u W h)
    go_enter Try.func25, Try.ntmps25
    go_wp2_with fail
    go_loopw [4, 5] (fun left i wr => ∃ k : Nat, k ≤ l.length ∧ i = .int .i64 k ∧ Held w.heap.size wr left (iota k) ∧ Below w.heap.size w wr) (fun _ i _ => l.length - (intOf i).toNat)
    case atStart => exact ⟨0, Nat.zero_le _, rfl, HS0.out, HB0.out⟩
    case round =>
      obtain ⟨k, hk, rfl, hL, hb⟩ := hrel
      have HL := Lib.hid hL
      have HB := Lib.hid hb
      clear hL hb HS0 HB0
      by_cases hlt : k < l.length
      · obtain ⟨v2, w2, hrun, hheld, hbel⟩ := appendOne w.heap.size _ _ (k : Int) wr HL.out HB.out.size (by rw [iota_length]; omega)
        rw [← iota_succ] at hheld
        have HH := Lib.hid hheld
        have HB2 := Lib.hid (HB.out.trans hbel)
        clear hheld hbel HL HB
        go_wp2_with fail
        go_roundw
        case rel => exact ⟨k + 1, by omega, by go_num, HH.out, HB2.out⟩
        case measure => simp [intOf]; omega
      · obtain rfl : k = l.length := by omega
        have HOS : Hid (Held w.heap.size (wr.alloc (.cells #[] 3)) (.slice (some ⟨wr.heap.size, 0, none⟩) 0 0) []) := Lib.hid (Held.start wr w.heap.size HB.out.size)
        have HLS := Lib.hid (HL.out.alloc (.cells #[] 3))
        have HBS := Lib.hid (HB.out.alloc HB.out.size (.cells #[] 3))
        obtain ⟨gl, cl, rfl, hgl, hcl, hrl⟩ := HL.out.row
        have hgllt := hrl.1
        clear hrl HL HB
        obtain ⟨n, hnn⟩ : ∃ n, n = l.length := ⟨_, rfl⟩
        have HP0 : Hid ((pickSt (tdig l) (iota l.length) 0).1 = [] ∧ (pickSt (tdig l) (iota l.length) 0).2 = iota l.length) := Lib.hid ⟨rfl, rfl⟩
        clear hnn
        go_wp2_with fail
        go_loopw [4, 6, 7] (fun left out i wr => ∃ (j go co gl cl : Nat), j ≤ l.length ∧ i = .int .i64 j ∧ gl ≠ go ∧ out = .slice (some ⟨go, 0, none⟩) (pickSt (tdig l) (iota l.length) j).1.length co ∧ left = .slice (some ⟨gl, 0, none⟩) (pickSt (tdig l) (iota l.length) j).2.length cl ∧
          Held w.heap.size wr out (pickSt (tdig l) (iota l.length) j).1 ∧ Held w.heap.size wr left (pickSt (tdig l) (iota l.length) j).2 ∧ Hid (∀ i, i < j → 0 ≤ l.getD i 0 ∧ l.getD i 0 < (l.length : Int) - i) ∧ Below w.heap.size w wr) (fun _ _ i _ => l.length - (intOf i).toNat)
        case atStart => exact ⟨0, wr.heap.size, 0, gl, cl, Nat.zero_le _, rfl, by omega, rfl, rfl, HOS.out, HLS.out, Lib.hid (fun i hi => by omega), HBS.out⟩
        case round =>
          obtain ⟨j, go, co, gl, cl, hj, rfl, hne, rfl, rfl, hO, hL, HG, hb⟩ := hrel
          have HLL := Lib.hid hL
          have HOO := Lib.hid hO
          have HBB := Lib.hid hb
          clear hL hO hb HOS HLS HBS
          have hlen : (pickSt (tdig l) (iota l.length) j).2.length = l.length - j := by
            have := pickSt_rest (tdig l) (iota l.length) j (by rw [iota_length]; exact hj) (by
              rw [iota_length]
              intro i hi
              have := HG.out i hi
              unfold tdig; omega)
            rw [iota_length] at this; exact this
          have hol := pickSt_out (tdig l) (iota l.length) j
          by_cases hjk : j < l.length
          · have hx := at_getD (l := l) hjk
            obtain ⟨x, he⟩ : ∃ x, x = l.getD j 0 := ⟨_, rfl⟩
            rw [← he] at hx
            obtain ⟨b, o, rfl, hbb, hcx0⟩ := HE.out _ _ hx
            have hcx : wr.cell? ⟨b, o + j, none⟩ = some (.int .i64 x) := (HBB.out.cell (p := ⟨b, o + j, none⟩) hbb).trans hcx0
            have HSK := Lib.hid (pickSt_succ (tdig l) (iota l.length) j)
            obtain ⟨L, hL⟩ : ∃ L, L = (pickSt (tdig l) (iota l.length) j).2 := ⟨_, rfl⟩
            obtain ⟨O, hO⟩ : ∃ O, O = (pickSt (tdig l) (iota l.length) j).1 := ⟨_, rfl⟩
            rw [← hL] at HLL hlen HSK ⊢
            rw [← hO] at HOO hol HSK ⊢
            have hwl : IntKind.i64.wrap ((L.length : Int) - 1) = (L.length : Int) - 1 := by rw [IntKind.wrap_i64]; omega
            have HX := Lib.hid he
            clear hL hO hx he hcx0
            by_cases hin : 0 ≤ x ∧ x ≤ (L.length : Int) - 1
            · have HI := Lib.hid (fun W => HIN.out x ((L.length : Int) - 1) W hin.1 hin.2)
              obtain ⟨e, rfl⟩ : ∃ e : Nat, x = e := ⟨x.toNat, by omega⟩
              have hel : e < L.length := by omega
              have HTD : Hid (tdig l j = e) := Lib.hid (by unfold tdig; rw [← HX.out]; rfl)
              rw [HTD.out] at HSK
              obtain ⟨x, hx⟩ : ∃ x, x = L.getD e 0 := ⟨_, rfl⟩
              have hLe := at_getD (l := L) (k := e) hel
              rw [← hx] at hLe HSK
              have HG2 : Hid (∀ i, i < j + 1 → 0 ≤ l.getD i 0 ∧ l.getD i 0 < (l.length : Int) - i) := Lib.hid (fun i hi => by
                by_cases q : i = j
                · subst q; rw [← HX.out]; omega
                · exact HG.out i (by omega))
              obtain ⟨gl', cl', hle, hgl, hcl, hrow⟩ := HLL.out.row
              simp at hle
              obtain ⟨rfl, rfl⟩ := hle
              have hgllt : gl < wr.heap.size := hrow.1
              have hcy : wr.cell? ⟨gl, e, none⟩ = some (.int .i64 x) := (hrow.2 _ _ (ints_at hLe)).1
              obtain ⟨v2, w2, hrun0, hH2, hb2, hk2⟩ := appendOne2 w.heap.size _ O x wr HOO.out HBB.out.size (by omega)
              have hrow2 : CellRow w2 gl (ints L) := hrow.same (hk2 gl hgllt (fun g n c q => by simp at q; omega)) hb2.size
              obtain ⟨O2, hO2⟩ : ∃ O2, O2 = O ++ [x] := ⟨_, rfl⟩
              obtain ⟨L2, hL2⟩ : ∃ L2, L2 = L.eraseIdx e := ⟨_, rfl⟩
              rw [← hO2] at hH2 HSK
              rw [← hL2] at HSK
              obtain ⟨g2, c2, rfl, hg2, hc2, hr2⟩ := hH2.row
              have hg2lt := hr2.1
              obtain ⟨v3, w3, hrun1, hH3, hb3⟩ := copyFront gl cl e L w2 hrow2 (by omega) (by omega)
              have HEE : Hid (L.take e ++ L.drop (e + 1) = L2) := Lib.hid (by rw [hL2]; exact (List.eraseIdx_eq_take_drop_succ _ _).symm)
              have hwe : IntKind.i64.wrap ((e : Int) + 1) = ((e + 1 : Nat) : Int) := by rw [IntKind.wrap_i64]; omega
              have hb20 : O.length ≤ 64 := by omega
              have hl20 : L.length ≤ 64 := by omega
              have HH2 := Lib.hid hH2
              have HB2 := Lib.hid (HBB.out.trans hb2)
              have HB3 := Lib.hid hb3
              have hs3 := hb3.size
              have hbw2 : b < w2.heap.size := Nat.lt_of_lt_of_le hbb (by have := HB2.out.size; omega)
              have hc2x : w2.cell? ⟨b, o + j, none⟩ = some (.int .i64 (e : Int)) := (hb2.cell (p := ⟨b, o + j, none⟩) hbb).trans hcx
              have hc3x : w3.cell? ⟨b, o + j, none⟩ = some (.int .i64 (e : Int)) := (hb3.cell (p := ⟨b, o + j, none⟩) hbw2).trans hc2x
              have HLN := Lib.hid hlen
              have HOL := Lib.hid hol
              have hez : (e : Int) < L.length := by omega
              have hez2 : (e : Int) ≤ (L.length : Int) - 1 := by omega
              clear hO2 hL2 hx hLe hk2 hr2 hH2 hb2 hb3 HOO hlen hol hrow hin
              by_cases hce : cl = e + 1
              · subst hce
                obtain ⟨v4, w4, hrun2, hH4, hb4⟩ := copyBack w2.heap.size gl 0 0 (e + 1) 0 v3 (L.take e) L w2 w3 hrow2 hH3 (Nat.le_refl _) hs3 HB3.out (by omega) (fun h => by omega) (by rw [List.length_take]; omega)
                rw [HEE.out] at hH4
                have HH4 := Lib.hid hH4
                obtain ⟨g4, c4, rfl, hg4, _, _⟩ := hH4.row
                have HG4 : Hid (g2 < g4) := Lib.hid (Nat.lt_of_lt_of_le hg2lt hg4)
                have HB4 := Lib.hid (HB3.out.trans hb4)
                have hs4 := hb4.size
                clear hrow2 hH3 hH4 hb4 hg4
                go_wp2_with fail
                refine (HI.out _).mono ?_
                rintro e' w5 ⟨rfl, rfl⟩
                go_wp2_with fail
                go_region
                all_goals (
                  go_wp2_with fail
                  go_roundw
                  case rel => exact ⟨j + 1, g2, c2, g4, c4, by omega, by go_num, by have := HG4.out; omega, by rw [HSK.out], by rw [HSK.out], by rw [HSK.out]; exact HH2.out.below HB4.out, by rw [HSK.out]; exact HH4.out.lower HB2.out.size, HG2, HB2.out.trans (HB4.out.mono HB2.out.size)⟩
                  case measure => simp [intOf]; omega)
              · obtain ⟨v4, w4, hrun2, hH4, hb4⟩ := copyBack w2.heap.size gl (e + 1) (cl - (e + 1)) (e + 1) (L.length - (e + 1)) v3 (L.take e) L w2 w3 hrow2 hH3 (Nat.le_refl _) hs3 HB3.out rfl (fun _ => rfl) (by rw [List.length_take]; omega)
                rw [HEE.out] at hH4
                have HH4 := Lib.hid hH4
                obtain ⟨g4, c4, rfl, hg4, _, _⟩ := hH4.row
                have HG4 : Hid (g2 < g4) := Lib.hid (Nat.lt_of_lt_of_le hg2lt hg4)
                have HB4 := Lib.hid (HB3.out.trans hb4)
                have hs4 := hb4.size
                clear hrow2 hH3 hH4 hb4 hg4
                go_wp2_with fail
                refine (HI.out _).mono ?_
                rintro e' w5 ⟨rfl, rfl⟩
                go_wp2_with fail
                go_region
                all_goals (
                  go_wp2_with fail
                  go_roundw
                  case rel => exact ⟨j + 1, g2, c2, g4, c4, by omega, by go_num, by have := HG4.out; omega, by rw [HSK.out], by rw [HSK.out], by rw [HSK.out]; exact HH2.out.below HB4.out, by rw [HSK.out]; exact HH4.out.lower HB2.out.size, HG2, HB2.out.trans (HB4.out.mono HB2.out.size)⟩
                  case measure => simp [intOf]; omega)
            · have HI := Lib.hid (fun W => HIX.out x ((L.length : Int) - 1) W (by omega))
              have HRES : Hid (RetIE (fiF l) w (.returned (.tuple #[.slice none 0 0, .bool false])) wr) := Lib.hid (by rw [HNO.out j hjk (by rw [← HX.out]; omega)]; exact .inr ⟨rfl, none, 0, rfl, HBB.out⟩)
              clear hin hlen hol
              go_wp2_with fail
              refine (HI.out _).mono ?_
              rintro e' w5 ⟨rfl, rfl⟩
              go_wp2_with fail
              go_ret2
              exact HRES.out
          · obtain rfl : j = l.length := by omega
            obtain ⟨g, c', he, hg, hc, hrow⟩ := HOO.out.row
            simp at he
            obtain ⟨rfl, rfl⟩ := he
            have HRES : Hid (RetIE (fiF l) w (.returned (.tuple #[.slice (some ⟨go, 0, none⟩) (pickSt (tdig l) (iota l.length) l.length).1.length co, .bool true])) wr) := Lib.hid (by rw [fiF_yes (HOK.out HG.out)]; exact .inl ⟨go, co, rfl, hc, hg, hrow, HBB.out⟩)
            clear hc hg hrow HOO HLL hlen hol HG hgllt hgl hcl
            go_wp2_with fail
            go_ret2
            exact HRES.out
  · have hz : (64 : Int) < l.length := by omega
    have HRES : Hid (RetIE (fiF l) w (.returned (.tuple #[.slice none 0 0, .bool false])) w) := Lib.hid (by rw [fiF_no fun h => h64 h.1]; exact .inr ⟨rfl, none, 0, rfl, Below.refl _ _⟩)
    clear h64
    go_enter Try.func25, Try.ntmps25
    go_wp2_with fail
    go_ret2
    exact HRES.out

end Go.Proofs.Ytjlldjekjnlcaaa
