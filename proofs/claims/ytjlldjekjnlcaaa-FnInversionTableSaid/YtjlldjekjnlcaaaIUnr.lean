/- The program's UnrankPermutation, by its contract. -/
import Derived.Test.YtjlldjekjnlcaaaPerm
import Derived.Test.YtjlldjekjnlcaaaRetI
import Derived.Test.YtjlldjekjnlcaaaDelRow
import Derived.Laws.BitsLemmas
import Derived.Test.YtjlldjekjnlcaaaIdent
namespace Go.Proofs.Ytjlldjekjnlcaaa
open Go.RowKit P

/-- Digits, as the program keeps them. -/
def digs (n : Nat) (d : Nat → Nat) : List Int := (List.range n).map fun j : Nat => ((d j : Nat) : Int)
theorem digs_length (n : Nat) (d : Nat → Nat) : (digs n d).length = n := by simp [digs]
theorem digs_at {n : Nat} {d : Nat → Nat} {k : Nat} (h : k < n) : (digs n d)[k]? = some ((d k : Nat) : Int) := by simp [digs, h]

set_option maxRecDepth 100000 in
set_option maxHeartbeats 4000000 in
theorem permutationOf_any (v : Value) (n : Nat) (d : Nat → Nat) (w : World) (hv : FlatAt w v n (ints (digs n d))) (hn : n ≤ 1048576) (hd : ∀ k, k < n → d k < n - k) :
    Calls Try.prog 53 #[v] w (RowI (pickSt d (iota n) n).1 w) := by
  obtain ⟨a, c, rfl, _, h⟩ := hv
  have H := Lib.hid h
  have HD := Lib.hid hd
  clear h hd
  have HID := Lib.hid (fun W => identity_any n W hn)
  have HMK := fun W => makeInts n hn W
  have HO := Lib.hid (fun k => pickSt_out d (iota n) k)
  have HRL : Hid (∀ k, k ≤ n → (pickSt d (iota n) k).2.length = n - k) := Lib.hid (fun k hk => by
    have := pickSt_rest d (iota n) k (by rw [iota_length]; exact hk) (by rw [iota_length]; exact fun j hj => HD.out j (by omega))
    rw [iota_length] at this; exact this)
  have HS := Lib.hid (fun k => pickSt_succ d (iota n) k)
  go_enter Try.func53, Try.ntmps53
  go_wp2_with fail
  refine (HID.out _).mono ?_
  rintro e w1 ⟨rfl, hr1, hb1⟩
  obtain ⟨gr, hgr⟩ : ∃ gr, gr = w.heap.size := ⟨_, rfl⟩
  have HGR := Lib.hid hgr
  rw [← hgr] at hr1 ⊢
  have HR1 := Lib.hid (CellRow.of_row hr1)
  have HB1 := Lib.hid hb1
  have hlt1 : gr < w1.heap.size := hr1.lt
  have hmk := HMK w1
  have HP1 := Lib.hid (CellRow.of_row (heap_alloc_new w1 (.cells (ints (List.replicate n 0)).toArray 3)))
  have HB2 : Hid (Below w1.heap.size w1 (w1.alloc (.cells (ints (List.replicate n 0)).toArray 3))) := Lib.hid ((Below.refl _ _).alloc (Nat.le_refl _) _)
  obtain ⟨gp, hgp⟩ : ∃ gp, gp = w1.heap.size := ⟨_, rfl⟩
  rw [← hgp] at hmk HP1 HB2 hlt1
  have HGP := Lib.hid hgp
  clear hr1 hb1 HMK HID hgr hgp
  go_wp2_with fail
  go_loopw [3, 5, 6, 15] (fun rest _ _ i wr => ∃ k : Nat, k ≤ n ∧ i = .int .i64 k ∧ rest = .slice (some ⟨gr, 0, none⟩) (n - k) n ∧ CellRow wr gr (ints ((pickSt d (iota n) k).2 ++ List.replicate k 0)) ∧
    CellRow wr gp (ints ((pickSt d (iota n) k).1 ++ List.replicate (n - k) 0)) ∧ Below w.heap.size w wr) (fun _ _ _ i _ => n - (intOf i).toNat)
  case atStart =>
    refine ⟨0, Nat.zero_le _, rfl, rfl, ?_, ?_, HB1.out.trans (HB2.out.mono (by rw [HGP.out]; exact HB1.out.size))⟩
    · have := HR1.out.below HB2.out hlt1
      simpa [pickSt] using this
    · simpa [pickSt] using HP1.out
  case round =>
    obtain ⟨k, hk, rfl, rfl, hrest, hout, hb⟩ := hrel
    have HRE := Lib.hid hrest
    have HOU := Lib.hid hout
    have HB := Lib.hid hb
    clear hrest hout hb hmk HR1 HP1 HB2
    by_cases hlt : k < n
    · have hd := HD.out k hlt
      have hrl := HRL.out k hk
      have hol := HO.out k
      obtain ⟨b, o, rfl, hbb, hcd⟩ := H.out _ _ (ints_at (digs_at (d := d) hlt))
      have hcd1 : wr.cell? ⟨b, o + k, none⟩ = some (.int .i64 ((d k : Nat) : Int)) := (HB.out.cell (p := ⟨b, o + k, none⟩) hbb).trans hcd
      obtain ⟨R, hR⟩ : ∃ R, R = (pickSt d (iota n) k).2 := ⟨_, rfl⟩
      obtain ⟨O, hO⟩ : ∃ O, O = (pickSt d (iota n) k).1 := ⟨_, rfl⟩
      have HSK := Lib.hid (HS.out k)
      rw [← hR, ← hO] at HSK
      rw [← hR] at HRE hrl
      rw [← hO] at HOU hol
      obtain ⟨e, he⟩ : ∃ e, e = d k := ⟨_, rfl⟩
      rw [← he] at hd hcd1 HSK
      have HE := Lib.hid he
      clear hR hO hcd he
      have hx := at_getD (l := R) (k := e) (by omega)
      obtain ⟨x, hxe⟩ : ∃ x, x = R.getD e 0 := ⟨_, rfl⟩
      rw [← hxe] at hx HSK
      have hcr : wr.cell? ⟨gr, e, none⟩ = some (.int .i64 x) := (HRE.out.2 _ _ (ints_at (by rw [List.getElem?_append_left (by omega)]; exact hx))).1
      obtain ⟨hcp, hfp⟩ := HOU.out.2 k _ (ints_at (p := (0 : Int)) (by rw [List.getElem?_append_right (by omega), hol, Nat.sub_self, List.getElem?_replicate, if_pos (by omega)]))
      have hw1 : IntKind.i64.wrap ((e : Int) + 1) = ((e + 1 : Nat) : Int) := by rw [IntKind.wrap_i64]; omega
      have HSET : Hid (CellRow (wr.setCell ⟨gp, k, none⟩ (.int .i64 x)) gp (ints (O ++ [x] ++ List.replicate (n - (k + 1)) 0))) := Lib.hid (by
        have h1 := HOU.out.set k (.int .i64 x) (by rw [ints_length]; simp; omega)
        rw [ints_set, List.set_append_right _ _ (by omega), hol, Nat.sub_self, show n - k = (n - (k + 1)) + 1 by omega, List.replicate_succ, List.set_cons_zero] at h1
        simpa using h1)
      have HRE2 : Hid (CellRow (wr.setCell ⟨gp, k, none⟩ (.int .i64 x)) gr (ints (R ++ List.replicate k 0))) := Lib.hid (HRE.out.but ((But.refl gp wr).setCell k _) (by omega))
      have HB2 : Hid (Below w.heap.size w (wr.setCell ⟨gp, k, none⟩ (.int .i64 x))) := Lib.hid (HB.out.setCell (p := ⟨gp, k, none⟩) (by show w.heap.size ≤ gp; have := HGR.out; omega) _)
      have HDE := Lib.hid (fun W (h : CellRow W gr (ints (R ++ List.replicate k 0))) => delete_row gr n (n - k) e (R ++ List.replicate k 0) W h (by simp; omega) (by simp; omega) hn (by omega))
      clear hx HRE HOU HB hxe
      go_wp2_with fail
      refine (HDE.out _ HRE2.out).mono ?_
      rintro e' w3 ⟨rfl, hr3, hb3⟩
      have HR3 : Hid (CellRow w3 gr (ints (R.eraseIdx e ++ List.replicate (k + 1) 0))) := Lib.hid (by
        have h1 : (R ++ List.replicate k 0).take (n - k) = R := by rw [List.take_append_of_le_length (by omega), List.take_of_length_le (by omega)]
        have h2 : (R ++ List.replicate k (0 : Int)).drop (n - k) = List.replicate k 0 := by rw [← hrl, List.drop_left]
        rw [h1, h2] at hr3
        rw [List.replicate_succ]; simpa using hr3)
      have HO3 := Lib.hid (HSET.out.but hb3 (by omega))
      have HB3 : Hid (Below w.heap.size w w3) := Lib.hid (HB2.out.trans (hb3.below (by have := HGR.out; omega) HB2.out.size))
      clear hr3 hb3 HSET HRE2 HB2 HDE
      go_wp2_with fail
      go_roundw
      case rel => exact ⟨k + 1, by omega, by go_num, by rw [show n - k - 1 = n - (k + 1) by omega], by rw [HSK.out]; exact HR3.out, by rw [HSK.out]; exact HO3.out, HB3.out⟩
      case measure => simp [intOf]; omega
    · obtain rfl : k = n := by omega
      have HRES : Hid (RowI (pickSt d (iota k) k).1 w (.returned (.slice (some ⟨gp, 0, none⟩) k k)) wr) := Lib.hid ⟨gp, k, by rw [HO.out], by rw [HO.out]; exact Nat.le_refl _, by have := HGR.out; omega, by simpa using HOU.out, HB.out⟩
      clear HOU HRE HO HRL HS
      go_wp2_with fail
      go_ret
      exact HRES.out

end Go.Proofs.Ytjlldjekjnlcaaa
