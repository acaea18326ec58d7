/- canJoin, by its contract. -/
import Derived.Test.YtcbeoihgaccjcaaDoorSep
import Derived.Test.YtcbeoihgaccjcaaDoorMarks
import Derived.RangeFuncFrom
namespace Go.Proofs.YtcbeoihgaccjcaaDoor
open Go.RowKit Go.Shelf

attribute [local go_sem] Oper.semAt_some

def tot (xs : List ByteArray) (k : Nat) : Nat := xs.length - 1 + ((xs.take k).map ByteArray.size).sum
def NoSep (xs : List ByteArray) (b : UInt8) (k : Nat) : Prop := ∀ j x, j < k → xs[j]? = some x → idx x b x.size = []
theorem tot_succ {xs : List ByteArray} {k : Nat} {x : ByteArray} (h : xs[k]? = some x) : tot xs (k + 1) = tot xs k + x.size := by
  unfold tot
  rw [List.take_add_one, h]; simp; omega
theorem tot_mono {xs : List ByteArray} {k m : Nat} (h : k ≤ m) : tot xs k ≤ tot xs m := by
  unfold tot
  obtain ⟨d, rfl⟩ := Nat.exists_eq_add_of_le h
  rw [List.take_add]; simp
theorem tot_all {xs : List ByteArray} {k : Nat} (h : xs.length ≤ k) : tot xs k = tot xs xs.length := by
  unfold tot; rw [List.take_of_length_le h, List.take_of_length_le (Nat.le_refl _)]
theorem NoSep.succ {xs : List ByteArray} {b : UInt8} {k : Nat} {x : ByteArray} (h : NoSep xs b k) (hx : xs[k]? = some x) (hi : idx x b x.size = []) : NoSep xs b (k + 1) := by
  intro j y hj hy
  rcases Nat.lt_or_ge j k with h1 | h1
  · exact h j y h1 hy
  · obtain rfl : j = k := by omega
    rw [hx] at hy; injection hy with hy; subst hy; exact hi

/-- What canJoin answers. -/
def CanIs (xs : List ByteArray) (b : UInt8) (r : Bool) : Prop := (r = true ↔ NoSep xs b xs.length ∧ tot xs xs.length ≤ 4000)

theorem can_big {xs : List ByteArray} {b : UInt8} {k : Nat} (hk : k ≤ xs.length) (h : 4000 < tot xs k) : CanIs xs b false :=
  ⟨fun h => (by cases h), fun h2 => (by have := tot_mono (xs := xs) hk; omega)⟩
theorem can_hit {xs : List ByteArray} {b : UInt8} {k : Nat} {x : ByteArray} (hx : xs[k]? = some x) (h : idx x b x.size ≠ []) : CanIs xs b false :=
  ⟨fun h => (by cases h), fun h2 => absurd (h2.1 k x (List.getElem?_eq_some_iff.1 hx).1 hx) h⟩
theorem can_yes {xs : List ByteArray} {b : UInt8} (h : NoSep xs b xs.length) (h2 : tot xs xs.length ≤ 4000) : CanIs xs b true := ⟨fun _ => ⟨h, h2⟩, fun _ => rfl⟩

def CanPost (xs : List ByteArray) (b : UInt8) (w : World) (e : Ending) (w' : World) : Prop := ∃ r : Bool, e = .returned (.bool r) ∧ CanIs xs b r ∧ Below w.heap.size w w'

theorem can_leave {F : Fence} {n : Nat} {xs : List ByteArray} {b : UInt8} {w W : World} {tmps : Array Value} {ms : List Nat} {r : Bool} (hr : Ready (w.heap.size + 1) ms W) (hb : Below w.heap.size w W) (hs : w.heap.size + 1 ≤ W.heap.size)
    (ht : tmps.getD 4 undef = .bool r) (hc : CanIs xs b r) : LeavesInM F n Tryd.prog Tryd.f37 tmps (CanPost xs b w) (marks ms) .returning W := by
  refine leaves_marks ms W hs hr fun W' hb' => ?_
  exact ⟨_, results_tmp rfl _ _ _, r, by rw [ht], hc, hb.trans (hb'.mono (by omega))⟩

set_option maxRecDepth 100000 in
set_option maxHeartbeats 4000000 in
theorem canJoin_any (bk o c : Nat) (xs : List ByteArray) (b : UInt8) (w : World) (hc : ∀ (j : Nat) x, xs[j]? = some x → w.cell? ⟨bk, o + j, none⟩ = some (.string x)) (hbk : bk < w.heap.size)
    (hlen : 1 ≤ xs.length) (hsz : xs.length ≤ 1048576) (hxs : ∀ (j : Nat) x, xs[j]? = some x → x.size ≤ 1048576) :
    Calls Tryd.prog 37 #[.slice (some ⟨bk, o, none⟩) xs.length c, .int .u8 (b.toNat : Int)] w (CanPost xs b w) := by
  have HC := Lib.hid hc
  have HX := Lib.hid hxs
  clear hc hxs
  refine (callsIn_wide (n := 5)).1 ?_
  refine callsIn_of_wp_marks Tryd.func37 rfl trivial ?_ rfl
  simp only [Tryd.ntmps37, List.size_toArray, List.length_cons, List.length_nil, Nat.reduceAdd, Nat.reduceSub, Array.replicate_succ, Array.replicate_zero, List.push_toArray, List.append_toArray, List.nil_append, List.cons_append]
  gi_wp2
  refine wide_scope ?_
  gi_wp2
  refine wpIn_label ?_
  gi_wp2
  refine wpIn_loop (fun a wr => ∃ (k : Nat) (ms : List Nat) (u8 u15 u16 u17 u18 u19 u20 u21 u22 u23 u24 u25 u26 u27 u28 : Value), a = { tmps := #[.slice (some ⟨bk, o, none⟩) xs.length c, .int .u8 (b.toNat : Int), undef, undef, .bool false, .int .i64 (tot xs k : Int), .pointer (some ⟨w.heap.size, 0, none⟩), undef, u8, .slice (some ⟨bk, o, none⟩) xs.length c, .int .i64 (xs.length : Int), .int .i64 ((xs.length : Int) - 1), .slice (some ⟨bk, o, none⟩) xs.length c, .int .i64 (xs.length : Int), .int .i64 (k : Int), u15, u16, u17, u18, u19, u20, u21, u22, u23, u24, u25, u26, u27, u28, undef, undef, undef, undef, undef, undef], defers := marks ms } ∧
      k ≤ xs.length ∧ (k = 0 ∨ tot xs k ≤ 4000) ∧ NoSep xs b k ∧ Boxed wr w.heap.size 4 (.bool false) ∧ Below w.heap.size w wr ∧ w.heap.size + 1 ≤ wr.heap.size ∧ Ready (w.heap.size + 1) ms wr)
    (fun a _ => xs.length - (intOf (a.tmps.getD 14 undef)).toNat) ?start ?round
  case start =>
    refine ⟨0, [], undef, undef, undef, undef, undef, undef, undef, undef, undef, undef, undef, undef, undef, undef, undef, ?_, Nat.zero_le _, .inl rfl, fun j x h => by omega, Boxed.new _ _ _, (Below.refl _ _).alloc (Nat.le_refl _) _, by simp, Ready.nil _ _⟩
    have e : ((tot xs 0 : Nat) : Int) = (xs.length : Int) - 1 := by unfold tot; simp; omega
    rw [e]; rfl
  case round =>
    rintro a wr ⟨k, ms, u8, u15, u16, u17, u18, u19, u20, u21, u22, u23, u24, u25, u26, u27, u28, rfl, hk, ht, hns, hbox, hb, hs, hr⟩
    have hbc := hbox.cell
    have hbf := hbox.frozen
    have htb : (0 : Int) ≤ tot xs k := by omega
    have htb2 : (tot xs k : Int) ≤ 1048576 := by
      rcases ht with rfl | ht
      · unfold tot; simp; omega
      · omega
    have HT := Lib.hid ht
    have HNS := Lib.hid hns
    have HB := Lib.hid hb
    have HR := Lib.hid hr
    clear ht hns hr hb
    by_cases hlt : k < xs.length
    · obtain ⟨x, hx⟩ : ∃ x, xs[k]? = some x := ⟨_, List.getElem?_eq_getElem hlt⟩
      have hcell : wr.cell? ⟨bk, o + k, none⟩ = some (.string x) := (HB.out.cell (p := ⟨bk, o + k, none⟩) hbk).trans (HC.out k x hx)
      have hxb : (x.size : Int) ≤ 1048576 := by have := HX.out k x hx; omega
      have HXK := Lib.hid hx
      clear hx
      by_cases hbig : 4000 < tot xs k + x.size
      · have HI := Lib.hid (can_big (xs := xs) (b := b) (k := k + 1) (by omega) (by rw [tot_succ HXK.out]; omega))
        have hd4 : decide ((tot xs k : Int) + (x.size : Int) ≤ 4000) = false := by simp; omega
        have HD4 := Lib.hid hd4
        gi_wp2
        exact can_leave (r := false) HR.out HB.out hs (by first | rfl | exact congrArg Value.bool HD4.out) HI.out
      · have hd4 : decide ((4000 : Int) < (tot xs k : Int) + x.size) = false := by simp; omega
        gi_wp2_with (refine ⟨trivial, ?_⟩; gi_at_call 41; refine (sep_in Fence.wide 4 trivial rfl _ _ _).mono ?_; rintro e w1 ⟨rfl, rfl⟩)
        have bN1 := Boxed.new wr 9 (.string x)
        have bN2 := Boxed.new (wr.alloc (.cells #[.string x] 9)) 5 (.int .u8 (b.toNat : Int))
        rw [World.size_alloc] at bN2
        have hc1 := (bN1.alloc (.cells #[.int .u8 (b.toNat : Int)] 5)).cell
        have hc2 := bN2.cell
        have hbx := (hbox.alloc (.cells #[.string x] 9)).alloc (.cells #[.int .u8 (b.toNat : Int)] 5)
        have hbL : Below w.heap.size w ((wr.alloc (.cells #[.string x] 9)).alloc (.cells #[.int .u8 (b.toNat : Int)] 5)) := (HB.out.alloc (by omega) _).alloc (by simp; omega) _
        have hrL : Ready (w.heap.size + 1) ms ((wr.alloc (.cells #[.string x] 9)).alloc (.cells #[.int .u8 (b.toNat : Int)] 5)) := HR.out.below (((Below.refl wr.heap.size wr).alloc (Nat.le_refl _) _).alloc (by simp) _) (Nat.le_refl _)
        have hszL : ((wr.alloc (.cells #[.string x] 9)).alloc (.cells #[.int .u8 (b.toNat : Int)] 5)).heap.size = wr.heap.size + 2 := by simp
        clear bN1 bN2
        generalize ((wr.alloc (.cells #[.string x] 9)).alloc (.cells #[.int .u8 (b.toNat : Int)] 5)) = wL at *
        have hbr := hbx.cell
        have hbrf := hbx.frozen
        refine wpIn_rangeFunc_ownF rfl (by decide) (gf := 50) (lb := #[.pointer (some ⟨wr.heap.size, 0, none⟩), .pointer (some ⟨wr.heap.size + 1, 0, none⟩)]) rfl trivial (enters_of Tryd.func50 (by kernel_rfl) rfl)
          (sep_stops Fence.wide 4 trivial rfl (by decide) wr.heap.size (wr.heap.size + 1) wL.heap.size (by omega) (by omega) x (by unfold maxLen; omega) b wL (Nat.le_refl _) hc1 hc2) belowK_t (belowK_b (Nat.le_refl _)) (Below.refl _ _) (fun _ => rfl)
          (fun pre W => pre = [] ∧ Below wL.heap.size wL W)
          (fun c pre W => (c = .exit 0 ∧ pre ≠ []) ∧ Below wL.heap.size (wL.setCell ⟨w.heap.size, 0, none⟩ (.bool true)) W)
          (OwnFrom.and (ownFrom_pure _ (fun pre => pre = [])) (ownFrom_below (Nat.le_refl _) (Nat.le_refl _)))
          (fun c => OwnFrom.and (ownFrom_pure _ (fun pre => c = .exit 0 ∧ pre ≠ [])) (ownFrom_below (by simp [World.setCell]) (Nat.le_refl _)))
          ⟨rfl, Below.refl _ _⟩
          (fun y : Nat => { tmps := #[.slice (some ⟨bk, o, none⟩) xs.length c, .int .u8 (b.toNat : Int), undef, undef, .bool false, .int .i64 (tot xs k + x.size : Int), .pointer (some ⟨w.heap.size, 0, none⟩), undef, .string x, .slice (some ⟨bk, o, none⟩) xs.length c, .int .i64 (xs.length : Int), .int .i64 ((xs.length : Int) - 1), .slice (some ⟨bk, o, none⟩) xs.length c, .int .i64 (xs.length : Int), .int .i64 (k : Int), .bool true, .pointer (some ⟨bk, o + k, none⟩), .string x, .int .i64 (tot xs k : Int), .string x, .int .i64 (x.size : Int), .int .i64 (tot xs k + x.size : Int), .int .i64 (tot xs k + x.size : Int), .bool false, .string x, .int .u8 (b.toNat : Int), .func (.func 50) #[] #[.pointer (some ⟨wr.heap.size, 0, none⟩), .pointer (some ⟨wr.heap.size + 1, 0, none⟩)], .int .i64 (y : Int), u28, undef, undef, undef, undef, undef, undef], defers := [] }) ?assign ?body ?done ?stop
        case assign =>
          intro l y W K hK
          gi_wp2
          exact hK
        case body =>
          rintro l pre y W ⟨rfl, hbW⟩ _
          have hcW : W.cell? ⟨w.heap.size, 0, none⟩ = some (.bool false) := (hbW.cell (p := ⟨w.heap.size, 0, none⟩) (by show w.heap.size < _; omega)).trans hbr
          have hfW : W.frozen? ⟨w.heap.size, 0, none⟩ = false := (hbW.frozen (p := ⟨w.heap.size, 0, none⟩) (by show w.heap.size < _; omega)).trans hbrf
          gi_wp2
          exact ⟨KeepsOthers.setCell _ _ _, ⟨rfl, by simp⟩, below_setCells hbW _ _⟩
        case done =>
          rintro D ys W hD rfl ⟨hi, hbW⟩ hK
          have HI := Lib.hid hi
          have HK := Lib.hid hK
          clear hi hK hc1 hc2
          have hk1 : (k : Int) < 1048576 := by omega
          gi_wp2
          have e5 : (tot xs k : Int) + (x.size : Int) = ((tot xs (k + 1) : Nat) : Int) := by rw [tot_succ HXK.out]; omega
          rw [e5, show (k : Int) + 1 = ((k + 1 : Nat) : Int) from rfl]
          have hDm : D ∉ ms := fun hm => by
            have h1 := (hrL.1 D hm).2
            have := (Array.getElem?_eq_some_iff.1 h1).1
            omega
          refine ⟨⟨k + 1, D :: ms, _, _, _, _, _, _, _, _, _, _, _, _, _, _, _, rfl, by omega, .inr (by rw [tot_succ HXK.out]; omega), HNS.out.succ HXK.out HI.out, (hbW.block _ (by omega)).trans hbx, hbL.trans (hbW.mono (by omega)), by have := hbW.size; omega, (hrL.below hbW (Nat.le_refl _)).cons (by omega) HK.out hDm⟩, ?_⟩
          simp [intOf]; omega
        case stop =>
          rintro D cc pre W hD hpre ⟨⟨rfl, hne⟩, hbW⟩ hK
          have HI := Lib.hid (can_hit (xs := xs) (b := b) HXK.out (fun e => hne (List.prefix_nil.1 (e ▸ hpre))))
          have hcW : W.cell? ⟨w.heap.size, 0, none⟩ = some (.bool true) := (hbW.cell (p := ⟨w.heap.size, 0, none⟩) (by show w.heap.size < _; omega)).trans (World.cell?_setCell_same' _ _ _ (by rw [hbr]; rfl))
          have HK := Lib.hid hK
          have HP := Lib.hid hpre
          have HN := Lib.hid hne
          clear hK hc1 hc2 hpre hne
          gi_wp2
          have hDm : D ∉ ms := fun hm => by
            have h1 := (hrL.1 D hm).2
            have := (Array.getElem?_eq_some_iff.1 h1).1
            omega
          exact can_leave (r := false) (ms := D :: ms) (((hrL.setCell (p := ⟨w.heap.size, 0, none⟩) (by show w.heap.size < _; omega) _).below hbW (by simp [World.setCell])).cons (by omega) HK.out hDm)
            ((hbL.setCell (p := ⟨w.heap.size, 0, none⟩) (Nat.le_refl _) _).trans (hbW.mono (by omega))) (by have := hbW.size; simp [World.setCell] at this; omega) rfl HI.out
    · obtain rfl : k = xs.length := by omega
      have HI : Hid (CanIs xs b (decide ((tot xs xs.length : Int) ≤ 4000))) := Lib.hid (by
        by_cases h : tot xs xs.length ≤ 4000
        · rw [show decide ((tot xs xs.length : Int) ≤ 4000) = true by simp; omega]; exact can_yes HNS.out h
        · rw [show decide ((tot xs xs.length : Int) ≤ 4000) = false by simp; omega]; exact can_big (Nat.le_refl _) (by omega))
      gi_wp2
      exact can_leave (r := decide ((tot xs xs.length : Int) ≤ 4000)) HR.out HB.out hs rfl HI.out

end Go.Proofs.YtcbeoihgaccjcaaDoor
