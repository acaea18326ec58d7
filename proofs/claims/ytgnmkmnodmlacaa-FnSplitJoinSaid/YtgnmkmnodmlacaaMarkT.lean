/- The laws' marks in lists of strings (markText, markStringS, heldStringS), by their contracts. -/
import Derived.Test.YtgnmkmnodmlacaaStrB
import Derived.Lib.ItoaNum
import Derived.Lib.ItoaMem
import Derived.Laws.BytesString
import Derived.Deep.RegionWith
import Derived.IntWalk
import Derived.Maps.AppendAt
namespace Go.Proofs.Ytgnmkmnodmlacaa
open Go.RowKit

/-- The mark of the number k. -/
def markOf (k : Nat) : ByteArray := ⟨(109 :: Lib.decDigits k).toArray⟩

theorem cat_bytes (x y : List UInt8) : (({ data := x.toArray } : ByteArray) ++ ({ data := y.toArray } : ByteArray)) = { data := (x ++ y).toArray } := by
  apply ByteArray.ext; simp

/-- The digits that are still to come, in front of those that lie there. -/
def digitsOf (k : Nat) : List UInt8 := if k = 0 then [] else Lib.decDigits k
theorem digits_step {k : Nat} (h : 0 < k) : digitsOf k = digitsOf (k / 10) ++ [UInt8.ofNat (48 + k % 10)] := by
  unfold digitsOf
  rw [if_neg (by omega)]
  by_cases h10 : k < 10
  · rw [if_pos (by omega), Lib.decDigits_one h10, Nat.mod_eq_of_lt h10]; rfl
  · rw [if_neg (by omega), Lib.decDigits, dif_neg h10]

theorem dec_lens (k : Nat) : ∀ u, u < 10 ^ (k + 1) → (Lib.decDigits u).length ≤ k + 1 := by
  induction k with
  | zero => intro u h; rw [Lib.decDigits_one (by simpa using h)]; simp
  | succ k ih =>
    intro u h
    rw [Lib.decDigits]
    split
    · simp
    · have := ih (u / 10) (by rw [Nat.pow_succ] at h; omega)
      simp; omega

set_option maxHeartbeats 1000000 in
theorem markText_any (k : Nat) (w : World) (h1 : 1 ≤ k) (h2 : k ≤ 9999999) :
    Calls Try.prog 34 #[.int .i64 (k : Int)] w fun e w' => e = .returned (.string (markOf k)) ∧ Below w.heap.size w w' := by
  go_enter Try.func34, Try.ntmps34
  go_wp2
  go_loopw [0, 3] (fun i o wr => ∃ (j : Nat) (ob : ByteArray), j ≤ k ∧ i = .int .i64 j ∧ o = .string ob ∧ ob.size ≤ 10 ∧ (∃ l : List UInt8, ob = ⟨l.toArray⟩ ∧ digitsOf j ++ l = Lib.decDigits k) ∧ Below w.heap.size w wr) (fun i _ _ => (intOf i).toNat)
  case atStart => exact ⟨k, ⟨#[]⟩, Nat.le_refl _, rfl, rfl, by decide, ⟨[], rfl, by unfold digitsOf; rw [if_neg (by omega)]; simp⟩, Below.refl _ _⟩
  case round =>
    obtain ⟨j, ob, hj, rfl, rfl, hob, ⟨l, hl, hd⟩, hb⟩ := hrel
    have HB := Lib.hid hb
    have HL := Lib.hid hl
    have HD := Lib.hid hd
    clear hb hl hd
    by_cases h0 : 0 < j
    · have hjb : (j : Int) ≤ 9999999 := by omega
      obtain ⟨d, hd⟩ : ∃ d : UInt8, d = UInt8.ofNat (48 + j % 10) := ⟨_, rfl⟩
      have hdn : (d.toNat : Int) = 48 + (j : Int) % 10 := by rw [hd]; simp; omega
      have hcv := run_convert_bytes_back (P := Try.prog) (wr.alloc (.cells #[.int .u8 (d.toNat : Int)] 5)) 22 9 5 ⟨wr.heap.size, 0, none⟩ 1 [d] Try.underlying22 Try.underlying5 Try.underlying9 (fun i hi => by
        obtain rfl : i = 0 := by simpa using hi
        exact cell_one_new wr (.int .u8 (d.toNat : Int)) 5 0 _ rfl)
      rw [hdn] at hcv
      have HLN : Hid ((digitsOf (j / 10) ++ (d :: l)) = Lib.decDigits k) := Lib.hid (by rw [← HD.out, digits_step h0, hd]; simp)
      obtain ⟨db, hdb⟩ : ∃ db : ByteArray, db = ⟨[d].toArray⟩ := ⟨_, rfl⟩
      obtain ⟨on, hon⟩ : ∃ on : ByteArray, on = db ++ ob := ⟨_, rfl⟩
      have hz : db.size = 1 := by rw [hdb]; rfl
      have hadd := fun wx => run_string_add_sum (w := wx) (P := Try.prog) db ob (by omega)
      rw [← hon] at hadd
      have HON : Hid (on = ⟨(d :: l).toArray⟩) := Lib.hid (by rw [hon, hdb, HL.out]; exact cat_bytes [d] l)
      have HOS : Hid (on.size ≤ 10) := Lib.hid (by
        have h1 := congrArg List.length HLN.out
        have h2 := dec_lens 6 k (by omega)
        rw [HON.out]
        have h3 : (⟨(d :: l).toArray⟩ : ByteArray).size = (d :: l).length := by simp [ByteArray.size]
        rw [h3]
        rw [List.length_append] at h1
        omega)
      have hcv2 : (convert 22 9 (.slice (some ⟨wr.heap.size, 0, none⟩) 1 1)).run Try.prog (wr.alloc (.cells #[.int .u8 (48 + (j : Int) % 10)] 5)) = .ok (.string db) (wr.alloc (.cells #[.int .u8 (48 + (j : Int) % 10)] 5)) := by rw [hdb]; exact hcv
      have hsz := HB.out.size
      clear hcv hd hdn hdb hon hz
      go_wp2
      go_roundw
      case rel => exact ⟨j / 10, on, by omega, by go_num, rfl, HOS.out, ⟨_, HON.out, HLN.out⟩, HB.out.alloc hsz _⟩
      case measure => simp [intOf]; omega
    · obtain rfl : j = 0 := by omega
      have hadd := fun wx => run_string_add_sum (w := wx) (P := Try.prog) ({ data := #[109] } : ByteArray) ob (by have : ({ data := #[109] } : ByteArray).size = 1 := rfl; omega)
      have he : ({ data := #[109] } : ByteArray) ++ ob = markOf k := by
        rw [HL.out]; unfold markOf
        have := HD.out
        simp only [digitsOf, if_true, List.nil_append] at this
        rw [← this]; exact cat_bytes [109] l
      rw [he] at hadd
      clear he
      go_wp2
      go_ret
      exact ⟨rfl, HB.out⟩

/-- The cells behind k marks from m on. -/
def marksOf (m n : Nat) : List ByteArray := (List.range n).map fun i => markOf (m + i)
def half (xs : List ByteArray) (m k : Nat) : List Value := (marksOf m k).map Value.string ++ (xs.drop k).map Value.string

theorem marks_length (m n : Nat) : (marksOf m n).length = n := by unfold marksOf; simp
theorem half_length (xs : List ByteArray) (m k : Nat) (h : k ≤ xs.length) : (half xs m k).length = xs.length := by
  unfold half; simp [marks_length]; omega
theorem half_set {xs : List ByteArray} {m k : Nat} (h : k < xs.length) : (half xs m k).set k (.string (markOf (m + k))) = half xs m (k + 1) := by
  unfold half
  have hl : ((marksOf m k).map Value.string).length = k := by simp [marks_length]
  rw [List.set_append_right _ _ (by omega), hl, Nat.sub_self, List.drop_eq_getElem_cons h, List.map_cons, List.set_cons_zero]
  have e : marksOf m (k + 1) = marksOf m k ++ [markOf (m + k)] := by unfold marksOf; rw [List.range_succ]; simp
  rw [e, List.map_append, List.append_assoc]; rfl
theorem half_all (xs : List ByteArray) (m : Nat) : half xs m xs.length = (marksOf m xs.length).map Value.string := by unfold half; simp

theorem own_below {w w' : World} {base B : Nat} {e : TypeId} {size n : Nat} {v : Value} {xs : List Value} (h : w.ownsRow base e size v n xs) (hb : Below B w w') (hB : ∀ g, v.ownBlock = some g → g < B) : w'.ownsRow base e size v n xs := by
  refine ⟨h.1, ?_⟩
  rcases h.2 with hn | ⟨g, cap, cur, rfl, h1, hg, rest⟩
  · exact .inl hn
  · exact .inr ⟨g, cap, cur, rfl, h1, (hb.block g (hB g rfl)).trans hg, rest⟩

set_option maxHeartbeats 1000000 in
/-- markStringS over an owned row: the marks stand there. -/
theorem markS_any (base g cap : Nat) (xs : List ByteArray) (m : Nat) (w : World) (hown : w.ownsRow base 9 1 (.slice (some ⟨g, 0, none⟩) xs.length cap) xs.length (xs.map Value.string)) (hm : 1 ≤ m) (hn : m + xs.length ≤ 9999999) (hb0 : base ≤ w.heap.size) :
    Calls Try.prog 19 #[.slice (some ⟨g, 0, none⟩) xs.length cap, .int .i64 (m : Int)] w fun e w' => e = .returned (.int .i64 ((m + xs.length : Nat) : Int)) ∧
      w'.ownsRow base 9 1 (.slice (some ⟨g, 0, none⟩) xs.length cap) xs.length ((marksOf m xs.length).map Value.string) ∧ Below base w w' := by
  have hgb := (hown.lt g rfl).1
  have HO := Lib.hid hown
  clear hown
  go_enter Try.func19, Try.ntmps19
  go_wp2
  go_loopw [1, 5] (fun q i wr => ∃ k : Nat, k ≤ xs.length ∧ i = .int .i64 k ∧ q = .int .i64 ((m + k : Nat) : Int) ∧ wr.ownsRow base 9 1 (.slice (some ⟨g, 0, none⟩) xs.length cap) xs.length (half xs m k) ∧ Below base w wr) (fun _ i _ => xs.length - (intOf i).toNat)
  case atStart => exact ⟨0, Nat.zero_le _, rfl, rfl, by simpa [half, marksOf] using HO.out, Below.refl _ _⟩
  case round =>
    obtain ⟨k, hk, rfl, rfl, hr, hb⟩ := hrel
    have HR := Lib.hid hr
    have HB := Lib.hid hb
    clear hr hb
    by_cases hlt : k < xs.length
    · have HM := Lib.hid (fun W => by have h := markText_any (m + k) W (by omega) (by omega); rw [Int.natCast_add] at h; exact h)
      have hq : (m : Int) + (k : Int) ≤ 9999999 := by omega
      have hglt := (HR.out.lt g rfl).2
      go_wp2_with fail
      refine (HM.out _).mono ?_
      rintro e w2 ⟨rfl, hb2⟩
      have hr2 := own_below HR.out hb2 (fun j e => by
        obtain rfl : g = j := by simpa [Value.ownBlock] using e
        exact hglt)
      have hcell : w2.cell? ⟨g, k, none⟩ = (half xs m k)[k]? := hr2.cellAt k (by omega)
      rw [List.getElem?_eq_getElem (by rw [half_length xs m k (by omega)]; exact hlt)] at hcell
      have hfr := hr2.frozenAt k
      obtain ⟨u, hu⟩ : ∃ u, u = (half xs m k)[k]'(by rw [half_length xs m k (by omega)]; exact hlt) := ⟨_, rfl⟩
      rw [← hu] at hcell
      have HR3 := Lib.hid (hr2.stored k (.string (markOf (m + k))))
      have HB3 : Hid (Below base w (w2.setCell ⟨g, k, none⟩ (.string (markOf (m + k))))) := Lib.hid ((HB.out.trans (hb2.mono (by have := HB.out.size; omega))).setCell (p := ⟨g, k, none⟩) hgb _)
      clear hr2 hb2 hu
      go_wp2
      go_roundw
      case rel => exact ⟨k + 1, by omega, by go_num, by go_num, by rw [← half_set hlt]; exact HR3.out.1, HB3.out⟩
      case measure => simp [intOf]; omega
    · obtain rfl : k = xs.length := by omega
      go_wp2
      go_ret
      exact ⟨rfl, by rw [← half_all]; exact HR.out, HB.out⟩

set_option maxHeartbeats 1000000 in
/-- heldStringS over the marks. -/
theorem heldS_any (base g cap n : Nat) (m : Nat) (w : World) (hown : w.ownsRow base 9 1 (.slice (some ⟨g, 0, none⟩) n cap) n ((marksOf m n).map Value.string)) (hm : 1 ≤ m) (hn : m + n ≤ 9999999) :
    Calls Try.prog 20 #[.slice (some ⟨g, 0, none⟩) n cap, .int .i64 (m : Int)] w fun e w' => e = .returned (.int .i64 ((m + n : Nat) : Int)) ∧ Below w.heap.size w w' := by
  have hglt := (hown.lt g rfl).2
  have HO := Lib.hid hown
  clear hown
  go_enter Try.func20, Try.ntmps20
  go_wp2
  go_loopw [1, 5] (fun q i wr => ∃ k : Nat, k ≤ n ∧ i = .int .i64 k ∧ q = .int .i64 ((m + k : Nat) : Int) ∧ Below w.heap.size w wr) (fun _ i _ => n - (intOf i).toNat)
  case atStart => exact ⟨0, Nat.zero_le _, rfl, rfl, Below.refl _ _⟩
  case round =>
    obtain ⟨k, hk, rfl, rfl, hb⟩ := hrel
    have HB := Lib.hid hb
    by_cases hlt : k < n
    · have HM := Lib.hid (fun W => by have h := markText_any (m + k) W (by omega) (by omega); rw [Int.natCast_add] at h; exact h)
      have hq : (m : Int) + (k : Int) ≤ 9999999 := by omega
      have hc0 : w.cell? ⟨g, k, none⟩ = some (.string (markOf (m + k))) := by
        rw [HO.out.cellAt k (by omega)]
        simp [marksOf, hlt]
      have hc1 : wr.cell? ⟨g, k, none⟩ = some (.string (markOf (m + k))) := (hb.cell (p := ⟨g, k, none⟩) hglt).trans hc0
      have HC0 := Lib.hid hc0
      clear hb hc0
      go_wp2
      go_region_with (go_at_call 34; refine (HM.out _).mono ?_; rintro e w2 ⟨rfl, hb2⟩; have hcc : w2.cell? ⟨g, k, none⟩ = some (.string (markOf (m + k))) := (hb2.cell (p := ⟨g, k, none⟩) (by have := HB.out.size; first | exact Nat.lt_of_lt_of_le hglt this | (simp; omega))).trans (by first | exact hc1 | (simpa using hc1)))
      all_goals
        have HB2 : Hid (Below w.heap.size w w2) := Lib.hid (HB.out.trans ((((Below.refl wr.heap.size wr).drew).trans hb2).mono HB.out.size))
        clear hb2
        go_wp2
        go_roundw
        case rel => exact ⟨k + 1, by omega, by go_num, by go_num, HB2.out⟩
        case measure => simp [intOf]; omega
    · obtain rfl : k = n := by omega
      go_wp2
      go_ret
      exact ⟨rfl, HB.out⟩

end Go.Proofs.Ytgnmkmnodmlacaa
