/- SplitString of the program, by its contract. -/
import Derived.Test.YtcbeoihgaccjcaaDoorSep
import Derived.Test.YtcbeoihgaccjcaaDoorMarks
import Derived.Test.YtcbeoihgaccjcaaDoorStrB
import Derived.Stop.RegionWithIn
import Derived.WalkSpells
namespace Go.Proofs.YtcbeoihgaccjcaaDoor
open Go.RowKit Go.Shelf

attribute [local go_sem] Oper.semAt_some

attribute [local go_sem ↓ high] builtin_append_held

/-- The pieces before the places pre, and where the next one begins. -/
def stp (s : ByteArray) (pre : List Nat) : List ByteArray × Nat := pre.foldl (fun p i => (p.1 ++ [s.extract p.2 i], i + 1)) ([], 0)
theorem stp_snoc (s : ByteArray) (pre : List Nat) (i : Nat) : stp s (pre ++ [i]) = ((stp s pre).1 ++ [s.extract (stp s pre).2 i], i + 1) := by
  unfold stp; rw [List.foldl_append]; rfl
theorem stp_le (s : ByteArray) (b : UInt8) : ∀ k, k ≤ s.size → (stp s (idx s b k)).2 ≤ k := by
  intro k
  induction k with
  | zero => intro _; exact Nat.le_refl _
  | succ k ih =>
    intro hk
    by_cases he : s[k] = b
    · rw [idx_hit hk he, stp_snoc]; exact Nat.le_refl _
    · rw [idx_miss hk he]; have := ih (by omega); omega
theorem stp_length (s : ByteArray) (pre : List Nat) : (stp s pre).1.length = pre.length := by
  suffices h : ∀ n (pre : List Nat), pre.length = n → (stp s pre).1.length = n from h _ pre rfl
  intro n
  induction n with
  | zero => intro pre h; obtain rfl := List.eq_nil_of_length_eq_zero h; rfl
  | succ n ih =>
    intro pre h
    rcases List.eq_nil_or_concat pre with rfl | ⟨r, x, rfl⟩
    · simp at h
    · rw [List.concat_eq_append] at *
      rw [stp_snoc]
      have := ih r (by simp at h; omega)
      simp [this]
def pieces (s : ByteArray) (b : UInt8) : List ByteArray := (stp s (idx s b s.size)).1 ++ [s.extract (stp s (idx s b s.size)).2 s.size]

/-- The first piece before a place is shorter than the whole. -/
theorem stp_head (s : ByteArray) : ∀ (r : List Nat) (i : Nat), (stp s (i :: r)).1[0]? = some (s.extract 0 i) := by
  suffices h : ∀ n (r : List Nat), r.length = n → ∀ i, (stp s (i :: r)).1[0]? = some (s.extract 0 i) from fun r i => h _ r rfl i
  intro n
  induction n with
  | zero => intro r h i; obtain rfl := List.eq_nil_of_length_eq_zero h; rfl
  | succ n ih =>
    intro r h i
    rcases List.eq_nil_or_concat r with rfl | ⟨q, y, rfl⟩
    · simp at h
    · rw [List.concat_eq_append] at *
      rw [← List.cons_append, stp_snoc]
      have h1 := ih q (by simp at h; omega) i
      rw [List.getElem?_append_left (List.getElem?_eq_some_iff.1 h1).1]
      exact h1
theorem idx_mem_lt {s : ByteArray} {b : UInt8} {k i : Nat} (h : i ∈ idx s b k) : i < k := by
  unfold idx at h
  exact List.mem_range.1 (List.mem_filter.1 h).1
theorem head_short {s : ByteArray} {b : UInt8} {k : Nat} (hk : k ≤ s.size) : ∀ u, ((stp s (idx s b k)).1.map Value.string)[0]? = some u → u ≠ .string s := by
  intro u hu e
  subst e
  cases hi : idx s b k with
  | nil => rw [hi] at hu; simp [stp] at hu
  | cons i r =>
    have hlt := idx_mem_lt (s := s) (b := b) (k := k) (i := i) (by rw [hi]; simp)
    rw [hi, List.getElem?_map, stp_head] at hu
    simp only [Option.map_some, Option.some.injEq, Value.string.injEq] at hu
    have h2 : (s.extract 0 i).size = s.size := by rw [hu]
    simp at h2; omega
theorem own_ne_box {W : World} {base B n : Nat} {v : Value} {xs : List Value} {t : TypeId} {u : Value} (hrow : W.ownsRow base t 1 v n xs) (hbox : Boxed W B t u) (h0 : n = 0 → v.ownBlock ≠ some B) (h1 : ∀ y, xs[0]? = some y → y ≠ u) : some B ≠ v.ownBlock := by
  intro e
  rcases hrow.2 with ⟨rfl, _⟩ | ⟨g, cap, cur, rfl, _, hg, hn, _, hsz, htk⟩
  · simp [Value.ownBlock] at e
  · obtain rfl : B = g := by simpa [Value.ownBlock] using e
    rw [show W.heap[B]? = _ from hbox] at hg
    simp only [Option.some.injEq, Obj.cells.injEq] at hg
    obtain ⟨rfl, _⟩ := hg
    rcases Nat.eq_zero_or_pos n with h | h
    · exact h0 h (by simp [Value.ownBlock])
    · refine h1 u ?_ rfl
      rw [← htk]
      rw [List.getElem?_take_of_lt (by omega)]
      rfl

theorem infoStr : (Tryd.prog.info? 9).map (fun i => (i.zero, i.size, i.bytes)) = some (some (.string ByteArray.empty), 1, 16) := by kernel_rfl

/-- The world at the loop's head: six blocks more. -/
def splitW (w : World) (s : ByteArray) (b : UInt8) : World :=
  ((((((w.alloc (.cells #[.string s] 9)).alloc (.cells #[] 9)).alloc (.cells #[.slice (some ⟨w.heap.size + 1, 0, none⟩) 0 0] 46)).alloc (.cells #[.int .i64 0] 3)).alloc (.cells #[.string s] 9)).alloc (.cells #[.int .u8 (b.toNat : Int)] 5)).drew

theorem splitW_facts (w : World) (s : ByteArray) (b : UInt8) : (splitW w s b).heap.size = w.heap.size + 6 ∧ Below w.heap.size w (splitW w s b) ∧
    Boxed (splitW w s b) w.heap.size 9 (.string s) ∧ Boxed (splitW w s b) (w.heap.size + 2) 46 (.slice (some ⟨w.heap.size + 1, 0, none⟩) 0 0) ∧ Boxed (splitW w s b) (w.heap.size + 3) 3 (.int .i64 0) ∧
    Boxed (splitW w s b) (w.heap.size + 4) 9 (.string s) ∧ Boxed (splitW w s b) (w.heap.size + 5) 5 (.int .u8 (b.toNat : Int)) ∧
    (splitW w s b).ownsRow w.heap.size 9 1 (.slice (some ⟨w.heap.size + 1, 0, none⟩) 0 0) 0 [] := by
  have hh : (splitW w s b).heap = (((((w.heap.push (.cells #[.string s] 9)).push (.cells #[] 9)).push (.cells #[.slice (some ⟨w.heap.size + 1, 0, none⟩) 0 0] 46)).push (.cells #[.int .i64 0] 3)).push (.cells #[.string s] 9)).push (.cells #[.int .u8 (b.toNat : Int)] 5) := rfl
  refine ⟨by rw [hh]; simp, ⟨rfl, rfl, rfl, by rw [hh]; simp; omega, fun k hk => ?_⟩, ?_, ?_, ?_, ?_, ?_, ⟨rfl, .inr ⟨w.heap.size + 1, 0, #[], rfl, by omega, ?_, Nat.le_refl _, by decide, rfl, rfl⟩⟩⟩
  · rw [hh]
    simp only [Array.getElem?_push, Array.size_push]
    rw [if_neg (by omega), if_neg (by omega), if_neg (by omega), if_neg (by omega), if_neg (by omega), if_neg (by omega)]
  all_goals
    first | unfold Boxed | skip
    rw [hh]
    simp only [Array.getElem?_push, Array.size_push]
    repeat' (first | rfl | (exfalso; omega) | split)

theorem split_leave {F : Fence} {n : Nat} {s : ByteArray} {b : UInt8} {w w1 : World} {tmps : Array Value} {D : Nat} {v : Value} {k : Nat} {xs : List Value} (hK : w1.heap[D]? = some (.deferred (some []))) (hD : w.heap.size ≤ D) (hb : Below w.heap.size w w1)
    (hown : w1.ownsRow w.heap.size 9 1 v k xs) (hk : k = (pieces s b).length) (hx : xs = (pieces s b).map Value.string) (h4 : tmps.getD 4 undef = v) (h5 : tmps.getD 5 undef = .bool true) :
    LeavesInM F n Tryd.prog Tryd.f27 tmps (fun e w' => ∃ v, e = .returned (.tuple #[v, .bool true]) ∧ w'.ownsRow w.heap.size 9 1 v (pieces s b).length ((pieces s b).map Value.string) ∧ Below w.heap.size w w') [{ target := .collected D, args := #[] }] .returning w1 := by
  subst hk; subst hx
  refine ⟨by simp, .inl ⟨D, _, rfl, run_takeDeferred hK, ?_⟩⟩
  exact ⟨_, results_tmp2 rfl _ _ _, v, by rw [h4, h5], ownsRow_putObj hown _ hK rfl, hb.trans ⟨rfl, rfl, rfl, by simp [World.putObj], fun k hk => World.putObj_heap_other (by omega)⟩⟩

set_option maxRecDepth 100000 in
set_option maxHeartbeats 4000000 in
theorem split_yes (s sep : ByteArray) (w : World) (hs : s.size ≤ 4000) (hsep : sep.size = 1) (b : UInt8) (h0 : 0 < sep.size) (hy : sep[0] = b) :
    Calls Tryd.prog 27 #[.string s, .string sep] w fun e w' => ∃ v, e = .returned (.tuple #[v, .bool true]) ∧ w'.ownsRow w.heap.size 9 1 v (pieces s b).length ((pieces s b).map Value.string) ∧ Below w.heap.size w w' := by
  have hsn : ((sep.size : Int) != 1) = false := by rw [hsep]; rfl
  have hs1 : (sep.size : Int) ≤ 1 := by omega
  have hd4 : decide ((4000 : Int) < (s.size : Int)) = false := by simp; omega
  clear hsep
  refine (callsIn_wide (n := 5)).1 ?_
  refine callsIn_of_wp_marks Tryd.func27 rfl trivial ?_ rfl
  simp only [Tryd.ntmps27, List.size_toArray, List.length_cons, List.length_nil, Nat.reduceAdd, Nat.reduceSub, Array.replicate_succ, Array.replicate_zero, List.push_toArray, List.append_toArray, List.nil_append, List.cons_append]
  gi_wp2
  go_show
  first | (gi_region_with (refine ⟨trivial, ?_⟩; gi_at_call 41; refine (sep_in Fence.wide 4 trivial rfl _ _ _).mono ?_; rintro e w1 ⟨rfl, rfl⟩)) | fail
  all_goals gi_wp2
  all_goals
    obtain ⟨hz, hB, bX, bP, bS, b1, b2, hown⟩ := splitW_facts w s b
    change Code.wpIn _ _ _ _ _ _ (splitW w s b)
    generalize splitW w s b = wL at *
    obtain ⟨i0, hi, hz0, hz1, hz2⟩ := info_parts infoStr
    have HN := Lib.hid (stp_length s)
    refine range_steps rfl (by decide) (gf := 50) (lb := #[.pointer (some ⟨w.heap.size + 4, 0, none⟩), .pointer (some ⟨w.heap.size + 5, 0, none⟩)]) rfl trivial (enters_of Tryd.func50 (by kernel_rfl) rfl)
      (sep_steps Fence.wide 4 wL trivial rfl (by decide) (w.heap.size + 4) (w.heap.size + 5) (by omega) (by omega) s (by unfold maxLen; omega) b b1.cell b2.cell) KeepTwo.trans (fun W l o hl => KeepTwo.put (by omega) (by omega) W o) (fun _ => rfl)
      (fun pre W => (∃ v, Boxed W (w.heap.size + 2) 46 v ∧ W.ownsRow w.heap.size 9 1 v (stp s pre).1.length ((stp s pre).1.map Value.string) ∧ (pre = [] → v = .slice (some ⟨w.heap.size + 1, 0, none⟩) 0 0)) ∧ (Boxed W (w.heap.size + 3) 3 (.int .i64 ((stp s pre).2 : Int)) ∧ (Boxed W w.heap.size 9 (.string s) ∧ (Boxed W (w.heap.size + 4) 9 (.string s) ∧ (Boxed W (w.heap.size + 5) 5 (.int .u8 (b.toNat : Int)) ∧ Below w.heap.size w W)))))
      (OwnFrom.and (Own.from (holdsRow_own w.heap.size (w.heap.size + 2) 46 9 1 (fun pre => (stp s pre).1.length) (fun pre => (stp s pre).1.map Value.string) (fun pre v => pre = [] → v = .slice (some ⟨w.heap.size + 1, 0, none⟩) 0 0)) _)
        (OwnFrom.and (Own.from (boxed_own (w.heap.size + 3) 3 (fun pre => .int .i64 ((stp s pre).2 : Int))) _) (OwnFrom.and (Own.from (boxed_own w.heap.size 9 (fun _ => .string s)) _) (OwnFrom.and (Own.from (boxed_own (w.heap.size + 4) 9 (fun _ => .string s)) _) (OwnFrom.and (Own.from (boxed_own (w.heap.size + 5) 5 (fun _ => .int .u8 (b.toNat : Int))) _) (ownFrom_below (Nat.le_refl _) (by omega)))))))
      ⟨⟨_, bP, hown, fun _ => rfl⟩, bS, bX, b1, b2, hB⟩
      (fun x : Nat => { tmps := #[.string s, .string sep, .pointer (some ⟨w.heap.size, 0, none⟩), undef, .slice none 0 0, .bool false, .pointer (some ⟨w.heap.size + 1 + 1, 0, none⟩), .pointer (some ⟨w.heap.size + 1 + 1 + 1, 0, none⟩), .int .i64 (x : Int), .string s, .int .i64 (s.size : Int), .bool false, .bool false, .string sep, .int .i64 (sep.size : Int), .bool false, .bool false, undef, .slice (some ⟨w.heap.size + 1, 0, none⟩) 0 0, .string s, .string sep, .int .u8 (b.toNat : Int), .func (.func 50) #[] #[.pointer (some ⟨w.heap.size + 1 + 1 + 1 + 1, 0, none⟩), .pointer (some ⟨w.heap.size + 1 + 1 + 1 + 1 + 1, 0, none⟩)], .int .i64 (x : Int), undef, undef, undef, undef, undef, undef, undef, undef, undef, undef, undef, undef, undef, undef, undef], defers := [] }) ?assign ?body ?done
    case assign =>
      intro l x W K hK
      gi_wp2
      exact hK
    case body =>
      rintro l pre x W ⟨rfl, hx, hxb⟩ ⟨⟨v, hv, hrow, hG⟩, hS, hX, hY1, hY2, hb⟩
      have hne := head_short (s := s) (b := b) (k := x) (by omega)
      have hn0 : ∀ B, B ≠ w.heap.size + 1 → (stp s (idx s b x)).1.length = 0 → v.ownBlock ≠ some B := fun B hB hn e => by
        rw [stp_length] at hn
        rw [hG (List.eq_nil_of_length_eq_zero hn)] at e
        simp [Value.ownBlock] at e; omega
      have hXr := own_ne_box hrow hX (hn0 _ (by omega)) hne
      have hYr := own_ne_box hrow hY1 (hn0 _ (by omega)) hne
      have hst := stp_le s b x (by omega)
      have HI := Lib.hid (stp_snoc s (idx s b x) x)
      have hlen := stp_length s (idx s b x)
      have hle := idx_le s b x
      obtain ⟨st, hstq⟩ : ∃ st, st = (stp s (idx s b x)).2 := ⟨_, rfl⟩
      obtain ⟨ps, hps⟩ : ∃ ps, ps = (stp s (idx s b x)).1 := ⟨_, rfl⟩
      obtain ⟨pc, hpc⟩ : ∃ pc, pc = s.extract st x := ⟨_, rfl⟩
      rw [← hstq] at hst hS
      rw [← hps] at hrow hlen
      have HI2 : Hid (stp s (idx s b x ++ [x]) = (ps ++ [pc], x + 1)) := Lib.hid (by rw [HI.out, ← hps, ← hstq, ← hpc])
      have hbs := hb.size
      obtain ⟨v', w1, hrun, hown', hgrow, _⟩ := run_append_own (P := Tryd.prog) (w := W.drew.alloc (.cells #[.string pc] 9)) w.heap.size 46 46 9 i0 (.string ByteArray.empty) 1 16 Tryd.underlying46 hi hz0 hz1 hz2 rfl (by decide)
        v ps.length (ps.map Value.string) (World.ownsRow.alloc (w := W.drew) hrow _) ⟨W.heap.size, 0, none⟩ 1 1 [.string pc] rfl (cell_one_new W.drew _ _) (by simp [Value.oneCell']) (by unfold maxLen; omega) (by omega) (by simp; omega)
      have hrun2 : (heldAppend #[46, 46] 46 #[v, .slice (some ⟨W.heap.size, 0, none⟩) 1 1]).run Tryd.prog (W.alloc (.cells #[.string pc] 9)).drew = .ok v' w1 := hrun
      clear hrun
      obtain ⟨g', cap', rfl⟩ := ownsRow_succ hown'
      obtain ⟨hv1, hv2, hr2, hk2, hb2⟩ := Boxed.appended (W := W.drew) hv (by decide) hrow (by exact hbs) (by omega) hown' hgrow
      have hS1 : Boxed w1 (w.heap.size + 3) 3 (.int .i64 (st : Int)) := (Boxed.alloc (W := W.drew) hS _).kept hgrow (Boxed.not_row (W := W.drew) hS (by decide) hrow)
      have hS2 := hS1.other (B' := w.heap.size + 2) (by omega) (.slice (some ⟨g', 0, none⟩) (ps.length + 1) cap')
      have hX1 : Boxed w1 w.heap.size 9 (.string s) := (Boxed.alloc (W := W.drew) hX _).kept hgrow hXr
      have hY11 : Boxed w1 (w.heap.size + 4) 9 (.string s) := (Boxed.alloc (W := W.drew) hY1 _).kept hgrow hYr
      have hY21 : Boxed w1 (w.heap.size + 5) 5 (.int .u8 (b.toNat : Int)) := (Boxed.alloc (W := W.drew) hY2 _).kept hgrow (Boxed.not_row (W := W.drew) hY2 (by decide) hrow)
      have hX3 := (hX1.other (B' := w.heap.size + 2) (by omega) (.slice (some ⟨g', 0, none⟩) (ps.length + 1) cap')).other (B' := w.heap.size + 3) (by omega) (.int .i64 ((x : Int) + 1))
      have hY13 := (hY11.other (B' := w.heap.size + 2) (by omega) (.slice (some ⟨g', 0, none⟩) (ps.length + 1) cap')).other (B' := w.heap.size + 3) (by omega) (.int .i64 ((x : Int) + 1))
      have hY23 := (hY21.other (B' := w.heap.size + 2) (by omega) (.slice (some ⟨g', 0, none⟩) (ps.length + 1) cap')).other (B' := w.heap.size + 3) (by omega) (.int .i64 ((x : Int) + 1))
      have hP3 := hv2.other (B' := w.heap.size + 3) (by omega) (.int .i64 ((x : Int) + 1))
      have hS3 := hS2.set (.int .i64 ((x : Int) + 1))
      have hr3 : ((w1.setCell ⟨w.heap.size + 2, 0, none⟩ (.slice (some ⟨g', 0, none⟩) (ps.length + 1) cap')).setCell ⟨w.heap.size + 3, 0, none⟩ (.int .i64 ((x : Int) + 1))).ownsRow w.heap.size 9 1 (.slice (some ⟨g', 0, none⟩) (ps.length + 1) cap') (ps.length + 1) (ps.map Value.string ++ [.string pc]) :=
        hr2.kept (grownBy_setCell' _ _ _) (.inr (hS2.not_row (by decide) hr2).symm)
      have HPOST : ∀ a', Hid (stepPost wL.heap.size (KeepTwo (w.heap.size + 4) (w.heap.size + 5)) (fun pre W => (∃ v, Boxed W (w.heap.size + 2) 46 v ∧ W.ownsRow w.heap.size 9 1 v (stp s pre).1.length ((stp s pre).1.map Value.string) ∧ (pre = [] → v = .slice (some ⟨w.heap.size + 1, 0, none⟩) 0 0)) ∧ (Boxed W (w.heap.size + 3) 3 (.int .i64 ((stp s pre).2 : Int)) ∧ (Boxed W w.heap.size 9 (.string s) ∧ (Boxed W (w.heap.size + 4) 9 (.string s) ∧ (Boxed W (w.heap.size + 5) 5 (.int .u8 (b.toNat : Int)) ∧ Below w.heap.size w W))))) (idx s b x ++ [x]) W .normal a'
          ((w1.setCell ⟨w.heap.size + 2, 0, none⟩ (.slice (some ⟨g', 0, none⟩) (ps.length + 1) cap')).setCell ⟨w.heap.size + 3, 0, none⟩ (.int .i64 ((x : Int) + 1)))) := fun a' => Lib.hid (by
        refine ⟨(((⟨hk2.1, hk2.2⟩ : KeepsOthers W (w1.setCell ⟨w.heap.size + 2, 0, none⟩ (.slice (some ⟨g', 0, none⟩) (ps.length + 1) cap')))).trans (KeepsOthers.setCell _ _ _)).from _, ⟨(show _ = _ from hY13).trans hY1.symm, (show _ = _ from hY23).trans hY2.symm⟩, ?_⟩
        show (∃ v, _ ∧ _ ∧ _) ∧ _
        rw [HI2.out]
        refine ⟨⟨_, hP3, ?_, fun h => by simp at h⟩, hS3, hX3, hY13, hY23, (hb.trans (((Below.refl _ W).drew).trans hb2)).setCell (p := ⟨w.heap.size + 3, 0, none⟩) (by show w.heap.size ≤ w.heap.size + 3; omega) _⟩
        simpa using hr3)
      have hcv1 := hv1.cell
      have hfv1 := hv1.frozen
      have hcs2 := hS2.cell
      have hfs2 := hS2.frozen
      have hcv := hv.cell
      have hcs := hS.cell
      have hcx := hX.cell
      have hx1 : (x : Int) ≤ (s.size : Int) := by omega
      have hl1 := hv.lt
      have hl2 := hS.lt
      have hl3 := hX.lt
      have hca1 := (hv.alloc (.cells #[.string pc] 9)).cell
      have hca2 := (hS.alloc (.cells #[.string pc] 9)).cell
      have hca3 := (hX.alloc (.cells #[.string pc] 9)).cell
      have hst1 : (st : Int) ≤ (x : Int) := by omega
      subst hpc
      clear hstq hps
      clear hrow hown' hgrow hlen hle hz0 hz1 hz2 hne hn0 hXr hYr hX1 hY11 hY21 hX3 hY13 hY23 hP3 hS3 hr3 hr2 hk2 hb2 hv1 hv2 hS1 hS2 hG
      gi_wp2
      first | (gi_region_with (fail)) | fail
      all_goals gi_wp2
      all_goals exact (HPOST _).out
    case done =>
      rintro D ys W hD rfl ⟨⟨v, hv, hrow, hG⟩, hS, hX, hY1, hY2, hb⟩ hK
      have hst := stp_le s b s.size (Nat.le_refl _)
      have hlen := stp_length s (idx s b s.size)
      have hle := idx_le s b s.size
      obtain ⟨st, hstq⟩ : ∃ st, st = (stp s (idx s b s.size)).2 := ⟨_, rfl⟩
      obtain ⟨ps, hps⟩ : ∃ ps, ps = (stp s (idx s b s.size)).1 := ⟨_, rfl⟩
      obtain ⟨pc, hpc⟩ : ∃ pc, pc = s.extract st s.size := ⟨_, rfl⟩
      rw [← hstq] at hst hS
      rw [← hps] at hrow hlen
      have HPC : Hid (pieces s b = ps ++ [pc]) := Lib.hid (by unfold pieces; rw [← hps, ← hstq, ← hpc])
      have hbs := hb.size
      obtain ⟨v', w1, hrun, hown', hgrow, _⟩ := run_append_own (P := Tryd.prog) (w := W.drew.alloc (.cells #[.string pc] 9)) w.heap.size 46 46 9 i0 (.string ByteArray.empty) 1 16 Tryd.underlying46 hi hz0 hz1 hz2 rfl (by decide)
        v ps.length (ps.map Value.string) (World.ownsRow.alloc (w := W.drew) hrow _) ⟨W.heap.size, 0, none⟩ 1 1 [.string pc] rfl (cell_one_new W.drew _ _) (by simp [Value.oneCell']) (by unfold maxLen; omega) (by omega) (by simp; omega)
      have hrun2 : (heldAppend #[46, 46] 46 #[v, .slice (some ⟨W.heap.size, 0, none⟩) 1 1]).run Tryd.prog (W.alloc (.cells #[.string pc] 9)).drew = .ok v' w1 := hrun
      clear hrun
      obtain ⟨g', cap', rfl⟩ := ownsRow_succ hown'
      have hDl := (Array.getElem?_eq_some_iff.1 hK).1
      have hnD : some D ≠ v.ownBlock := by
        intro e
        rcases hrow.2 with ⟨rfl, _⟩ | ⟨g, cap, cur, rfl, _, hg, _⟩
        · simp [Value.ownBlock] at e
        · obtain rfl : D = g := by simpa [Value.ownBlock] using e
          rw [hK] at hg; cases hg
      have HK1 : Hid (w1.heap[D]? = some (.deferred (some []))) := Lib.hid ((hgrow.block D (by simp; omega) hnD).trans ((Below.heap_alloc W.drew _ D hDl).trans hK))
      have HB1 : Hid (Below w.heap.size w w1) := Lib.hid ((hb.trans (((Below.refl _ W).drew).alloc (by exact hbs) (.cells #[.string pc] 9))).grown hgrow (by simp; omega) (fun j e => by
        rcases hrow.2 with ⟨rfl, _⟩ | ⟨g, cap, cur, rfl, hgb, _⟩
        · simp [Value.ownBlock] at e
        · obtain rfl : g = j := by simpa [Value.ownBlock] using e
          exact hgb))
      have HO1 := Lib.hid hown'
      have hl1 := hv.lt
      have hl2 := hS.lt
      have hl3 := hX.lt
      have hca1 := (hv.alloc (.cells #[.string pc] 9)).cell
      have hca2 := (hS.alloc (.cells #[.string pc] 9)).cell
      have hca3 := (hX.alloc (.cells #[.string pc] 9)).cell
      have hcv := hv.cell
      have hcs := hS.cell
      have hcx := hX.cell
      have hx1 : (st : Int) ≤ (s.size : Int) := by omega
      subst hpc
      clear hstq hps hrow hown' hgrow hlen hle hz0 hz1 hz2 hnD hG hv hS hX hY1 hY2 hb hK
      gi_wp2
      first | (gi_region_with (fail)) | fail
      all_goals gi_wp2
      all_goals exact split_leave HK1.out (by omega) HB1.out HO1.out (by rw [HPC.out]; simp) (by rw [HPC.out]; simp) rfl rfl

end Go.Proofs.YtcbeoihgaccjcaaDoor
