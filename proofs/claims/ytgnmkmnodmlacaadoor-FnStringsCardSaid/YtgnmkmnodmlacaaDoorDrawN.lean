/- The draws of FnStrings, by contracts: ranges and sizes. -/
import Derived.Test.YtgnmkmnodmlacaaDoorAny1
import Derived.Test.YtgnmkmnodmlacaaDoorAmong
import Derived.Test.YtgnmkmnodmlacaaDoorNums
import Derived.Laws.IdiomStrings
namespace Go.Proofs.YtgnmkmnodmlacaaDoor
open Go.RowKit

/-- A byte of the code, or a number in its place. -/
theorem vAt_any (a : Option Addr) (len cap : Nat) (i : Nat) (w : World) (h : Code0 w a len) (hi : i ≤ 1000) (hl : len ≤ 1000000) :
    Calls Tryd.prog 19 #[.slice a len cap, .int .i64 i] w fun e w' => (∃ r : Int, 0 ≤ r ∧ r ≤ 255 ∧ e = .returned (.int .i64 r)) ∧ w' = w := by
  by_cases hlt : i < len
  · obtain ⟨x, z, hax, hxb, hz, hz0, hz1⟩ := h i hlt
    subst hax
    go_enter Tryd.func19, Tryd.ntmps19
    go_wp2
    go_ret
    exact ⟨⟨_, hz0, hz1, rfl⟩, rfl⟩
  · clear h
    go_enter Tryd.func19, Tryd.ntmps19
    go_wp2
    go_ret
    exact ⟨⟨_, Int.emod_nonneg _ (by decide), by omega, rfl⟩, rfl⟩

theorem cur_below {w w1 w2 : World} (h : But w.heap.size w1 w2) (h1 : Below w.heap.size w w1) : Below w.heap.size w w2 := h1.trans (h.below (Nat.le_refl _) h1.size)

/-- A number in FormatInt's wide range. -/
def NumC (w : World) (e : Ending) (w' : World) : Prop := ∃ n : Int, -1000000 ≤ n ∧ n ≤ 1000000 ∧ e = .returned (.int .i64 n) ∧ Below w.heap.size w w'

theorem drawFmt_any (a : Option Addr) (len cap : Nat) (w : World) (h : Code0 w a len) :
    Calls Tryd.prog 9 #[.slice a len cap] w (NumC w) := by
  have H := Lib.hid h
  clear h
  go_enter Tryd.func9, Tryd.ntmps9
  go_wp2_with fail
  refine (pick_any w.heap.size w.heap.size a len cap 0 1000 _ (cur_new H.out cap _) (by omega) (by omega)).mono ?_
  rintro e w1 ⟨n, hn0, hn1, rfl, hc, hb⟩
  have hn2 : n < 1000 := by omega
  have H1 := Lib.hid hc
  have HB1 := Lib.hid hb
  clear H hc hb hn1
  go_wp2_with fail
  refine (among_lit w.heap.size w.heap.size a len cap _ [0, 1, -1, 10, 999999, -999999, 1000000, -1000000, n - 500] 9 _ _ rfl rfl _ H1.out (by omega) (by simp) (by simp)).mono ?_
  rintro e w2 ⟨y, hy, rfl, hc, hb⟩
  obtain ⟨z, hz, rfl⟩ := List.mem_map.1 hy
  have HX : Hid (-1000000 ≤ z ∧ z ≤ 1000000) := Lib.hid (by simp only [List.mem_cons, List.not_mem_nil, or_false] at hz; omega)
  have HB2 := Lib.hid (HB1.out.trans hb).fresh
  clear H1 HB1 hc hb hy hz
  go_wp2_with fail
  go_ret
  exact ⟨z, HX.out.1, HX.out.2, rfl, HB2.out⟩

/-- A short text. -/
def TxtC (n : Nat) (w : World) (e : Ending) (w' : World) : Prop := ∃ x : ByteArray, x.size ≤ n ∧ e = .returned (.string x) ∧ Below w.heap.size w w'

theorem drawParse_any (a : Option Addr) (len cap : Nat) (w : World) (h : Code0 w a len) :
    Calls Tryd.prog 12 #[.slice a len cap] w (TxtC 30 w) := by
  have H := Lib.hid h
  clear h
  go_enter Tryd.func12, Tryd.ntmps12
  go_wp2_with fail
  refine (one_any w.heap.size w.heap.size a len cap 0 2 _ (cur_new H.out cap _) (by omega) (by omega)).mono ?_
  rintro e w1 ⟨b, rfl, hc, hb⟩
  have H1 := Lib.hid hc
  have HB1 := Lib.hid hb
  clear H hc hb
  cases b
  · go_wp2_with fail
    refine (pick_any w.heap.size w.heap.size a len cap _ 2000 _ H1.out (by omega) (by omega)).mono ?_
    rintro e w2 ⟨n, hn0, hn1, rfl, hc, hb⟩
    have hn2 : n < 2000 := by omega
    have HB2 := Lib.hid (HB1.out.trans hb).fresh
    clear H1 HB1 hc hb hn1
    go_wp2_with fail
    refine (l1Num_any (n - 1000) _ (by omega) (by omega)).mono ?_
    rintro e w3 ⟨rfl, k, rfl⟩
    go_wp2_with fail
    go_ret
    exact ⟨_, by rw [show (⟨(Lib.itoa (n - 1000)).toArray⟩ : ByteArray).size = (Lib.itoa (n - 1000)).length by simp [ByteArray.size]]; have := itoa_len (n - 1000) (by omega) (by omega); omega, rfl, HB2.out.trans (below_drewN _ _ _)⟩
  · go_wp2_with fail
    refine (of_lit w.heap.size w.heap.size a len cap _ [⟨#[]⟩, ⟨#[45]⟩, ⟨#[45, 48]⟩, ⟨#[48, 48]⟩, ⟨#[48, 49]⟩, ⟨#[45, 45, 49]⟩, ⟨#[49, 120]⟩, ⟨#[57, 57, 57, 57, 57, 57]⟩, ⟨#[49, 48, 48, 48, 48, 48, 48]⟩, ⟨#[45, 57, 57, 57, 57, 57, 57]⟩, ⟨#[49, 56, 52, 52, 54, 55, 52, 52, 48, 55, 51, 55, 48, 57, 53, 53, 49, 54, 49, 55]⟩] 11 _ _ rfl rfl _ H1.out (by omega) (by decide) (by decide)).mono ?_
    rintro e w2 ⟨y, hy, rfl, hc, hb⟩
    obtain ⟨z, hz, rfl⟩ := List.mem_map.1 hy
    have HX : Hid (z.size ≤ 30) := Lib.hid (by simp only [List.mem_cons, List.not_mem_nil, or_false] at hz; rcases hz with rfl | rfl | rfl | rfl | rfl | rfl | rfl | rfl | rfl | rfl | rfl <;> decide)
    have HB2 := Lib.hid (HB1.out.trans hb).fresh
    clear H1 HB1 hc hb hy hz
    go_wp2_with fail
    go_ret
    exact ⟨z, HX.out, rfl, HB2.out⟩

theorem infoB : (Tryd.prog.info? 5).map (fun i => (i.zero, i.size, i.bytes)) = some (some (.int .u8 0), 1, 1) := by kernel_rfl

/-- A row of n zero bytes, made and read as a text. -/
theorem zeros (m : Nat) (hm : m ≤ 100000) (w : World) :
    (Instr.makeSlice 22 (.int .i64 (m : Int)) (.int .i64 (m : Int))).run Tryd.prog w = .ok (.slice (some ⟨w.heap.size, 0, none⟩) m m) (w.alloc (.cells (List.replicate m (.int .u8 0)).toArray 5)) ∧
    ∃ z : ByteArray, z.size = m ∧ (convert 22 9 (.slice (some ⟨w.heap.size, 0, none⟩) m m)).run Tryd.prog (w.alloc (.cells (Array.replicate m (.int .u8 0)) 5)) = .ok (.string z) (w.alloc (.cells (Array.replicate m (.int .u8 0)) 5)) := by
  obtain ⟨i1, hi, hz0, hz1, hz2⟩ := info_parts infoB
  constructor
  · have h1 := run_make (P := Tryd.prog) w 22 5 i1 (.int .u8 0) Tryd.underlying22 hi hz0 .i64 .i64 (m : Int) (m : Int) (by omega) (by omega) (by rw [hz2]; omega) (by omega)
    have h2 : madeCells (Value.int .u8 0).cells ((m : Int).toNat * i1.size) = (List.replicate m (.int .u8 0)).toArray := by
      rw [hz1, Nat.mul_one, Int.toNat_natCast]
      apply Array.toList_inj.1
      rw [show (Value.int .u8 0).cells = #[Value.int .u8 0] from rfl, toList_madeCells_one]
    rw [h1, h2, Int.toNat_natCast]
  · refine ⟨⟨(List.replicate m (0 : UInt8)).toArray⟩, by show (List.replicate m (0 : UInt8)).toArray.size = m; simp, ?_⟩
    have h := run_convert_bytes_back (P := Tryd.prog) (w.alloc (.cells (Array.replicate m (.int .u8 0)) 5)) 22 9 5 ⟨w.heap.size, 0, none⟩ m (List.replicate m (0 : UInt8)) Tryd.underlying22 Tryd.underlying5 Tryd.underlying9 (fun j hj => by
      have hj' : j < m := by simpa using hj
      have hrow : RowIs (w.alloc (.cells (Array.replicate m (.int .u8 0)) 5)) w.heap.size 5 (List.replicate m (.int .u8 0)) := by
        have := heap_alloc_new w (.cells (Array.replicate m (.int .u8 0)) 5)
        unfold RowIs
        rw [this]; simp
      have e : (⟨w.heap.size, 0, none⟩ : Addr).add j = ⟨w.heap.size, j, none⟩ := by
        unfold Addr.add; simp; omega
      rw [e, hrow.cell j]
      simp [hj'])
    rw [List.length_replicate] at h
    exact h

theorem drawAppend_any (a : Option Addr) (len cap : Nat) (w : World) (h : Code0 w a len) :
    Calls Tryd.prog 15 #[.slice a len cap] w (TxtC 4000 w) := by
  have H := Lib.hid h
  clear h
  go_enter Tryd.func15, Tryd.ntmps15
  go_wp2_with fail
  refine (one_any w.heap.size w.heap.size a len cap 0 20 _ (cur_new H.out cap _) (by omega) (by omega)).mono ?_
  rintro e w1 ⟨b, rfl, hc, hb⟩
  have H1 := Lib.hid hc
  have HB1 := Lib.hid hb
  clear H hc hb
  cases b
  · go_wp2_with fail
    refine (any1_any w.heap.size w.heap.size a len cap _ _ H1.out (by omega)).mono ?_
    rintro e w2 ⟨x, hx, rfl, hc, hb⟩
    have HB2 := Lib.hid (HB1.out.trans hb).fresh
    clear H1 HB1 hc hb
    go_wp2_with fail
    go_ret
    exact ⟨x, by omega, rfl, HB2.out⟩
  · go_wp2_with fail
    refine (pick_any w.heap.size w.heap.size a len cap _ 10 _ H1.out (by omega) (by omega)).mono ?_
    rintro e w2 ⟨r, hr0, hr1, rfl, hc, hb⟩
    obtain ⟨r, rfl⟩ : ∃ k : Nat, r = k := ⟨r.toNat, by omega⟩
    have hr : r < 10 := by omega
    have HB2 := Lib.hid (HB1.out.trans hb).fresh
    obtain ⟨hmk, z, hz, hconv⟩ := zeros (3990 + r) (by omega) w2
    have e1 : (((3990 + r : Nat)) : Int) = 3990 + (r : Int) := by omega
    rw [e1] at hmk
    clear H1 HB1 hc hb hr0 hr1
    go_wp2_with fail
    go_ret
    exact ⟨z, by omega, rfl, HB2.out.alloc HB2.out.size _⟩

end Go.Proofs.YtgnmkmnodmlacaaDoor
