/- The draw of a list of texts with a separator, by its contract: sizes alone. -/
import Derived.Test.YtgnmkmnodmlacaaDrawS
import Derived.Test.YtgnmkmnodmlacaaSplitS
import Derived.Laws.IdiomStrings
namespace Go.Proofs.Ytgnmkmnodmlacaa
open Go.RowKit

attribute [local go_sem ↓ high] builtin_append_held

/-- Some texts of bounded size, in a new row, and a separator. -/
def ListC (w : World) (e : Ending) (w' : World) : Prop :=
  ∃ (v : Value) (P : List ByteArray) (y : ByteArray), P.length ≤ 10 ∧ (∀ x ∈ P, x.size ≤ 10000) ∧ y.size ≤ 10 ∧ e = .returned (.tuple #[v, .string y]) ∧ w'.ownsRow w.heap.size 9 1 v P.length (P.map Value.string) ∧ Below w.heap.size w w'

theorem own_but {w w' : World} {base g : Nat} {e : TypeId} {size n : Nat} {v : Value} {xs : List Value} (h : w.ownsRow base e size v n xs) (hb : But g w w') (hB : g < base) : w'.ownsRow base e size v n xs := by
  have hlt := h.lt
  refine ⟨h.1, ?_⟩
  rcases h.2 with hn | ⟨j, cap, cur, rfl, h1, hg, rest⟩
  · exact .inl hn
  · have := hlt j rfl
    exact .inr ⟨j, cap, cur, rfl, h1, (hb.block j this.2 (by omega)).trans hg, rest⟩

theorem own_base {w : World} {base base' : Nat} {e : TypeId} {size n : Nat} {v : Value} {xs : List Value} (h : w.ownsRow base e size v n xs) (hB : base' ≤ base) : w.ownsRow base' e size v n xs := by
  refine ⟨h.1, ?_⟩
  rcases h.2 with hn | ⟨j, cap, cur, rfl, h1, hg, rest⟩
  · exact .inl hn
  · exact .inr ⟨j, cap, cur, rfl, by omega, hg, rest⟩

theorem infoB : (Try.prog.info? 5).map (fun i => (i.zero, i.size, i.bytes)) = some (some (.int .u8 0), 1, 1) := by kernel_rfl

set_option maxRecDepth 100000 in
set_option maxHeartbeats 2000000 in
theorem drawJoin_any (a : Option Addr) (len cap : Nat) (w : World) (h : Code0 w a len) :
    Calls Try.prog 11 #[.slice a len cap] w (ListC w) := by
  obtain ⟨i0, hi, hz0, hz1, hz2⟩ := info_parts infoStr
  have HI0 := Lib.hid hi
  have HZ0 := Lib.hid hz0
  have HZ1 := Lib.hid hz1
  have HZ2 := Lib.hid hz2
  have H := Lib.hid h
  clear h hi hz0 hz1 hz2
  go_enter Try.func11, Try.ntmps11
  go_wp2_with fail
  refine (pick_any w.heap.size w.heap.size a len cap 0 4 _ ((cur_new H.out cap _).alloc _) (by omega) (by omega)).mono ?_
  rintro e w1 ⟨n, hn0, hn4, rfl, hc, hb⟩
  obtain ⟨n, rfl⟩ : ∃ k : Nat, n = k := ⟨n.toNat, by omega⟩
  have hn : n ≤ 3 := by omega
  have HC1 := Lib.hid hc
  have HB1 : Hid (Below w.heap.size w w1) := Lib.hid ((((Below.refl _ w).alloc (Nat.le_refl _) _).alloc (by simp) _).trans (hb.below (Nat.le_refl _) (by simp; omega)))
  have HO1 : Hid (w1.ownsRow (w.heap.size + 1) 9 1 (.slice (some ⟨w.heap.size + 1, 0, none⟩) 0 0) 0 []) := Lib.hid (own_but (by
    have := World.ownsRow_made (base := w.heap.size + 1) (e := 9) (size := 1) (w.alloc (.cells #[.slice a len cap, .int .i64 0, .int .u64 0] 44)) #[] 0 (by simp) (by decide) rfl
    simpa using this) hb (by omega))
  clear hc hb hn0 hn4 H
  go_wp2_with fail
  go_loopw [5, 7] (fun v i wr => ∃ (k : Nat) (P : List ByteArray), k ≤ n ∧ i = .int .i64 k ∧ P.length = k ∧ (∀ x ∈ P, x.size ≤ 10) ∧ wr.ownsRow (w.heap.size + 1) 9 1 v k (P.map Value.string) ∧ Cur w.heap.size w.heap.size a len cap (2 + 2 * k) wr ∧ Below w.heap.size w wr) (fun _ i _ => n - (intOf i).toNat)
  case atStart => exact ⟨0, [], Nat.zero_le _, rfl, rfl, by simp, HO1.out, HC1.out, HB1.out⟩
  case round =>
    obtain ⟨k, P, hk, rfl, hP, hsz, hrow, hcur, hb⟩ := hrel
    have HROW := Lib.hid hrow
    have HCUR := Lib.hid hcur
    have HB := Lib.hid hb
    have HSZ := Lib.hid hsz
    clear hrow hcur hb HO1 HC1 HB1 hsz
    by_cases hlt : k < n
    · go_wp2_with fail
      refine (any1_any w.heap.size w.heap.size a len cap _ _ HCUR.out (by omega)).mono ?_
      rintro e w2 ⟨x, hx, rfl, hc, hb⟩
      have hgw := hc.lt
      have hrow := own_but HROW.out hb (by omega)
      obtain ⟨v', w3, hrun, hown', hgrow, _⟩ := run_append_own (P := Try.prog) (w := w2.alloc (.cells #[.string x] 9)) (w.heap.size + 1) 26 26 9 i0 (.string ByteArray.empty) 1 16 Try.underlying26 HI0.out HZ0.out HZ1.out HZ2.out rfl (by decide)
        _ k (P.map Value.string) (World.ownsRow.alloc hrow _) ⟨w2.heap.size, 0, none⟩ 1 1 [.string x] rfl (cell_one_new w2 _ _) (by simp [Value.oneCell']) (by unfold maxLen; omega) (by omega) (by simp; omega)
      have hrun2 : (heldAppend #[26, 26] 26 #[u5, .slice (some ⟨w2.heap.size, 0, none⟩) 1 1]).run Try.prog (w2.alloc (.cells #[.string x] 9)) = .ok v' w3 := hrun
      clear hrun
      have hb3 : Below (w.heap.size + 1) w2 w3 := ((Below.refl (w.heap.size + 1) w2).alloc (by omega) (.cells #[.string x] 9)).grown hgrow (by simp; omega) (fun j e => (hrow.lt j e).1)
      have HC3 : Hid (Cur w.heap.size w.heap.size a len cap (2 + 2 * (k + 1)) w3) := Lib.hid ((hc.keep hb3).more (by omega))
      have HB3 : Hid (Below w.heap.size w w3) := Lib.hid ((HB.out.trans (hb.below (Nat.le_refl _) HB.out.size)).trans (hb3.mono (by omega)))
      have HO3 : Hid (w3.ownsRow (w.heap.size + 1) 9 1 v' (k + 1) ((P ++ [x]).map Value.string)) := Lib.hid (by simpa using hown')
      have HSZ3 : Hid (∀ y ∈ P ++ [x], y.size ≤ 10) := Lib.hid (fun y hy => by
        rcases List.mem_append.1 hy with h | h
        · exact HSZ.out y h
        · rw [List.mem_singleton.1 h]; exact hx)
      clear hrow hown' hgrow hb hc hb3 HROW HCUR HB hx HSZ
      go_wp2_with fail
      go_roundw
      case rel => exact ⟨k + 1, P ++ [x], by omega, by go_num, by simp [hP], HSZ3.out, HO3.out, HC3.out, HB3.out⟩
      case measure => simp [intOf]; omega
    · obtain rfl : k = n := by omega
      go_wp2_with fail
      refine (one_any w.heap.size w.heap.size a len cap _ 20 _ HCUR.out (by omega) (by omega)).mono ?_
      rintro e w2 ⟨b, rfl, hc, hb⟩
      have HC2 := Lib.hid hc
      have HB2 := Lib.hid (HB.out.trans (hb.below (Nat.le_refl _) HB.out.size))
      have HO2 := Lib.hid (own_but HROW.out hb (by omega))
      clear hc hb HROW HCUR HB
      cases b
      · go_wp2_with fail
        refine (of_lit w.heap.size w.heap.size a len cap _ [⟨#[44]⟩, ⟨#[59]⟩, ⟨#[59]⟩, ⟨#[]⟩, ⟨#[97, 98]⟩] 5 _ _ rfl rfl _ HC2.out (by omega) (by decide) (by decide)).mono ?_
        rintro e w3 ⟨y, hy, rfl, hc, hb⟩
        obtain ⟨z, hz, rfl⟩ := List.mem_map.1 hy
        have HX : Hid (z.size ≤ 10) := Lib.hid (by simp only [List.mem_cons, List.not_mem_nil, or_false] at hz; rcases hz with rfl | rfl | rfl | rfl | rfl <;> decide)
        have HL : Hid (ListC w (.returned (.tuple #[u5, .string z])) w3) := Lib.hid ⟨u5, P, z, by omega, fun x hx => by have := HSZ.out x hx; omega, HX.out, rfl, by rw [hP]; exact own_base (own_but HO2.out hb (by omega)) (by omega), HB2.out.trans (hb.below (Nat.le_refl _) HB2.out.size)⟩
        clear hc hb hy hz HX HC2 HB2 HO2 HSZ
        go_wp2_with fail
        go_ret2
        exact HL.out
      · go_wp2_with fail
        refine (pick_any w.heap.size w.heap.size a len cap _ 20 _ HC2.out (by omega) (by omega)).mono ?_
        rintro e w3 ⟨r, hr0, hr1, rfl, hc, hb⟩
        obtain ⟨r, rfl⟩ : ∃ k : Nat, r = k := ⟨r.toNat, by omega⟩
        have hr : r < 20 := by omega
        have HC3 := Lib.hid hc
        have HB3 := Lib.hid (HB2.out.trans (hb.below (Nat.le_refl _) HB2.out.size))
        have HO3 := Lib.hid (own_but HO2.out hb (by omega))
        obtain ⟨i1, hi, hz0, hz1, hz2⟩ := info_parts infoB
        have hmk : ∀ W : World, (Instr.makeSlice 22 (.int .i64 (3990 + (r : Int))) (.int .i64 (3990 + (r : Int)))).run Try.prog W = .ok (.slice (some ⟨W.heap.size, 0, none⟩) (3990 + r) (3990 + r)) (W.alloc (.cells (List.replicate (3990 + r) (.int .u8 0)).toArray 5)) := fun W => by
          have h1 := run_make (P := Try.prog) W 22 5 i1 (.int .u8 0) Try.underlying22 hi hz0 .i64 .i64 (3990 + r : Int) (3990 + r : Int) (by omega) (by omega) (by rw [hz2]; omega) (by omega)
          have h2 : madeCells (Value.int .u8 0).cells ((3990 + r : Int).toNat * i1.size) = (List.replicate (3990 + r) (.int .u8 0)).toArray := by
            rw [hz1, Nat.mul_one, show (3990 + r : Int).toNat = 3990 + r by omega]
            apply Array.toList_inj.1
            rw [show (Value.int .u8 0).cells = #[Value.int .u8 0] from rfl, toList_madeCells_one]
          rw [h1, h2, show (3990 + r : Int).toNat = 3990 + r by omega]
        obtain ⟨z, hz, hconv⟩ : ∃ z : ByteArray, z.size ≤ 10000 ∧ (convert 22 9 (.slice (some ⟨w3.heap.size, 0, none⟩) (3990 + r) (3990 + r))).run Try.prog (w3.alloc (.cells (Array.replicate (3990 + r) (.int .u8 0)) 5)) = .ok (.string z) (w3.alloc (.cells (Array.replicate (3990 + r) (.int .u8 0)) 5)) := by
          refine ⟨⟨(List.replicate (3990 + r) (0 : UInt8)).toArray⟩, by show (List.replicate (3990 + r) (0 : UInt8)).toArray.size ≤ _; simp; omega, ?_⟩
          have h := run_convert_bytes_back (P := Try.prog) (w3.alloc (.cells (Array.replicate (3990 + r) (.int .u8 0)) 5)) 22 9 5 ⟨w3.heap.size, 0, none⟩ (3990 + r) (List.replicate (3990 + r) (0 : UInt8)) Try.underlying22 Try.underlying5 Try.underlying9 (fun j hj => by
            have hj' : j < 3990 + r := by simpa using hj
            have hrow : RowIs (w3.alloc (.cells (Array.replicate (3990 + r) (.int .u8 0)) 5)) w3.heap.size 5 (List.replicate (3990 + r) (.int .u8 0)) := by
              have := heap_alloc_new w3 (.cells (Array.replicate (3990 + r) (.int .u8 0)) 5)
              unfold RowIs
              rw [this]; simp
            have e : (⟨w3.heap.size, 0, none⟩ : Addr).add j = ⟨w3.heap.size, j, none⟩ := by
              unfold Addr.add; simp; omega
            rw [e, hrow.cell j]
            simp [hj'])
          rw [List.length_replicate] at h
          exact h
        have hgw := HC3.out.lt
        have hb4 : Below (w.heap.size + 1) w3 (w3.alloc (.cells (Array.replicate (3990 + r) (.int .u8 0)) 5)) := (Below.refl (w.heap.size + 1) w3).alloc (by omega) _
        have hrow := World.ownsRow.alloc HO3.out (.cells (Array.replicate (3990 + r) (.int .u8 0)) 5)
        obtain ⟨w4, hw4⟩ : ∃ W, W = w3.alloc (.cells (Array.replicate (3990 + r) (.int .u8 0)) 5) := ⟨_, rfl⟩
        rw [← hw4] at hconv hrow hb4
        have hs4 := hb4.size
        obtain ⟨v', w5, hrun, hown', hgrow, _⟩ := run_append_own (P := Try.prog) (w := w4.alloc (.cells #[.string z] 9)) (w.heap.size + 1) 26 26 9 i0 (.string ByteArray.empty) 1 16 Try.underlying26 HI0.out HZ0.out HZ1.out HZ2.out rfl (by decide)
          _ k (P.map Value.string) (World.ownsRow.alloc hrow _) ⟨w4.heap.size, 0, none⟩ 1 1 [.string z] rfl (cell_one_new w4 _ _) (by simp [Value.oneCell']) (by unfold maxLen; omega) (by omega) (by simp; omega)
        have hrun2 : (heldAppend #[26, 26] 26 #[u5, .slice (some ⟨w3.heap.size + 1, 0, none⟩) 1 1]).run Try.prog (w4.alloc (.cells #[.string z] 9)) = .ok v' w5 := by
          have hws : w4.heap.size = w3.heap.size + 1 := by rw [hw4]; simp
          rw [← hws]; exact hrun
        have hb5 : Below (w.heap.size + 1) w3 w5 := (hb4.alloc (by omega) (.cells #[.string z] 9)).grown hgrow (by simp; omega) (fun j e => (hrow.lt j e).1)
        have HC5 := Lib.hid (HC3.out.keep hb5)
        have HB5 := Lib.hid (HB3.out.trans (hb5.mono (by omega)))
        have HO5 : Hid (w5.ownsRow (w.heap.size + 1) 9 1 v' (k + 1) ((P ++ [z]).map Value.string)) := Lib.hid (by simpa using hown')
        have HSZ5 : Hid (∀ y ∈ P ++ [z], y.size ≤ 10000) := Lib.hid (fun y hy => by
          rcases List.mem_append.1 hy with h | h
          · have := HSZ.out y h; omega
          · rw [List.mem_singleton.1 h]; exact hz)
        clear hi hz0 hz1 hz2 hrow hown' hgrow hb4 hb5 hrun HC3 HB3 HO3 hz HSZ
        clear hc hb HC2 HB2 HO2 hr0 hr1
        subst hw4
        go_wp2_with fail
        refine (of_lit w.heap.size w.heap.size a len cap _ [⟨#[44]⟩, ⟨#[59]⟩, ⟨#[59]⟩, ⟨#[]⟩, ⟨#[97, 98]⟩] 5 _ _ rfl rfl _ HC5.out (by omega) (by decide) (by decide)).mono ?_
        rintro e w6 ⟨y, hy, rfl, hc, hb⟩
        obtain ⟨y, hz, rfl⟩ := List.mem_map.1 hy
        have HX : Hid (y.size ≤ 10) := Lib.hid (by simp only [List.mem_cons, List.not_mem_nil, or_false] at hz; rcases hz with rfl | rfl | rfl | rfl | rfl <;> decide)
        have HL : Hid (ListC w (.returned (.tuple #[v', .string y])) w6) := Lib.hid ⟨v', P ++ [z], y, by simp; omega, HSZ5.out, HX.out, rfl, by rw [List.length_append, hP]; exact own_base (own_but HO5.out hb (by omega)) (by omega), HB5.out.trans (hb.below (Nat.le_refl _) HB5.out.size)⟩
        clear hc hb hz HX HC5 HB5 HO5 HSZ5
        go_wp2_with fail
        go_ret2
        exact HL.out

end Go.Proofs.Ytgnmkmnodmlacaa
