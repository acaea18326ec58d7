/- IDig IDgA Tab IBkt RetCE IDist IRad Seg IExch IFlag IFlag2, as one text. -/
import Derived.Test.YtebipiehkmhaiaaRadP
import Derived.Test.YtebipiehkmhaiaaFlat
import Derived.Laws.Bits64
import Derived.Laws.BitsLemmas
import Derived.Test.YtebipiehkmhaiaaRadA
import Derived.BigRegion
import Derived.BigQuiet
import Derived.Deep.QuietTactic
import Derived.Deep.RegionWith
import Derived.Shelf.Abstract
import Derived.Laws.Tables
import Derived.Laws.Rows
import Derived.Test.YtebipiehkmhaiaaInts
import Derived.Lib.Walk
import Derived.Deep.LoopGhost
import Derived.Deep.Draws
import Derived.Test.YtebipiehkmhaiaaHeldC
import Derived.Test.YtebipiehkmhaiaaRetI
import Derived.Test.YtebipiehkmhaiaaRecS
import Derived.Test.YtebipiehkmhaiaaIntS
import Derived.Test.YtebipiehkmhaiaaIRecs
import Derived.Test.YtebipiehkmhaiaaCloneI
import Derived.Test.YtebipiehkmhaiaaElem2
import Derived.Test.YtebipiehkmhaiaaQuickP
import Derived.Test.YtebipiehkmhaiaaFlagP
import Derived.Test.YtebipiehkmhaiaaIList
import Derived.Test.YtebipiehkmhaiaaRetZ

section
/- The program's digits, by their contracts. -/
namespace Go.Proofs.Ytebipiehkmhaiaa
open Go.RowKit Rx
set_option linter.unusedVariables false

theorem shifted_any (key : Int) (W : World) (h1 : -100000 ≤ key) (h2 : key ≤ 100000) :
    Calls Try.prog 77 #[.int .i64 key] W fun e w' => e = .returned (.int .u64 (key + 100000)) ∧ w' = W := by
  have e1 : IntKind.i64.wrap (key + 100000) = key + 100000 := by rw [IntKind.wrap_i64]; omega
  have e2 : IntKind.u64.wrap (key + 100000) = key + 100000 := by rw [IntKind.wrap_u64]; omega
  go_enter Try.func77, Try.ntmps77
  go_wp2_with fail
  go_ret
  exact ⟨rfl, rfl⟩

set_option maxRecDepth 100000 in
set_option maxHeartbeats 2000000 in
theorem digit_any (n b p : Nat) (W : World) (hb : 2 ≤ b) (hb2 : b ≤ 256) (hp : p ≤ 17) (hn : n ≤ 200000) :
    Calls Try.prog 84 #[.int .u64 (n : Int), .int .i64 (b : Int), .int .i64 (p : Int)] W fun e w' => e = .returned (.int .i64 (dg b p n : Nat)) ∧ w' = W := by
  have eb : IntKind.u64.wrap (b : Int) = (b : Int) := by rw [IntKind.wrap_u64]; omega
  have hbz : ¬ (b : Int) = 0 := by omega
  have hbn : ¬ b = 0 := by omega
  go_enter Try.func84, Try.ntmps84
  go_wp2_with fail
  go_loopw [0, 8] (fun kv iv wr => ∃ (j k : Nat), iv = .int .i64 (j : Int) ∧ kv = .int .u64 (k : Int) ∧ k = n / b ^ j ∧ j ≤ p ∧ wr = W) (fun _ iv _ => p - (intOf iv).toNat)
  case atStart => exact ⟨0, n, rfl, rfl, by rw [Nat.pow_zero, Nat.div_one], Nat.zero_le _, rfl⟩
  case round =>
    obtain ⟨j, k, rfl, rfl, hk, hj, rfl⟩ := hrel
    have HK := Lib.hid hk
    have hk2 : k ≤ 200000 := by have := Nat.div_le_self n (b ^ j); omega
    clear hk
    by_cases hlt : j < p
    · have hltz : decide ((j : Int) < (p : Int)) = true := decide_eq_true (by omega)
      obtain ⟨m, hm⟩ : ∃ m, m = k / b := ⟨_, rfl⟩
      have hm2 : m ≤ 200000 := by have := Nat.div_le_self k b; omega
      have hm1 : (k : Int) / (b : Int) = (m : Int) := by rw [hm, Int.natCast_ediv]
      have hm3 : Int.tdiv (k : Int) (b : Int) = (m : Int) := by rw [Int.tdiv_eq_ediv_of_nonneg (by omega)]; exact hm1
      have em : IntKind.u64.wrap (m : Int) = (m : Int) := by rw [IntKind.wrap_u64]; omega
      have HM : Hid (m = n / b ^ (j + 1)) := Lib.hid (by rw [hm, HK.out, div_pow_succ])
      clear hm
      go_wp2_with fail
      go_roundw
      case rel => exact ⟨j + 1, m, by go_num, rfl, HM.out, by omega, by first | rfl | trivial⟩
      case measure => simp [intOf]; omega
    · have hjp : j = p := by omega
      have hltz : decide ((j : Int) < (p : Int)) = false := decide_eq_false (by omega)
      obtain ⟨m, hm⟩ : ∃ m, m = k % b := ⟨_, rfl⟩
      have hm2 : m < 256 := by have := Nat.mod_lt k (show 0 < b by omega); omega
      have hm1 : (k : Int) % (b : Int) = (m : Int) := by rw [hm, Int.natCast_emod]
      have hm3 : Int.tmod (k : Int) (b : Int) = (m : Int) := by rw [Int.tmod_eq_emod_of_nonneg (by omega)]; exact hm1
      have em : IntKind.u64.wrap (m : Int) = (m : Int) := by rw [IntKind.wrap_u64]; omega
      have em2 : IntKind.i64.wrap (m : Int) = (m : Int) := by rw [IntKind.wrap_i64]; omega
      have HM : Hid (dg b p n = m) := Lib.hid (by rw [hm, HK.out, hjp]; rfl)
      clear hm hjp
      go_wp2_with fail
      go_ret
      exact ⟨by rw [HM.out]; rfl, rfl⟩

set_option maxRecDepth 100000 in
set_option maxHeartbeats 2000000 in
theorem length_any (n b : Nat) (W : World) (hb : 2 ≤ b) (hb2 : b ≤ 256) (hn : n ≤ 200000) :
    Calls Try.prog 78 #[.int .u64 (n : Int), .int .i64 (b : Int)] W fun e w' => e = .returned (.int .i64 (dl b n : Nat)) ∧ w' = W := by
  have eb : IntKind.u64.wrap (b : Int) = (b : Int) := by rw [IntKind.wrap_u64]; omega
  have hbz : ¬ (b : Int) = 0 := by omega
  have hbn : ¬ b = 0 := by omega
  go_enter Try.func78, Try.ntmps78
  go_wp2_with fail
  go_loopw [0, 5] (fun kv iv wr => ∃ (j k : Nat), iv = .int .i64 (j : Int) ∧ kv = .int .u64 (k : Int) ∧ 1 ≤ j ∧ k = n / b ^ (j - 1) ∧ (j = 1 ∨ b ^ (j - 1) ≤ n) ∧ j ≤ 18 ∧ wr = W) (fun kv _ _ => (intOf kv).toNat)
  case atStart => exact ⟨1, n, rfl, rfl, Nat.le_refl _, by rw [Nat.sub_self, Nat.pow_zero, Nat.div_one], .inl rfl, by omega, rfl⟩
  case round =>
    obtain ⟨j, k, rfl, rfl, hj1, hk, hge, hj, rfl⟩ := hrel
    have HK := Lib.hid hk
    have HGE := Lib.hid hge
    have hk2 : k ≤ 200000 := by have := Nat.div_le_self n (b ^ (j - 1)); omega
    clear hk hge
    by_cases hlt : k < b
    · have hltz : decide ((b : Int) ≤ (k : Int)) = false := decide_eq_false (by omega)
      have hltn : ¬ b ≤ k := by omega
      have HM : Hid (dl b n = j) := Lib.hid (dl_eq hb (IsLen.made hb hj1 (by rw [← HK.out]; exact hlt) HGE.out))
      clear hj1
      go_wp2_with fail
      go_ret
      exact ⟨by rw [HM.out]; rfl, rfl⟩
    · have hltz : decide ((b : Int) ≤ (k : Int)) = true := decide_eq_true (by omega)
      have hltn : b ≤ k := by omega
      obtain ⟨m, hm⟩ : ∃ m, m = k / b := ⟨_, rfl⟩
      have hm2 : m < k := by rw [hm]; exact Nat.div_lt_self (by omega) (by omega)
      have hm1 : (k : Int) / (b : Int) = (m : Int) := by rw [hm, Int.natCast_ediv]
      have hm3 : Int.tdiv (k : Int) (b : Int) = (m : Int) := by rw [Int.tdiv_eq_ediv_of_nonneg (by omega)]; exact hm1
      have em : IntKind.u64.wrap (m : Int) = (m : Int) := by rw [IntKind.wrap_u64]; omega
      have hpow := IsLen.on (n := n) hb hj1 (by rw [← HK.out]; exact hlt)
      have HM : Hid (m = n / b ^ (j + 1 - 1) ∧ (j + 1 = 1 ∨ b ^ (j + 1 - 1) ≤ n) ∧ j + 1 ≤ 18) := Lib.hid ⟨by rw [hm, HK.out, div_pow_succ]; congr 2; omega, .inr hpow, by
        rcases Nat.lt_or_ge j 18 with h | h
        · exact h
        · have h3 : 2 ^ 18 ≤ b ^ j := Nat.le_trans (Nat.pow_le_pow_left hb 18) (Nat.pow_le_pow_right (by omega) h)
          have h4 : (2 : Nat) ^ 18 = 262144 := by decide
          omega⟩
      clear hm hpow
      go_wp2_with fail
      go_roundw
      case rel => exact ⟨j + 1, m, by go_num, rfl, by omega, HM.out.1, HM.out.2.1, HM.out.2.2, by first | rfl | trivial⟩
      case measure => simp [intOf]; omega

theorem isBase_any (b : Int) (W : World) :
    Calls Try.prog 75 #[.int .i64 b] W fun e w' => e = .returned (.bool (decide (2 ≤ b ∧ b ≤ 256))) ∧ w' = W := by
  by_cases h1 : 2 ≤ b
  · have hd : decide (2 ≤ b ∧ b ≤ 256) = decide (b ≤ 256) := by rw [decide_eq_decide]; omega
    rw [hd]
    go_enter Try.func75, Try.ntmps75
    go_wp2_with fail
    go_ret
    exact ⟨rfl, rfl⟩
  · have hd : decide (2 ≤ b ∧ b ≤ 256) = false := decide_eq_false fun h => h1 h.1
    rw [hd]
    go_enter Try.func75, Try.ntmps75
    go_wp2_with fail
    go_ret
    exact ⟨rfl, rfl⟩

theorem isBP_any (b p : Int) (W : World) :
    Calls Try.prog 79 #[.int .i64 b, .int .i64 p] W fun e w' => e = .returned (.bool (decide (OkBP b p))) ∧ w' = W := by
  have HB := Lib.hid (isBase_any b)
  by_cases h0 : 2 ≤ b ∧ b ≤ 256
  · rw [decide_eq_true h0] at HB
    by_cases h1 : 0 ≤ p
    · have hd : decide (OkBP b p) = decide (p ≤ 17) := by rw [decide_eq_decide]; unfold OkBP; omega
      rw [hd]
      clear h0 hd
      go_enter Try.func79, Try.ntmps79
      go_wp2_with fail
      refine (HB.out _).mono ?_
      rintro e w1 ⟨rfl, rfl⟩
      go_wp2_with fail
      go_ret
      exact ⟨rfl, rfl⟩
    · have hd : decide (OkBP b p) = false := decide_eq_false fun h => h1 h.2.1
      rw [hd]
      clear h0 hd
      go_enter Try.func79, Try.ntmps79
      go_wp2_with fail
      refine (HB.out _).mono ?_
      rintro e w1 ⟨rfl, rfl⟩
      go_wp2_with fail
      go_ret
      exact ⟨rfl, rfl⟩
  · rw [decide_eq_false h0] at HB
    have hd : decide (OkBP b p) = false := decide_eq_false fun h => h0 h.1
    rw [hd]
    clear h0 hd
    go_enter Try.func79, Try.ntmps79
    go_wp2_with fail
    refine (HB.out _).mono ?_
    rintro e w1 ⟨rfl, rfl⟩
    go_wp2_with fail
    go_ret
    exact ⟨rfl, rfl⟩

end Go.Proofs.Ytebipiehkmhaiaa
end

section
/- The program's function of a key's digit, by its contract. -/
namespace Go.Proofs.Ytebipiehkmhaiaa
open Go.RowKit Rx P
set_option linter.unusedVariables false

set_option maxRecDepth 100000 in
set_option maxHeartbeats 2000000 in
theorem digitFn_any (x : Int) (b p g1 g2 : Nat) (W : World) (c1 : W.cell? ⟨g1, 0, none⟩ = some (.int .i64 (b : Int))) (c2 : W.cell? ⟨g2, 0, none⟩ = some (.int .i64 (p : Int))) (h1 : -100000 ≤ x) (h2 : x ≤ 100000) (hb : 2 ≤ b) (hb2 : b ≤ 256) (hp : p ≤ 17) :
    Calls Try.prog 127 #[.int .i64 x, .pointer (some ⟨g1, 0, none⟩), .pointer (some ⟨g2, 0, none⟩)] W fun e w' => e = .returned (.int .i64 (dgI b p x : Nat)) ∧ Below W.heap.size W w' := by
  have HS := Lib.hid (fun W => shifted_any x W h1 h2)
  have HD := Lib.hid (fun W => digit_any (sk x) b p W hb hb2 hp (sk_le h2))
  rw [← sk_eq h1] at HD
  have HE : Hid (dg b p (sk x) = dgI b p x) := Lib.hid rfl
  rw [HE.out] at HD
  have HBL : Hid (∀ n, Below W.heap.size W (W.drewN n)) := Lib.hid (fun n => ⟨rfl, rfl, rfl, Nat.le_refl _, fun _ _ => rfl⟩)
  clear h1 h2 hb hb2 hp HE
  generalize dgI b p x = r at *
  go_enter Try.func127, Try.ntmps127
  go_wp2_with fail
  go_quiet (first | (go_at_call 77; exact Calls.quiet_of_same (HS.out _)) | (go_at_call 84; exact Calls.quiet_of_same (HD.out _)))
  go_wp2_with fail
  go_ret
  exact ⟨rfl, HBL.out _⟩

theorem digitAt_any (b p : Int) (w : World) :
    Calls Try.prog 74 #[.int .i64 b, .int .i64 p] w fun e w' => e = .returned (.func (.func 127) #[] #[.pointer (some ⟨w.heap.size, 0, none⟩), .pointer (some ⟨w.heap.size + 1, 0, none⟩)]) ∧
      w' = (w.alloc (.cells #[.int .i64 b] 3)).alloc (.cells #[.int .i64 p] 3) := by
  go_enter Try.func74, Try.ntmps74
  go_wp2_with fail
  go_ret
  exact ⟨rfl, rfl⟩

/-- The two boxed numbers, and what lies behind them. -/
theorem digit_boxes (b p : Int) (w : World) : Below w.heap.size w ((w.alloc (.cells #[.int .i64 b] 3)).alloc (.cells #[.int .i64 p] 3)) ∧
    ∀ W, Below ((w.alloc (.cells #[.int .i64 b] 3)).alloc (.cells #[.int .i64 p] 3)).heap.size ((w.alloc (.cells #[.int .i64 b] 3)).alloc (.cells #[.int .i64 p] 3)) W →
      W.cell? ⟨w.heap.size, 0, none⟩ = some (.int .i64 b) ∧ W.cell? ⟨w.heap.size + 1, 0, none⟩ = some (.int .i64 p) := by
  have hs : ((w.alloc (.cells #[.int .i64 b] 3)).alloc (.cells #[.int .i64 p] 3)).heap.size = w.heap.size + 2 := by simp
  refine ⟨((Below.refl _ _).alloc (Nat.le_refl _) _).alloc (by simp) _, fun W hW => ⟨?_, ?_⟩⟩
  · rw [hW.cell (p := ⟨w.heap.size, 0, none⟩) (by rw [hs]; show w.heap.size < w.heap.size + 2; omega)]
    simp
  · rw [hW.cell (p := ⟨w.heap.size + 1, 0, none⟩) (by rw [hs]; show w.heap.size + 1 < w.heap.size + 2; omega)]
    simp

theorem enters_digit : ∀ args w, (callFunc 127 args).run Try.prog w = .ok (.enter 127 args) w := enters_of Try.func127 (by kernel_rfl) rfl

end Go.Proofs.Ytebipiehkmhaiaa
end

section
/- Tables of 1001 numbers, held by value: the run of what touches one whole, each under a name of its own. -/
namespace Go.Proofs.Ytebipiehkmhaiaa
open Go.RowKit
set_option linter.unusedVariables false

/-- The cells of a table. -/
def tab (f : Nat → Nat) : List Value := (List.range 1001).map fun k => .int .i64 (f k : Int)
def tabA (f : Nat → Nat) : Array Value := (tab f).toArray
theorem tab_length (f : Nat → Nat) : (tab f).length = 1001 := by simp [tab]
theorem tabA_size (f : Nat → Nat) : (tabA f).size = 1001 := by simp [tabA, tab_length]
theorem tab_at (f : Nat → Nat) {k : Nat} (h : k < 1001) : (tab f)[k]? = some (.int .i64 (f k : Int)) := by unfold tab; simp [h]
theorem tab_set (f : Nat → Nat) (d v : Nat) : (tab f).set d (.int .i64 (v : Int)) = tab (fun k => if k = d then v else f k) := by
  refine List.ext_getElem? fun k => ?_
  rw [List.getElem?_set]
  by_cases hk : k < 1001
  · rw [tab_at _ hk, tab_at _ hk, tab_length]
    by_cases hd : d = k
    · subst hd; simp [hk]
    · rw [if_neg hd, if_neg (fun e => hd e.symm)]
  · rw [List.getElem?_eq_none (by rw [tab_length]; omega), List.getElem?_eq_none (l := tab _) (by rw [tab_length]; omega), tab_length]
    split
    · rw [if_neg (by omega)]
    · rfl
theorem tab_congr {f h : Nat → Nat} (e : ∀ k, k < 1001 → f k = h k) : tab f = tab h := by
  refine List.ext_getElem? fun k => ?_
  by_cases hk : k < 1001
  · rw [tab_at _ hk, tab_at _ hk, e k hk]
  · rw [List.getElem?_eq_none (by rw [tab_length]; omega), List.getElem?_eq_none (by rw [tab_length]; omega)]
theorem tab_one (f : Nat → Nat) : (tabA f).all (·.oneCell') = true := by
  rw [Array.all_eq_true_iff_forall_mem]
  intro v hv
  simp only [tabA, tab, List.mem_toArray, List.mem_map] at hv
  obtain ⟨k, _, rfl⟩ := hv
  rfl

theorem infoTab : (Try.prog.info? 95).map (fun i => (i.zero, i.size)) = some (some (.agg (tabA fun _ => 0)), 1001) := by kernel_rfl

/-- A table in block g. -/
def TabAt (w : World) (g : Nat) (f : Nat → Nat) : Prop := RowIs w g 95 (tab f)
theorem TabAt.at {w : World} {g : Nat} {f : Nat → Nat} (h : TabAt w g f) {k : Nat} (hk : k < 1001) : w.cell? ⟨g, k, none⟩ = some (.int .i64 (f k : Int)) ∧ w.frozen? ⟨g, k, none⟩ = false :=
  ⟨by rw [RowIs.cell h k, tab_at f hk], RowIs.frozen h k⟩
theorem TabAt.put {w : World} {g : Nat} {f : Nat → Nat} (h : TabAt w g f) (d v : Nat) : TabAt (w.setCell ⟨g, d, none⟩ (.int .i64 (v : Int))) g (fun k => if k = d then v else f k) := by
  have := RowIs.stored h d (.int .i64 (v : Int))
  rw [tab_set] at this
  exact this
theorem TabAt.new (w : World) (f : Nat → Nat) : TabAt (w.alloc (.cells (tabA f) 95)) w.heap.size f := heap_alloc_new w _
theorem TabAt.lt {w : World} {g : Nat} {f : Nat → Nat} (h : TabAt w g f) : g < w.heap.size := RowIs.lt h
theorem TabAt.below {w w' : World} {g : Nat} {f : Nat → Nat} (h : TabAt w g f) {B : Nat} (hb : Below B w w') (hg : g < B) : TabAt w' g f := RowIs.below h hb hg
theorem TabAt.but {w w' : World} {g k : Nat} {f : Nat → Nat} (h : TabAt w g f) (hb : But k w w') (hg : g ≠ k) : TabAt w' g f := RowIs.but h hb hg
theorem TabAt.congr {w : World} {g : Nat} {f h : Nat → Nat} (ht : TabAt w g f) (e : ∀ k, k < 1001 → f k = h k) : TabAt w g h := by unfold TabAt at ht ⊢; rw [← tab_congr e]; exact ht

def tabNew (b : Bool) (o : Value) : Sem Value := Instr.alloc 95 b o
theorem alloc_tab (b : Bool) (o : Value) : Instr.alloc 95 b o = tabNew b o := rfl
theorem run_tabNew (w : World) : (tabNew true (.tuple #[])).run Try.prog w = .ok (.pointer (some ⟨w.heap.size, 0, none⟩)) (w.alloc (.cells (tabA fun _ => 0) 95)) := by
  cases hi : Try.prog.info? 95 with
  | none => have := infoTab; rw [hi] at this; simp at this
  | some i =>
    have hz : i.zero = some (.agg (tabA fun _ => 0)) := by
      have := infoTab
      rw [hi, Option.map_some] at this
      exact congrArg Prod.fst (Option.some.inj this)
    unfold tabNew Instr.alloc
    simp only [zeroValue, typeInfo, Sem.run_bind, run_program, Result.andThen_ok, hi, hz, Sem.run_pure, newVar, newRow, Value.cells, run_newObj]
    rfl

def tabLoad (v : Value) : Sem Value := Instr.loadAt 95 v
theorem load_tab (v : Value) : Instr.loadAt 95 v = tabLoad v := rfl
theorem infoTabS : (Try.prog.info? 95).map (·.size) = some 1001 := by
  have := infoTab
  cases hi : Try.prog.info? 95 with
  | none => rw [hi] at this; simp at this
  | some i =>
    rw [hi, Option.map_some] at this
    rw [Option.map_some]
    exact congrArg some (congrArg Prod.snd (Option.some.inj this))
theorem underTab : Try.prog.underlying 95 = some (.array 1001 3) := by kernel_rfl
theorem run_tabLoad {w : World} {g : Nat} {f : Nat → Nat} (h : TabAt w g f) : (tabLoad (.pointer (some ⟨g, 0, none⟩))).run Try.prog w = .ok (.agg (tabA f)) w := by
  have := run_loadVar_row (P := Try.prog) w g 95 95 (tabA f) (0, 0) _ h underTab rfl (by rw [infoTabS, tabA_size])
  unfold tabLoad Instr.loadAt
  simp only [Instr.sureAddr, Sem.run_bind, Sem.run_pure, Result.andThen_ok, this]

def tabStore (a v : Value) : Sem Unit := Instr.storeAt 95 a v
theorem store_tab (a v : Value) : Instr.storeAt 95 a v = tabStore a v := rfl
theorem run_tabStore {w : World} {g : Nat} {o : Nat → Nat} (f : Nat → Nat) (h : TabAt w g o) : (tabStore (.pointer (some ⟨g, 0, none⟩)) (.agg (tabA f))).run Try.prog w = .ok () (w.setRow g (tabA f)) := by
  have := run_storeVar_row (P := Try.prog) w g 95 95 (tabA o) (tabA f) h (by rw [infoTabS, tabA_size]) (by rw [tabA_size, tabA_size]) (tab_one f)
  unfold tabStore Instr.storeAt
  simp only [Instr.sureAddr, Sem.run_bind, Sem.run_pure, Result.andThen_ok, this]
theorem TabAt.row {w : World} {g : Nat} {o : Nat → Nat} (f : Nat → Nat) (h : TabAt w g o) : TabAt (w.setRow g (tabA f)) g f ∧ But g w (w.setRow g (tabA f)) := by
  refine ⟨?_, rfl, rfl, rfl, ?_, fun k hk hg => ?_⟩
  · have := setRow_heap w g (tabA o) (tabA f) _ _ h
    exact this
  · unfold World.setRow; simp
  · unfold World.setRow
    have hgk : ¬ g = k := fun e => hg e.symm
    simp [Array.getElem?_modify, hgk]

def tabBox (v : Value) : Sem Value := Instr.box 95 v
theorem box_tab (v : Value) : Instr.box 95 v = tabBox v := rfl
theorem run_tabBox (w : World) (f : Nat → Nat) : (tabBox (.agg (tabA f))).run Try.prog w = .ok (.pointer (some ⟨w.heap.size, 0, none⟩)) (w.alloc (.cells (tabA f) 95)) := by
  unfold tabBox Instr.box
  simp only [newVar, newRow, Value.cells, Sem.run_bind, Sem.run_pure, Result.andThen_ok, run_newObj]
  rfl

def tabIdx (x i : Value) : Sem Value := Instr.index 95 x i
theorem idx_tab (x i : Value) : Instr.index 95 x i = tabIdx x i := rfl
theorem sizeInt : (Try.prog.info? 3).map (·.size) = some 1 := by kernel_rfl
theorem run_tabIdx (w : World) (f : Nat → Nat) (k : Nat) (hk : k < 1001) : (tabIdx (.agg (tabA f)) (.int .i64 (k : Int))).run Try.prog w = .ok (.int .i64 (f k : Int)) w := by
  cases hi : Try.prog.info? 3 with
  | none => have := sizeInt; rw [hi] at this; simp at this
  | some i =>
    have hs : i.size = 1 := by
      have := sizeInt
      rw [hi, Option.map_some] at this
      exact Option.some.inj this
    have hu := run_underlying Try.underlying3 w
    have hc : (tabA f)[k]? = some (.int .i64 (f k : Int)) := by
      have := tab_at f hk
      simpa [tabA] using this
    have h1 : (0 : Int) ≤ (k : Int) ∧ (k : Int) < (1001 : Nat) := by omega
    unfold tabIdx Instr.index
    simp only [asIntOf, Sem.run_bind, Sem.run_pure, Result.andThen_ok, run_underlying underTab w, if_pos h1, sizeOf, typeInfo, run_program, hi, hs, part, isAgg, hu, Int.toNat_natCast, Nat.mul_one, hc]
    simp

theorem tab_results {fn : Func} {p : Tmp} (h : fn.results = #[.cell p 95]) (tmps : Array Value) (w : World) (g : Nat) (f : Nat → Nat) (hp : tmps.getD p undef = .pointer (some ⟨g, 0, none⟩)) (ht : TabAt w g f) :
    (results fn tmps).run Try.prog w = .ok (.agg (tabA f)) w :=
  results_cell_row h tmps w g 95 (tabA f) (0, 0) _ hp ht underTab rfl (by rw [infoTabS, tabA_size])

end Go.Proofs.Ytebipiehkmhaiaa
end

section
/- The program's counts of buckets and their starts, by their contracts. -/
namespace Go.Proofs.Ytebipiehkmhaiaa
open Go.RowKit Rx
set_option linter.unusedVariables false
attribute [local go_sem ↓ high] alloc_tab load_tab store_tab box_tab
attribute [local go_sem] run_tabNew

set_option maxRecDepth 100000 in
set_option maxHeartbeats 2000000 in
theorem bucketCounts_any (f : Int → Nat) (g : Nat) (lb : Array Value) (eg : ∀ args w, (callFunc g args).run Try.prog w = .ok (.enter g args) w) (v : Value) (l : List Int) (w : World) (hv : FlatAt w v l.length (ints l)) (hn : l.length ≤ 1048576)
    (hf : ∀ x ∈ l, f x < 1001) (hp : ∀ (W : World) x, x ∈ l → Below w.heap.size w W → Calls Try.prog g (#[.int .i64 x] ++ lb) W fun e w' => e = .returned (.int .i64 (f x : Nat)) ∧ Below W.heap.size W w') :
    Calls Try.prog 80 #[v, .func (.func g) #[] lb] w fun e w' => e = .returned (.agg (tabA (cnt f l))) ∧ Below w.heap.size w w' := by
  obtain ⟨a, c, rfl, _, h⟩ := hv
  have H := Lib.hid h
  have HPR := Lib.hid hp
  have HF := Lib.hid hf
  clear h hp hf
  go_enter Try.func80, Try.ntmps80
  go_wp2_with fail
  obtain ⟨W0, hW0⟩ : ∃ W0, W0 = (w.alloc (.cells (tabA fun _ => 0) 95)).alloc (.cells (tabA fun _ => 0) 95) := ⟨_, rfl⟩
  have hs0 : (w.alloc (.cells (tabA fun _ => 0) 95)).heap.size = w.heap.size + 1 := by simp
  have HT1 : Hid (TabAt W0 w.heap.size fun _ => 0) := Lib.hid (by rw [hW0]; exact (TabAt.new w _).below ((Below.refl (w.heap.size + 1) _).alloc (by omega) _) (by omega))
  have HT2 : Hid (TabAt W0 (w.heap.size + 1) fun _ => 0) := Lib.hid (by rw [hW0]; have := TabAt.new (w.alloc (.cells (tabA fun _ => 0) 95)) (fun _ => 0); rw [hs0] at this; exact this)
  have HB0 : Hid (Below w.heap.size w W0) := Lib.hid (by rw [hW0]; exact ((Below.refl _ _).alloc (Nat.le_refl _) _).alloc (by omega) _)
  rw [← hW0]
  clear hW0 hs0
  go_loopw [7, 10] (fun _ i wr => ∃ k : Nat, k ≤ l.length ∧ i = .int .i64 k ∧ TabAt wr w.heap.size (fun _ => 0) ∧ TabAt wr (w.heap.size + 1) (cnt f (l.take k)) ∧ Below w.heap.size w wr) (fun _ i _ => l.length - (intOf i).toNat)
  case atStart => exact ⟨0, Nat.zero_le _, rfl, HT1.out, HT2.out.congr (fun d _ => by simp [cnt, inB]), HB0.out⟩
  case round =>
    obtain ⟨k, hk, rfl, ht1, ht2, hb⟩ := hrel
    have HB := Lib.hid hb
    have HT := Lib.hid ht1
    have HU := Lib.hid ht2
    clear hb ht1 ht2 HT1 HT2 HB0
    by_cases hlt : k < l.length
    · have hltz : (k : Int) < (l.length : Int) := by omega
      obtain ⟨x, hx⟩ : ∃ x, l[k]? = some x := ⟨_, List.getElem?_eq_getElem hlt⟩
      obtain ⟨b, o, rfl, hbb, hc0⟩ := H.out _ _ (ints_at hx)
      have hw0 : wr.cell? ⟨b, o + k, none⟩ = some (.int .i64 x) := (HB.out.cell (p := ⟨b, o + k, none⟩) hbb).trans hc0
      have hxm := List.mem_of_getElem? hx
      have HCALL := Lib.hid (HPR.out wr x hxm HB.out)
      have hfx := HF.out x hxm
      obtain ⟨d, hd⟩ : ∃ d, d = f x := ⟨_, rfl⟩
      rw [← hd] at HCALL hfx
      obtain ⟨m, hm⟩ : ∃ m, m = cnt f (l.take k) d := ⟨_, rfl⟩
      have hm64 : m ≤ 1048576 := by
        rw [hm]; unfold cnt inB
        have := List.length_filter_le (fun a => f a == d) (l.take k)
        have h2 : (l.take k).length ≤ l.length := by rw [List.length_take]; omega
        omega
      have HNEW : Hid (∀ W, TabAt W (w.heap.size + 1) (cnt f (l.take k)) → TabAt (W.setCell ⟨w.heap.size + 1, d, none⟩ (.int .i64 ((m : Int) + 1))) (w.heap.size + 1) (cnt f (l.take (k + 1)))) := Lib.hid (fun W h => by
        have := (h.put d (m + 1)).congr (h := cnt f (l.take (k + 1))) (fun q _ => by
          rw [cnt_take_succ hx, ← hd]
          by_cases hq : q = d
          · rw [if_pos hq, if_pos hq.symm, hq, ← hm]
          · rw [if_neg hq, if_neg (fun e => hq e.symm), Nat.add_zero])
        exact this)
      have HM := Lib.hid hm
      have hdz : (d : Int) < 1001 := by omega
      clear hc0 hx hxm hd hm
      go_wp2_with (go_at_fn g; refine (HCALL.out).mono ?_; rintro e w' ⟨rfl, hb'⟩; have HB' := Lib.hid (HB.out.trans (hb'.mono HB.out.size)); have HT' := Lib.hid (HT.out.below hb' HT.out.lt); have HU' := Lib.hid (HU.out.below hb' HU.out.lt); have ht' := HU'.out.at hfx; rw [← HM.out] at ht'; obtain ⟨ht', hf'⟩ := ht'; clear hb')
      go_roundw
      case rel => exact ⟨k + 1, by omega, by go_num, HT'.out.but ((But.refl _ _).setCell d _) (by omega), HNEW.out _ HU'.out, HB'.out.setCell (p := ⟨w.heap.size + 1, d, none⟩) (by show w.heap.size ≤ w.heap.size + 1; omega) _⟩
      case measure => simp [intOf]; omega
    · have hltz : ¬ (k : Int) < (l.length : Int) := by omega
      obtain rfl : k = l.length := by omega
      rw [List.take_length] at HU
      obtain ⟨hr1, hr2⟩ := HT.out.row (cnt f l)
      have hl := run_tabLoad HU.out
      have hs := run_tabStore (cnt f l) HT.out
      have HR1 := Lib.hid hr1
      have HRES := Lib.hid (HB.out.trans (hr2.below (Nat.le_refl _) HB.out.size))
      clear hr1 hr2
      go_wp2_with fail
      refine bodyPost_ret (tab_results rfl _ _ w.heap.size _ rfl HR1.out) rfl ?_
      exact ⟨rfl, HRES.out⟩

/-- The starts found so far. -/
def stTo (f : Int → Nat) (l : List Int) (k : Nat) : Nat → Nat := fun d => if d < k then st f l d else 0

set_option maxRecDepth 100000 in
set_option maxHeartbeats 4000000 in
theorem starts_any (f : Int → Nat) (l : List Int) (w : World) (hf : ∀ x ∈ l, f x < 1001) (hn : l.length ≤ 1048576) :
    Calls Try.prog 126 #[.agg (tabA (cnt f l))] w fun e w' => e = .returned (.agg (tabA (st f l))) ∧ Below w.heap.size w w' := by
  have HLE := Lib.hid (fun d (h : d ≤ 1001) => (by have := st_mono f l h; rw [bk_len hf] at this; omega : st f l d ≤ 1048576))
  clear hf
  have hbox := fun W => run_tabBox W (cnt f l)
  obtain ⟨W0, hW0⟩ : ∃ W0, W0 = ((w.alloc (.cells (tabA (cnt f l)) 95)).alloc (.cells (tabA fun _ => 0) 95)).alloc (.cells (tabA fun _ => 0) 95) := ⟨_, rfl⟩
  obtain ⟨W1, hW1⟩ : ∃ W1, W1 = w.alloc (.cells (tabA (cnt f l)) 95) := ⟨_, rfl⟩
  obtain ⟨W2, hW2⟩ : ∃ W2, W2 = W1.alloc (.cells (tabA fun _ => 0) 95) := ⟨_, rfl⟩
  have hs1 : W1.heap.size = w.heap.size + 1 := by rw [hW1]; simp
  have hs2 : W2.heap.size = w.heap.size + 2 := by rw [hW2]; simp [hs1]
  have e0 : W0 = W2.alloc (.cells (tabA fun _ => 0) 95) := by rw [hW0, hW2, hW1]
  have HT0 : Hid (TabAt W0 w.heap.size (cnt f l)) := Lib.hid (by
    have h1 : TabAt W1 w.heap.size (cnt f l) := by rw [hW1]; exact TabAt.new w _
    rw [e0, hW2]
    exact h1.below (((Below.refl (w.heap.size + 1) _).alloc (by omega) _).alloc (by rw [← hW2]; omega) _) (by omega))
  have HT1 : Hid (TabAt W0 (w.heap.size + 1) fun _ => 0) := Lib.hid (by
    have h1 : TabAt W2 (w.heap.size + 1) fun _ => 0 := by have := TabAt.new W1 (fun _ => 0); rw [hs1] at this; rw [hW2]; exact this
    rw [e0]
    exact h1.below ((Below.refl (w.heap.size + 2) _).alloc (by omega) _) (by omega))
  have HT2 : Hid (TabAt W0 (w.heap.size + 2) fun _ => 0) := Lib.hid (by have := TabAt.new W2 (fun _ => 0); rw [hs2] at this; rw [e0]; exact this)
  have HB0 : Hid (Below w.heap.size w W0) := Lib.hid (by
    rw [hW0]; exact (((Below.refl _ _).alloc (Nat.le_refl _) _).alloc (by rw [← hW1]; omega) _).alloc (by rw [← hW1, ← hW2]; omega) _)
  clear hW1 hW2 hs1 hs2 e0
  go_enter Try.func126, Try.ntmps126
  go_wp2_with fail
  rw [← hW0]
  clear hW0 hbox
  go_loopw [4] (fun iv wr => ∃ k : Nat, 1 ≤ k ∧ k ≤ 1001 ∧ iv = .int .i64 k ∧ TabAt wr w.heap.size (cnt f l) ∧ TabAt wr (w.heap.size + 1) (fun _ => 0) ∧ TabAt wr (w.heap.size + 2) (stTo f l k) ∧ Below w.heap.size w wr) (fun iv _ => 1001 - (intOf iv).toNat)
  case atStart => exact ⟨1, Nat.le_refl _, by omega, rfl, HT0.out, HT1.out, HT2.out.congr (fun d _ => by
    unfold stTo
    by_cases h : d < 1
    · obtain rfl : d = 0 := by omega
      rfl
    · rw [if_neg h]), HB0.out⟩
  case round =>
    obtain ⟨k, hk1, hk, rfl, ht0, ht1, ht2, hb⟩ := hrel
    have HB := Lib.hid hb
    have HT := Lib.hid ht0
    have HU := Lib.hid ht1
    have HV := Lib.hid ht2
    clear hb ht0 ht1 ht2 HT0 HT1 HT2 HB0
    by_cases hlt : k < 1001
    · obtain ⟨j, rfl⟩ : ∃ j, k = j + 1 := ⟨k - 1, by omega⟩
      obtain ⟨q, hq⟩ : ∃ q, q = j + 1 := ⟨_, rfl⟩
      rw [← hq] at HV hk hk1 hlt ⊢
      have hqj : (q : Int) - 1 = (j : Int) := by omega
      have hltz : (q : Int) < 1001 := by omega
      have hjz : (j : Int) < 1001 := by omega
      obtain ⟨c, hc⟩ : ∃ c, c = cnt f l j := ⟨_, rfl⟩
      obtain ⟨s, hs⟩ : ∃ s, s = st f l j := ⟨_, rfl⟩
      have hsum : st f l q = s + c := by rw [hq, st_succ, ← hs, ← hc]
      have hsl := HLE.out q (by omega)
      rw [hsum] at hsl
      obtain ⟨ct, _⟩ := HT.out.at (k := j) (by omega)
      obtain ⟨cv, _⟩ := HV.out.at (k := j) (by omega)
      obtain ⟨cu, fu⟩ := HV.out.at (k := q) (by omega)
      rw [← hc] at ct
      rw [show stTo f l q j = s by unfold stTo; rw [if_pos (by omega), hs]] at cv
      rw [show stTo f l q q = 0 by unfold stTo; rw [if_neg (by omega)]] at cu
      have hne : ¬ j = q := by omega
      have hne2 : ¬ q = j := by omega
      have HRES : Hid (TabAt (wr.setCell ⟨w.heap.size + 2, q, none⟩ (.int .i64 ((s : Int) + (c : Int)))).drew w.heap.size (cnt f l) ∧ TabAt (wr.setCell ⟨w.heap.size + 2, q, none⟩ (.int .i64 ((s : Int) + (c : Int)))).drew (w.heap.size + 1) (fun _ => 0) ∧
          TabAt (wr.setCell ⟨w.heap.size + 2, q, none⟩ (.int .i64 ((s : Int) + (c : Int)))).drew (w.heap.size + 2) (stTo f l (q + 1)) ∧ Below w.heap.size w (wr.setCell ⟨w.heap.size + 2, q, none⟩ (.int .i64 ((s : Int) + (c : Int)))).drew) := Lib.hid (by
        have hbut : But (w.heap.size + 2) wr (wr.setCell ⟨w.heap.size + 2, q, none⟩ (.int .i64 ((s : Int) + (c : Int)))).drew := ((But.refl _ _).setCell q _).drewN 1
        refine ⟨HT.out.but hbut (by omega), HU.out.but hbut (by omega), ?_, HB.out.trans (hbut.below (by omega) HB.out.size)⟩
        have := (HV.out.put q (s + c)).congr (h := stTo f l (q + 1)) (fun d _ => by
          unfold stTo
          by_cases hd : d = q
          · rw [if_pos hd, if_pos (by omega), hd, hsum]
          · rw [if_neg hd]
            by_cases h2 : d < q
            · rw [if_pos h2, if_pos (by omega)]
            · rw [if_neg h2, if_neg (by omega)])
        rw [Int.natCast_add] at this
        exact this)
      clear hc hs hsum HT HU HV HB HLE hq
      go_wp2_with fail
      go_region
      go_wp2_with fail
      go_roundw
      case rel => exact ⟨q + 1, by omega, by omega, by go_num, HRES.out.1, HRES.out.2.1, HRES.out.2.2.1, HRES.out.2.2.2⟩
      case measure => simp [intOf]; omega
    · have hltz : ¬ (k : Int) < 1001 := by omega
      obtain ⟨hr1, hr2⟩ := HU.out.row (st f l)
      have hl := run_tabLoad (HV.out.congr (h := st f l) (fun d hd => by unfold stTo; rw [if_pos (by omega)]))
      have hs := run_tabStore (st f l) HU.out
      have HR1 := Lib.hid hr1
      have HRES := Lib.hid (HB.out.trans (hr2.below (by omega) HB.out.size))
      clear hr1 hr2 HLE
      go_wp2_with fail
      refine bodyPost_ret (tab_results rfl _ _ (w.heap.size + 1) _ rfl HR1.out) rfl ?_
      exact ⟨rfl, HRES.out⟩

end Go.Proofs.Ytebipiehkmhaiaa
end

section
/- Answers whose list may be nil where it has no length: a list and a bool, or a list, a number and a bool. -/
namespace Go.Proofs.Ytebipiehkmhaiaa
open Go.RowKit
set_option linter.unusedVariables false

/-- No length, wherever it lies. -/
def RetZb (b : Bool) (w : World) (e : Ending) (w' : World) : Prop :=
  ∃ a c, e = .returned (.tuple #[.slice a 0 c, .bool b]) ∧ Below w.heap.size w w'
def RetZnb (n : Int) (b : Bool) (w : World) (e : Ending) (w' : World) : Prop :=
  ∃ a c, e = .returned (.tuple #[.slice a 0 c, .int .i64 n, .bool b]) ∧ Below w.heap.size w w'
def RetCE (r : List (Int × Int) × Bool) (w : World) (e : Ending) (w' : World) : Prop := RetC r w e w' ∨ (r.1 = [] ∧ RetZb r.2 w e w')
def Ret1CE (r : List (Int × Int) × Int × Bool) (w : World) (e : Ending) (w' : World) : Prop := Ret1C r w e w' ∨ (r.1 = [] ∧ RetZnb r.2.1 r.2.2 w e w')
def RetIE (r : List Int × Bool) (w : World) (e : Ending) (w' : World) : Prop := RetI r w e w' ∨ (r.1 = [] ∧ RetZb r.2 w e w')
theorem RetCE.own {r : List (Int × Int) × Bool} {w w' : World} {e : Ending} (h : RetCE r w e w') (h0 : r.1 ≠ []) : RetC r w e w' := by
  rcases h with h | ⟨h, _⟩
  · exact h
  · exact absurd h h0
theorem RetCE.zero {r : List (Int × Int) × Bool} {w w' : World} {e : Ending} (h : RetCE r w e w') (h0 : r.1 = []) : RetZb r.2 w e w' := by
  rcases h with ⟨g, c, rfl, _, _, _, hb⟩ | ⟨_, h⟩
  · exact ⟨some ⟨g, 0, none⟩, c, by rw [h0]; rfl, hb⟩
  · exact h
theorem Ret1CE.own {r : List (Int × Int) × Int × Bool} {w w' : World} {e : Ending} (h : Ret1CE r w e w') (h0 : r.1 ≠ []) : Ret1C r w e w' := by
  rcases h with h | ⟨h, _⟩
  · exact h
  · exact absurd h h0
theorem Ret1CE.zero {r : List (Int × Int) × Int × Bool} {w w' : World} {e : Ending} (h : Ret1CE r w e w') (h0 : r.1 = []) : RetZnb r.2.1 r.2.2 w e w' := by
  rcases h with ⟨g, c, rfl, _, _, _, hb⟩ | ⟨_, h⟩
  · exact ⟨some ⟨g, 0, none⟩, c, by rw [h0]; rfl, hb⟩
  · exact h
theorem RetIE.own {r : List Int × Bool} {w w' : World} {e : Ending} (h : RetIE r w e w') (h0 : r.1 ≠ []) : RetI r w e w' := by
  rcases h with h | ⟨h, _⟩
  · exact h
  · exact absurd h h0
theorem RetIE.zero {r : List Int × Bool} {w w' : World} {e : Ending} (h : RetIE r w e w') (h0 : r.1 = []) : RetZb r.2 w e w' := by
  rcases h with ⟨g, c, rfl, _, _, _, hb⟩ | ⟨_, h⟩
  · exact ⟨some ⟨g, 0, none⟩, c, by rw [h0]; rfl, hb⟩
  · exact h

end Go.Proofs.Ytebipiehkmhaiaa
end

section
/- The program's distribution of records by buckets, by its contract. -/
namespace Go.Proofs.Ytebipiehkmhaiaa
open Go.RowKit Rx
set_option linter.unusedVariables false
attribute [local go_sem ↓ high] alloc_tab load_tab store_tab box_tab
attribute [local go_sem] run_tabNew

theorem rec_new (w : World) (x y : Int) : CellRow (w.alloc (.cells #[.int .i64 x, .int .i64 y] 45)) w.heap.size [.int .i64 x, .int .i64 y] := CellRow.of_row (heap_alloc_new w _)

set_option maxRecDepth 100000 in
set_option maxHeartbeats 4000000 in
theorem keysOf_any (v : Value) (l : List (Int × Int)) (w : World) (hv : FlatAt w v l.length (recs l)) (hn : l.length ≤ 1048576) :
    Calls Try.prog 81 #[v] w fun e w' => ∃ g, e = .returned (.slice (some ⟨g, 0, none⟩) l.length l.length) ∧ w.heap.size ≤ g ∧ CellRow w' g (ints (l.map (·.1))) ∧ Below w.heap.size w w' := by
  obtain ⟨a, c, rfl, _, h⟩ := hv
  have H := Lib.hid h
  clear h
  have hmk := makeInts l.length hn
  have hlm : (l.map (·.1)).length = l.length := by simp
  have hrow := heap_alloc_new w (.cells (ints (fill (l.map (·.1)) 0 0)).toArray 3)
  rw [fill_zero, hlm] at hrow
  have HROW : Hid (CellRow (w.alloc (.cells (ints (List.replicate l.length 0)).toArray 3)) w.heap.size (ints (fill (l.map (·.1)) 0 0))) := Lib.hid (by rw [fill_zero, hlm]; exact CellRow.of_row hrow)
  have HB0 : Hid (Below w.heap.size w (w.alloc (.cells (ints (List.replicate l.length 0)).toArray 3))) := Lib.hid ((Below.refl _ _).alloc (Nat.le_refl _) _)
  have HLM := Lib.hid hlm
  clear hrow hlm
  go_enter Try.func81, Try.ntmps81
  go_wp2_with fail
  go_loopw [4, 11] (fun _ i wr => ∃ k : Nat, k ≤ l.length ∧ i = .int .i64 k ∧ CellRow wr w.heap.size (ints (fill (l.map (·.1)) 0 k)) ∧ Below w.heap.size w wr) (fun _ i _ => l.length - (intOf i).toNat)
  case atStart => exact ⟨0, Nat.zero_le _, rfl, HROW.out, HB0.out⟩
  case round =>
    obtain ⟨k, hk, rfl, hr, hb⟩ := hrel
    have HR := Lib.hid hr
    have HB := Lib.hid hb
    clear hr hb hmk HROW HB0
    by_cases hlt : k < l.length
    · have hltz : (k : Int) < (l.length : Int) := by omega
      obtain ⟨p, hp⟩ : ∃ p, l[k]? = some p := ⟨_, List.getElem?_eq_getElem hlt⟩
      obtain ⟨b, o, rfl, hbb, hc1, hc2⟩ := recs_el H.out hp
      have hw1 : wr.cell? ⟨b, o + k * 2, none⟩ = some (.int .i64 p.1) := (HB.out.cell (p := ⟨b, o + k * 2, none⟩) hbb).trans hc1
      have hw2 : wr.cell? ⟨b, o + k * 2 + 1, none⟩ = some (.int .i64 p.2) := (HB.out.cell (p := ⟨b, o + k * 2 + 1, none⟩) hbb).trans hc2
      have HP := Lib.hid (show (l.map (·.1))[k]? = some p.1 by rw [List.getElem?_map, hp]; rfl)
      clear hc1 hc2 hp
      obtain ⟨x, y⟩ := p
      simp only at hw1 hw2 HP
      obtain ⟨hg1, hf1⟩ := HR.out.2 k _ (ints_at (fill_at (d := (0 : Int)) (show k < (l.map (·.1)).length by rw [HLM.out]; exact hlt)))
      have hgl := HR.out.1
      have HNEW : Hid (CellRow ((wr.setCell ⟨w.heap.size, k, none⟩ (.int .i64 x)).alloc (.cells #[.int .i64 x, .int .i64 y] 45)) w.heap.size (ints (fill (l.map (·.1)) 0 (k + 1))) ∧ Below w.heap.size w ((wr.setCell ⟨w.heap.size, k, none⟩ (.int .i64 x)).alloc (.cells #[.int .i64 x, .int .i64 y] 45))) := Lib.hid (by
        have hb := HB.out.setCell (p := ⟨w.heap.size, k, none⟩) (Nat.le_refl _) (.int .i64 x)
        refine ⟨?_, hb.alloc hb.size _⟩
        have := HR.out.set k (.int .i64 x) (by rw [ints_length, fill_length _ _ _ (by rw [HLM.out]; omega), HLM.out]; exact hlt)
        rw [ints_set, fill_set HP.out] at this
        exact this.same (heap_alloc_old _ _ this.1) (by simp))
      clear HP HR HB HLM
      go_wp2_with fail
      go_roundw
      case rel => exact ⟨k + 1, by omega, by go_num, HNEW.out.1, HNEW.out.2⟩
      case measure => simp [intOf]; omega
    · have hltz : ¬ (k : Int) < (l.length : Int) := by omega
      obtain rfl : k = l.length := by omega
      have HRES : Hid (CellRow wr w.heap.size (ints (l.map (·.1)))) := Lib.hid (by
        have := HR.out
        rw [← HLM.out, fill_all] at this; exact this)
      go_wp2_with fail
      go_ret
      exact ⟨_, rfl, Nat.le_refl _, HRES.out, HB.out⟩

/-- What stands ahead of the rounds of the distribution. -/
def DistI (f : Int → Nat) (l : List (Int × Int)) (w : World) (gn gs : Nat) (k : Nat) (wr : World) : Prop :=
  ∃ S, TabAt wr gn (nx (fun p : Int × Int => f p.1) l k) ∧ CellRow wr gs (recs S) ∧ Fill (fun p : Int × Int => f p.1) l 1001 k S ∧ Below w.heap.size w wr

theorem cnt_map (f : Int → Nat) (l : List (Int × Int)) (d : Nat) : cnt f (l.map (·.1)) d = cnt (fun p : Int × Int => f p.1) l d := by
  unfold cnt inB
  rw [List.filter_map, List.length_map]; rfl
theorem st_map (f : Int → Nat) (l : List (Int × Int)) : ∀ d, st f (l.map (·.1)) d = st (fun p : Int × Int => f p.1) l d
  | 0 => rfl
  | d + 1 => by simp only [st, st_map f l d, cnt_map f l d]

set_option maxRecDepth 100000 in
set_option maxHeartbeats 8000000 in
theorem distributed_any (f : Int → Nat) (g : Nat) (lb : Array Value) (eg : ∀ args w, (callFunc g args).run Try.prog w = .ok (.enter g args) w) (v : Value) (l : List (Int × Int)) (w : World) (hv : FlatAt w v l.length (recs l)) (hn : l.length ≤ 1048576)
    (hf : ∀ p ∈ l, f p.1 < 1001) (hp : ∀ (W : World) x, x ∈ l.map (·.1) → Below w.heap.size w W → Calls Try.prog g (#[.int .i64 x] ++ lb) W fun e w' => e = .returned (.int .i64 (f x : Nat)) ∧ Below W.heap.size W w') :
    Calls Try.prog 73 #[v, .func (.func g) #[] lb] w (RowOfC (bk (fun p : Int × Int => f p.1) l 1001) w) := by
  have hfm : ∀ x ∈ l.map (·.1), f x < 1001 := fun x hx => by
    obtain ⟨p, hp, rfl⟩ := List.mem_map.1 hx; exact hf p hp
  obtain ⟨M, hM⟩ : ∃ M, M = bk (fun p : Int × Int => f p.1) l 1001 := ⟨_, rfl⟩
  have HDONE : Hid (∀ S, Fill (fun p : Int × Int => f p.1) l 1001 l.length S → S = M) := Lib.hid (fun S h => (h.done hf).trans hM.symm)
  rw [← hM]
  clear hM
  have HKEYS := Lib.hid (keysOf_any v l w hv hn)
  have HBC := Lib.hid (fun (gk : Nat) W (hk : CellRow W gk (ints (l.map (·.1)))) (hW : Below w.heap.size w W) => bucketCounts_any f g lb eg (.slice (some ⟨gk, 0, none⟩) l.length l.length) (l.map (·.1)) W (by rw [List.length_map]; exact hk.flat (Nat.le_refl _)) (by simpa using hn) hfm (fun W2 x hx h2 => hp W2 x hx (hW.trans (h2.mono hW.size))))
  have HST := Lib.hid (fun W => starts_any f (l.map (·.1)) W hfm (by simpa using hn))
  have HPR := Lib.hid hp
  have HF := Lib.hid hf
  have hmk := makeRec l.length hn
  obtain ⟨a, c, rfl, _, h⟩ := hv
  have H := Lib.hid h
  clear h hp hf hfm
  go_enter Try.func73, Try.ntmps73
  go_wp2_with fail
  refine HKEYS.out.mono ?_
  rintro e w1 ⟨gk, rfl, hgk, hrk, hb1⟩
  have HB1 := Lib.hid hb1
  have HC := Lib.hid (HBC.out gk w1 hrk hb1)
  clear hrk hb1 HKEYS HBC hgk
  go_wp2_with fail
  refine HC.out.mono ?_
  rintro e w2 ⟨rfl, hb2⟩
  have HB2 := Lib.hid (HB1.out.trans (hb2.mono HB1.out.size))
  clear hb2 HC HB1
  go_wp2_with fail
  refine (HST.out _).mono ?_
  rintro e w3 ⟨rfl, hb3⟩
  have HB3 := Lib.hid (HB2.out.trans (hb3.mono HB2.out.size))
  clear hb3 HST HB2
  obtain ⟨hr1, hr2⟩ := (TabAt.new w3 (fun _ => 0)).row (st f (l.map (·.1)))
  have hst := run_tabStore (st f (l.map (·.1))) (TabAt.new w3 (fun _ => 0))
  obtain ⟨W4, hW4⟩ : ∃ W4, W4 = (w3.alloc (.cells (tabA fun _ => 0) 95)).setRow w3.heap.size (tabA (st f (l.map (·.1)))) := ⟨_, rfl⟩
  rw [← hW4] at hr1 hr2 hst
  have hb34 : Below w3.heap.size w3 W4 := ((Below.refl _ _).alloc (Nat.le_refl _) _).trans (hr2.below (Nat.le_refl _) (by simp))
  have hsz4 : W4.heap.size = w3.heap.size + 1 := by rw [hW4]; unfold World.setRow; simp
  have HB4 := Lib.hid (HB3.out.trans (hb34.mono HB3.out.size))
  have hrow := heap_alloc_new W4 (.cells (recs (List.replicate l.length (0, 0))).toArray 45)
  have HI0 : Hid (DistI f l w w3.heap.size W4.heap.size 0 (W4.alloc (.cells (recs (List.replicate l.length (0, 0))).toArray 45))) := Lib.hid ⟨List.replicate l.length (0, 0), by
      have h1 : TabAt W4 w3.heap.size (nx (fun p : Int × Int => f p.1) l 0) := hr1.congr (fun d _ => by rw [st_map]; unfold nx; simp [cnt, inB])
      exact h1.below ((Below.refl W4.heap.size _).alloc (Nat.le_refl _) _) h1.lt, CellRow.of_row hrow, Fill.start _ _ _ (by simp), HB4.out.alloc HB4.out.size _⟩
  have hgn : w.heap.size ≤ w3.heap.size := HB3.out.size
  have HSZ := Lib.hid hsz4
  clear hr1 hr2 hW4 hb34 hrow HB3 HB4 hsz4
  go_wp2_with fail
  obtain ⟨gn, hgne⟩ : ∃ gn, gn = w3.heap.size := ⟨_, rfl⟩
  obtain ⟨gs, hgse⟩ : ∃ gs, gs = W4.heap.size := ⟨_, rfl⟩
  rw [← hgne, ← hgse] at HI0
  rw [← hgne] at hgn HSZ ⊢
  rw [← hgse] at HSZ ⊢
  have hgsn : gn < gs := by have := HSZ.out; omega
  have hng : ¬ gn = gs := by omega
  have hng2 : ¬ gs = gn := by omega
  clear HSZ hst hmk hgne hgse
  go_loopw [8, 9, 20] (fun _ _ i wr => ∃ k : Nat, k ≤ l.length ∧ i = .int .i64 k ∧ DistI f l w gn gs k wr) (fun _ _ i _ => l.length - (intOf i).toNat)
  case atStart => exact ⟨0, Nat.zero_le _, rfl, HI0.out⟩
  case round =>
    obtain ⟨k, hk, rfl, hd⟩ := hrel
    have HD := Lib.hid hd
    clear hd HI0
    by_cases hlt : k < l.length
    · have hltz : (k : Int) < (l.length : Int) := by omega
      obtain ⟨p, hp⟩ : ∃ p, l[k]? = some p := ⟨_, List.getElem?_eq_getElem hlt⟩
      obtain ⟨S, hT, hS, hFl, hB⟩ := HD.out
      obtain ⟨b, o, rfl, hbb, hc1, hc2⟩ := recs_el H.out hp
      have hw1 : wr.cell? ⟨b, o + k * 2, none⟩ = some (.int .i64 p.1) := (hB.cell (p := ⟨b, o + k * 2, none⟩) hbb).trans hc1
      have hw2 : wr.cell? ⟨b, o + k * 2 + 1, none⟩ = some (.int .i64 p.2) := (hB.cell (p := ⟨b, o + k * 2 + 1, none⟩) hbb).trans hc2
      have hpm := List.mem_of_getElem? hp
      have hfp := HF.out p hpm
      have hnl := nx_lt (f := fun p : Int × Int => f p.1) HF.out hp
      have HSTEP := Lib.hid (hFl.step HF.out hp)
      have HNX := Lib.hid (fun d => cnt_take_succ (f := fun p : Int × Int => f p.1) hp d)
      have hsl := hFl.1
      obtain ⟨x, y⟩ := p
      simp only at hw1 hw2 hfp hnl HSTEP HNX
      have hbA : Below wr.heap.size wr (wr.alloc (.cells #[.int .i64 x, .int .i64 y] 45)) := (Below.refl _ _).alloc (Nat.le_refl _) _
      have hbA2 : Below w.heap.size w (wr.alloc (.cells #[.int .i64 x, .int .i64 y] 45)) := hB.trans (hbA.mono hB.size)
      have HCALL := Lib.hid (HPR.out (wr.alloc (.cells #[.int .i64 x, .int .i64 y] 45)) x (List.mem_map_of_mem (f := (·.1)) hpm) hbA2)
      obtain ⟨d, hd⟩ : ∃ d, d = f x := ⟨_, rfl⟩
      obtain ⟨n, hn'⟩ : ∃ n, n = nx (fun p : Int × Int => f p.1) l k d := ⟨_, rfl⟩
      rw [← hd] at HCALL hfp hnl HSTEP HNX
      rw [← hn'] at hnl HSTEP
      have HN := Lib.hid hn'
      have hn64 : n ≤ 1048576 := by omega
      have HT := Lib.hid hT
      have HS := Lib.hid hS
      have HB := Lib.hid hB
      have HBA := Lib.hid hbA
      have hgl := hS.1
      have htl := hT.lt
      have hszA : (wr.alloc (.cells #[.int .i64 x, .int .i64 y] 45)).heap.size = wr.heap.size + 1 := by simp
      have HRC := Lib.hid (rec_new wr x y)
      have hdz : (d : Int) < 1001 := by omega
      have hnz : (n : Int) < (l.length : Int) := by omega
      clear hc1 hc2 hp hpm hd hn' hT hS hFl hB hbA hbA2 HF HPR HD
      go_wp2_with (
        go_at_fn g
        refine (HCALL.out).mono ?_
        rintro e w' ⟨rfl, hb'⟩
        rw [hszA] at hb'
        have HBW := Lib.hid (HBA.out.trans (hb'.mono (by omega)))
        obtain ⟨ct, ft⟩ := (HT.out.below HBW.out htl).at hfp
        rw [← HN.out] at ct
        obtain ⟨cr1, _⟩ := (HRC.out.below hb' (by omega)).2 0 _ rfl
        obtain ⟨cr2, _⟩ := (HRC.out.below hb' (by omega)).2 1 _ rfl
        obtain ⟨q, hq⟩ : ∃ q, S[n]? = some q := ⟨_, List.getElem?_eq_getElem (by omega)⟩
        obtain ⟨cs1, fs1⟩ := (HS.out.below HBW.out hgl).2 _ _ (recs_at hq).1
        obtain ⟨cs2, fs2⟩ := (HS.out.below HBW.out hgl).2 _ _ (recs_at hq).2
        clear hq hb')
      have HRES : Hid (DistI f l w gn gs (k + 1) (((w'.setCell ⟨gs, n * 2, none⟩ (.int .i64 x)).setCell ⟨gs, n * 2 + 1, none⟩ (.int .i64 y)).setCell ⟨gn, d, none⟩ (.int .i64 ((n : Int) + 1))).drew) := Lib.hid (by
        have hb1 : But gs w' ((w'.setCell ⟨gs, n * 2, none⟩ (.int .i64 x)).setCell ⟨gs, n * 2 + 1, none⟩ (.int .i64 y)) := ((But.refl gs w').setCell (n * 2) _).setCell (n * 2 + 1) _
        have hb2 : But gn ((w'.setCell ⟨gs, n * 2, none⟩ (.int .i64 x)).setCell ⟨gs, n * 2 + 1, none⟩ (.int .i64 y)) (((w'.setCell ⟨gs, n * 2, none⟩ (.int .i64 x)).setCell ⟨gs, n * 2 + 1, none⟩ (.int .i64 y)).setCell ⟨gn, d, none⟩ (.int .i64 ((n : Int) + 1))).drew := ((But.refl gn _).setCell d (.int .i64 ((n : Int) + 1))).drewN 1
        have hB := HB.out.trans (HBW.out.mono HB.out.size)
        have hB2 := hB.trans (hb1.below (by omega) hB.size)
        refine ⟨S.set n (x, y), ?_, ?_, HSTEP.out, hB2.trans (hb2.below hgn hB2.size)⟩
        · have h1 := (((HT.out.below HBW.out htl).but hb1 hng).put d (n + 1)).congr (h := nx (fun p : Int × Int => f p.1) l (k + 1)) (fun q _ => by
            have h2 := HNX.out q
            by_cases hq : q = d
            · subst hq
              rw [if_pos rfl] at h2 ⊢
              have := HN.out
              unfold nx at this ⊢
              omega
            · rw [if_neg (fun e => hq e.symm)] at h2
              rw [if_neg hq]
              unfold nx
              omega)
          exact h1
        · have h1 := ((HS.out.below HBW.out hgl).set (n * 2) (.int .i64 x) (by rw [recs_length]; omega)).set (n * 2 + 1) (.int .i64 y) (by rw [List.length_set, recs_length]; omega)
          rw [recs_set S n (x, y) (by omega)] at h1
          exact h1.but hb2 hng2)
      clear HSTEP HNX HN HT HS HB HBA HBW HRC HCALL
      go_wp2_with fail
      go_region
      all_goals (
        go_wp2_with fail
        go_roundw
        case rel => exact ⟨k + 1, by omega, by go_num, HRES.out⟩
        case measure => simp [intOf]; omega)
    · have hltz : ¬ (k : Int) < (l.length : Int) := by omega
      obtain rfl : k = l.length := by omega
      obtain ⟨S, hT, hS, hFl, hB⟩ := HD.out
      have HRES : Hid (RowOfC M w (.returned (.slice (some ⟨gs, 0, none⟩) l.length l.length)) wr) := Lib.hid (by
        have hl := hFl.1
        have e := HDONE.out S hFl
        rw [e] at hl hS
        exact ⟨gs, l.length, by rw [hl], Nat.le_of_eq hl, Nat.le_trans hgn (Nat.le_of_lt hgsn), hS, hB⟩)
      clear hT hS hFl hB HD HF HPR HDONE
      go_wp2_with fail
      go_ret
      exact HRES.out

end Go.Proofs.Ytebipiehkmhaiaa
end

section
/- The program's DigitOf, DigitCounts, RadixPass, by their contracts. -/
namespace Go.Proofs.Ytebipiehkmhaiaa
open Go.RowKit Rx P
set_option linter.unusedVariables false
attribute [local go_sem ↓ high] alloc_tab load_tab store_tab box_tab
attribute [local go_sem] run_tabNew

/-- The answer of an invalid call: no list. -/
theorem RetCE.none0 (w w1 : World) (hb : Below w.heap.size w w1) : RetCE ([], false) w (.returned (.tuple #[.slice none 0 0, .bool false])) w1 := .inr ⟨rfl, _, _, rfl, hb⟩
theorem Ret1CE.none0 (w w1 : World) (hb : Below w.heap.size w w1) : Ret1CE ([], 0, false) w (.returned (.tuple #[.slice none 0 0, .int .i64 0, .bool false])) w1 := .inr ⟨rfl, _, _, rfl, hb⟩
theorem RetIE.none0 (w w1 : World) (hb : Below w.heap.size w w1) : RetIE ([], false) w (.returned (.tuple #[.slice none 0 0, .bool false])) w1 := .inr ⟨rfl, _, _, rfl, hb⟩

theorem bk_any (l : List (Int × Int)) {b : Nat} (p : Nat) (hb : 0 < b) (hb2 : b ≤ 256) : bk (dgR b p) l 1001 = bk (dgR b p) l b :=
  (bk_of (f := dgR b p) fun x _ => Nat.lt_of_lt_of_le (dg_lt hb p _) (by omega)).uniq (bk_of (f := dgR b p) fun x _ => dg_lt hb p _)

/-- A pass over records whose keys are valid. -/
theorem pass_any (b p : Nat) (gb gp : Nat) (v : Value) (l : List (Int × Int)) (w : World) (hv : FlatAt w v l.length (recs l)) (hn : l.length ≤ 1048576) (hk : ∀ q ∈ l, -100000 ≤ q.1 ∧ q.1 ≤ 100000) (hb : 2 ≤ b) (hb2 : b ≤ 256) (hp : p ≤ 17)
    (hc : ∀ W, Below w.heap.size w W → W.cell? ⟨gb, 0, none⟩ = some (.int .i64 (b : Int)) ∧ W.cell? ⟨gp, 0, none⟩ = some (.int .i64 (p : Int))) :
    Calls Try.prog 73 #[v, .func (.func 127) #[] #[.pointer (some ⟨gb, 0, none⟩), .pointer (some ⟨gp, 0, none⟩)]] w (RowOfC (bk (dgR b p) l b) w) := by
  rw [← bk_any l p (by omega) hb2]
  exact distributed_any (dgI b p) 127 #[.pointer (some ⟨gb, 0, none⟩), .pointer (some ⟨gp, 0, none⟩)] enters_digit v l w hv hn (fun q _ => Nat.lt_of_lt_of_le (dg_lt (by omega) p _) (by omega)) (fun W x hx hW => by
    obtain ⟨q, hq, rfl⟩ := List.mem_map.1 hx
    obtain ⟨c1, c2⟩ := hc W hW
    exact digitFn_any q.1 b p gb gp W c1 c2 (hk q hq).1 (hk q hq).2 hb hb2 hp)

theorem implDof_any (k b p : Int) (W : World) :
    Calls Try.prog 30 #[.int .i64 k, .int .i64 b, .int .i64 p] W fun e w' => e = .returned (.tuple #[.int .i64 (dofAll k b p).1, .bool (dofAll k b p).2]) ∧ Below W.heap.size W w' := by
  have HO := Lib.hid (fun W => isOutside_any k W)
  have HB := Lib.hid (fun W => isBP_any b p W)
  by_cases hk : -100000 ≤ k ∧ k ≤ 100000
  · have hko : outK k = false := by unfold outK; simp; omega
    rw [hko] at HO
    by_cases hbp : OkBP b p
    · rw [decide_eq_true hbp] at HB
      obtain ⟨⟨hb1, hb2⟩, hp1, hp2⟩ := hbp
      obtain ⟨b, rfl⟩ : ∃ n : Nat, b = n := ⟨b.toNat, by omega⟩
      obtain ⟨p, rfl⟩ : ∃ n : Nat, p = n := ⟨p.toNat, by omega⟩
      have HS := Lib.hid (fun W => shifted_any k W hk.1 hk.2)
      have HD := Lib.hid (fun W => digit_any (sk k) b p W (by omega) (by omega) (by omega) (sk_le hk.2))
      rw [← sk_eq hk.1] at HD
      have HF : Hid (dofAll k (b : Int) (p : Int) = (((dg b p (sk k) : Nat) : Int), true)) := Lib.hid (dofAll_yes ⟨hk, ⟨hb1, hb2⟩, hp1, hp2⟩)
      rw [HF.out]
      clear hk hko hb1 hb2 hp1 hp2 HF
      generalize dg b p (sk k) = r at *
      go_enter Try.func30, Try.ntmps30
      go_wp2_with fail
      refine (HO.out _).mono ?_
      rintro e w1 ⟨rfl, rfl⟩
      go_wp2_with fail
      refine (HB.out _).mono ?_
      rintro e w1 ⟨rfl, rfl⟩
      go_wp2_with fail
      refine (HS.out _).mono ?_
      rintro e w1 ⟨rfl, rfl⟩
      go_wp2_with fail
      refine (HD.out _).mono ?_
      rintro e w1 ⟨rfl, rfl⟩
      go_wp2_with fail
      go_ret2
      exact ⟨rfl, Below.refl _ _⟩
    · rw [decide_eq_false hbp] at HB
      have HF : Hid (dofAll k b p = (0, false)) := Lib.hid (dofAll_no fun h => hbp h.2)
      rw [HF.out]
      clear hk hko hbp HF
      go_enter Try.func30, Try.ntmps30
      go_wp2_with fail
      refine (HO.out _).mono ?_
      rintro e w1 ⟨rfl, rfl⟩
      go_wp2_with fail
      refine (HB.out _).mono ?_
      rintro e w1 ⟨rfl, rfl⟩
      go_wp2_with fail
      go_ret2
      exact ⟨rfl, Below.refl _ _⟩
  · have hko : outK k = true := by unfold outK; simp; omega
    rw [hko] at HO
    have HF : Hid (dofAll k b p = (0, false)) := Lib.hid (dofAll_no fun h => hk h.1)
    rw [HF.out]
    clear hk hko HF
    go_enter Try.func30, Try.ntmps30
    go_wp2_with fail
    refine (HO.out _).mono ?_
    rintro e w1 ⟨rfl, rfl⟩
    go_wp2_with fail
    go_ret2
    exact ⟨rfl, Below.refl _ _⟩

set_option maxRecDepth 100000 in
set_option maxHeartbeats 4000000 in
theorem implRp_any (b' o c : Nat) (l : List (Int × Int)) (b p : Int) (w : World) (hv : FlatAt w (.slice (some ⟨b', o, none⟩) l.length c) l.length (recs l)) (hn : l.length ≤ 1048576) :
    Calls Try.prog 27 #[.slice (some ⟨b', o, none⟩) l.length c, .int .i64 b, .int .i64 p] w (RetCE (rpAll l b p) w) := by
  have HV := Lib.hid (implValidRecs_any _ l w hv hn)
  have HB := Lib.hid (fun W => isBP_any b p W)
  have HNONE := Lib.hid (fun (h : ¬ (OkR l ∧ OkBP b p)) => rpAll_no h)
  by_cases hok : OkR l
  · rw [decide_eq_true hok] at HV
    by_cases hbp : OkBP b p
    · rw [decide_eq_true hbp] at HB
      have HF := Lib.hid (rpAll_yes ⟨hok, hbp⟩)
      obtain ⟨⟨hb1, hb2⟩, hp1, hp2⟩ := hbp
      obtain ⟨b, rfl⟩ : ∃ n : Nat, b = n := ⟨b.toNat, by omega⟩
      obtain ⟨p, rfl⟩ : ∃ n : Nat, p = n := ⟨p.toNat, by omega⟩
      have HDA := Lib.hid (fun W => digitAt_any (b : Int) (p : Int) W)
      have HPS := Lib.hid (fun (W W2 : World) (h1 : Below w.heap.size w W) (h2 : W2 = (W.alloc (.cells #[.int .i64 (b : Int)] 3)).alloc (.cells #[.int .i64 (p : Int)] 3)) =>
        pass_any b p W.heap.size (W.heap.size + 1) (.slice (some ⟨b', o, none⟩) l.length c) l W2 (by rw [h2]; exact (hv.below h1).below (digit_boxes (b : Int) (p : Int) W).1) hn (fun q hq => hok.key hq) (by omega) (by omega) (by omega) (by rw [h2]; exact (digit_boxes (b : Int) (p : Int) W).2))
      have HBX := Lib.hid (fun (W : World) => (digit_boxes (b : Int) (p : Int) W).1)
      rw [HF.out]
      have HLEN : Hid ((bk (dgR (b : Int).toNat (p : Int).toNat) l (b : Int).toNat).length = l.length) := Lib.hid (bk_dg_len l (by omega))
      simp only [Int.toNat_natCast] at HLEN ⊢
      clear hok hv hb1 hb2 hp1 hp2 HF HNONE
      generalize bk (dgR b p) l b = M at *
      go_enter Try.func27, Try.ntmps27
      go_wp2_with fail
      refine HV.out.mono ?_
      rintro e w1 ⟨rfl, hb1⟩
      have HB1 := Lib.hid hb1
      clear hb1 HV
      go_wp2_with fail
      refine (HB.out _).mono ?_
      rintro e w1' ⟨rfl, rfl⟩
      go_wp2_with fail
      refine (HDA.out _).mono ?_
      rintro e w2 ⟨rfl, hw2⟩
      have HP := Lib.hid (HPS.out w1' w2 HB1.out hw2)
      have HB2 : Hid (Below w.heap.size w w2) := Lib.hid (by rw [hw2]; exact HB1.out.trans ((HBX.out w1').mono HB1.out.size))
      clear hw2 HPS HBX HB1 HDA HB
      go_wp2_with fail
      refine HP.out.mono ?_
      rintro e w3 ⟨g, cg, rfl, hcg, hg, hrow, hb3⟩
      have HRES : Hid (RetCE (M, true) w (.returned (.tuple #[.slice (some ⟨g, 0, none⟩) M.length cg, .bool true])) w3) := Lib.hid (.inl ⟨g, cg, rfl, hcg, Nat.le_trans HB2.out.size hg, hrow, HB2.out.trans (hb3.mono HB2.out.size)⟩)
      clear hcg hg hrow hb3 HP HB2
      go_wp2_with fail
      go_ret2
      exact HRES.out
    · rw [decide_eq_false hbp] at HB
      rw [HNONE.out fun h => hbp h.2]
      clear hok hbp hv HNONE
      go_enter Try.func27, Try.ntmps27
      go_wp2_with fail
      refine HV.out.mono ?_
      rintro e w1 ⟨rfl, hb1⟩
      have HRES := Lib.hid (RetCE.none0 w w1 hb1)
      clear hb1 HV
      go_wp2_with fail
      refine (HB.out _).mono ?_
      rintro e w1' ⟨rfl, rfl⟩
      go_wp2_with fail
      go_ret2
      exact HRES.out
  · rw [decide_eq_false hok] at HV
    rw [HNONE.out fun h => hok h.1]
    clear hok hv HNONE
    go_enter Try.func27, Try.ntmps27
    go_wp2_with fail
    refine HV.out.mono ?_
    rintro e w1 ⟨rfl, hb1⟩
    have HRES := Lib.hid (RetCE.none0 w w1 hb1)
    clear hb1 HV
    go_wp2_with fail
    go_ret2
    exact HRES.out

end Go.Proofs.Ytebipiehkmhaiaa
end

section
/- A part of a row of numbers: its cells from o on; and what else moves. Nothing of the program. -/
namespace Go.Proofs.Ytebipiehkmhaiaa
open Go.RowKit P El
set_option linter.unusedVariables false

/-- The cells of block g from o on are these, and none of them is frozen. -/
def Seg (w : World) (g o : Nat) (cs : List Value) : Prop :=
  g < w.heap.size ∧ ∀ (j : Nat) u, cs[j]? = some u → w.cell? ⟨g, o + j, none⟩ = some u ∧ w.frozen? ⟨g, o + j, none⟩ = false

theorem Seg.of_row {w : World} {g : Nat} {cs : List Value} (h : CellRow w g cs) : Seg w g 0 cs := ⟨h.1, fun j u hu => by rw [Nat.zero_add]; exact h.2 j u hu⟩
theorem Seg.row {w : World} {g : Nat} {cs : List Value} (h : Seg w g 0 cs) : CellRow w g cs := ⟨h.1, fun j u hu => by have := h.2 j u hu; rw [Nat.zero_add] at this; exact this⟩
theorem Seg.flat {w : World} {g o : Nat} {cs : List Value} (h : Seg w g o cs) {n c : Nat} (hc : n ≤ c) : FlatAt w (.slice (some ⟨g, o, none⟩) n c) n cs :=
  ⟨_, c, rfl, hc, fun j u hu => ⟨g, o, rfl, h.1, (h.2 j u hu).1⟩⟩
theorem Seg.same {w w' : World} {g o : Nat} {cs : List Value} (h : Seg w g o cs) (hb : w'.heap[g]? = w.heap[g]?) (hs : w.heap.size ≤ w'.heap.size) : Seg w' g o cs := by
  refine ⟨Nat.lt_of_lt_of_le h.1 hs, fun j u hu => ⟨?_, ?_⟩⟩
  · rw [World.cell?_of_block (w := w) hb]; exact (h.2 j u hu).1
  · have := (h.2 j u hu).2
    unfold World.frozen? at this ⊢
    rw [show w'.heap[(⟨g, o + j, none⟩ : Addr).block]? = w.heap[(⟨g, o + j, none⟩ : Addr).block]? from hb]
    exact this
theorem Seg.below {w w' : World} {g o B : Nat} {cs : List Value} (h : Seg w g o cs) (hb : Below B w w') (hg : g < B) : Seg w' g o cs := h.same (hb.block g hg) hb.size
theorem Seg.but {w w' : World} {g o k : Nat} {cs : List Value} (h : Seg w g o cs) (hb : But k w w') (hg : g ≠ k) : Seg w' g o cs := h.same (hb.block g h.1 hg) hb.size
theorem Seg.drewN {w : World} {g o : Nat} {cs : List Value} (h : Seg w g o cs) (n : Nat) : Seg (w.drewN n) g o cs := h.same rfl (Nat.le_refl _)
theorem Seg.set {w : World} {g o : Nat} {cs : List Value} (h : Seg w g o cs) (k : Nat) (u : Value) (hk : k < cs.length) : Seg (w.setCell ⟨g, o + k, none⟩ u) g o (cs.set k u) := by
  refine ⟨Nat.lt_of_lt_of_le h.1 ((Below.refl g w).setCell (p := ⟨g, o + k, none⟩) (Nat.le_refl _) _).size, fun j v hv => ?_⟩
  rw [List.getElem?_set] at hv
  by_cases e : k = j
  · subst e
    rw [if_pos rfl, if_pos hk] at hv
    obtain rfl := Option.some.inj hv
    obtain ⟨h1, h2⟩ := h.2 k _ (List.getElem?_eq_getElem hk)
    exact ⟨World.cell?_setCell_same _ _ _ h1, by rw [World.frozen?_setCell]; exact h2⟩
  · rw [if_neg e] at hv
    obtain ⟨h1, h2⟩ := h.2 j _ hv
    exact ⟨by rw [World.cell?_setCell_other _ _ _ _ (fun h => e (by injection h; omega))]; exact h1, by rw [World.frozen?_setCell]; exact h2⟩
theorem Seg.put {w : World} {g o : Nat} {L : List Int} (h : Seg w g o (ints L)) (k : Nat) (x : Int) (hk : k < L.length) : Seg (w.setCell ⟨g, o + k, none⟩ (.int .i64 x)) g o (ints (L.set k x)) := by
  rw [← ints_set]; exact h.set k _ (by rw [ints_length]; exact hk)
theorem Seg.at {w : World} {g o : Nat} {L : List Int} (h : Seg w g o (ints L)) {k : Nat} (hk : k < L.length) : w.cell? ⟨g, o + k, none⟩ = some (.int .i64 (L.getD k 0)) ∧ w.frozen? ⟨g, o + k, none⟩ = false := h.2 k _ (ints_at (at_getD hk))
theorem Seg.fst {w : World} {g o : Nat} {A B : List Value} (h : Seg w g o (A ++ B)) : Seg w g o A := ⟨h.1, fun j u hu => h.2 j u (by
  rw [List.getElem?_append_left (List.getElem?_eq_some_iff.1 hu).1]; exact hu)⟩
theorem Seg.snd {w : World} {g o : Nat} {A B : List Value} (h : Seg w g o (A ++ B)) : Seg w g (o + A.length) B := ⟨h.1, fun j u hu => by
  have := h.2 (A.length + j) u (by rw [List.getElem?_append_right (by omega), Nat.add_sub_cancel_left]; exact hu)
  rw [← Nat.add_assoc] at this; exact this⟩
theorem Seg.join {w : World} {g o p : Nat} {A B : List Value} (h : Seg w g o A) (h2 : Seg w g p B) (hp : p = o + A.length) : Seg w g o (A ++ B) := ⟨h.1, fun j u hu => by
  subst hp
  by_cases hj : j < A.length
  · rw [List.getElem?_append_left hj] at hu; exact h.2 j u hu
  · rw [List.getElem?_append_right (by omega)] at hu
    have := h2.2 (j - A.length) u hu
    rw [show o + A.length + (j - A.length) = o + j by omega] at this; exact this⟩
theorem Seg.nil {w : World} {g o : Nat} (h : g < w.heap.size) : Seg w g o [] := ⟨h, fun j u hu => by simp at hu⟩

/-- The cells of block g from o on are these: to be read. -/
def FlatRd (w : World) (g o : Nat) (cs : List Value) : Prop := ∀ (j : Nat) u, cs[j]? = some u → g < w.heap.size ∧ w.cell? ⟨g, o + j, none⟩ = some u
theorem FlatRd.of_flat {w : World} {g o n m c : Nat} {cs : List Value} (h : FlatAt w (.slice (some ⟨g, o, none⟩) n c) m cs) : FlatRd w g o cs := fun j u hu => by
  obtain ⟨a', c', he, _, hh⟩ := h
  simp at he
  obtain ⟨⟨rfl, _⟩, _⟩ := he
  obtain ⟨b', o', e, hbb, hcell⟩ := hh j u hu
  simp at e
  obtain ⟨rfl, rfl⟩ := e
  exact ⟨hbb, hcell⟩
theorem Seg.rd {w : World} {g o : Nat} {cs : List Value} (h : Seg w g o cs) : FlatRd w g o cs := fun j u hu => ⟨h.1, (h.2 j u hu).1⟩
theorem FlatRd.at {w : World} {g o : Nat} {L : List Int} (h : FlatRd w g o (ints L)) {k : Nat} (hk : k < L.length) : w.cell? ⟨g, o + k, none⟩ = some (.int .i64 (L.getD k 0)) := (h k _ (ints_at (at_getD hk))).2
theorem FlatRd.below {w w' : World} {g o : Nat} {cs : List Value} (h : FlatRd w g o cs) (hb : Below w.heap.size w w') : FlatRd w' g o cs := fun j u hu => by
  obtain ⟨h1, h2⟩ := h j u hu
  exact ⟨Nat.lt_of_lt_of_le h1 hb.size, (hb.cell (p := ⟨g, o + j, none⟩) h1).trans h2⟩
theorem FlatRd.drewN {w : World} {g o : Nat} {cs : List Value} (h : FlatRd w g o cs) (t : Nat) : FlatRd (w.drewN t) g o cs := h

/-- Nothing but n cells of block g from o on moved. -/
structure ButS (g o n : Nat) (w w' : World) : Prop where
  but : But g w w'
  fz : ∀ j, w'.frozen? ⟨g, j, none⟩ = w.frozen? ⟨g, j, none⟩
  cell : ∀ j, j < o ∨ o + n ≤ j → w'.cell? ⟨g, j, none⟩ = w.cell? ⟨g, j, none⟩
theorem ButS.refl (g o n : Nat) (w : World) : ButS g o n w w := ⟨But.refl g w, fun _ => rfl, fun _ _ => rfl⟩
theorem ButS.trans {g o n : Nat} {a b c : World} (h : ButS g o n a b) (k : ButS g o n b c) : ButS g o n a c :=
  ⟨h.but.trans k.but, fun j => (k.fz j).trans (h.fz j), fun j hj => (k.cell j hj).trans (h.cell j hj)⟩
theorem ButS.wide {g o n o' n' : Nat} {a b : World} (h : ButS g o n a b) (h1 : o' ≤ o) (h2 : o + n ≤ o' + n') : ButS g o' n' a b := ⟨h.but, h.fz, fun j hj => h.cell j (by omega)⟩
theorem ButS.setCell {g o n : Nat} {a w : World} (h : ButS g o n a w) (k : Nat) (u : Value) (h1 : k < n) : ButS g o n a (w.setCell ⟨g, o + k, none⟩ u) :=
  ⟨h.but.setCell _ _, fun j => by rw [World.frozen?_setCell]; exact h.fz j, fun j hj => by
    rw [World.cell?_setCell_other _ _ _ _ (fun e => by injection e; omega)]; exact h.cell j hj⟩
theorem ButS.drewN {g o n : Nat} {a w : World} (h : ButS g o n a w) (t : Nat) : ButS g o n a (w.drewN t) := ⟨h.but.drewN t, h.fz, h.cell⟩
theorem ButS.ofBelow {g o n : Nat} {a b : World} (h : Below a.heap.size a b) (hg : g < a.heap.size) : ButS g o n a b :=
  ⟨But.ofBelow h (Nat.le_refl _), fun j => by
    unfold World.frozen?
    rw [show b.heap[(⟨g, j, none⟩ : Addr).block]? = a.heap[(⟨g, j, none⟩ : Addr).block]? from h.block g hg], fun j _ => by
    rw [World.cell?_of_block (w := a) (h.block g hg)]⟩
theorem ButS.below {g o n B : Nat} {a b : World} (h : ButS g o n a b) (hB : B ≤ g) (hs : B ≤ a.heap.size) : Below B a b := h.but.below hB hs
theorem Seg.keep {w w' : World} {g o p n : Nat} {cs : List Value} (h : Seg w g o cs) (hb : ButS g p n w w') (hd : o + cs.length ≤ p ∨ p + n ≤ o) : Seg w' g o cs :=
  ⟨Nat.lt_of_lt_of_le h.1 hb.but.size, fun j u hu => by
    have hj := (List.getElem?_eq_some_iff.1 hu).1
    rw [hb.cell _ (by omega), hb.fz]
    exact h.2 j u hu⟩
theorem int_eq {a b : Int} (h : a = b) : Value.int .i64 a = Value.int .i64 b := by rw [h]
/-- A list in its part, and nothing else moved. -/
def SegP (g o n : Nat) (M : List Int) (w w' : World) : Prop := Seg w' g o (ints M) ∧ ButS g o n w w'

end Go.Proofs.Ytebipiehkmhaiaa
end

section
/- The program's exchange of two elements of a part of a row, by its contract. -/
namespace Go.Proofs.Ytebipiehkmhaiaa
open Go.RowKit P El Qk
set_option linter.unusedVariables false

set_option maxRecDepth 100000 in
set_option maxHeartbeats 4000000 in
theorem iexch_any {g o c n : Nat} {L : List Int} (i k : Nat) (w : World) (h : Seg w g o (ints L)) (hL : L.length = n) (hl : n ≤ 1048576) (hi : i < n) (hk : k < n) :
    Calls Try.prog 137 #[.slice (some ⟨g, o, none⟩) n c, .int .i64 (i : Int), .int .i64 (k : Int)] w fun e w' => e = .returned (.tuple #[]) ∧ SegP g o n (swapped L i k) w w' := by
  obtain ⟨x, hx⟩ : ∃ x, x = L.getD i 0 := ⟨_, rfl⟩
  obtain ⟨y, hy⟩ : ∃ y, y = L.getD k 0 := ⟨_, rfl⟩
  obtain ⟨hcx, hfx⟩ := h.at (k := i) (by omega)
  obtain ⟨hcy, hfy⟩ := h.at (k := k) (by omega)
  rw [← hx] at hcx
  rw [← hy] at hcy
  have HRES : Hid (SegP g o n (swapped L i k) w ((w.setCell ⟨g, o + i, none⟩ (.int .i64 y)).setCell ⟨g, o + k, none⟩ (.int .i64 x)).drew) := Lib.hid (by
    have h1 := (h.put i y (by omega)).put k x (by rw [List.length_set]; omega)
    have e : (L.set i y).set k x = swapped L i k := by unfold swapped; rw [← hx, ← hy]
    rw [e] at h1
    exact ⟨h1.drewN 1, (((ButS.refl g o n w).setCell i _ hi).setCell k _ hk).drewN 1⟩)
  have hiz : (i : Int) < n := by omega
  have hkz : (k : Int) < n := by omega
  by_cases hne : i = k
  · subst hne
    obtain rfl : x = y := hx.trans hy.symm
    clear h hx hy hcy hfy hkz hk hL
    go_enter Try.func137, Try.ntmps137
    go_wp2_with fail
    go_region
    go_wp2_with fail
    go_end0
    exact ⟨rfl, HRES.out⟩
  · have hne1 : ¬ o + i = o + k := by omega
    have hne2 : ¬ o + k = o + i := by omega
    have hne3 : ¬ k = i := fun e => hne e.symm
    clear h hx hy hL
    go_enter Try.func137, Try.ntmps137
    go_wp2_with fail
    go_region
    go_wp2_with fail
    go_end0
    exact ⟨rfl, HRES.out⟩

end Go.Proofs.Ytebipiehkmhaiaa
end

section
/- The program's flag pass in place, by its contract. -/
namespace Go.Proofs.Ytebipiehkmhaiaa
open Go.RowKit Rx P El Qk
set_option linter.unusedVariables false
attribute [local go_sem ↓ high] alloc_tab load_tab store_tab box_tab idx_tab
attribute [local go_sem] run_tabNew

/-- How much is left, as the world tells it. -/
theorem flag_measure (f : Int → Nat) (l : List Int) (D g : Nat) (hD : D ≤ 1001) : ∃ μ : World → Nat, ∀ w nx, TabAt w g nx → μ w = l.length - tot f l nx D := by
  refine ⟨fun w => l.length - tot f l (fun d => match w.cell? ⟨g, d, none⟩ with | some (.int _ n) => n.toNat | _ => 0) D, fun w nx h => ?_⟩
  have : ∀ k, k ≤ D → tot f l (fun d => match w.cell? ⟨g, d, none⟩ with | some (.int _ n) => n.toNat | _ => 0) k = tot f l nx k := by
    intro k
    induction k with
    | zero => intro _; rfl
    | succ k ih =>
      intro hk
      simp only [tot, ih (by omega)]
      rw [(h.at (k := k) (by omega)).1]
      simp
  show l.length - tot f l _ D = _
  rw [this D (Nat.le_refl _)]

theorem But.step {g k : Nat} {w W W' : World} (h : But g w W) (h2 : But k W W') (hw : w.heap.size ≤ k) : But g w W' :=
  ⟨h2.os.trans h.os, h2.tape.trans h.tape, h2.output.trans h.output, Nat.le_trans h.size h2.size, fun j hj hg => (h2.block j (Nat.lt_of_lt_of_le hj h.size) (by omega)).trans (h.block j hj hg)⟩

/-- What stands at bucket b. -/
structure FlI (f : Int → Nat) (l : List Int) (D g g6 g7 : Nat) (R : FS) (w : World) (b : Nat) (s : FS) (W : World) : Prop where
  t6 : TabAt W g6 (st f l)
  t7 : TabAt W g7 s.nx
  row : CellRow W g (ints s.L)
  fl : Fl f (fun d => st f l (d + 1)) D b s R
  good : FGood f l D b s
  but : But g w W
theorem FlI.below {f : Int → Nat} {l : List Int} {D g g6 g7 : Nat} {R : FS} {w : World} {b : Nat} {s : FS} {W W' : World} (h : FlI f l D g g6 g7 R w b s W) (hb : Below W.heap.size W W') : FlI f l D g g6 g7 R w b s W' :=
  ⟨h.t6.below hb h.t6.lt, h.t7.below hb h.t7.lt, h.row.below hb h.row.1, h.fl, h.good, h.but.trans (But.ofBelow hb (Nat.le_refl _))⟩
/-- A round that finds its own digit. -/
theorem FlI.own {f : Int → Nat} {l : List Int} {D g g6 g7 : Nat} {R : FS} {w : World} {b : Nat} {s : FS} {W : World} (h : FlI f l D g g6 g7 R w b s W) (hf : ∀ x ∈ l, f x < D) (hb : b < D) (hlt : s.nx b < st f l (b + 1)) (he : f (s.L.getD (s.nx b) 0) = b) (h6 : g6 ≠ g7) (h7 : g ≠ g7) (hw : w.heap.size ≤ g7) :
    FlI f l D g g6 g7 R w b ⟨s.L, upd s.nx b (s.nx b + 1), s.sw⟩ (W.setCell ⟨g7, b, none⟩ (.int .i64 ((s.nx b : Int) + 1))) := by
  have e : fst f b s = ⟨s.L, upd s.nx b (s.nx b + 1), s.sw⟩ := by unfold fst; rw [if_pos he]
  have h1 := h.fl.more hb hlt
  have h2 := (h.good.step hf hb hlt).1
  rw [e] at h1 h2
  have hbt := (But.refl g7 W).setCell b (.int .i64 ((s.nx b : Int) + 1))
  refine ⟨h.t6.but hbt h6, ?_, h.row.but hbt h7, h1, h2, h.but.step hbt hw⟩
  have := h.t7.put b (s.nx b + 1)
  exact this
/-- A round that exchanges: W1 behind the exchange. -/
theorem FlI.swap {f : Int → Nat} {l : List Int} {D g g6 g7 : Nat} {R : FS} {w : World} {b d : Nat} {s : FS} {W W1 : World} (h : FlI f l D g g6 g7 R w b s W) (hf : ∀ x ∈ l, f x < D) (hb : b < D) (hlt : s.nx b < st f l (b + 1)) (he : f (s.L.getD (s.nx b) 0) = d) (hd : d ≠ b) (h6 : g6 ≠ g7) (h7 : g ≠ g7) (hg6 : g6 ≠ g) (hw : w.heap.size ≤ g7)
    (hr : CellRow W1 g (ints (swapped s.L (s.nx b) (s.nx d)))) (hbt : But g W W1) :
    FlI f l D g g6 g7 R w b ⟨swapped s.L (s.nx b) (s.nx d), upd s.nx d (s.nx d + 1), s.sw + 1⟩ (W1.setCell ⟨g7, d, none⟩ (.int .i64 ((s.nx d : Int) + 1))) := by
  have e : fst f b s = ⟨swapped s.L (s.nx b) (s.nx d), upd s.nx d (s.nx d + 1), s.sw + 1⟩ := by unfold fst; rw [he, if_neg hd]
  have h1 := h.fl.more hb hlt
  have h2 := (h.good.step hf hb hlt).1
  rw [e] at h1 h2
  have hb2 := (But.refl g7 W1).setCell d (.int .i64 ((s.nx d : Int) + 1))
  refine ⟨(h.t6.but hbt hg6).but hb2 h6, ?_, hr.but hb2 h7, h1, h2, (h.but.trans hbt).step hb2 hw⟩
  have := (h.t7.but hbt (fun e => h7 e.symm)).put d (s.nx d + 1)
  exact this
theorem FlI.tots {f : Int → Nat} {l : List Int} {D g g6 g7 : Nat} {R : FS} {w : World} {b : Nat} {s : FS} {W : World} (h : FlI f l D g g6 g7 R w b s W) (hf : ∀ x ∈ l, f x < D) (hb : b < D) (hlt : s.nx b < st f l (b + 1)) : tot f l (fst f b s).nx D = tot f l s.nx D + 1 ∧ tot f l s.nx D + 1 ≤ l.length := by
  obtain ⟨h1, h2⟩ := h.good.step hf hb hlt
  have h3 := tot_le h1.hi
  rw [bk_len hf] at h3
  exact ⟨h2, by omega⟩

set_option maxRecDepth 100000 in
set_option maxHeartbeats 16000000 in
theorem group_any (f : Int → Nat) (D g c : Nat) (fn : Nat) (lb : Array Value) (eg : ∀ args w, (callFunc fn args).run Try.prog w = .ok (.enter fn args) w) (l : List Int) (R : FS) (w : World) (hD1 : D = 1001) (hrow : CellRow w g (ints l)) (hcap : l.length ≤ c) (hn : l.length ≤ 64)
    (hf : ∀ x ∈ l, f x < D) (hR : Fl f (fun d => st f l (d + 1)) D 0 ⟨l, st f l, 0⟩ R)
    (hp : ∀ (W : World) x, x ∈ l → But g w W → Calls Try.prog fn (#[.int .i64 x] ++ lb) W fun e w' => e = .returned (.int .i64 (f x : Nat)) ∧ Below W.heap.size W w') :
    Calls Try.prog 104 #[.slice (some ⟨g, 0, none⟩) l.length c, .func (.func fn) #[] lb] w fun e w' => e = .returned (.int .i64 (R.sw : Int)) ∧ CellRow w' g (ints R.L) ∧ But g w w' := by
  have hgl := hrow.1
  have HBC := Lib.hid (bucketCounts_any f fn lb eg (.slice (some ⟨g, 0, none⟩) l.length c) l w (hrow.flat hcap) (by omega) (fun x hx => by have := hf x hx; omega) (fun W x hx hW => hp W x hx (But.ofBelow hW (Nat.le_refl _))))
  have HST := Lib.hid (fun W => starts_any f l W (fun x hx => by have := hf x hx; omega) (by omega))
  have HF := Lib.hid hf
  have HPR := Lib.hid hp
  have HR := Lib.hid hR
  have HROW := Lib.hid hrow
  have HD := Lib.hid hD1
  have HSTL : Hid (∀ d, d < D → st f l d ≤ 64) := Lib.hid (fun d hd => by have := st_le hf (Nat.le_of_lt hd); omega)
  have HCNT : Hid (∀ d, cnt f l d ≤ 64) := Lib.hid (fun d => by
    unfold cnt inB
    have := List.length_filter_le (fun a => f a == d) l
    omega)
  clear hp hR hf hrow hD1
  go_enter Try.func104, Try.ntmps104
  go_wp2_with fail
  refine HBC.out.mono ?_
  rintro e w1 ⟨rfl, hb1⟩
  obtain ⟨hr1, hr2⟩ := (TabAt.new w1 (fun _ => 0)).row (cnt f l)
  have hst := run_tabStore (cnt f l) (TabAt.new w1 (fun _ => 0))
  obtain ⟨W2, hW2⟩ : ∃ W2, W2 = (w1.alloc (.cells (tabA fun _ => 0) 95)).setRow w1.heap.size (tabA (cnt f l)) := ⟨_, rfl⟩
  rw [← hW2] at hr1 hr2 hst
  have hl2 := run_tabLoad hr1
  have hb2 : Below w1.heap.size w1 W2 := ((Below.refl _ _).alloc (Nat.le_refl _) _).trans (hr2.below (Nat.le_refl _) (by simp))
  have HT2 := Lib.hid hr1
  have HB2 : Hid (Below w.heap.size w W2) := Lib.hid (hb1.trans (hb2.mono hb1.size))
  clear hr1 hr2 hW2 hb1 hb2 HBC
  go_wp2_with fail
  refine (HST.out _).mono ?_
  rintro e w3 ⟨rfl, hb3⟩
  have HB3 := Lib.hid (HB2.out.trans (hb3.mono HB2.out.size))
  have HT3 := Lib.hid (HT2.out.below hb3 HT2.out.lt)
  have hws : w.heap.size ≤ w3.heap.size := HB3.out.size
  clear hb3 HT2 HB2 hl2 hst HST
  obtain ⟨hr1, hr2⟩ := (TabAt.new w3 (fun _ => 0)).row (st f l)
  have hst4 := run_tabStore (st f l) (TabAt.new w3 (fun _ => 0))
  obtain ⟨W4, hW4⟩ : ∃ W4, W4 = (w3.alloc (.cells (tabA fun _ => 0) 95)).setRow w3.heap.size (tabA (st f l)) := ⟨_, rfl⟩
  rw [← hW4] at hr1 hr2 hst4
  have hl4 := run_tabLoad hr1
  have hb4 : Below w3.heap.size w3 W4 := ((Below.refl _ _).alloc (Nat.le_refl _) _).trans (hr2.below (Nat.le_refl _) (by simp))
  have HT4 := Lib.hid hr1
  have HT4c := Lib.hid (HT3.out.below hb4 HT3.out.lt)
  have HB4 := Lib.hid (HB3.out.trans (hb4.mono HB3.out.size))
  have hc4 : w3.heap.size < W4.heap.size := HT4.out.lt
  clear hr1 hr2 hW4 hb4 HB3 HT3
  obtain ⟨hr1, hr2⟩ := (TabAt.new W4 (fun _ => 0)).row (st f l)
  have hst5 := run_tabStore (st f l) (TabAt.new W4 (fun _ => 0))
  obtain ⟨W5, hW5⟩ : ∃ W5, W5 = (W4.alloc (.cells (tabA fun _ => 0) 95)).setRow W4.heap.size (tabA (st f l)) := ⟨_, rfl⟩
  rw [← hW5] at hr1 hr2 hst5
  have hb5 : Below W4.heap.size W4 W5 := ((Below.refl _ _).alloc (Nat.le_refl _) _).trans (hr2.below (Nat.le_refl _) (by simp))
  have hl5 := run_tabLoad (HT4c.out.below hb5 HT4c.out.lt)
  have HT5 := Lib.hid (HT4.out.below hb5 HT4.out.lt)
  have HT5n := Lib.hid hr1
  have HB5 := Lib.hid (HB4.out.trans (hb5.mono HB4.out.size))
  have HR5 := Lib.hid (HROW.out.below HB5.out hgl)
  clear hr1 hr2 hW5 hb5 HB4 HT4 HT4c HROW
  go_wp2_with fail
  obtain ⟨g6, hg6⟩ : ∃ x, x = w3.heap.size := ⟨_, rfl⟩
  obtain ⟨g7, hg7⟩ : ∃ x, x = W4.heap.size := ⟨_, rfl⟩
  rw [← hg6] at HT5 hws hc4 ⊢
  rw [← hg7] at HT5n hc4 ⊢
  clear hst5 hst4 hl5 hl4 hg6 hg7
  have hng6 : ¬ g = g6 := by omega
  have hng7 : ¬ g = g7 := by omega
  have hn67 : ¬ g6 = g7 := by omega
  obtain ⟨μ, hμ⟩ := flag_measure f l D g7 (by have := HD.out; omega)
  have HMU := Lib.hid hμ
  have HG0 := Lib.hid (FGood.start f l D)
  clear hμ
  have HI0 : Hid (FlI f l D g g6 g7 R w 0 ⟨l, st f l, 0⟩ W5) := Lib.hid ⟨HT5.out, HT5n.out, HR5.out, HR.out, HG0.out, But.ofBelow HB5.out (Nat.le_refl _)⟩
  have hw7 : w.heap.size ≤ g7 := by omega
  clear HT5 HT5n HR5 HR HG0 HB5
  go_loopw [8, 9, 10, 11, 19] (fun xv _ _ _ iv wr => ∃ (b : Nat) (s : FS), b ≤ 1001 ∧ iv = .int .i64 (b : Int) ∧ xv = .int .i64 (s.sw : Int) ∧ FlI f l D g g6 g7 R w b s wr) (fun _ _ _ _ iv _ => 1001 - (intOf iv).toNat)
  case atStart => exact ⟨0, _, by omega, rfl, rfl, HI0.out⟩
  case round =>
    obtain ⟨b, s, hb, rfl, rfl, hi⟩ := hrel
    have HI := Lib.hid hi
    clear hi HI0
    by_cases hlt : b < 1001
    · have hltz : (b : Int) < 1001 := by omega
      have hix := fun W => run_tabIdx W (cnt f l) b hlt
      obtain ⟨q, hq⟩ : ∃ q, q = cnt f l b := ⟨_, rfl⟩
      rw [← hq] at hix
      have hq64 : q ≤ 64 := by rw [hq]; exact HCNT.out b
      obtain ⟨e1, he1⟩ : ∃ e1, e1 = st f l b := ⟨_, rfl⟩
      have he64 : e1 ≤ 64 := by rw [he1]; exact HSTL.out b (by have := HD.out; omega)
      have HE : Hid (e1 + q = st f l (b + 1)) := Lib.hid (by rw [he1, hq, st_succ])
      have HE1 := Lib.hid he1
      have HBD : Hid (b < D) := Lib.hid (by have := HD.out; omega)
      clear hq he1
      go_wp2_with fail
      clear hix
      go_loopw [8, 11] (fun xv _ ws => ∃ s : FS, xv = .int .i64 (s.sw : Int) ∧ FlI f l D g g6 g7 R w b s ws) (fun _ _ ws => μ ws)
      case atStart => exact ⟨s, rfl, HI.out⟩
      case round =>
        clear HI
        obtain ⟨s, rfl, hi⟩ := hrel
        have HI := Lib.hid hi
        obtain ⟨a, ha⟩ : ∃ a, a = s.nx b := ⟨_, rfl⟩
        have ha64 : a ≤ 64 := by rw [ha]; exact Nat.le_trans (hi.good.nx_le HF.out HBD.out) hn
        have hsw64 : s.sw ≤ 64 := by
          have h1 := hi.good.sw
          have h2 := tot_le hi.good.hi
          rw [bk_len HF.out] at h2
          omega
        obtain ⟨c7, _⟩ := hi.t7.at hlt
        obtain ⟨c6, _⟩ := hi.t6.at hlt
        rw [← ha] at c7
        rw [← HE1.out] at c6
        have HA := Lib.hid ha
        have HBQ : Hid (∀ n, Below wr.heap.size wr (wr.drewN n)) := Lib.hid (fun n => ⟨rfl, rfl, rfl, Nat.le_refl _, fun _ _ => rfl⟩)
        clear ha hi
        by_cases hlt2 : a < e1 + q
        · have hlt2z : decide ((a : Int) < (e1 : Int) + (q : Int)) = true := decide_eq_true (by omega)
          have hlt2y : (a : Int) < (e1 : Int) + (q : Int) := by omega
          have HLT : Hid (s.nx b < st f l (b + 1)) := Lib.hid (by rw [← HA.out, ← HE.out]; exact hlt2)
          go_wp2_with fail
          go_quiet (fail)
          have HIq := Lib.hid (HI.out.below (HBQ.out nq))
          have HMUq : Hid (μ (wr.drewN nq) = μ wr) := Lib.hid (by rw [HMU.out _ _ HIq.out.t7, HMU.out _ _ HI.out.t7])
          generalize wr.drewN nq = wq at HIq HMUq ⊢
          clear c7 c6 HI HBQ
          have F := HIq.out.good.found HF.out HBD.out HLT.out
          have hcur := F.cur
          have hdig := F.dig
          have hinto := F.into
          rw [← HA.out] at hcur hdig hinto
          have hperm := HIq.out.good.perm.length_eq
          obtain ⟨x, hx⟩ : ∃ x, x = s.L.getD a 0 := ⟨_, rfl⟩
          obtain ⟨cx, _⟩ := HIq.out.row.2 a _ (ints_at (at_getD (l := s.L) (k := a) (by omega)))
          rw [← hx] at cx hdig hinto
          have hxm : x ∈ l := by rw [hx]; exact HIq.out.good.perm.mem_iff.1 (Rx.getD_mem (by omega))
          obtain ⟨d, hd⟩ : ∃ d, d = f x := ⟨_, rfl⟩
          have HC := Lib.hid (HPR.out wq x hxm HIq.out.but)
          rw [← hd] at HC hdig hinto
          have hd1001 : d < 1001 := by have := HD.out; omega
          obtain ⟨nd, hnd⟩ : ∃ nd, nd = s.nx d := ⟨_, rfl⟩
          rw [← hnd] at hinto
          have hnd64 : nd ≤ 64 := by omega
          obtain ⟨c7b, _⟩ := HIq.out.t7.at hlt
          rw [← HA.out] at c7b
          have HFX : Hid (f (s.L.getD (s.nx b) 0) = d) := Lib.hid (by rw [← HA.out, ← hx, hd])
          have HTOT := Lib.hid (HIq.out.tots HF.out HBD.out HLT.out)
          have HND := Lib.hid hnd
          have HXL : Hid (s.L.length = l.length) := Lib.hid hperm
          have hcurz : (a : Int) < (l.length : Int) := by omega
          have hdz : (d : Int) < 1001 := by omega
          have hndz : (nd : Int) < (l.length : Int) := by omega
          clear F hx hd hnd hxm hperm
          by_cases hdb : d = b
          · subst hdb
            have HST : Hid (∀ W, FlI f l D g g6 g7 R w d s W → FlI f l D g g6 g7 R w d ⟨s.L, upd s.nx d (a + 1), s.sw⟩ (W.setCell ⟨g7, d, none⟩ (.int .i64 ((a : Int) + 1)))) := Lib.hid (fun W hW => by
              have := hW.own HF.out HBD.out HLT.out HFX.out hn67 hng7 hw7
              rw [← HA.out] at this; exact this)
            have HTT : Hid (tot f l (⟨s.L, upd s.nx d (a + 1), s.sw⟩ : FS).nx D = tot f l s.nx D + 1 ∧ tot f l s.nx D + 1 ≤ l.length) := Lib.hid (by
              have h1 := HTOT.out
              have e : fst f d s = ⟨s.L, upd s.nx d (s.nx d + 1), s.sw⟩ := by unfold fst; rw [if_pos HFX.out]
              rw [e, ← HA.out] at h1; exact h1)
            clear HTOT HFX HLT HND
            go_wp2_with (
              go_at_fn fn
              refine (HC.out).mono ?_
              rintro e w' ⟨rfl, hb'⟩
              have HIw := Lib.hid (HIq.out.below hb')
              obtain ⟨d7, f7⟩ := HIw.out.t7.at hlt
              rw [← HA.out] at d7
              have HN := Lib.hid (HST.out w' HIw.out)
              clear hb' c7b cx)
            go_roundw
            case rel => exact ⟨⟨s.L, upd s.nx d (a + 1), s.sw⟩, rfl, HN.out⟩
            case measure =>
              have h1 : μ _ = l.length - tot f l (upd s.nx d (a + 1)) D := HMU.out _ _ HN.out.t7
              have h2 := HMU.out _ _ HIq.out.t7
              have h3 : tot f l (upd s.nx d (a + 1)) D = tot f l s.nx D + 1 ∧ tot f l s.nx D + 1 ≤ l.length := HTT.out
              have h4 := HMUq.out
              omega
          · have hdbz : ¬ (d : Int) = (b : Int) := by omega
            have hdbz2 : ¬ (b : Int) = (d : Int) := by omega
            have HX := Lib.hid (fun W (hW : FlI f l D g g6 g7 R w b s W) => iexch_any (c := c) (n := l.length) a nd W (Seg.of_row hW.row) HXL.out (by omega) hcur hinto)
            have HST : Hid (∀ W W1, FlI f l D g g6 g7 R w b s W → CellRow W1 g (ints (swapped s.L a nd)) → But g W W1 → FlI f l D g g6 g7 R w b ⟨swapped s.L a nd, upd s.nx d (nd + 1), s.sw + 1⟩ (W1.setCell ⟨g7, d, none⟩ (.int .i64 ((nd : Int) + 1)))) := Lib.hid (fun W W1 hW hr hbt => by
              have := hW.swap HF.out HBD.out HLT.out HFX.out hdb hn67 hng7 (fun e => hng6 e.symm) hw7 (W1 := W1) (by rw [← HA.out, ← HND.out]; exact hr) hbt
              rw [← HA.out, ← HND.out] at this; exact this)
            have HTT : Hid (tot f l (⟨swapped s.L a nd, upd s.nx d (nd + 1), s.sw + 1⟩ : FS).nx D = tot f l s.nx D + 1 ∧ tot f l s.nx D + 1 ≤ l.length) := Lib.hid (by
              have h1 := HTOT.out
              have e : fst f b s = ⟨swapped s.L (s.nx b) (s.nx d), upd s.nx d (s.nx d + 1), s.sw + 1⟩ := by unfold fst; rw [HFX.out, if_neg hdb]
              rw [e, ← HA.out, ← HND.out] at h1; exact h1)
            clear HTOT HFX HLT
            go_wp2_with (
              go_at_fn fn
              refine (HC.out).mono ?_
              rintro e w' ⟨rfl, hb'⟩
              have HIw := Lib.hid (HIq.out.below hb')
              obtain ⟨d7, _⟩ := HIw.out.t7.at hlt
              obtain ⟨d8, _⟩ := HIw.out.t7.at hd1001
              rw [← HA.out] at d7
              rw [← HND.out] at d8
              have HIv := Lib.hid (HIw.out.below (W' := w'.drew) ⟨rfl, rfl, rfl, Nat.le_refl _, fun _ _ => rfl⟩)
              have HXv := Lib.hid (HX.out _ HIv.out)
              clear hb' c7b cx)
            go_region_with (go_at_call 137; refine HXv.out.mono ?_; rintro e w2 ⟨rfl, hs2, hb2⟩)
            all_goals (
              have HB2 := Lib.hid hb2.but
              have HN := Lib.hid (HST.out _ w2 HIv.out hs2.row hb2.but)
              obtain ⟨k8, fk8⟩ := (HIv.out.t7.but hb2.but (fun e => hng7 e.symm)).at hd1001
              rw [← HND.out] at k8
              clear hs2 hb2 d7 d8
              go_wp2_with fail
              go_roundw
              case rel => exact ⟨⟨swapped s.L a nd, upd s.nx d (nd + 1), s.sw + 1⟩, by go_num, HN.out⟩
              case measure =>
                have h1 : μ _ = l.length - tot f l (upd s.nx d (nd + 1)) D := HMU.out _ _ HN.out.t7
                have h2 := HMU.out _ _ HIq.out.t7
                have h3 : tot f l (upd s.nx d (nd + 1)) D = tot f l s.nx D + 1 ∧ tot f l s.nx D + 1 ≤ l.length := HTT.out
                have h4 := HMUq.out
                omega)
        · have hlt2z : decide ((a : Int) < (e1 : Int) + (q : Int)) = false := decide_eq_false (by omega)
          have hlt2y : ¬ (a : Int) < (e1 : Int) + (q : Int) := by omega
          have HNLT : Hid (¬ s.nx b < st f l (b + 1)) := Lib.hid (by rw [← HA.out, ← HE.out]; exact hlt2)
          have HN : Hid (∀ n, FlI f l D g g6 g7 R w (b + 1) s (wr.drewN n)) := Lib.hid (fun n => by
            have h := HI.out.below (HBQ.out n)
            exact ⟨h.t6, h.t7, h.row, h.fl.on HBD.out HNLT.out, h.good.next HBD.out HNLT.out, h.but⟩)
          clear HI HNLT HBQ HA HE HE1
          go_wp2_with fail
          go_quiet (fail)
          go_wp2_with fail
          go_roundw
          case rel => exact ⟨b + 1, s, by omega, by go_num, rfl, HN.out _⟩
          case measure => simp [intOf]; omega
    · have hltz : ¬ (b : Int) < 1001 := by omega
      have HE : Hid (s = R) := Lib.hid (by
        have h := HI.out.fl
        have e : b = D := by have := HD.out; omega
        rw [e] at h; exact h.atEnd)
      have HRES : Hid (CellRow wr g (ints R.L) ∧ But g w wr) := Lib.hid ⟨by rw [← HE.out]; exact HI.out.row, HI.out.but⟩
      clear HI
      go_wp2_with fail
      go_ret
      exact ⟨by rw [← HE.out]; rfl, HRES.out⟩

end Go.Proofs.Ytebipiehkmhaiaa
end

section
/- The program's FlagPass, by its contract. -/
namespace Go.Proofs.Ytebipiehkmhaiaa
open Go.RowKit Rx P
set_option linter.unusedVariables false

theorem RetE1.none0 (w w1 : World) (hb : Below w.heap.size w w1) : RetE1 ([], 0, false) w (.returned (.tuple #[.slice none 0 0, .int .i64 0, .bool false])) w1 := .inr ⟨rfl, ⟨_, _, rfl, hb⟩, fun c h => by simp at h; exact h.symm⟩

set_option maxRecDepth 100000 in
set_option maxHeartbeats 4000000 in
theorem implFpY_any (b' o c : Nat) (l : List Int) (b p : Nat) (w : World) (hv : FlatAt w (.slice (some ⟨b', o, none⟩) l.length c) l.length (ints l)) (hok : OkL l) (hb : 2 ≤ b) (hb2 : b ≤ 256) (hp : p ≤ 17) :
    Calls Try.prog 37 #[.slice (some ⟨b', o, none⟩) l.length c, .int .i64 (b : Int), .int .i64 (p : Int)] w (RetI1 ((flagR (dgI b p) b l).L, (((flagR (dgI b p) b l).sw : Nat) : Int), true) w) := by
  have hn : l.length ≤ 1048576 := by have := hok.1; omega
  have HV := Lib.hid (implValidList_any _ l w hv hn)
  have HB := Lib.hid (fun W => isBP_any (b : Int) (p : Int) W)
  rw [decide_eq_true hok] at HV
  rw [decide_eq_true (show OkBP (b : Int) (p : Int) from ⟨⟨by omega, by omega⟩, by omega, by omega⟩)] at HB
  have HCL := Lib.hid (fun W (hW : Below w.heap.size w W) => cloneInts_any b' o c l W (hv.below hW) hn)
  have HDA := Lib.hid (fun W => digitAt_any (b : Int) (p : Int) W)
  have HBX := Lib.hid (fun (W : World) => digit_boxes (b : Int) (p : Int) W)
  obtain ⟨R, hR⟩ : ∃ R, R = flagR (dgI b p) b l := ⟨_, rfl⟩
  have HLEN : Hid (R.L.length = l.length) := Lib.hid (by rw [hR]; exact flag_len l p (by omega))
  have HGR := Lib.hid (fun (g cg : Nat) (W W2 : World) (h2 : W2 = (W.alloc (.cells #[.int .i64 (b : Int)] 3)).alloc (.cells #[.int .i64 (p : Int)] 3)) (hr : CellRow W g (ints l)) (hc : l.length ≤ cg) =>
    group_any (dgI b p) 1001 g cg 127 #[.pointer (some ⟨W.heap.size, 0, none⟩), .pointer (some ⟨W.heap.size + 1, 0, none⟩)] enters_digit l R W2 rfl (by rw [h2]; exact hr.below (HBX.out W).1 hr.1) hc hok.1 (fun x _ => Nat.lt_of_lt_of_le (dg_lt (by omega) p _) (by omega))
      (by rw [hR]; exact flagR_wide (dgI_lt (by omega) p l) (by omega)) (fun W3 x hx hW => by
        have hgl := hr.1
        have hs2 : W2.heap.size = W.heap.size + 2 := by rw [h2]; simp
        have hcs := (HBX.out W).2 W2 (by rw [← h2]; exact Below.refl _ _)
        have e1 := World.cell?_of_block (w := W2) (w' := W3) (a := ⟨W.heap.size, 0, none⟩) (hW.block W.heap.size (by omega) (by omega))
        have e2 := World.cell?_of_block (w := W2) (w' := W3) (a := ⟨W.heap.size + 1, 0, none⟩) (hW.block (W.heap.size + 1) (by omega) (by omega))
        exact digitFn_any x b p W.heap.size (W.heap.size + 1) W3 (e1.trans hcs.1) (e2.trans hcs.2) (hok.2 x hx).1 (hok.2 x hx).2 (by omega) (by omega) (by omega)))
  rw [← hR]
  clear hok hv hb hb2 hp hR
  go_enter Try.func37, Try.ntmps37
  go_wp2_with fail
  refine HV.out.mono ?_
  rintro e w1 ⟨rfl, hb1⟩
  have HB1 := Lib.hid hb1
  clear hb1 HV
  go_wp2_with fail
  refine (HB.out _).mono ?_
  rintro e w1' ⟨rfl, rfl⟩
  clear HB
  go_wp2_with fail
  refine (HCL.out _ HB1.out).mono ?_
  rintro e w2 ⟨g, cg, rfl, hcg, hg, hrow, hb2⟩
  have HB2 := Lib.hid (HB1.out.trans (hb2.mono HB1.out.size))
  have HR2 := Lib.hid hrow
  have HCG := Lib.hid hcg
  have HG : Hid (w.heap.size ≤ g) := Lib.hid (Nat.le_trans HB1.out.size hg)
  clear hcg hg hrow hb2 HB1 HCL
  go_wp2_with fail
  refine (HDA.out _).mono ?_
  rintro e w3 ⟨rfl, hw3⟩
  have HC := Lib.hid (HGR.out g cg w2 w3 hw3 HR2.out HCG.out)
  have HB3 : Hid (Below w.heap.size w w3) := Lib.hid (by rw [hw3]; exact HB2.out.trans ((HBX.out w2).1.mono HB2.out.size))
  clear hw3 HGR HBX HB2 HR2 HDA
  go_wp2_with fail
  refine HC.out.mono ?_
  rintro e w4 ⟨rfl, hrow, hbut⟩
  have HRES : Hid (RetI1 (R.L, (R.sw : Int), true) w (.returned (.tuple #[.slice (some ⟨g, 0, none⟩) l.length cg, .int .i64 (R.sw : Int), .bool true])) w4) := Lib.hid ⟨g, cg, by rw [HLEN.out], by rw [HLEN.out]; exact HCG.out, HG.out, hrow, HB3.out.trans (hbut.below HG.out HB3.out.size)⟩
  clear hrow hbut HC HB3
  go_wp2_with fail
  go_ret3
  exact HRES.out

set_option maxRecDepth 100000 in
set_option maxHeartbeats 4000000 in
theorem implFp_any (b' o c : Nat) (l : List Int) (b p : Int) (w : World) (hv : FlatAt w (.slice (some ⟨b', o, none⟩) l.length c) l.length (ints l)) (hn : l.length ≤ 1048576) :
    Calls Try.prog 37 #[.slice (some ⟨b', o, none⟩) l.length c, .int .i64 b, .int .i64 p] w (RetE1 (fpAll l b p) w) := by
  have HV := Lib.hid (implValidList_any _ l w hv hn)
  have HB := Lib.hid (fun W => isBP_any b p W)
  have HNONE := Lib.hid (fun (h : ¬ (OkL l ∧ OkBP b p)) => fpAll_no h)
  by_cases hok : OkL l
  · rw [decide_eq_true hok] at HV
    by_cases hbp : OkBP b p
    · rw [decide_eq_true hbp] at HB
      have HF := Lib.hid (fpAll_yes ⟨hok, hbp⟩)
      obtain ⟨⟨hb1, hb2⟩, hp1, hp2⟩ := hbp
      obtain ⟨b, rfl⟩ : ∃ n : Nat, b = n := ⟨b.toNat, by omega⟩
      obtain ⟨p, rfl⟩ : ∃ n : Nat, p = n := ⟨p.toNat, by omega⟩
      rw [HF.out]
      simp only [Int.toNat_natCast]
      exact (implFpY_any b' o c l b p w hv hok (by omega) (by omega) (by omega)).mono fun _ _ h => .inl h
    · rw [decide_eq_false hbp] at HB
      rw [HNONE.out fun h => hbp h.2]
      clear hok hbp hv HNONE
      go_enter Try.func37, Try.ntmps37
      go_wp2_with fail
      refine HV.out.mono ?_
      rintro e w1 ⟨rfl, hb1⟩
      have HRES := Lib.hid (RetE1.none0 w w1 hb1)
      clear hb1 HV
      go_wp2_with fail
      refine (HB.out _).mono ?_
      rintro e w1' ⟨rfl, rfl⟩
      go_wp2_with fail
      go_ret3
      exact HRES.out
  · rw [decide_eq_false hok] at HV
    rw [HNONE.out fun h => hok h.1]
    clear hok hv HNONE
    go_enter Try.func37, Try.ntmps37
    go_wp2_with fail
    refine HV.out.mono ?_
    rintro e w1 ⟨rfl, hb1⟩
    have HRES := Lib.hid (RetE1.none0 w w1 hb1)
    clear hb1 HV
    go_wp2_with fail
    go_ret3
    exact HRES.out

end Go.Proofs.Ytebipiehkmhaiaa
end
