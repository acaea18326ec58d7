/- IDig IDgA Tab IBkt RetCE IDist IRad IMax IRad3 RSum IRad2, as one text. -/
import Derived.Test.YtebipiehkmhaiaaRadP
import Derived.Test.YtebipiehkmhaiaaFlat
import Derived.Laws.Bits64
import Derived.Laws.BitsLemmas
import Derived.Test.YtebipiehkmhaiaaRadA
import Derived.BigRegion
import Derived.BigQuiet
import Derived.Deep.QuietTactic
import Derived.Deep.RegionWith
import Derived.Shelf.Abstract
import Derived.Laws.Tables
import Derived.Laws.Rows
import Derived.Test.YtebipiehkmhaiaaInts
import Derived.Lib.Walk
import Derived.Deep.LoopGhost
import Derived.Deep.Draws
import Derived.Test.YtebipiehkmhaiaaHeldC
import Derived.Test.YtebipiehkmhaiaaRetI
import Derived.Test.YtebipiehkmhaiaaRecS
import Derived.Test.YtebipiehkmhaiaaIntS
import Derived.Test.YtebipiehkmhaiaaIRecs
import Derived.Test.YtebipiehkmhaiaaCloneI
import Derived.Test.YtebipiehkmhaiaaCmpK
import Derived.Test.YtebipiehkmhaiaaISort
import Derived.Test.YtebipiehkmhaiaaRng

section
/- The program's digits, by their contracts. -/
namespace Go.Proofs.Ytebipiehkmhaiaa
open Go.RowKit Rx
set_option linter.unusedVariables false

theorem shifted_any (key : Int) (W : World) (h1 : -100000 ≤ key) (h2 : key ≤ 100000) :
    Calls Try.prog 77 #[.int .i64 key] W fun e w' => e = .returned (.int .u64 (key + 100000)) ∧ w' = W := by
  have e1 : IntKind.i64.wrap (key + 100000) = key + 100000 := by rw [IntKind.wrap_i64]; omega
  have e2 : IntKind.u64.wrap (key + 100000) = key + 100000 := by rw [IntKind.wrap_u64]; omega
  go_enter Try.func77, Try.ntmps77
  go_wp2_with fail
  go_ret
  exact ⟨rfl, rfl⟩

set_option maxRecDepth 100000 in
set_option maxHeartbeats 2000000 in
theorem digit_any (n b p : Nat) (W : World) (hb : 2 ≤ b) (hb2 : b ≤ 256) (hp : p ≤ 17) (hn : n ≤ 200000) :
    Calls Try.prog 84 #[.int .u64 (n : Int), .int .i64 (b : Int), .int .i64 (p : Int)] W fun e w' => e = .returned (.int .i64 (dg b p n : Nat)) ∧ w' = W := by
  have eb : IntKind.u64.wrap (b : Int) = (b : Int) := by rw [IntKind.wrap_u64]; omega
  have hbz : ¬ (b : Int) = 0 := by omega
  have hbn : ¬ b = 0 := by omega
  go_enter Try.func84, Try.ntmps84
  go_wp2_with fail
  go_loopw [0, 8] (fun kv iv wr => ∃ (j k : Nat), iv = .int .i64 (j : Int) ∧ kv = .int .u64 (k : Int) ∧ k = n / b ^ j ∧ j ≤ p ∧ wr = W) (fun _ iv _ => p - (intOf iv).toNat)
  case atStart => exact ⟨0, n, rfl, rfl, by rw [Nat.pow_zero, Nat.div_one], Nat.zero_le _, rfl⟩
  case round =>
    obtain ⟨j, k, rfl, rfl, hk, hj, rfl⟩ := hrel
    have HK := Lib.hid hk
    have hk2 : k ≤ 200000 := by have := Nat.div_le_self n (b ^ j); omega
    clear hk
    by_cases hlt : j < p
    · have hltz : decide ((j : Int) < (p : Int)) = true := decide_eq_true (by omega)
      obtain ⟨m, hm⟩ : ∃ m, m = k / b := ⟨_, rfl⟩
      have hm2 : m ≤ 200000 := by have := Nat.div_le_self k b; omega
      have hm1 : (k : Int) / (b : Int) = (m : Int) := by rw [hm, Int.natCast_ediv]
      have hm3 : Int.tdiv (k : Int) (b : Int) = (m : Int) := by rw [Int.tdiv_eq_ediv_of_nonneg (by omega)]; exact hm1
      have em : IntKind.u64.wrap (m : Int) = (m : Int) := by rw [IntKind.wrap_u64]; omega
      have HM : Hid (m = n / b ^ (j + 1)) := Lib.hid (by rw [hm, HK.out, div_pow_succ])
      clear hm
      go_wp2_with fail
      go_roundw
      case rel => exact ⟨j + 1, m, by go_num, rfl, HM.out, by omega, by first | rfl | trivial⟩
      case measure => simp [intOf]; omega
    · have hjp : j = p := by omega
      have hltz : decide ((j : Int) < (p : Int)) = false := decide_eq_false (by omega)
      obtain ⟨m, hm⟩ : ∃ m, m = k % b := ⟨_, rfl⟩
      have hm2 : m < 256 := by have := Nat.mod_lt k (show 0 < b by omega); omega
      have hm1 : (k : Int) % (b : Int) = (m : Int) := by rw [hm, Int.natCast_emod]
      have hm3 : Int.tmod (k : Int) (b : Int) = (m : Int) := by rw [Int.tmod_eq_emod_of_nonneg (by omega)]; exact hm1
      have em : IntKind.u64.wrap (m : Int) = (m : Int) := by rw [IntKind.wrap_u64]; omega
      have em2 : IntKind.i64.wrap (m : Int) = (m : Int) := by rw [IntKind.wrap_i64]; omega
      have HM : Hid (dg b p n = m) := Lib.hid (by rw [hm, HK.out, hjp]; rfl)
      clear hm hjp
      go_wp2_with fail
      go_ret
      exact ⟨by rw [HM.out]; rfl, rfl⟩

set_option maxRecDepth 100000 in
set_option maxHeartbeats 2000000 in
theorem length_any (n b : Nat) (W : World) (hb : 2 ≤ b) (hb2 : b ≤ 256) (hn : n ≤ 200000) :
    Calls Try.prog 78 #[.int .u64 (n : Int), .int .i64 (b : Int)] W fun e w' => e = .returned (.int .i64 (dl b n : Nat)) ∧ w' = W := by
  have eb : IntKind.u64.wrap (b : Int) = (b : Int) := by rw [IntKind.wrap_u64]; omega
  have hbz : ¬ (b : Int) = 0 := by omega
  have hbn : ¬ b = 0 := by omega
  go_enter Try.func78, Try.ntmps78
  go_wp2_with fail
  go_loopw [0, 5] (fun kv iv wr => ∃ (j k : Nat), iv = .int .i64 (j : Int) ∧ kv = .int .u64 (k : Int) ∧ 1 ≤ j ∧ k = n / b ^ (j - 1) ∧ (j = 1 ∨ b ^ (j - 1) ≤ n) ∧ j ≤ 18 ∧ wr = W) (fun kv _ _ => (intOf kv).toNat)
  case atStart => exact ⟨1, n, rfl, rfl, Nat.le_refl _, by rw [Nat.sub_self, Nat.pow_zero, Nat.div_one], .inl rfl, by omega, rfl⟩
  case round =>
    obtain ⟨j, k, rfl, rfl, hj1, hk, hge, hj, rfl⟩ := hrel
    have HK := Lib.hid hk
    have HGE := Lib.hid hge
    have hk2 : k ≤ 200000 := by have := Nat.div_le_self n (b ^ (j - 1)); omega
    clear hk hge
    by_cases hlt : k < b
    · have hltz : decide ((b : Int) ≤ (k : Int)) = false := decide_eq_false (by omega)
      have hltn : ¬ b ≤ k := by omega
      have HM : Hid (dl b n = j) := Lib.hid (dl_eq hb (IsLen.made hb hj1 (by rw [← HK.out]; exact hlt) HGE.out))
      clear hj1
      go_wp2_with fail
      go_ret
      exact ⟨by rw [HM.out]; rfl, rfl⟩
    · have hltz : decide ((b : Int) ≤ (k : Int)) = true := decide_eq_true (by omega)
      have hltn : b ≤ k := by omega
      obtain ⟨m, hm⟩ : ∃ m, m = k / b := ⟨_, rfl⟩
      have hm2 : m < k := by rw [hm]; exact Nat.div_lt_self (by omega) (by omega)
      have hm1 : (k : Int) / (b : Int) = (m : Int) := by rw [hm, Int.natCast_ediv]
      have hm3 : Int.tdiv (k : Int) (b : Int) = (m : Int) := by rw [Int.tdiv_eq_ediv_of_nonneg (by omega)]; exact hm1
      have em : IntKind.u64.wrap (m : Int) = (m : Int) := by rw [IntKind.wrap_u64]; omega
      have hpow := IsLen.on (n := n) hb hj1 (by rw [← HK.out]; exact hlt)
      have HM : Hid (m = n / b ^ (j + 1 - 1) ∧ (j + 1 = 1 ∨ b ^ (j + 1 - 1) ≤ n) ∧ j + 1 ≤ 18) := Lib.hid ⟨by rw [hm, HK.out, div_pow_succ]; congr 2; omega, .inr hpow, by
        rcases Nat.lt_or_ge j 18 with h | h
        · exact h
        · have h3 : 2 ^ 18 ≤ b ^ j := Nat.le_trans (Nat.pow_le_pow_left hb 18) (Nat.pow_le_pow_right (by omega) h)
          have h4 : (2 : Nat) ^ 18 = 262144 := by decide
          omega⟩
      clear hm hpow
      go_wp2_with fail
      go_roundw
      case rel => exact ⟨j + 1, m, by go_num, rfl, by omega, HM.out.1, HM.out.2.1, HM.out.2.2, by first | rfl | trivial⟩
      case measure => simp [intOf]; omega

theorem isBase_any (b : Int) (W : World) :
    Calls Try.prog 75 #[.int .i64 b] W fun e w' => e = .returned (.bool (decide (2 ≤ b ∧ b ≤ 256))) ∧ w' = W := by
  by_cases h1 : 2 ≤ b
  · have hd : decide (2 ≤ b ∧ b ≤ 256) = decide (b ≤ 256) := by rw [decide_eq_decide]; omega
    rw [hd]
    go_enter Try.func75, Try.ntmps75
    go_wp2_with fail
    go_ret
    exact ⟨rfl, rfl⟩
  · have hd : decide (2 ≤ b ∧ b ≤ 256) = false := decide_eq_false fun h => h1 h.1
    rw [hd]
    go_enter Try.func75, Try.ntmps75
    go_wp2_with fail
    go_ret
    exact ⟨rfl, rfl⟩

theorem isBP_any (b p : Int) (W : World) :
    Calls Try.prog 79 #[.int .i64 b, .int .i64 p] W fun e w' => e = .returned (.bool (decide (OkBP b p))) ∧ w' = W := by
  have HB := Lib.hid (isBase_any b)
  by_cases h0 : 2 ≤ b ∧ b ≤ 256
  · rw [decide_eq_true h0] at HB
    by_cases h1 : 0 ≤ p
    · have hd : decide (OkBP b p) = decide (p ≤ 17) := by rw [decide_eq_decide]; unfold OkBP; omega
      rw [hd]
      clear h0 hd
      go_enter Try.func79, Try.ntmps79
      go_wp2_with fail
      refine (HB.out _).mono ?_
      rintro e w1 ⟨rfl, rfl⟩
      go_wp2_with fail
      go_ret
      exact ⟨rfl, rfl⟩
    · have hd : decide (OkBP b p) = false := decide_eq_false fun h => h1 h.2.1
      rw [hd]
      clear h0 hd
      go_enter Try.func79, Try.ntmps79
      go_wp2_with fail
      refine (HB.out _).mono ?_
      rintro e w1 ⟨rfl, rfl⟩
      go_wp2_with fail
      go_ret
      exact ⟨rfl, rfl⟩
  · rw [decide_eq_false h0] at HB
    have hd : decide (OkBP b p) = false := decide_eq_false fun h => h0 h.1
    rw [hd]
    clear h0 hd
    go_enter Try.func79, Try.ntmps79
    go_wp2_with fail
    refine (HB.out _).mono ?_
    rintro e w1 ⟨rfl, rfl⟩
    go_wp2_with fail
    go_ret
    exact ⟨rfl, rfl⟩

end Go.Proofs.Ytebipiehkmhaiaa
end

section
/- The program's function of a key's digit, by its contract. -/
namespace Go.Proofs.Ytebipiehkmhaiaa
open Go.RowKit Rx P
set_option linter.unusedVariables false

set_option maxRecDepth 100000 in
set_option maxHeartbeats 2000000 in
theorem digitFn_any (x : Int) (b p g1 g2 : Nat) (W : World) (c1 : W.cell? ⟨g1, 0, none⟩ = some (.int .i64 (b : Int))) (c2 : W.cell? ⟨g2, 0, none⟩ = some (.int .i64 (p : Int))) (h1 : -100000 ≤ x) (h2 : x ≤ 100000) (hb : 2 ≤ b) (hb2 : b ≤ 256) (hp : p ≤ 17) :
    Calls Try.prog 127 #[.int .i64 x, .pointer (some ⟨g1, 0, none⟩), .pointer (some ⟨g2, 0, none⟩)] W fun e w' => e = .returned (.int .i64 (dgI b p x : Nat)) ∧ Below W.heap.size W w' := by
  have HS := Lib.hid (fun W => shifted_any x W h1 h2)
  have HD := Lib.hid (fun W => digit_any (sk x) b p W hb hb2 hp (sk_le h2))
  rw [← sk_eq h1] at HD
  have HE : Hid (dg b p (sk x) = dgI b p x) := Lib.hid rfl
  rw [HE.out] at HD
  have HBL : Hid (∀ n, Below W.heap.size W (W.drewN n)) := Lib.hid (fun n => ⟨rfl, rfl, rfl, Nat.le_refl _, fun _ _ => rfl⟩)
  clear h1 h2 hb hb2 hp HE
  generalize dgI b p x = r at *
  go_enter Try.func127, Try.ntmps127
  go_wp2_with fail
  go_quiet (first | (go_at_call 77; exact Calls.quiet_of_same (HS.out _)) | (go_at_call 84; exact Calls.quiet_of_same (HD.out _)))
  go_wp2_with fail
  go_ret
  exact ⟨rfl, HBL.out _⟩

theorem digitAt_any (b p : Int) (w : World) :
    Calls Try.prog 74 #[.int .i64 b, .int .i64 p] w fun e w' => e = .returned (.func (.func 127) #[] #[.pointer (some ⟨w.heap.size, 0, none⟩), .pointer (some ⟨w.heap.size + 1, 0, none⟩)]) ∧
      w' = (w.alloc (.cells #[.int .i64 b] 3)).alloc (.cells #[.int .i64 p] 3) := by
  go_enter Try.func74, Try.ntmps74
  go_wp2_with fail
  go_ret
  exact ⟨rfl, rfl⟩

/-- The two boxed numbers, and what lies behind them. -/
theorem digit_boxes (b p : Int) (w : World) : Below w.heap.size w ((w.alloc (.cells #[.int .i64 b] 3)).alloc (.cells #[.int .i64 p] 3)) ∧
    ∀ W, Below ((w.alloc (.cells #[.int .i64 b] 3)).alloc (.cells #[.int .i64 p] 3)).heap.size ((w.alloc (.cells #[.int .i64 b] 3)).alloc (.cells #[.int .i64 p] 3)) W →
      W.cell? ⟨w.heap.size, 0, none⟩ = some (.int .i64 b) ∧ W.cell? ⟨w.heap.size + 1, 0, none⟩ = some (.int .i64 p) := by
  have hs : ((w.alloc (.cells #[.int .i64 b] 3)).alloc (.cells #[.int .i64 p] 3)).heap.size = w.heap.size + 2 := by simp
  refine ⟨((Below.refl _ _).alloc (Nat.le_refl _) _).alloc (by simp) _, fun W hW => ⟨?_, ?_⟩⟩
  · rw [hW.cell (p := ⟨w.heap.size, 0, none⟩) (by rw [hs]; show w.heap.size < w.heap.size + 2; omega)]
    simp
  · rw [hW.cell (p := ⟨w.heap.size + 1, 0, none⟩) (by rw [hs]; show w.heap.size + 1 < w.heap.size + 2; omega)]
    simp

theorem enters_digit : ∀ args w, (callFunc 127 args).run Try.prog w = .ok (.enter 127 args) w := enters_of Try.func127 (by kernel_rfl) rfl

end Go.Proofs.Ytebipiehkmhaiaa
end

section
/- Tables of 1001 numbers, held by value: the run of what touches one whole, each under a name of its own. -/
namespace Go.Proofs.Ytebipiehkmhaiaa
open Go.RowKit
set_option linter.unusedVariables false

/-- The cells of a table. -/
def tab (f : Nat → Nat) : List Value := (List.range 1001).map fun k => .int .i64 (f k : Int)
def tabA (f : Nat → Nat) : Array Value := (tab f).toArray
theorem tab_length (f : Nat → Nat) : (tab f).length = 1001 := by simp [tab]
theorem tabA_size (f : Nat → Nat) : (tabA f).size = 1001 := by simp [tabA, tab_length]
theorem tab_at (f : Nat → Nat) {k : Nat} (h : k < 1001) : (tab f)[k]? = some (.int .i64 (f k : Int)) := by unfold tab; simp [h]
theorem tab_set (f : Nat → Nat) (d v : Nat) : (tab f).set d (.int .i64 (v : Int)) = tab (fun k => if k = d then v else f k) := by
  refine List.ext_getElem? fun k => ?_
  rw [List.getElem?_set]
  by_cases hk : k < 1001
  · rw [tab_at _ hk, tab_at _ hk, tab_length]
    by_cases hd : d = k
    · subst hd; simp [hk]
    · rw [if_neg hd, if_neg (fun e => hd e.symm)]
  · rw [List.getElem?_eq_none (by rw [tab_length]; omega), List.getElem?_eq_none (l := tab _) (by rw [tab_length]; omega), tab_length]
    split
    · rw [if_neg (by omega)]
    · rfl
theorem tab_congr {f h : Nat → Nat} (e : ∀ k, k < 1001 → f k = h k) : tab f = tab h := by
  refine List.ext_getElem? fun k => ?_
  by_cases hk : k < 1001
  · rw [tab_at _ hk, tab_at _ hk, e k hk]
  · rw [List.getElem?_eq_none (by rw [tab_length]; omega), List.getElem?_eq_none (by rw [tab_length]; omega)]
theorem tab_one (f : Nat → Nat) : (tabA f).all (·.oneCell') = true := by
  rw [Array.all_eq_true_iff_forall_mem]
  intro v hv
  simp only [tabA, tab, List.mem_toArray, List.mem_map] at hv
  obtain ⟨k, _, rfl⟩ := hv
  rfl

theorem infoTab : (Try.prog.info? 95).map (fun i => (i.zero, i.size)) = some (some (.agg (tabA fun _ => 0)), 1001) := by kernel_rfl

/-- A table in block g. -/
def TabAt (w : World) (g : Nat) (f : Nat → Nat) : Prop := RowIs w g 95 (tab f)
theorem TabAt.at {w : World} {g : Nat} {f : Nat → Nat} (h : TabAt w g f) {k : Nat} (hk : k < 1001) : w.cell? ⟨g, k, none⟩ = some (.int .i64 (f k : Int)) ∧ w.frozen? ⟨g, k, none⟩ = false :=
  ⟨by rw [RowIs.cell h k, tab_at f hk], RowIs.frozen h k⟩
theorem TabAt.put {w : World} {g : Nat} {f : Nat → Nat} (h : TabAt w g f) (d v : Nat) : TabAt (w.setCell ⟨g, d, none⟩ (.int .i64 (v : Int))) g (fun k => if k = d then v else f k) := by
  have := RowIs.stored h d (.int .i64 (v : Int))
  rw [tab_set] at this
  exact this
theorem TabAt.new (w : World) (f : Nat → Nat) : TabAt (w.alloc (.cells (tabA f) 95)) w.heap.size f := heap_alloc_new w _
theorem TabAt.lt {w : World} {g : Nat} {f : Nat → Nat} (h : TabAt w g f) : g < w.heap.size := RowIs.lt h
theorem TabAt.below {w w' : World} {g : Nat} {f : Nat → Nat} (h : TabAt w g f) {B : Nat} (hb : Below B w w') (hg : g < B) : TabAt w' g f := RowIs.below h hb hg
theorem TabAt.but {w w' : World} {g k : Nat} {f : Nat → Nat} (h : TabAt w g f) (hb : But k w w') (hg : g ≠ k) : TabAt w' g f := RowIs.but h hb hg
theorem TabAt.congr {w : World} {g : Nat} {f h : Nat → Nat} (ht : TabAt w g f) (e : ∀ k, k < 1001 → f k = h k) : TabAt w g h := by unfold TabAt at ht ⊢; rw [← tab_congr e]; exact ht

def tabNew (b : Bool) (o : Value) : Sem Value := Instr.alloc 95 b o
theorem alloc_tab (b : Bool) (o : Value) : Instr.alloc 95 b o = tabNew b o := rfl
theorem run_tabNew (w : World) : (tabNew true (.tuple #[])).run Try.prog w = .ok (.pointer (some ⟨w.heap.size, 0, none⟩)) (w.alloc (.cells (tabA fun _ => 0) 95)) := by
  cases hi : Try.prog.info? 95 with
  | none => have := infoTab; rw [hi] at this; simp at this
  | some i =>
    have hz : i.zero = some (.agg (tabA fun _ => 0)) := by
      have := infoTab
      rw [hi, Option.map_some] at this
      exact congrArg Prod.fst (Option.some.inj this)
    unfold tabNew Instr.alloc
    simp only [zeroValue, typeInfo, Sem.run_bind, run_program, Result.andThen_ok, hi, hz, Sem.run_pure, newVar, newRow, Value.cells, run_newObj]
    rfl

def tabLoad (v : Value) : Sem Value := Instr.loadAt 95 v
theorem load_tab (v : Value) : Instr.loadAt 95 v = tabLoad v := rfl
theorem infoTabS : (Try.prog.info? 95).map (·.size) = some 1001 := by
  have := infoTab
  cases hi : Try.prog.info? 95 with
  | none => rw [hi] at this; simp at this
  | some i =>
    rw [hi, Option.map_some] at this
    rw [Option.map_some]
    exact congrArg some (congrArg Prod.snd (Option.some.inj this))
theorem underTab : Try.prog.underlying 95 = some (.array 1001 3) := by kernel_rfl
theorem run_tabLoad {w : World} {g : Nat} {f : Nat → Nat} (h : TabAt w g f) : (tabLoad (.pointer (some ⟨g, 0, none⟩))).run Try.prog w = .ok (.agg (tabA f)) w := by
  have := run_loadVar_row (P := Try.prog) w g 95 95 (tabA f) (0, 0) _ h underTab rfl (by rw [infoTabS, tabA_size])
  unfold tabLoad Instr.loadAt
  simp only [Instr.sureAddr, Sem.run_bind, Sem.run_pure, Result.andThen_ok, this]

def tabStore (a v : Value) : Sem Unit := Instr.storeAt 95 a v
theorem store_tab (a v : Value) : Instr.storeAt 95 a v = tabStore a v := rfl
theorem run_tabStore {w : World} {g : Nat} {o : Nat → Nat} (f : Nat → Nat) (h : TabAt w g o) : (tabStore (.pointer (some ⟨g, 0, none⟩)) (.agg (tabA f))).run Try.prog w = .ok () (w.setRow g (tabA f)) := by
  have := run_storeVar_row (P := Try.prog) w g 95 95 (tabA o) (tabA f) h (by rw [infoTabS, tabA_size]) (by rw [tabA_size, tabA_size]) (tab_one f)
  unfold tabStore Instr.storeAt
  simp only [Instr.sureAddr, Sem.run_bind, Sem.run_pure, Result.andThen_ok, this]
theorem TabAt.row {w : World} {g : Nat} {o : Nat → Nat} (f : Nat → Nat) (h : TabAt w g o) : TabAt (w.setRow g (tabA f)) g f ∧ But g w (w.setRow g (tabA f)) := by
  refine ⟨?_, rfl, rfl, rfl, ?_, fun k hk hg => ?_⟩
  · have := setRow_heap w g (tabA o) (tabA f) _ _ h
    exact this
  · unfold World.setRow; simp
  · unfold World.setRow
    have hgk : ¬ g = k := fun e => hg e.symm
    simp [Array.getElem?_modify, hgk]

def tabBox (v : Value) : Sem Value := Instr.box 95 v
theorem box_tab (v : Value) : Instr.box 95 v = tabBox v := rfl
theorem run_tabBox (w : World) (f : Nat → Nat) : (tabBox (.agg (tabA f))).run Try.prog w = .ok (.pointer (some ⟨w.heap.size, 0, none⟩)) (w.alloc (.cells (tabA f) 95)) := by
  unfold tabBox Instr.box
  simp only [newVar, newRow, Value.cells, Sem.run_bind, Sem.run_pure, Result.andThen_ok, run_newObj]
  rfl

def tabIdx (x i : Value) : Sem Value := Instr.index 95 x i
theorem idx_tab (x i : Value) : Instr.index 95 x i = tabIdx x i := rfl
theorem sizeInt : (Try.prog.info? 3).map (·.size) = some 1 := by kernel_rfl
theorem run_tabIdx (w : World) (f : Nat → Nat) (k : Nat) (hk : k < 1001) : (tabIdx (.agg (tabA f)) (.int .i64 (k : Int))).run Try.prog w = .ok (.int .i64 (f k : Int)) w := by
  cases hi : Try.prog.info? 3 with
  | none => have := sizeInt; rw [hi] at this; simp at this
  | some i =>
    have hs : i.size = 1 := by
      have := sizeInt
      rw [hi, Option.map_some] at this
      exact Option.some.inj this
    have hu := run_underlying Try.underlying3 w
    have hc : (tabA f)[k]? = some (.int .i64 (f k : Int)) := by
      have := tab_at f hk
      simpa [tabA] using this
    have h1 : (0 : Int) ≤ (k : Int) ∧ (k : Int) < (1001 : Nat) := by omega
    unfold tabIdx Instr.index
    simp only [asIntOf, Sem.run_bind, Sem.run_pure, Result.andThen_ok, run_underlying underTab w, if_pos h1, sizeOf, typeInfo, run_program, hi, hs, part, isAgg, hu, Int.toNat_natCast, Nat.mul_one, hc]
    simp

theorem tab_results {fn : Func} {p : Tmp} (h : fn.results = #[.cell p 95]) (tmps : Array Value) (w : World) (g : Nat) (f : Nat → Nat) (hp : tmps.getD p undef = .pointer (some ⟨g, 0, none⟩)) (ht : TabAt w g f) :
    (results fn tmps).run Try.prog w = .ok (.agg (tabA f)) w :=
  results_cell_row h tmps w g 95 (tabA f) (0, 0) _ hp ht underTab rfl (by rw [infoTabS, tabA_size])

end Go.Proofs.Ytebipiehkmhaiaa
end

section
/- The program's counts of buckets and their starts, by their contracts. -/
namespace Go.Proofs.Ytebipiehkmhaiaa
open Go.RowKit Rx
set_option linter.unusedVariables false
attribute [local go_sem ↓ high] alloc_tab load_tab store_tab box_tab
attribute [local go_sem] run_tabNew

set_option maxRecDepth 100000 in
set_option maxHeartbeats 2000000 in
theorem bucketCounts_any (f : Int → Nat) (g : Nat) (lb : Array Value) (eg : ∀ args w, (callFunc g args).run Try.prog w = .ok (.enter g args) w) (v : Value) (l : List Int) (w : World) (hv : FlatAt w v l.length (ints l)) (hn : l.length ≤ 1048576)
    (hf : ∀ x ∈ l, f x < 1001) (hp : ∀ (W : World) x, x ∈ l → Below w.heap.size w W → Calls Try.prog g (#[.int .i64 x] ++ lb) W fun e w' => e = .returned (.int .i64 (f x : Nat)) ∧ Below W.heap.size W w') :
    Calls Try.prog 80 #[v, .func (.func g) #[] lb] w fun e w' => e = .returned (.agg (tabA (cnt f l))) ∧ Below w.heap.size w w' := by
  obtain ⟨a, c, rfl, _, h⟩ := hv
  have H := Lib.hid h
  have HPR := Lib.hid hp
  have HF := Lib.hid hf
  clear h hp hf
  go_enter Try.func80, Try.ntmps80
  go_wp2_with fail
  obtain ⟨W0, hW0⟩ : ∃ W0, W0 = (w.alloc (.cells (tabA fun _ => 0) 95)).alloc (.cells (tabA fun _ => 0) 95) := ⟨_, rfl⟩
  have hs0 : (w.alloc (.cells (tabA fun _ => 0) 95)).heap.size = w.heap.size + 1 := by simp
  have HT1 : Hid (TabAt W0 w.heap.size fun _ => 0) := Lib.hid (by rw [hW0]; exact (TabAt.new w _).below ((Below.refl (w.heap.size + 1) _).alloc (by omega) _) (by omega))
  have HT2 : Hid (TabAt W0 (w.heap.size + 1) fun _ => 0) := Lib.hid (by rw [hW0]; have := TabAt.new (w.alloc (.cells (tabA fun _ => 0) 95)) (fun _ => 0); rw [hs0] at this; exact this)
  have HB0 : Hid (Below w.heap.size w W0) := Lib.hid (by rw [hW0]; exact ((Below.refl _ _).alloc (Nat.le_refl _) _).alloc (by omega) _)
  rw [← hW0]
  clear hW0 hs0
  go_loopw [7, 10] (fun _ i wr => ∃ k : Nat, k ≤ l.length ∧ i = .int .i64 k ∧ TabAt wr w.heap.size (fun _ => 0) ∧ TabAt wr (w.heap.size + 1) (cnt f (l.take k)) ∧ Below w.heap.size w wr) (fun _ i _ => l.length - (intOf i).toNat)
  case atStart => exact ⟨0, Nat.zero_le _, rfl, HT1.out, HT2.out.congr (fun d _ => by simp [cnt, inB]), HB0.out⟩
  case round =>
    obtain ⟨k, hk, rfl, ht1, ht2, hb⟩ := hrel
    have HB := Lib.hid hb
    have HT := Lib.hid ht1
    have HU := Lib.hid ht2
    clear hb ht1 ht2 HT1 HT2 HB0
    by_cases hlt : k < l.length
    · have hltz : (k : Int) < (l.length : Int) := by omega
      obtain ⟨x, hx⟩ : ∃ x, l[k]? = some x := ⟨_, List.getElem?_eq_getElem hlt⟩
      obtain ⟨b, o, rfl, hbb, hc0⟩ := H.out _ _ (ints_at hx)
      have hw0 : wr.cell? ⟨b, o + k, none⟩ = some (.int .i64 x) := (HB.out.cell (p := ⟨b, o + k, none⟩) hbb).trans hc0
      have hxm := List.mem_of_getElem? hx
      have HCALL := Lib.hid (HPR.out wr x hxm HB.out)
      have hfx := HF.out x hxm
      obtain ⟨d, hd⟩ : ∃ d, d = f x := ⟨_, rfl⟩
      rw [← hd] at HCALL hfx
      obtain ⟨m, hm⟩ : ∃ m, m = cnt f (l.take k) d := ⟨_, rfl⟩
      have hm64 : m ≤ 1048576 := by
        rw [hm]; unfold cnt inB
        have := List.length_filter_le (fun a => f a == d) (l.take k)
        have h2 : (l.take k).length ≤ l.length := by rw [List.length_take]; omega
        omega
      have HNEW : Hid (∀ W, TabAt W (w.heap.size + 1) (cnt f (l.take k)) → TabAt (W.setCell ⟨w.heap.size + 1, d, none⟩ (.int .i64 ((m : Int) + 1))) (w.heap.size + 1) (cnt f (l.take (k + 1)))) := Lib.hid (fun W h => by
        have := (h.put d (m + 1)).congr (h := cnt f (l.take (k + 1))) (fun q _ => by
          rw [cnt_take_succ hx, ← hd]
          by_cases hq : q = d
          · rw [if_pos hq, if_pos hq.symm, hq, ← hm]
          · rw [if_neg hq, if_neg (fun e => hq e.symm), Nat.add_zero])
        exact this)
      have HM := Lib.hid hm
      have hdz : (d : Int) < 1001 := by omega
      clear hc0 hx hxm hd hm
      go_wp2_with (go_at_fn g; refine (HCALL.out).mono ?_; rintro e w' ⟨rfl, hb'⟩; have HB' := Lib.hid (HB.out.trans (hb'.mono HB.out.size)); have HT' := Lib.hid (HT.out.below hb' HT.out.lt); have HU' := Lib.hid (HU.out.below hb' HU.out.lt); have ht' := HU'.out.at hfx; rw [← HM.out] at ht'; obtain ⟨ht', hf'⟩ := ht'; clear hb')
      go_roundw
      case rel => exact ⟨k + 1, by omega, by go_num, HT'.out.but ((But.refl _ _).setCell d _) (by omega), HNEW.out _ HU'.out, HB'.out.setCell (p := ⟨w.heap.size + 1, d, none⟩) (by show w.heap.size ≤ w.heap.size + 1; omega) _⟩
      case measure => simp [intOf]; omega
    · have hltz : ¬ (k : Int) < (l.length : Int) := by omega
      obtain rfl : k = l.length := by omega
      rw [List.take_length] at HU
      obtain ⟨hr1, hr2⟩ := HT.out.row (cnt f l)
      have hl := run_tabLoad HU.out
      have hs := run_tabStore (cnt f l) HT.out
      have HR1 := Lib.hid hr1
      have HRES := Lib.hid (HB.out.trans (hr2.below (Nat.le_refl _) HB.out.size))
      clear hr1 hr2
      go_wp2_with fail
      refine bodyPost_ret (tab_results rfl _ _ w.heap.size _ rfl HR1.out) rfl ?_
      exact ⟨rfl, HRES.out⟩

/-- The starts found so far. -/
def stTo (f : Int → Nat) (l : List Int) (k : Nat) : Nat → Nat := fun d => if d < k then st f l d else 0

set_option maxRecDepth 100000 in
set_option maxHeartbeats 4000000 in
theorem starts_any (f : Int → Nat) (l : List Int) (w : World) (hf : ∀ x ∈ l, f x < 1001) (hn : l.length ≤ 1048576) :
    Calls Try.prog 126 #[.agg (tabA (cnt f l))] w fun e w' => e = .returned (.agg (tabA (st f l))) ∧ Below w.heap.size w w' := by
  have HLE := Lib.hid (fun d (h : d ≤ 1001) => (by have := st_mono f l h; rw [bk_len hf] at this; omega : st f l d ≤ 1048576))
  clear hf
  have hbox := fun W => run_tabBox W (cnt f l)
  obtain ⟨W0, hW0⟩ : ∃ W0, W0 = ((w.alloc (.cells (tabA (cnt f l)) 95)).alloc (.cells (tabA fun _ => 0) 95)).alloc (.cells (tabA fun _ => 0) 95) := ⟨_, rfl⟩
  obtain ⟨W1, hW1⟩ : ∃ W1, W1 = w.alloc (.cells (tabA (cnt f l)) 95) := ⟨_, rfl⟩
  obtain ⟨W2, hW2⟩ : ∃ W2, W2 = W1.alloc (.cells (tabA fun _ => 0) 95) := ⟨_, rfl⟩
  have hs1 : W1.heap.size = w.heap.size + 1 := by rw [hW1]; simp
  have hs2 : W2.heap.size = w.heap.size + 2 := by rw [hW2]; simp [hs1]
  have e0 : W0 = W2.alloc (.cells (tabA fun _ => 0) 95) := by rw [hW0, hW2, hW1]
  have HT0 : Hid (TabAt W0 w.heap.size (cnt f l)) := Lib.hid (by
    have h1 : TabAt W1 w.heap.size (cnt f l) := by rw [hW1]; exact TabAt.new w _
    rw [e0, hW2]
    exact h1.below (((Below.refl (w.heap.size + 1) _).alloc (by omega) _).alloc (by rw [← hW2]; omega) _) (by omega))
  have HT1 : Hid (TabAt W0 (w.heap.size + 1) fun _ => 0) := Lib.hid (by
    have h1 : TabAt W2 (w.heap.size + 1) fun _ => 0 := by have := TabAt.new W1 (fun _ => 0); rw [hs1] at this; rw [hW2]; exact this
    rw [e0]
    exact h1.below ((Below.refl (w.heap.size + 2) _).alloc (by omega) _) (by omega))
  have HT2 : Hid (TabAt W0 (w.heap.size + 2) fun _ => 0) := Lib.hid (by have := TabAt.new W2 (fun _ => 0); rw [hs2] at this; rw [e0]; exact this)
  have HB0 : Hid (Below w.heap.size w W0) := Lib.hid (by
    rw [hW0]; exact (((Below.refl _ _).alloc (Nat.le_refl _) _).alloc (by rw [← hW1]; omega) _).alloc (by rw [← hW1, ← hW2]; omega) _)
  clear hW1 hW2 hs1 hs2 e0
  go_enter Try.func126, Try.ntmps126
  go_wp2_with fail
  rw [← hW0]
  clear hW0 hbox
  go_loopw [4] (fun iv wr => ∃ k : Nat, 1 ≤ k ∧ k ≤ 1001 ∧ iv = .int .i64 k ∧ TabAt wr w.heap.size (cnt f l) ∧ TabAt wr (w.heap.size + 1) (fun _ => 0) ∧ TabAt wr (w.heap.size + 2) (stTo f l k) ∧ Below w.heap.size w wr) (fun iv _ => 1001 - (intOf iv).toNat)
  case atStart => exact ⟨1, Nat.le_refl _, by omega, rfl, HT0.out, HT1.out, HT2.out.congr (fun d _ => by
    unfold stTo
    by_cases h : d < 1
    · obtain rfl : d = 0 := by omega
      rfl
    · rw [if_neg h]), HB0.out⟩
  case round =>
    obtain ⟨k, hk1, hk, rfl, ht0, ht1, ht2, hb⟩ := hrel
    have HB := Lib.hid hb
    have HT := Lib.hid ht0
    have HU := Lib.hid ht1
    have HV := Lib.hid ht2
    clear hb ht0 ht1 ht2 HT0 HT1 HT2 HB0
    by_cases hlt : k < 1001
    · obtain ⟨j, rfl⟩ : ∃ j, k = j + 1 := ⟨k - 1, by omega⟩
      obtain ⟨q, hq⟩ : ∃ q, q = j + 1 := ⟨_, rfl⟩
      rw [← hq] at HV hk hk1 hlt ⊢
      have hqj : (q : Int) - 1 = (j : Int) := by omega
      have hltz : (q : Int) < 1001 := by omega
      have hjz : (j : Int) < 1001 := by omega
      obtain ⟨c, hc⟩ : ∃ c, c = cnt f l j := ⟨_, rfl⟩
      obtain ⟨s, hs⟩ : ∃ s, s = st f l j := ⟨_, rfl⟩
      have hsum : st f l q = s + c := by rw [hq, st_succ, ← hs, ← hc]
      have hsl := HLE.out q (by omega)
      rw [hsum] at hsl
      obtain ⟨ct, _⟩ := HT.out.at (k := j) (by omega)
      obtain ⟨cv, _⟩ := HV.out.at (k := j) (by omega)
      obtain ⟨cu, fu⟩ := HV.out.at (k := q) (by omega)
      rw [← hc] at ct
      rw [show stTo f l q j = s by unfold stTo; rw [if_pos (by omega), hs]] at cv
      rw [show stTo f l q q = 0 by unfold stTo; rw [if_neg (by omega)]] at cu
      have hne : ¬ j = q := by omega
      have hne2 : ¬ q = j := by omega
      have HRES : Hid (TabAt (wr.setCell ⟨w.heap.size + 2, q, none⟩ (.int .i64 ((s : Int) + (c : Int)))).drew w.heap.size (cnt f l) ∧ TabAt (wr.setCell ⟨w.heap.size + 2, q, none⟩ (.int .i64 ((s : Int) + (c : Int)))).drew (w.heap.size + 1) (fun _ => 0) ∧
          TabAt (wr.setCell ⟨w.heap.size + 2, q, none⟩ (.int .i64 ((s : Int) + (c : Int)))).drew (w.heap.size + 2) (stTo f l (q + 1)) ∧ Below w.heap.size w (wr.setCell ⟨w.heap.size + 2, q, none⟩ (.int .i64 ((s : Int) + (c : Int)))).drew) := Lib.hid (by
        have hbut : But (w.heap.size + 2) wr (wr.setCell ⟨w.heap.size + 2, q, none⟩ (.int .i64 ((s : Int) + (c : Int)))).drew := ((But.refl _ _).setCell q _).drewN 1
        refine ⟨HT.out.but hbut (by omega), HU.out.but hbut (by omega), ?_, HB.out.trans (hbut.below (by omega) HB.out.size)⟩
        have := (HV.out.put q (s + c)).congr (h := stTo f l (q + 1)) (fun d _ => by
          unfold stTo
          by_cases hd : d = q
          · rw [if_pos hd, if_pos (by omega), hd, hsum]
          · rw [if_neg hd]
            by_cases h2 : d < q
            · rw [if_pos h2, if_pos (by omega)]
            · rw [if_neg h2, if_neg (by omega)])
        rw [Int.natCast_add] at this
        exact this)
      clear hc hs hsum HT HU HV HB HLE hq
      go_wp2_with fail
      go_region
      go_wp2_with fail
      go_roundw
      case rel => exact ⟨q + 1, by omega, by omega, by go_num, HRES.out.1, HRES.out.2.1, HRES.out.2.2.1, HRES.out.2.2.2⟩
      case measure => simp [intOf]; omega
    · have hltz : ¬ (k : Int) < 1001 := by omega
      obtain ⟨hr1, hr2⟩ := HU.out.row (st f l)
      have hl := run_tabLoad (HV.out.congr (h := st f l) (fun d hd => by unfold stTo; rw [if_pos (by omega)]))
      have hs := run_tabStore (st f l) HU.out
      have HR1 := Lib.hid hr1
      have HRES := Lib.hid (HB.out.trans (hr2.below (by omega) HB.out.size))
      clear hr1 hr2 HLE
      go_wp2_with fail
      refine bodyPost_ret (tab_results rfl _ _ (w.heap.size + 1) _ rfl HR1.out) rfl ?_
      exact ⟨rfl, HRES.out⟩

end Go.Proofs.Ytebipiehkmhaiaa
end

section
/- Answers whose list may be nil where it has no length: a list and a bool, or a list, a number and a bool. -/
namespace Go.Proofs.Ytebipiehkmhaiaa
open Go.RowKit
set_option linter.unusedVariables false

/-- No length, wherever it lies. -/
def RetZb (b : Bool) (w : World) (e : Ending) (w' : World) : Prop :=
  ∃ a c, e = .returned (.tuple #[.slice a 0 c, .bool b]) ∧ Below w.heap.size w w'
def RetZnb (n : Int) (b : Bool) (w : World) (e : Ending) (w' : World) : Prop :=
  ∃ a c, e = .returned (.tuple #[.slice a 0 c, .int .i64 n, .bool b]) ∧ Below w.heap.size w w'
def RetCE (r : List (Int × Int) × Bool) (w : World) (e : Ending) (w' : World) : Prop := RetC r w e w' ∨ (r.1 = [] ∧ RetZb r.2 w e w')
def Ret1CE (r : List (Int × Int) × Int × Bool) (w : World) (e : Ending) (w' : World) : Prop := Ret1C r w e w' ∨ (r.1 = [] ∧ RetZnb r.2.1 r.2.2 w e w')
def RetIE (r : List Int × Bool) (w : World) (e : Ending) (w' : World) : Prop := RetI r w e w' ∨ (r.1 = [] ∧ RetZb r.2 w e w')
theorem RetCE.own {r : List (Int × Int) × Bool} {w w' : World} {e : Ending} (h : RetCE r w e w') (h0 : r.1 ≠ []) : RetC r w e w' := by
  rcases h with h | ⟨h, _⟩
  · exact h
  · exact absurd h h0
theorem RetCE.zero {r : List (Int × Int) × Bool} {w w' : World} {e : Ending} (h : RetCE r w e w') (h0 : r.1 = []) : RetZb r.2 w e w' := by
  rcases h with ⟨g, c, rfl, _, _, _, hb⟩ | ⟨_, h⟩
  · exact ⟨some ⟨g, 0, none⟩, c, by rw [h0]; rfl, hb⟩
  · exact h
theorem Ret1CE.own {r : List (Int × Int) × Int × Bool} {w w' : World} {e : Ending} (h : Ret1CE r w e w') (h0 : r.1 ≠ []) : Ret1C r w e w' := by
  rcases h with h | ⟨h, _⟩
  · exact h
  · exact absurd h h0
theorem Ret1CE.zero {r : List (Int × Int) × Int × Bool} {w w' : World} {e : Ending} (h : Ret1CE r w e w') (h0 : r.1 = []) : RetZnb r.2.1 r.2.2 w e w' := by
  rcases h with ⟨g, c, rfl, _, _, _, hb⟩ | ⟨_, h⟩
  · exact ⟨some ⟨g, 0, none⟩, c, by rw [h0]; rfl, hb⟩
  · exact h
theorem RetIE.own {r : List Int × Bool} {w w' : World} {e : Ending} (h : RetIE r w e w') (h0 : r.1 ≠ []) : RetI r w e w' := by
  rcases h with h | ⟨h, _⟩
  · exact h
  · exact absurd h h0
theorem RetIE.zero {r : List Int × Bool} {w w' : World} {e : Ending} (h : RetIE r w e w') (h0 : r.1 = []) : RetZb r.2 w e w' := by
  rcases h with ⟨g, c, rfl, _, _, _, hb⟩ | ⟨_, h⟩
  · exact ⟨some ⟨g, 0, none⟩, c, by rw [h0]; rfl, hb⟩
  · exact h

/-- The list read alone. -/
def RetFC (r : List (Int × Int) × Bool) (w : World) (e : Ending) (w' : World) : Prop :=
  ∃ a c, e = .returned (.tuple #[.slice a r.1.length c, .bool r.2]) ∧ FlatAt w' (.slice a r.1.length c) r.1.length (recs r.1) ∧ Below w.heap.size w w'
def RetFC1 (r : List (Int × Int) × Int × Bool) (w : World) (e : Ending) (w' : World) : Prop :=
  ∃ a c, e = .returned (.tuple #[.slice a r.1.length c, .int .i64 r.2.1, .bool r.2.2]) ∧ FlatAt w' (.slice a r.1.length c) r.1.length (recs r.1) ∧ Below w.heap.size w w'
def RetFI (r : List Int × Bool) (w : World) (e : Ending) (w' : World) : Prop :=
  ∃ a c, e = .returned (.tuple #[.slice a r.1.length c, .bool r.2]) ∧ FlatAt w' (.slice a r.1.length c) r.1.length (ints r.1) ∧ Below w.heap.size w w'
theorem RetCE.flat {r : List (Int × Int) × Bool} {w w' : World} {e : Ending} (h : RetCE r w e w') : RetFC r w e w' := by
  rcases h with ⟨g, c, rfl, h1, _, h3, hb⟩ | ⟨h0, a, c, rfl, hb⟩
  · exact ⟨_, c, rfl, h3.flat h1, hb⟩
  · refine ⟨a, c, by rw [h0]; rfl, ?_, hb⟩
    rw [h0]; exact ⟨a, c, rfl, Nat.zero_le _, fun j u h => by simp [recs] at h⟩
theorem Ret1CE.flat {r : List (Int × Int) × Int × Bool} {w w' : World} {e : Ending} (h : Ret1CE r w e w') : RetFC1 r w e w' := by
  rcases h with ⟨g, c, rfl, h1, _, h3, hb⟩ | ⟨h0, a, c, rfl, hb⟩
  · exact ⟨_, c, rfl, h3.flat h1, hb⟩
  · refine ⟨a, c, by rw [h0]; rfl, ?_, hb⟩
    rw [h0]; exact ⟨a, c, rfl, Nat.zero_le _, fun j u h => by simp [recs] at h⟩
theorem RetIE.flat {r : List Int × Bool} {w w' : World} {e : Ending} (h : RetIE r w e w') : RetFI r w e w' := by
  rcases h with ⟨g, c, rfl, h1, _, h3, hb⟩ | ⟨h0, a, c, rfl, hb⟩
  · exact ⟨_, c, rfl, h3.flat h1, hb⟩
  · refine ⟨a, c, by rw [h0]; rfl, ?_, hb⟩
    rw [h0]; exact ⟨a, c, rfl, Nat.zero_le _, fun j u h => by simp [ints] at h⟩

end Go.Proofs.Ytebipiehkmhaiaa
end

section
/- The program's distribution of records by buckets, by its contract. -/
namespace Go.Proofs.Ytebipiehkmhaiaa
open Go.RowKit Rx
set_option linter.unusedVariables false
attribute [local go_sem ↓ high] alloc_tab load_tab store_tab box_tab
attribute [local go_sem] run_tabNew

theorem rec_new (w : World) (x y : Int) : CellRow (w.alloc (.cells #[.int .i64 x, .int .i64 y] 45)) w.heap.size [.int .i64 x, .int .i64 y] := CellRow.of_row (heap_alloc_new w _)

set_option maxRecDepth 100000 in
set_option maxHeartbeats 4000000 in
theorem keysOf_any (v : Value) (l : List (Int × Int)) (w : World) (hv : FlatAt w v l.length (recs l)) (hn : l.length ≤ 1048576) :
    Calls Try.prog 81 #[v] w fun e w' => ∃ g, e = .returned (.slice (some ⟨g, 0, none⟩) l.length l.length) ∧ w.heap.size ≤ g ∧ CellRow w' g (ints (l.map (·.1))) ∧ Below w.heap.size w w' := by
  obtain ⟨a, c, rfl, _, h⟩ := hv
  have H := Lib.hid h
  clear h
  have hmk := makeInts l.length hn
  have hlm : (l.map (·.1)).length = l.length := by simp
  have hrow := heap_alloc_new w (.cells (ints (fill (l.map (·.1)) 0 0)).toArray 3)
  rw [fill_zero, hlm] at hrow
  have HROW : Hid (CellRow (w.alloc (.cells (ints (List.replicate l.length 0)).toArray 3)) w.heap.size (ints (fill (l.map (·.1)) 0 0))) := Lib.hid (by rw [fill_zero, hlm]; exact CellRow.of_row hrow)
  have HB0 : Hid (Below w.heap.size w (w.alloc (.cells (ints (List.replicate l.length 0)).toArray 3))) := Lib.hid ((Below.refl _ _).alloc (Nat.le_refl _) _)
  have HLM := Lib.hid hlm
  clear hrow hlm
  go_enter Try.func81, Try.ntmps81
  go_wp2_with fail
  go_loopw [4, 11] (fun _ i wr => ∃ k : Nat, k ≤ l.length ∧ i = .int .i64 k ∧ CellRow wr w.heap.size (ints (fill (l.map (·.1)) 0 k)) ∧ Below w.heap.size w wr) (fun _ i _ => l.length - (intOf i).toNat)
  case atStart => exact ⟨0, Nat.zero_le _, rfl, HROW.out, HB0.out⟩
  case round =>
    obtain ⟨k, hk, rfl, hr, hb⟩ := hrel
    have HR := Lib.hid hr
    have HB := Lib.hid hb
    clear hr hb hmk HROW HB0
    by_cases hlt : k < l.length
    · have hltz : (k : Int) < (l.length : Int) := by omega
      obtain ⟨p, hp⟩ : ∃ p, l[k]? = some p := ⟨_, List.getElem?_eq_getElem hlt⟩
      obtain ⟨b, o, rfl, hbb, hc1, hc2⟩ := recs_el H.out hp
      have hw1 : wr.cell? ⟨b, o + k * 2, none⟩ = some (.int .i64 p.1) := (HB.out.cell (p := ⟨b, o + k * 2, none⟩) hbb).trans hc1
      have hw2 : wr.cell? ⟨b, o + k * 2 + 1, none⟩ = some (.int .i64 p.2) := (HB.out.cell (p := ⟨b, o + k * 2 + 1, none⟩) hbb).trans hc2
      have HP := Lib.hid (show (l.map (·.1))[k]? = some p.1 by rw [List.getElem?_map, hp]; rfl)
      clear hc1 hc2 hp
      obtain ⟨x, y⟩ := p
      simp only at hw1 hw2 HP
      obtain ⟨hg1, hf1⟩ := HR.out.2 k _ (ints_at (fill_at (d := (0 : Int)) (show k < (l.map (·.1)).length by rw [HLM.out]; exact hlt)))
      have hgl := HR.out.1
      have HNEW : Hid (CellRow ((wr.setCell ⟨w.heap.size, k, none⟩ (.int .i64 x)).alloc (.cells #[.int .i64 x, .int .i64 y] 45)) w.heap.size (ints (fill (l.map (·.1)) 0 (k + 1))) ∧ Below w.heap.size w ((wr.setCell ⟨w.heap.size, k, none⟩ (.int .i64 x)).alloc (.cells #[.int .i64 x, .int .i64 y] 45))) := Lib.hid (by
        have hb := HB.out.setCell (p := ⟨w.heap.size, k, none⟩) (Nat.le_refl _) (.int .i64 x)
        refine ⟨?_, hb.alloc hb.size _⟩
        have := HR.out.set k (.int .i64 x) (by rw [ints_length, fill_length _ _ _ (by rw [HLM.out]; omega), HLM.out]; exact hlt)
        rw [ints_set, fill_set HP.out] at this
        exact this.same (heap_alloc_old _ _ this.1) (by simp))
      clear HP HR HB HLM
      go_wp2_with fail
      go_roundw
      case rel => exact ⟨k + 1, by omega, by go_num, HNEW.out.1, HNEW.out.2⟩
      case measure => simp [intOf]; omega
    · have hltz : ¬ (k : Int) < (l.length : Int) := by omega
      obtain rfl : k = l.length := by omega
      have HRES : Hid (CellRow wr w.heap.size (ints (l.map (·.1)))) := Lib.hid (by
        have := HR.out
        rw [← HLM.out, fill_all] at this; exact this)
      go_wp2_with fail
      go_ret
      exact ⟨_, rfl, Nat.le_refl _, HRES.out, HB.out⟩

/-- What stands ahead of the rounds of the distribution. -/
def DistI (f : Int → Nat) (l : List (Int × Int)) (w : World) (gn gs : Nat) (k : Nat) (wr : World) : Prop :=
  ∃ S, TabAt wr gn (nx (fun p : Int × Int => f p.1) l k) ∧ CellRow wr gs (recs S) ∧ Fill (fun p : Int × Int => f p.1) l 1001 k S ∧ Below w.heap.size w wr

theorem cnt_map (f : Int → Nat) (l : List (Int × Int)) (d : Nat) : cnt f (l.map (·.1)) d = cnt (fun p : Int × Int => f p.1) l d := by
  unfold cnt inB
  rw [List.filter_map, List.length_map]; rfl
theorem st_map (f : Int → Nat) (l : List (Int × Int)) : ∀ d, st f (l.map (·.1)) d = st (fun p : Int × Int => f p.1) l d
  | 0 => rfl
  | d + 1 => by simp only [st, st_map f l d, cnt_map f l d]

set_option maxRecDepth 100000 in
set_option maxHeartbeats 8000000 in
theorem distributed_any (f : Int → Nat) (g : Nat) (lb : Array Value) (eg : ∀ args w, (callFunc g args).run Try.prog w = .ok (.enter g args) w) (v : Value) (l : List (Int × Int)) (w : World) (hv : FlatAt w v l.length (recs l)) (hn : l.length ≤ 1048576)
    (hf : ∀ p ∈ l, f p.1 < 1001) (hp : ∀ (W : World) x, x ∈ l.map (·.1) → Below w.heap.size w W → Calls Try.prog g (#[.int .i64 x] ++ lb) W fun e w' => e = .returned (.int .i64 (f x : Nat)) ∧ Below W.heap.size W w') :
    Calls Try.prog 73 #[v, .func (.func g) #[] lb] w (RowOfC (bk (fun p : Int × Int => f p.1) l 1001) w) := by
  have hfm : ∀ x ∈ l.map (·.1), f x < 1001 := fun x hx => by
    obtain ⟨p, hp, rfl⟩ := List.mem_map.1 hx; exact hf p hp
  obtain ⟨M, hM⟩ : ∃ M, M = bk (fun p : Int × Int => f p.1) l 1001 := ⟨_, rfl⟩
  have HDONE : Hid (∀ S, Fill (fun p : Int × Int => f p.1) l 1001 l.length S → S = M) := Lib.hid (fun S h => (h.done hf).trans hM.symm)
  rw [← hM]
  clear hM
  have HKEYS := Lib.hid (keysOf_any v l w hv hn)
  have HBC := Lib.hid (fun (gk : Nat) W (hk : CellRow W gk (ints (l.map (·.1)))) (hW : Below w.heap.size w W) => bucketCounts_any f g lb eg (.slice (some ⟨gk, 0, none⟩) l.length l.length) (l.map (·.1)) W (by rw [List.length_map]; exact hk.flat (Nat.le_refl _)) (by simpa using hn) hfm (fun W2 x hx h2 => hp W2 x hx (hW.trans (h2.mono hW.size))))
  have HST := Lib.hid (fun W => starts_any f (l.map (·.1)) W hfm (by simpa using hn))
  have HPR := Lib.hid hp
  have HF := Lib.hid hf
  have hmk := makeRec l.length hn
  obtain ⟨a, c, rfl, _, h⟩ := hv
  have H := Lib.hid h
  clear h hp hf hfm
  go_enter Try.func73, Try.ntmps73
  go_wp2_with fail
  refine HKEYS.out.mono ?_
  rintro e w1 ⟨gk, rfl, hgk, hrk, hb1⟩
  have HB1 := Lib.hid hb1
  have HC := Lib.hid (HBC.out gk w1 hrk hb1)
  clear hrk hb1 HKEYS HBC hgk
  go_wp2_with fail
  refine HC.out.mono ?_
  rintro e w2 ⟨rfl, hb2⟩
  have HB2 := Lib.hid (HB1.out.trans (hb2.mono HB1.out.size))
  clear hb2 HC HB1
  go_wp2_with fail
  refine (HST.out _).mono ?_
  rintro e w3 ⟨rfl, hb3⟩
  have HB3 := Lib.hid (HB2.out.trans (hb3.mono HB2.out.size))
  clear hb3 HST HB2
  obtain ⟨hr1, hr2⟩ := (TabAt.new w3 (fun _ => 0)).row (st f (l.map (·.1)))
  have hst := run_tabStore (st f (l.map (·.1))) (TabAt.new w3 (fun _ => 0))
  obtain ⟨W4, hW4⟩ : ∃ W4, W4 = (w3.alloc (.cells (tabA fun _ => 0) 95)).setRow w3.heap.size (tabA (st f (l.map (·.1)))) := ⟨_, rfl⟩
  rw [← hW4] at hr1 hr2 hst
  have hb34 : Below w3.heap.size w3 W4 := ((Below.refl _ _).alloc (Nat.le_refl _) _).trans (hr2.below (Nat.le_refl _) (by simp))
  have hsz4 : W4.heap.size = w3.heap.size + 1 := by rw [hW4]; unfold World.setRow; simp
  have HB4 := Lib.hid (HB3.out.trans (hb34.mono HB3.out.size))
  have hrow := heap_alloc_new W4 (.cells (recs (List.replicate l.length (0, 0))).toArray 45)
  have HI0 : Hid (DistI f l w w3.heap.size W4.heap.size 0 (W4.alloc (.cells (recs (List.replicate l.length (0, 0))).toArray 45))) := Lib.hid ⟨List.replicate l.length (0, 0), by
      have h1 : TabAt W4 w3.heap.size (nx (fun p : Int × Int => f p.1) l 0) := hr1.congr (fun d _ => by rw [st_map]; unfold nx; simp [cnt, inB])
      exact h1.below ((Below.refl W4.heap.size _).alloc (Nat.le_refl _) _) h1.lt, CellRow.of_row hrow, Fill.start _ _ _ (by simp), HB4.out.alloc HB4.out.size _⟩
  have hgn : w.heap.size ≤ w3.heap.size := HB3.out.size
  have HSZ := Lib.hid hsz4
  clear hr1 hr2 hW4 hb34 hrow HB3 HB4 hsz4
  go_wp2_with fail
  obtain ⟨gn, hgne⟩ : ∃ gn, gn = w3.heap.size := ⟨_, rfl⟩
  obtain ⟨gs, hgse⟩ : ∃ gs, gs = W4.heap.size := ⟨_, rfl⟩
  rw [← hgne, ← hgse] at HI0
  rw [← hgne] at hgn HSZ ⊢
  rw [← hgse] at HSZ ⊢
  have hgsn : gn < gs := by have := HSZ.out; omega
  have hng : ¬ gn = gs := by omega
  have hng2 : ¬ gs = gn := by omega
  clear HSZ hst hmk hgne hgse
  go_loopw [8, 9, 20] (fun _ _ i wr => ∃ k : Nat, k ≤ l.length ∧ i = .int .i64 k ∧ DistI f l w gn gs k wr) (fun _ _ i _ => l.length - (intOf i).toNat)
  case atStart => exact ⟨0, Nat.zero_le _, rfl, HI0.out⟩
  case round =>
    obtain ⟨k, hk, rfl, hd⟩ := hrel
    have HD := Lib.hid hd
    clear hd HI0
    by_cases hlt : k < l.length
    · have hltz : (k : Int) < (l.length : Int) := by omega
      obtain ⟨p, hp⟩ : ∃ p, l[k]? = some p := ⟨_, List.getElem?_eq_getElem hlt⟩
      obtain ⟨S, hT, hS, hFl, hB⟩ := HD.out
      obtain ⟨b, o, rfl, hbb, hc1, hc2⟩ := recs_el H.out hp
      have hw1 : wr.cell? ⟨b, o + k * 2, none⟩ = some (.int .i64 p.1) := (hB.cell (p := ⟨b, o + k * 2, none⟩) hbb).trans hc1
      have hw2 : wr.cell? ⟨b, o + k * 2 + 1, none⟩ = some (.int .i64 p.2) := (hB.cell (p := ⟨b, o + k * 2 + 1, none⟩) hbb).trans hc2
      have hpm := List.mem_of_getElem? hp
      have hfp := HF.out p hpm
      have hnl := nx_lt (f := fun p : Int × Int => f p.1) HF.out hp
      have HSTEP := Lib.hid (hFl.step HF.out hp)
      have HNX := Lib.hid (fun d => cnt_take_succ (f := fun p : Int × Int => f p.1) hp d)
      have hsl := hFl.1
      obtain ⟨x, y⟩ := p
      simp only at hw1 hw2 hfp hnl HSTEP HNX
      have hbA : Below wr.heap.size wr (wr.alloc (.cells #[.int .i64 x, .int .i64 y] 45)) := (Below.refl _ _).alloc (Nat.le_refl _) _
      have hbA2 : Below w.heap.size w (wr.alloc (.cells #[.int .i64 x, .int .i64 y] 45)) := hB.trans (hbA.mono hB.size)
      have HCALL := Lib.hid (HPR.out (wr.alloc (.cells #[.int .i64 x, .int .i64 y] 45)) x (List.mem_map_of_mem (f := (·.1)) hpm) hbA2)
      obtain ⟨d, hd⟩ : ∃ d, d = f x := ⟨_, rfl⟩
      obtain ⟨n, hn'⟩ : ∃ n, n = nx (fun p : Int × Int => f p.1) l k d := ⟨_, rfl⟩
      rw [← hd] at HCALL hfp hnl HSTEP HNX
      rw [← hn'] at hnl HSTEP
      have HN := Lib.hid hn'
      have hn64 : n ≤ 1048576 := by omega
      have HT := Lib.hid hT
      have HS := Lib.hid hS
      have HB := Lib.hid hB
      have HBA := Lib.hid hbA
      have hgl := hS.1
      have htl := hT.lt
      have hszA : (wr.alloc (.cells #[.int .i64 x, .int .i64 y] 45)).heap.size = wr.heap.size + 1 := by simp
      have HRC := Lib.hid (rec_new wr x y)
      have hdz : (d : Int) < 1001 := by omega
      have hnz : (n : Int) < (l.length : Int) := by omega
      clear hc1 hc2 hp hpm hd hn' hT hS hFl hB hbA hbA2 HF HPR HD
      go_wp2_with (
        go_at_fn g
        refine (HCALL.out).mono ?_
        rintro e w' ⟨rfl, hb'⟩
        rw [hszA] at hb'
        have HBW := Lib.hid (HBA.out.trans (hb'.mono (by omega)))
        obtain ⟨ct, ft⟩ := (HT.out.below HBW.out htl).at hfp
        rw [← HN.out] at ct
        obtain ⟨cr1, _⟩ := (HRC.out.below hb' (by omega)).2 0 _ rfl
        obtain ⟨cr2, _⟩ := (HRC.out.below hb' (by omega)).2 1 _ rfl
        obtain ⟨q, hq⟩ : ∃ q, S[n]? = some q := ⟨_, List.getElem?_eq_getElem (by omega)⟩
        obtain ⟨cs1, fs1⟩ := (HS.out.below HBW.out hgl).2 _ _ (recs_at hq).1
        obtain ⟨cs2, fs2⟩ := (HS.out.below HBW.out hgl).2 _ _ (recs_at hq).2
        clear hq hb')
      have HRES : Hid (DistI f l w gn gs (k + 1) (((w'.setCell ⟨gs, n * 2, none⟩ (.int .i64 x)).setCell ⟨gs, n * 2 + 1, none⟩ (.int .i64 y)).setCell ⟨gn, d, none⟩ (.int .i64 ((n : Int) + 1))).drew) := Lib.hid (by
        have hb1 : But gs w' ((w'.setCell ⟨gs, n * 2, none⟩ (.int .i64 x)).setCell ⟨gs, n * 2 + 1, none⟩ (.int .i64 y)) := ((But.refl gs w').setCell (n * 2) _).setCell (n * 2 + 1) _
        have hb2 : But gn ((w'.setCell ⟨gs, n * 2, none⟩ (.int .i64 x)).setCell ⟨gs, n * 2 + 1, none⟩ (.int .i64 y)) (((w'.setCell ⟨gs, n * 2, none⟩ (.int .i64 x)).setCell ⟨gs, n * 2 + 1, none⟩ (.int .i64 y)).setCell ⟨gn, d, none⟩ (.int .i64 ((n : Int) + 1))).drew := ((But.refl gn _).setCell d (.int .i64 ((n : Int) + 1))).drewN 1
        have hB := HB.out.trans (HBW.out.mono HB.out.size)
        have hB2 := hB.trans (hb1.below (by omega) hB.size)
        refine ⟨S.set n (x, y), ?_, ?_, HSTEP.out, hB2.trans (hb2.below hgn hB2.size)⟩
        · have h1 := (((HT.out.below HBW.out htl).but hb1 hng).put d (n + 1)).congr (h := nx (fun p : Int × Int => f p.1) l (k + 1)) (fun q _ => by
            have h2 := HNX.out q
            by_cases hq : q = d
            · subst hq
              rw [if_pos rfl] at h2 ⊢
              have := HN.out
              unfold nx at this ⊢
              omega
            · rw [if_neg (fun e => hq e.symm)] at h2
              rw [if_neg hq]
              unfold nx
              omega)
          exact h1
        · have h1 := ((HS.out.below HBW.out hgl).set (n * 2) (.int .i64 x) (by rw [recs_length]; omega)).set (n * 2 + 1) (.int .i64 y) (by rw [List.length_set, recs_length]; omega)
          rw [recs_set S n (x, y) (by omega)] at h1
          exact h1.but hb2 hng2)
      clear HSTEP HNX HN HT HS HB HBA HBW HRC HCALL
      go_wp2_with fail
      go_region
      all_goals (
        go_wp2_with fail
        go_roundw
        case rel => exact ⟨k + 1, by omega, by go_num, HRES.out⟩
        case measure => simp [intOf]; omega)
    · have hltz : ¬ (k : Int) < (l.length : Int) := by omega
      obtain rfl : k = l.length := by omega
      obtain ⟨S, hT, hS, hFl, hB⟩ := HD.out
      have HRES : Hid (RowOfC M w (.returned (.slice (some ⟨gs, 0, none⟩) l.length l.length)) wr) := Lib.hid (by
        have hl := hFl.1
        have e := HDONE.out S hFl
        rw [e] at hl hS
        exact ⟨gs, l.length, by rw [hl], Nat.le_of_eq hl, Nat.le_trans hgn (Nat.le_of_lt hgsn), hS, hB⟩)
      clear hT hS hFl hB HD HF HPR HDONE
      go_wp2_with fail
      go_ret
      exact HRES.out

end Go.Proofs.Ytebipiehkmhaiaa
end

section
/- The program's DigitOf, DigitCounts, RadixPass, by their contracts. -/
namespace Go.Proofs.Ytebipiehkmhaiaa
open Go.RowKit Rx P
set_option linter.unusedVariables false
attribute [local go_sem ↓ high] alloc_tab load_tab store_tab box_tab
attribute [local go_sem] run_tabNew

/-- The answer of an invalid call: no list. -/
theorem RetCE.none0 (w w1 : World) (hb : Below w.heap.size w w1) : RetCE ([], false) w (.returned (.tuple #[.slice none 0 0, .bool false])) w1 := .inr ⟨rfl, _, _, rfl, hb⟩
theorem Ret1CE.none0 (w w1 : World) (hb : Below w.heap.size w w1) : Ret1CE ([], 0, false) w (.returned (.tuple #[.slice none 0 0, .int .i64 0, .bool false])) w1 := .inr ⟨rfl, _, _, rfl, hb⟩
theorem RetIE.none0 (w w1 : World) (hb : Below w.heap.size w w1) : RetIE ([], false) w (.returned (.tuple #[.slice none 0 0, .bool false])) w1 := .inr ⟨rfl, _, _, rfl, hb⟩

theorem bk_any (l : List (Int × Int)) {b : Nat} (p : Nat) (hb : 0 < b) (hb2 : b ≤ 256) : bk (dgR b p) l 1001 = bk (dgR b p) l b :=
  (bk_of (f := dgR b p) fun x _ => Nat.lt_of_lt_of_le (dg_lt hb p _) (by omega)).uniq (bk_of (f := dgR b p) fun x _ => dg_lt hb p _)

/-- A pass over records whose keys are valid. -/
theorem pass_any (b p : Nat) (gb gp : Nat) (v : Value) (l : List (Int × Int)) (w : World) (hv : FlatAt w v l.length (recs l)) (hn : l.length ≤ 1048576) (hk : ∀ q ∈ l, -100000 ≤ q.1 ∧ q.1 ≤ 100000) (hb : 2 ≤ b) (hb2 : b ≤ 256) (hp : p ≤ 17)
    (hc : ∀ W, Below w.heap.size w W → W.cell? ⟨gb, 0, none⟩ = some (.int .i64 (b : Int)) ∧ W.cell? ⟨gp, 0, none⟩ = some (.int .i64 (p : Int))) :
    Calls Try.prog 73 #[v, .func (.func 127) #[] #[.pointer (some ⟨gb, 0, none⟩), .pointer (some ⟨gp, 0, none⟩)]] w (RowOfC (bk (dgR b p) l b) w) := by
  rw [← bk_any l p (by omega) hb2]
  exact distributed_any (dgI b p) 127 #[.pointer (some ⟨gb, 0, none⟩), .pointer (some ⟨gp, 0, none⟩)] enters_digit v l w hv hn (fun q _ => Nat.lt_of_lt_of_le (dg_lt (by omega) p _) (by omega)) (fun W x hx hW => by
    obtain ⟨q, hq, rfl⟩ := List.mem_map.1 hx
    obtain ⟨c1, c2⟩ := hc W hW
    exact digitFn_any q.1 b p gb gp W c1 c2 (hk q hq).1 (hk q hq).2 hb hb2 hp)

theorem implDof_any (k b p : Int) (W : World) :
    Calls Try.prog 30 #[.int .i64 k, .int .i64 b, .int .i64 p] W fun e w' => e = .returned (.tuple #[.int .i64 (dofAll k b p).1, .bool (dofAll k b p).2]) ∧ Below W.heap.size W w' := by
  have HO := Lib.hid (fun W => isOutside_any k W)
  have HB := Lib.hid (fun W => isBP_any b p W)
  by_cases hk : -100000 ≤ k ∧ k ≤ 100000
  · have hko : outK k = false := by unfold outK; simp; omega
    rw [hko] at HO
    by_cases hbp : OkBP b p
    · rw [decide_eq_true hbp] at HB
      obtain ⟨⟨hb1, hb2⟩, hp1, hp2⟩ := hbp
      obtain ⟨b, rfl⟩ : ∃ n : Nat, b = n := ⟨b.toNat, by omega⟩
      obtain ⟨p, rfl⟩ : ∃ n : Nat, p = n := ⟨p.toNat, by omega⟩
      have HS := Lib.hid (fun W => shifted_any k W hk.1 hk.2)
      have HD := Lib.hid (fun W => digit_any (sk k) b p W (by omega) (by omega) (by omega) (sk_le hk.2))
      rw [← sk_eq hk.1] at HD
      have HF : Hid (dofAll k (b : Int) (p : Int) = (((dg b p (sk k) : Nat) : Int), true)) := Lib.hid (dofAll_yes ⟨hk, ⟨hb1, hb2⟩, hp1, hp2⟩)
      rw [HF.out]
      clear hk hko hb1 hb2 hp1 hp2 HF
      generalize dg b p (sk k) = r at *
      go_enter Try.func30, Try.ntmps30
      go_wp2_with fail
      refine (HO.out _).mono ?_
      rintro e w1 ⟨rfl, rfl⟩
      go_wp2_with fail
      refine (HB.out _).mono ?_
      rintro e w1 ⟨rfl, rfl⟩
      go_wp2_with fail
      refine (HS.out _).mono ?_
      rintro e w1 ⟨rfl, rfl⟩
      go_wp2_with fail
      refine (HD.out _).mono ?_
      rintro e w1 ⟨rfl, rfl⟩
      go_wp2_with fail
      go_ret2
      exact ⟨rfl, Below.refl _ _⟩
    · rw [decide_eq_false hbp] at HB
      have HF : Hid (dofAll k b p = (0, false)) := Lib.hid (dofAll_no fun h => hbp h.2)
      rw [HF.out]
      clear hk hko hbp HF
      go_enter Try.func30, Try.ntmps30
      go_wp2_with fail
      refine (HO.out _).mono ?_
      rintro e w1 ⟨rfl, rfl⟩
      go_wp2_with fail
      refine (HB.out _).mono ?_
      rintro e w1 ⟨rfl, rfl⟩
      go_wp2_with fail
      go_ret2
      exact ⟨rfl, Below.refl _ _⟩
  · have hko : outK k = true := by unfold outK; simp; omega
    rw [hko] at HO
    have HF : Hid (dofAll k b p = (0, false)) := Lib.hid (dofAll_no fun h => hk h.1)
    rw [HF.out]
    clear hk hko HF
    go_enter Try.func30, Try.ntmps30
    go_wp2_with fail
    refine (HO.out _).mono ?_
    rintro e w1 ⟨rfl, rfl⟩
    go_wp2_with fail
    go_ret2
    exact ⟨rfl, Below.refl _ _⟩

set_option maxRecDepth 100000 in
set_option maxHeartbeats 4000000 in
theorem implRpY_any (b' o c : Nat) (l : List (Int × Int)) (b p : Nat) (w : World) (hv : FlatAt w (.slice (some ⟨b', o, none⟩) l.length c) l.length (recs l)) (hok : OkR l) (hb : 2 ≤ b) (hb2 : b ≤ 256) (hp : p ≤ 17) :
    Calls Try.prog 27 #[.slice (some ⟨b', o, none⟩) l.length c, .int .i64 (b : Int), .int .i64 (p : Int)] w (RetC (bk (dgR b p) l b, true) w) := by
  have hn : l.length ≤ 1048576 := by have := hok.1; omega
  have HV := Lib.hid (implValidRecs_any _ l w hv hn)
  have HB := Lib.hid (fun W => isBP_any (b : Int) (p : Int) W)
  rw [decide_eq_true hok] at HV
  rw [decide_eq_true (show OkBP (b : Int) (p : Int) from ⟨⟨by omega, by omega⟩, by omega, by omega⟩)] at HB
  have HDA := Lib.hid (fun W => digitAt_any (b : Int) (p : Int) W)
  have HPS := Lib.hid (fun (W W2 : World) (h1 : Below w.heap.size w W) (h2 : W2 = (W.alloc (.cells #[.int .i64 (b : Int)] 3)).alloc (.cells #[.int .i64 (p : Int)] 3)) =>
    pass_any b p W.heap.size (W.heap.size + 1) (.slice (some ⟨b', o, none⟩) l.length c) l W2 (by rw [h2]; exact (hv.below h1).below (digit_boxes (b : Int) (p : Int) W).1) hn (fun q hq => hok.key hq) (by omega) (by omega) (by omega) (by rw [h2]; exact (digit_boxes (b : Int) (p : Int) W).2))
  have HBX := Lib.hid (fun (W : World) => (digit_boxes (b : Int) (p : Int) W).1)
  clear hok hv hb hb2 hp
  generalize bk (dgR b p) l b = M at *
  go_enter Try.func27, Try.ntmps27
  go_wp2_with fail
  refine HV.out.mono ?_
  rintro e w1 ⟨rfl, hb1⟩
  have HB1 := Lib.hid hb1
  clear hb1 HV
  go_wp2_with fail
  refine (HB.out _).mono ?_
  rintro e w1' ⟨rfl, rfl⟩
  go_wp2_with fail
  refine (HDA.out _).mono ?_
  rintro e w2 ⟨rfl, hw2⟩
  have HP := Lib.hid (HPS.out w1' w2 HB1.out hw2)
  have HB2 : Hid (Below w.heap.size w w2) := Lib.hid (by rw [hw2]; exact HB1.out.trans ((HBX.out w1').mono HB1.out.size))
  clear hw2 HPS HBX HB1 HDA HB
  go_wp2_with fail
  refine HP.out.mono ?_
  rintro e w3 ⟨g, cg, rfl, hcg, hg, hrow, hb3⟩
  have HRES : Hid (RetC (M, true) w (.returned (.tuple #[.slice (some ⟨g, 0, none⟩) M.length cg, .bool true])) w3) := Lib.hid ⟨g, cg, rfl, hcg, Nat.le_trans HB2.out.size hg, hrow, HB2.out.trans (hb3.mono HB2.out.size)⟩
  clear hcg hg hrow hb3 HP HB2
  go_wp2_with fail
  go_ret2
  exact HRES.out

set_option maxRecDepth 100000 in
set_option maxHeartbeats 4000000 in
theorem implRp_any (b' o c : Nat) (l : List (Int × Int)) (b p : Int) (w : World) (hv : FlatAt w (.slice (some ⟨b', o, none⟩) l.length c) l.length (recs l)) (hn : l.length ≤ 1048576) :
    Calls Try.prog 27 #[.slice (some ⟨b', o, none⟩) l.length c, .int .i64 b, .int .i64 p] w (RetCE (rpAll l b p) w) := by
  have HV := Lib.hid (implValidRecs_any _ l w hv hn)
  have HB := Lib.hid (fun W => isBP_any b p W)
  have HNONE := Lib.hid (fun (h : ¬ (OkR l ∧ OkBP b p)) => rpAll_no h)
  by_cases hok : OkR l
  · rw [decide_eq_true hok] at HV
    by_cases hbp : OkBP b p
    · rw [decide_eq_true hbp] at HB
      have HF := Lib.hid (rpAll_yes ⟨hok, hbp⟩)
      obtain ⟨⟨hb1, hb2⟩, hp1, hp2⟩ := hbp
      obtain ⟨b, rfl⟩ : ∃ n : Nat, b = n := ⟨b.toNat, by omega⟩
      obtain ⟨p, rfl⟩ : ∃ n : Nat, p = n := ⟨p.toNat, by omega⟩
      rw [HF.out]
      simp only [Int.toNat_natCast]
      exact (implRpY_any b' o c l b p w hv hok (by omega) (by omega) (by omega)).mono fun _ _ h => .inl h
    · rw [decide_eq_false hbp] at HB
      rw [HNONE.out fun h => hbp h.2]
      clear hok hbp hv HNONE
      go_enter Try.func27, Try.ntmps27
      go_wp2_with fail
      refine HV.out.mono ?_
      rintro e w1 ⟨rfl, hb1⟩
      have HRES := Lib.hid (RetCE.none0 w w1 hb1)
      clear hb1 HV
      go_wp2_with fail
      refine (HB.out _).mono ?_
      rintro e w1' ⟨rfl, rfl⟩
      go_wp2_with fail
      go_ret2
      exact HRES.out
  · rw [decide_eq_false hok] at HV
    rw [HNONE.out fun h => hok h.1]
    clear hok hv HNONE
    go_enter Try.func27, Try.ntmps27
    go_wp2_with fail
    refine HV.out.mono ?_
    rintro e w1 ⟨rfl, hb1⟩
    have HRES := Lib.hid (RetCE.none0 w w1 hb1)
    clear hb1 HV
    go_wp2_with fail
    go_ret2
    exact HRES.out

end Go.Proofs.Ytebipiehkmhaiaa
end

section
/- slices.MaxFunc at records by their keys, by its contract. -/
namespace Go.Proofs.Ytebipiehkmhaiaa
open Go.RowKit Go.Lib
set_option linter.unusedVariables false

theorem below_grow (W : World) (q : Nat) (os' : Array Obj) : Below W.heap.size W (Go.Sort.grow (W.drewN q) os') :=
  ⟨rfl, rfl, rfl, by rw [Go.Sort.size_grow]; exact Nat.le_add_right _ _, fun k hk => Go.Sort.heap_grow_old _ _ hk⟩

theorem infoRecSz : (Try.prog.info? 45).map (·.size) = some 2 := by kernel_rfl

set_option maxRecDepth 100000 in
set_option maxHeartbeats 4000000 in
theorem maxFunc_any (v : Value) (l : List (Int × Int)) (w : World) (hv : FlatAt w v l.length (recs l)) (hn : l.length ≤ 1048576) (hne : 0 < l.length) :
    Calls Try.prog 76 #[v, .func (.func 68) #[] #[]] w fun e w' => ∃ p : Int × Int, e = .returned (.agg #[.int .i64 p.1, .int .i64 p.2]) ∧ p ∈ l ∧ (∀ q ∈ l, q.1 ≤ p.1) ∧ Below w.heap.size w w' := by
  obtain ⟨a, c, rfl, _, h⟩ := hv
  have H := Lib.hid h
  clear h
  have eg : ∀ args w, (callFunc 68 args).run Try.prog w = .ok (.enter 68 args) w := enters_of Try.func68 (by kernel_rfl) rfl
  obtain ⟨⟨x0, y0⟩, hp0⟩ : ∃ p, l[0]? = some p := ⟨_, List.getElem?_eq_getElem hne⟩
  obtain ⟨b, o, rfl, hbb, hc0, hc1⟩ := recs_el H.out hp0
  rw [Nat.zero_mul, Nat.add_zero] at hc0 hc1
  simp only at hc0 hc1
  have HP0 := Lib.hid hp0
  have hnez : ¬ (l.length : Int) < 1 := by omega
  have hnez2 : (0 : Int) < (l.length : Int) := by omega
  obtain ⟨W0, hW0⟩ : ∃ W0, W0 = (w.alloc (.cells #[.int .i64 0, .int .i64 0] 45)).alloc (.cells #[.int .i64 x0, .int .i64 y0] 45) := ⟨_, rfl⟩
  have hs0 : (w.alloc (.cells #[.int .i64 0, .int .i64 0] 45)).heap.size = w.heap.size + 1 := by simp
  have HR0 : Hid (RowIs W0 w.heap.size 45 [.int .i64 0, .int .i64 0] ∧ RowIs W0 (w.heap.size + 1) 45 [.int .i64 x0, .int .i64 y0] ∧ Below w.heap.size w W0) := Lib.hid (by
    rw [hW0]
    refine ⟨?_, ?_, ((Below.refl _ _).alloc (Nat.le_refl _) _).alloc (by omega) _⟩
    · exact RowIs.below (heap_alloc_new w _) ((Below.refl (w.heap.size + 1) _).alloc (by omega) _) (by omega)
    · have := heap_alloc_new (w.alloc (.cells #[.int .i64 0, .int .i64 0] 45)) (.cells #[.int .i64 x0, .int .i64 y0] 45)
      rw [hs0] at this; exact this)
  clear hp0 hs0
  go_enter Try.func76, Try.ntmps76
  go_wp2_with fail
  rw [← hW0]
  clear hW0 hc0 hc1
  go_loopw [6] (fun iv wr => ∃ (k : Nat) (p : Int × Int), 1 ≤ k ∧ k ≤ l.length ∧ iv = .int .i64 k ∧ p ∈ l.take k ∧ (∀ q ∈ l.take k, q.1 ≤ p.1) ∧ RowIs wr w.heap.size 45 [.int .i64 0, .int .i64 0] ∧ RowIs wr (w.heap.size + 1) 45 [.int .i64 p.1, .int .i64 p.2] ∧ Below w.heap.size w wr) (fun iv _ => l.length - (intOf iv).toNat)
  case atStart =>
    have ht : l.take 1 = [(x0, y0)] := by rw [List.take_add_one, HP0.out]; rfl
    exact ⟨1, (x0, y0), Nat.le_refl _, hne, rfl, by rw [ht]; simp, by rw [ht]; simp, HR0.out.1, HR0.out.2.1, HR0.out.2.2⟩
  case round =>
    obtain ⟨k, ⟨x, y⟩, hk1, hk, rfl, hpm, hpa, hr1, hr2, hb⟩ := hrel
    have HB := Lib.hid hb
    have HR1 := Lib.hid hr1
    have HR2 := Lib.hid hr2
    have HPM := Lib.hid hpm
    have HPA := Lib.hid hpa
    clear hb hr1 hr2 hpm hpa HR0 HP0
    by_cases hlt : k < l.length
    · have hltz : (k : Int) < (l.length : Int) := by omega
      obtain ⟨⟨s, t⟩, hp⟩ : ∃ p, l[k]? = some p := ⟨_, List.getElem?_eq_getElem hlt⟩
      obtain ⟨b2, o2, he2, hbb2, hc0, hc1⟩ := recs_el H.out hp
      obtain rfl : b = b2 := congrArg Addr.block (Option.some.inj he2)
      obtain rfl : o = o2 := congrArg Addr.off (Option.some.inj he2)
      simp only at hc0 hc1
      have cx : ∀ W, Below w.heap.size w W → W.cell? ⟨b, o + k * 2, none⟩ = some (.int .i64 s) ∧ W.cell? ⟨b, o + k * 2 + 1, none⟩ = some (.int .i64 t) := fun W hW => ⟨(hW.cell (p := ⟨b, o + k * 2, none⟩) hbb).trans hc0, (hW.cell (p := ⟨b, o + k * 2 + 1, none⟩) hbb).trans hc1⟩
      have HCX := Lib.hid cx
      obtain ⟨d0, d1⟩ := cx wr HB.out
      have m0 := HR2.out.cell 0
      have m1 := HR2.out.cell 1
      have m2 : wr.cell? ⟨w.heap.size + 1, 0, none⟩ = some (.int .i64 x) := m0.trans rfl
      have m3 : wr.cell? ⟨w.heap.size + 1, 1, none⟩ = some (.int .i64 y) := m1.trans rfl
      have HTK : Hid (l.take (k + 1) = l.take k ++ [(s, t)]) := Lib.hid (by rw [List.take_add_one, hp]; rfl)
      have HC : Hid (∀ n, Calls Try.prog 68 #[.agg #[.int .i64 s, .int .i64 t], .agg #[.int .i64 x, .int .i64 y]] (wr.drewN n) fun e w' => e = .returned (.int .i64 (compareInt s x)) ∧ Below wr.heap.size wr w') := Lib.hid (fun n => (compareKeys_any (s, t) (x, y) (wr.drewN n)).mono (by
        rintro e w' ⟨h1, q, os', h2⟩
        refine ⟨h1, ?_⟩
        rw [h2]
        have hd : Below wr.heap.size wr (wr.drewN n) := ⟨rfl, rfl, rfl, Nat.le_refl _, fun _ _ => rfl⟩
        exact hd.trans (below_grow (wr.drewN n) q os')))
      have hbbr : b < wr.heap.size := Nat.lt_of_lt_of_le hbb HB.out.size
      clear hc0 hc1 hp cx he2 m0 m1
      have HTKP : Hid (∀ q ∈ l.take (k + 1), q ∈ l.take k ∨ q = (s, t)) := Lib.hid (fun q hq => by rw [HTK.out] at hq; rcases List.mem_append.1 hq with h | h; exact .inl h; exact .inr (List.mem_singleton.1 h))
      by_cases hgt : x < s
      · have hcv : Hid (compareInt s x = 1) := Lib.hid (by unfold compareInt; rw [if_neg (by omega), if_pos hgt])
        rw [hcv.out] at HC
        go_wp2_with fail
        go_region_with (go_at_fn 68; refine (HC.out 1).mono ?_; rintro e w2 ⟨rfl, hb2⟩)
        all_goals (
          have HB2 := Lib.hid (HB.out.trans (hb2.mono HB.out.size))
          have HS1 := Lib.hid (HR1.out.below hb2 HR1.out.lt)
          have HS2 := Lib.hid (HR2.out.below hb2 HR2.out.lt)
          obtain ⟨f0, f1⟩ := HCX.out w2 HB2.out
          have n2 : w2.cell? ⟨w.heap.size + 1, 0, none⟩ = some (.int .i64 x) := (HS2.out.cell 0).trans rfl
          have n3 : w2.cell? ⟨w.heap.size + 1, 1, none⟩ = some (.int .i64 y) := (HS2.out.cell 1).trans rfl
          have n4 := HS2.out.frozen 0
          have n5 := HS2.out.frozen 1
          have HRES : Hid ((s, t) ∈ l.take (k + 1) ∧ (∀ q ∈ l.take (k + 1), q.1 ≤ s) ∧ RowIs ((w2.setCell ⟨w.heap.size + 1, 0, none⟩ (.int .i64 s)).setCell ⟨w.heap.size + 1, 1, none⟩ (.int .i64 t)) w.heap.size 45 [.int .i64 0, .int .i64 0] ∧
              RowIs ((w2.setCell ⟨w.heap.size + 1, 0, none⟩ (.int .i64 s)).setCell ⟨w.heap.size + 1, 1, none⟩ (.int .i64 t)) (w.heap.size + 1) 45 [.int .i64 s, .int .i64 t] ∧ Below w.heap.size w ((w2.setCell ⟨w.heap.size + 1, 0, none⟩ (.int .i64 s)).setCell ⟨w.heap.size + 1, 1, none⟩ (.int .i64 t))) := Lib.hid (by
            have hbt := ((But.refl (w.heap.size + 1) w2).setCell 0 (.int .i64 s)).setCell 1 (.int .i64 t)
            refine ⟨by rw [HTK.out]; simp, fun q hq => ?_, HS1.out.but hbt (by omega), ?_, HB2.out.trans (hbt.below (by omega) HB2.out.size)⟩
            · rcases HTKP.out q hq with h | h
              · have := HPA.out q h; omega
              · rw [h]; exact Int.le_refl _
            · exact (HS2.out.stored 0 (.int .i64 s)).stored 1 (.int .i64 t))
          clear hb2 HB HR1 HR2 HPM HPA HTK HTKP HC HCX d0 d1 m2 m3 HB2 HS1 HS2
          go_wp2_with fail
          go_roundw
          case rel => exact ⟨k + 1, (s, t), by omega, by omega, by go_num, HRES.out.1, HRES.out.2.1, HRES.out.2.2.1, HRES.out.2.2.2.1, HRES.out.2.2.2.2⟩
          case measure => simp [intOf]; omega)
      · have hcv : Hid (¬ (0 : Int) < compareInt s x) := Lib.hid (by
          unfold compareInt
          by_cases h : s < x
          · rw [if_pos h]; decide
          · rw [if_neg h, if_neg hgt]; decide)
        generalize compareInt s x = r at HC hcv
        have hr := hcv.out
        have hrd : decide ((0 : Int) < r) = false := decide_eq_false hr
        go_wp2_with fail
        go_region_with (go_at_fn 68; refine (HC.out 1).mono ?_; rintro e w2 ⟨rfl, hb2⟩)
        all_goals (
          have HRES : Hid ((x, y) ∈ l.take (k + 1) ∧ (∀ q ∈ l.take (k + 1), q.1 ≤ x) ∧ RowIs w2 w.heap.size 45 [.int .i64 0, .int .i64 0] ∧
              RowIs w2 (w.heap.size + 1) 45 [.int .i64 x, .int .i64 y] ∧ Below w.heap.size w w2) := Lib.hid (by
            refine ⟨by rw [HTK.out]; exact List.mem_append_left _ HPM.out, fun q hq => ?_, HR1.out.below hb2 HR1.out.lt, HR2.out.below hb2 HR2.out.lt, HB.out.trans (hb2.mono HB.out.size)⟩
            rcases HTKP.out q hq with h | h
            · exact HPA.out q h
            · rw [h]; simp only; omega)
          clear hb2 HB HR1 HR2 HPM HPA HTK HTKP HC HCX d0 d1 m2 m3
          go_wp2_with fail
          go_roundw
          case rel => exact ⟨k + 1, (x, y), by omega, by omega, by go_num, HRES.out.1, HRES.out.2.1, HRES.out.2.2.1, HRES.out.2.2.2.1, HRES.out.2.2.2.2⟩
          case measure => simp [intOf]; omega)
    · have hltz : ¬ (k : Int) < (l.length : Int) := by omega
      obtain rfl : k = l.length := by omega
      rw [List.take_length] at HPM HPA
      have m2 : wr.cell? ⟨w.heap.size + 1, 0, none⟩ = some (.int .i64 x) := (HR2.out.cell 0).trans rfl
      have m3 : wr.cell? ⟨w.heap.size + 1, 1, none⟩ = some (.int .i64 y) := (HR2.out.cell 1).trans rfl
      have n2 : wr.cell? ⟨w.heap.size, 0, none⟩ = some (.int .i64 0) := (HR1.out.cell 0).trans rfl
      have n3 : wr.cell? ⟨w.heap.size, 1, none⟩ = some (.int .i64 0) := (HR1.out.cell 1).trans rfl
      have n4 := HR1.out.frozen 0
      have n5 := HR1.out.frozen 1
      have HRES : Hid (RowIs ((wr.setCell ⟨w.heap.size, 0, none⟩ (.int .i64 x)).setCell ⟨w.heap.size, 1, none⟩ (.int .i64 y)) w.heap.size 45 [.int .i64 x, .int .i64 y] ∧ Below w.heap.size w ((wr.setCell ⟨w.heap.size, 0, none⟩ (.int .i64 x)).setCell ⟨w.heap.size, 1, none⟩ (.int .i64 y))) := Lib.hid
        ⟨(HR1.out.stored 0 (.int .i64 x)).stored 1 (.int .i64 y), HB.out.trans ((((But.refl w.heap.size wr).setCell 0 _).setCell 1 _).below (Nat.le_refl _) HB.out.size)⟩
      go_wp2_with fail
      refine bodyPost_ret (results_cell_row rfl _ _ w.heap.size 45 #[.int .i64 x, .int .i64 y] (0, 0) _ rfl HRES.out.1 Try.underlying45 rfl infoRecSz) rfl ?_
      first | exact ⟨(x, y), rfl, HPM.out, HPA.out, HRES.out.2⟩ | exact ⟨x, y, rfl, HPM.out, HPA.out, HRES.out.2⟩ | exact ⟨x, y, rfl, HPM.out, fun a b h => HPA.out (a, b) h, HRES.out.2⟩

end Go.Proofs.Ytebipiehkmhaiaa
end

section
/- The program's PassesNeeded, RadixSort, by their contracts. -/
namespace Go.Proofs.Ytebipiehkmhaiaa
open Go.RowKit Rx P
set_option linter.unusedVariables false

theorem most_max {l : List (Int × Int)} {b : Nat} (hok : OkR l) (hb : 2 ≤ b) {p : Int × Int} (hp : p ∈ l) (h : ∀ q ∈ l, q.1 ≤ p.1) : most b (sks l) = dl b (sk p.1) :=
  most_of hb (List.mem_map_of_mem (f := fun p : Int × Int => sk p.1) hp) fun n hn => by
    obtain ⟨q, hq, rfl⟩ := List.mem_map.1 hn
    have h1 := h q hq
    simp only [sk]; omega

set_option maxRecDepth 100000 in
set_option maxHeartbeats 4000000 in
theorem implPn_any (b' o c : Nat) (l : List (Int × Int)) (b : Int) (w : World) (hv : FlatAt w (.slice (some ⟨b', o, none⟩) l.length c) l.length (recs l)) (hn : l.length ≤ 1048576) :
    Calls Try.prog 26 #[.slice (some ⟨b', o, none⟩) l.length c, .int .i64 b] w fun e w' => e = .returned (.tuple #[.int .i64 (pnAll l b).1, .bool (pnAll l b).2]) ∧ Below w.heap.size w w' := by
  have HV := Lib.hid (implValidRecs_any _ l w hv hn)
  have HB := Lib.hid (fun W => isBase_any b W)
  have HNONE := Lib.hid (fun (h : ¬ (OkR l ∧ OkB b)) => pnAll_no h)
  by_cases hok : OkR l
  · rw [decide_eq_true hok] at HV
    by_cases hbp : 2 ≤ b ∧ b ≤ 256
    · rw [decide_eq_true hbp] at HB
      have HF := Lib.hid (pnAll_yes ⟨hok, hbp⟩)
      obtain ⟨hb1, hb2⟩ := hbp
      obtain ⟨b, rfl⟩ : ∃ n : Nat, b = n := ⟨b.toNat, by omega⟩
      rw [HF.out]
      simp only [Int.toNat_natCast]
      by_cases h0 : l.length = 0
      · have HM : Hid (most b (sks l) = 0) := Lib.hid (by rw [List.eq_nil_of_length_eq_zero h0]; rfl)
        rw [HM.out]
        clear hok hv hb1 hb2 HF HNONE HM
        obtain rfl : l = [] := List.eq_nil_of_length_eq_zero h0
        simp only [List.length_nil] at HV ⊢
        clear h0 hn
        go_enter Try.func26, Try.ntmps26
        go_wp2_with fail
        refine HV.out.mono ?_
        rintro e w1 ⟨rfl, hb1⟩
        have HB1 := Lib.hid hb1
        clear hb1 HV
        go_wp2_with fail
        refine (HB.out _).mono ?_
        rintro e w1' ⟨rfl, rfl⟩
        clear HB
        go_wp2_with fail
        go_ret2
        exact ⟨rfl, HB1.out⟩
      · have h0z : ¬ (l.length : Int) = 0 := by omega
        have HMX := Lib.hid (fun W (h : Below w.heap.size w W) => maxFunc_any _ l W (hv.below h) hn (by omega))
        have HMM := Lib.hid (fun (p : Int × Int) hp h => most_max (b := b) (p := p) hok (by omega) hp h)
        have HSH := Lib.hid (fun (p : Int × Int) (hp : p ∈ l) W => shifted_any p.1 W (hok.key hp).1 (hok.key hp).2)
        have HLG := Lib.hid (fun (p : Int × Int) (hp : p ∈ l) W => length_any (sk p.1) b W (by omega) (by omega) (sk_le (hok.key hp).2))
        have HKE := Lib.hid (fun (p : Int × Int) (hp : p ∈ l) => sk_eq (hok.key hp).1)
        clear hok hv hb1 hb2 HF HNONE
        generalize most b (sks l) = M at *
        go_enter Try.func26, Try.ntmps26
        go_wp2_with fail
        refine HV.out.mono ?_
        rintro e w1 ⟨rfl, hb1⟩
        have HB1 := Lib.hid hb1
        clear hb1 HV
        go_wp2_with fail
        refine (HB.out _).mono ?_
        rintro e w1' ⟨rfl, rfl⟩
        clear HB
        go_wp2_with fail
        refine (HMX.out _ HB1.out).mono ?_
        rintro e w2 ⟨⟨x, y⟩, rfl, hpm, hpa, hb2⟩
        have HB2 := Lib.hid (HB1.out.trans (hb2.mono HB1.out.size))
        have HS := Lib.hid (HSH.out (x, y) hpm)
        have HL := Lib.hid (HLG.out (x, y) hpm)
        have HE := Lib.hid (HMM.out (x, y) hpm hpa)
        have HK := Lib.hid (HKE.out (x, y) hpm)
        have HB3 : Hid (Below w.heap.size w (w2.alloc (.cells #[.int .i64 x, .int .i64 y] 45))) := Lib.hid (HB2.out.alloc HB2.out.size _)
        simp only at HS HL HE HK
        rw [← HK.out] at HL
        rw [← HE.out] at HL
        clear hpm hpa hb2 HB1 HMX HSH HLG HMM HB2 HKE HE HK
        go_wp2_with fail
        refine (HS.out _).mono ?_
        rintro e w3 ⟨rfl, rfl⟩
        go_wp2_with fail
        refine (HL.out _).mono ?_
        rintro e w3 ⟨rfl, rfl⟩
        go_wp2_with fail
        go_ret2
        exact ⟨rfl, HB3.out⟩
    · rw [decide_eq_false hbp] at HB
      rw [HNONE.out fun h => hbp h.2]
      clear hok hbp hv HNONE
      go_enter Try.func26, Try.ntmps26
      go_wp2_with fail
      refine HV.out.mono ?_
      rintro e w1 ⟨rfl, hb1⟩
      have HRES := Lib.hid hb1
      clear hb1 HV
      go_wp2_with fail
      refine (HB.out _).mono ?_
      rintro e w1' ⟨rfl, rfl⟩
      go_wp2_with fail
      go_ret2
      exact ⟨rfl, HRES.out⟩
  · rw [decide_eq_false hok] at HV
    rw [HNONE.out fun h => hok h.1]
    clear hok hv HNONE
    go_enter Try.func26, Try.ntmps26
    go_wp2_with fail
    refine HV.out.mono ?_
    rintro e w1 ⟨rfl, hb1⟩
    have HRES := Lib.hid hb1
    clear hb1 HV
    go_wp2_with fail
    go_ret2
    exact ⟨rfl, HRES.out⟩

set_option maxRecDepth 100000 in
set_option maxHeartbeats 8000000 in
theorem implRs_any (b' o c : Nat) (l : List (Int × Int)) (b : Int) (w : World) (hv : FlatAt w (.slice (some ⟨b', o, none⟩) l.length c) l.length (recs l)) (hn : l.length ≤ 1048576) :
    Calls Try.prog 25 #[.slice (some ⟨b', o, none⟩) l.length c, .int .i64 b] w (Ret1CE (rsAll l b) w) := by
  have HPN := Lib.hid (implPn_any b' o c l b w hv hn)
  by_cases hall : OkR l ∧ OkB b
  · have HF := Lib.hid (rsAll_yes hall)
    rw [pnAll_yes hall] at HPN
    obtain ⟨hok, hb1, hb2⟩ := hall
    obtain ⟨b, rfl⟩ : ∃ n : Nat, b = n := ⟨b.toNat, by omega⟩
    rw [HF.out]
    simp only [Int.toNat_natCast] at HPN ⊢
    have HCL := Lib.hid (fun W (h : Below w.heap.size w W) => cloneRecs_any b' o c l W (hv.below h) hn)
    have HST := Lib.hid (passes_stb (b := b) hok (by omega))
    have hm18 := most_18 (b := b) hok (by omega)
    have hbn : 2 ≤ b := by omega
    have hbn2 : b ≤ 256 := by omega
    have HOK := Lib.hid hok
    have HLEN : Hid (∀ k, (passes (fun p : Int × Int => sk p.1) b l k).length = l.length) := Lib.hid (fun k => (passes_of (key := fun p : Int × Int => sk p.1) hbn l k).length)
    have HMEM : Hid (∀ k, ∀ q ∈ passes (fun p : Int × Int => sk p.1) b l k, -100000 ≤ q.1 ∧ q.1 ≤ 100000) := Lib.hid (fun k q hq => hok.key (((passes_of (key := fun p : Int × Int => sk p.1) hbn l k).mem q).1 hq))
    have HSL := Lib.hid (stb_len l)
    have HDA := Lib.hid (fun (p : Nat) W => digitAt_any (b : Int) (p : Int) W)
    have HBX := Lib.hid (fun (p : Nat) (W : World) => digit_boxes (b : Int) (p : Int) W)
    have HN := Lib.hid hn
    have HBB : Hid (2 ≤ b ∧ b ≤ 256) := Lib.hid ⟨hbn, hbn2⟩
    clear hok hv hb1 hb2 HF hbn hbn2
    generalize most b (sks l) = m at *
    go_enter Try.func25, Try.ntmps25
    go_wp2_with fail
    refine HPN.out.mono ?_
    rintro e w1 ⟨rfl, hb1⟩
    have HB1 := Lib.hid hb1
    clear hb1 HPN
    go_wp2_with fail
    refine (HCL.out _ HB1.out).mono ?_
    rintro e w2 ⟨g, cg, rfl, hcg, hg, hrow, hb2⟩
    have HR2 := Lib.hid hrow
    have HB2 := Lib.hid (HB1.out.trans (hb2.mono HB1.out.size))
    have HG2 : Hid (w.heap.size ≤ g) := Lib.hid (Nat.le_trans HB1.out.size hg)
    have HCG := Lib.hid hcg
    clear hcg hg hrow hb2 HB1 HCL
    go_wp2_with fail
    go_loopw [9, 10, 22] (fun sv _ iv wr => ∃ (k g cg : Nat) (S : List (Int × Int)), k ≤ m ∧ iv = .int .i64 (k : Int) ∧ sv = .slice (some ⟨g, 0, none⟩) l.length cg ∧ l.length ≤ cg ∧ w.heap.size ≤ g ∧ S = passes (fun p : Int × Int => sk p.1) b l k ∧ CellRow wr g (recs S) ∧ Below w.heap.size w wr) (fun _ _ iv _ => m - (intOf iv).toNat)
    case atStart => exact ⟨0, g, cg, l, Nat.zero_le _, rfl, rfl, HCG.out, HG2.out, rfl, HR2.out, HB2.out⟩
    case round =>
      obtain ⟨k, g', cg', S, hk, rfl, rfl, hcg, hg, hS, hrow, hb⟩ := hrel
      have HB := Lib.hid hb
      have HR := Lib.hid hrow
      have HG := Lib.hid hg
      have HC := Lib.hid hcg
      have HS := Lib.hid hS
      have HSLN : Hid (S.length = l.length) := Lib.hid (by rw [hS]; exact HLEN.out k)
      clear hb hrow hg hcg hS HCG HG2 HR2 HB2
      by_cases hlt : k < m
      · have hltz : (k : Int) < (m : Int) := by omega
        have HPS := Lib.hid (fun (W2 : World) (h2 : W2 = (wr.alloc (.cells #[.int .i64 (b : Int)] 3)).alloc (.cells #[.int .i64 (k : Int)] 3)) =>
          pass_any b k wr.heap.size (wr.heap.size + 1) (.slice (some ⟨g', 0, none⟩) l.length cg') S W2 (by rw [h2, ← HSLN.out]; exact (HR.out.below ((HBX.out k wr).1) HR.out.1).flat (by rw [HSLN.out]; exact HC.out)) (by rw [HSLN.out]; exact HN.out) (fun q hq => HMEM.out k q (by rw [← HS.out]; exact hq)) HBB.out.1 HBB.out.2 (by omega) (by rw [h2]; exact (HBX.out k wr).2))
        have HBK := Lib.hid (HBX.out k wr).1
        have HNX : Hid (bk (dgR b k) S b = passes (fun p : Int × Int => sk p.1) b l (k + 1) ∧ (bk (dgR b k) S b).length = l.length) := Lib.hid (by
          have e : bk (dgR b k) S b = passes (fun p : Int × Int => sk p.1) b l (k + 1) := by rw [HS.out]; rfl
          exact ⟨e, by rw [e]; exact HLEN.out (k + 1)⟩)
        generalize bk (dgR b k) S b = S2 at *
        clear HR HG HC HS HSLN HMEM HBX HN HBB HOK
        go_wp2_with fail
        refine (HDA.out k _).mono ?_
        rintro e w3 ⟨rfl, hw3⟩
        have HP := Lib.hid (HPS.out w3 hw3)
        have HB3 : Hid (Below w.heap.size w w3) := Lib.hid (by rw [hw3]; exact HB.out.trans (HBK.out.mono HB.out.size))
        clear hw3 HPS HB HBK
        go_wp2_with fail
        refine HP.out.mono ?_
        rintro e w4 ⟨g4, c4, rfl, hc4, hg4, hr4, hb4⟩
        rw [HNX.out.2] at hc4 ⊢
        have HR4 := Lib.hid hr4
        have HB4 := Lib.hid (HB3.out.trans (hb4.mono HB3.out.size))
        have HG4 : Hid (w.heap.size ≤ g4) := Lib.hid (Nat.le_trans HB3.out.size hg4)
        have HC4 := Lib.hid hc4
        clear hr4 hb4 hg4 hc4 HP HB3
        go_wp2_with fail
        go_roundw
        case rel => exact ⟨k + 1, g4, c4, S2, by omega, by go_num, rfl, HC4.out, HG4.out, HNX.out.1, HR4.out, HB4.out⟩
        case measure => simp [intOf]; omega
      · have hltz : ¬ (k : Int) < (m : Int) := by omega
        obtain rfl : k = m := by omega
        have HRES : Hid (Ret1CE (stb l, (k : Int), true) w (.returned (.tuple #[.slice (some ⟨g', 0, none⟩) l.length cg', .int .i64 (k : Int), .bool true])) wr) := Lib.hid (by
          have e : S = stb l := HS.out.trans HST.out
          have hr := HR.out
          rw [e] at hr
          exact .inl ⟨g', cg', by rw [HSL.out], by rw [HSL.out]; exact HC.out, HG.out, hr, HB.out⟩)
        clear HR HG HC HS HSLN HB HST HSL HLEN HMEM HOK
        go_wp2_with fail
        go_ret3
        exact HRES.out
  · rw [pnAll_no hall] at HPN
    rw [rsAll_no hall]
    clear hall hv
    go_enter Try.func25, Try.ntmps25
    go_wp2_with fail
    refine HPN.out.mono ?_
    rintro e w1 ⟨rfl, hb1⟩
    have HRES := Lib.hid (Ret1CE.none0 w w1 hb1)
    clear hb1 HPN
    go_wp2_with fail
    go_ret3
    exact HRES.out

end Go.Proofs.Ytebipiehkmhaiaa
end

section
/- rSum of the laws at the counts of buckets, by its contract. -/
namespace Go.Proofs.Ytebipiehkmhaiaa
open Go.RowKit Rx
set_option linter.unusedVariables false

set_option maxRecDepth 100000 in
theorem rSum_any {α : Type} (f : α → Nat) (l : List α) (b : Nat) (v : Value) (W : World) (hv : FlatAt W v b (ints (rng (cnt f l) b))) (hb : b ≤ 256) (hl : l.length ≤ 64) (hf : ∀ x ∈ l, f x < b) :
    Calls Try.prog 29 #[v] W fun e w' => e = .returned (.int .i64 (l.length : Int)) ∧ Below W.heap.size W w' := by
  obtain ⟨a, c, rfl, _, h⟩ := hv
  have H := Lib.hid h
  have HL : Hid (st f l b = l.length) := Lib.hid (bk_len hf)
  have HST : Hid (∀ k, k ≤ b → st f l k ≤ 64) := Lib.hid (fun k hk => by have := st_mono f l hk; rw [bk_len hf] at this; omega)
  clear h hf
  go_enter Try.func29, Try.ntmps29
  go_wp2_with fail
  go_loopw [3, 4] (fun nv iv wr => ∃ (k n : Nat), k ≤ b ∧ iv = .int .i64 (k : Int) ∧ nv = .int .i64 (n : Int) ∧ n = st f l k ∧ Below W.heap.size W wr) (fun _ iv _ => b - (intOf iv).toNat)
  case atStart => exact ⟨0, 0, Nat.zero_le _, rfl, rfl, rfl, Below.refl _ _⟩
  case round =>
    obtain ⟨k, n, hk, rfl, rfl, hn, hbw⟩ := hrel
    have HB := Lib.hid hbw
    have hn64 : n ≤ 64 := by rw [hn]; exact HST.out k hk
    have HN := Lib.hid hn
    clear hbw hn
    by_cases hlt : k < b
    · have hltz : (k : Int) < (b : Int) := by omega
      obtain ⟨b2, o2, rfl, hbb, hc⟩ := H.out _ _ (ints_at (rng_at (cnt f l) hlt))
      have hw : wr.cell? ⟨b2, o2 + k, none⟩ = some (.int .i64 ((cnt f l k : Nat) : Int)) := (HB.out.cell (p := ⟨b2, o2 + k, none⟩) hbb).trans hc
      obtain ⟨m, hm⟩ : ∃ m, m = cnt f l k := ⟨_, rfl⟩
      rw [← hm] at hw
      have hs := HST.out (k + 1) hlt
      rw [st_succ, ← HN.out, ← hm] at hs
      have HN2 : Hid (n + m = st f l (k + 1)) := Lib.hid (by rw [st_succ, ← HN.out, ← hm])
      clear hm hc HN
      go_wp2_with fail
      go_roundw
      case rel => exact ⟨k + 1, n + m, by omega, by go_num, by go_num, HN2.out, HB.out⟩
      case measure => simp [intOf]; omega
    · have hltz : ¬ (k : Int) < (b : Int) := by omega
      obtain rfl : k = b := by omega
      have HE : Hid (n = l.length) := Lib.hid (HN.out.trans HL.out)
      go_wp2_with fail
      go_ret
      exact ⟨by rw [← HE.out]; rfl, HB.out⟩

end Go.Proofs.Ytebipiehkmhaiaa
end

section
/- The program's DigitCounts, by its contract. -/
namespace Go.Proofs.Ytebipiehkmhaiaa
open Go.RowKit Rx P
set_option linter.unusedVariables false
attribute [local go_sem ↓ high] alloc_tab load_tab store_tab box_tab
attribute [local go_sem] run_tabNew

theorem tab_ints (f : Nat → Nat) {b : Nat} (hb : b ≤ 1001) {w : World} {g : Nat} (h : TabAt w g f) : FlatAt w (.slice (some ⟨g, 0, none⟩) b 1001) b (ints ((List.range b).map fun d => (f d : Int))) :=
  ⟨_, 1001, rfl, hb, fun j u hu => by
    have hj := (List.getElem?_eq_some_iff.1 hu).1
    rw [ints_length, List.length_map, List.length_range] at hj
    refine ⟨g, 0, rfl, h.lt, ?_⟩
    rw [Nat.zero_add, (h.at (k := j) (by omega)).1]
    rw [← hu]
    exact (ints_at (show ((List.range b).map fun d => (f d : Int))[j]? = some (f j : Int) by simp [hj])).symm⟩

set_option maxRecDepth 100000 in
set_option maxHeartbeats 8000000 in
theorem implDc_any (b' o c : Nat) (l : List (Int × Int)) (b p : Int) (w : World) (hv : FlatAt w (.slice (some ⟨b', o, none⟩) l.length c) l.length (recs l)) (hn : l.length ≤ 1048576) :
    Calls Try.prog 28 #[.slice (some ⟨b', o, none⟩) l.length c, .int .i64 b, .int .i64 p] w (RetIE (dcAll l b p) w) := by
  have HV := Lib.hid (implValidRecs_any _ l w hv hn)
  have HB := Lib.hid (fun W => isBP_any b p W)
  have HNONE := Lib.hid (fun (h : ¬ (OkR l ∧ OkBP b p)) => dcAll_no h)
  by_cases hok : OkR l
  · rw [decide_eq_true hok] at HV
    by_cases hbp : OkBP b p
    · rw [decide_eq_true hbp] at HB
      have HF := Lib.hid (dcAll_yes ⟨hok, hbp⟩)
      obtain ⟨⟨hb1, hb2⟩, hp1, hp2⟩ := hbp
      obtain ⟨b, rfl⟩ : ∃ n : Nat, b = n := ⟨b.toNat, by omega⟩
      obtain ⟨p, rfl⟩ : ∃ n : Nat, p = n := ⟨p.toNat, by omega⟩
      have HKEYS := Lib.hid (fun W (h : Below w.heap.size w W) => keysOf_any _ l W (hv.below h) hn)
      have HDA := Lib.hid (fun W => digitAt_any (b : Int) (p : Int) W)
      have hmlen : (l.map (·.1)).length = l.length := by simp
      have HBC := Lib.hid (fun (gk : Nat) (W W2 : World) (hk : CellRow W gk (ints (l.map (·.1)))) (h2 : W2 = (W.alloc (.cells #[.int .i64 (b : Int)] 3)).alloc (.cells #[.int .i64 (p : Int)] 3)) =>
        bucketCounts_any (dgI b p) 127 #[.pointer (some ⟨W.heap.size, 0, none⟩), .pointer (some ⟨W.heap.size + 1, 0, none⟩)] enters_digit (.slice (some ⟨gk, 0, none⟩) l.length l.length) (l.map (·.1)) W2
          (by rw [h2, hmlen]; exact (hk.below (digit_boxes (b : Int) (p : Int) W).1 hk.1).flat (Nat.le_refl _)) (by rw [hmlen]; exact hn) (fun x _ => Nat.lt_of_lt_of_le (dg_lt (by omega) p _) (by omega)) (fun W3 x hx hW => by
            obtain ⟨q, hq, rfl⟩ := List.mem_map.1 hx
            obtain ⟨c1, c2⟩ := (digit_boxes (b : Int) (p : Int) W).2 W3 (by rw [← h2]; exact hW)
            exact digitFn_any q.1 b p W.heap.size (W.heap.size + 1) W3 c1 c2 (hok.key hq).1 (hok.key hq).2 (by omega) (by omega) (by omega)))
      have HBX := Lib.hid (fun (W : World) => (digit_boxes (b : Int) (p : Int) W).1)
      have HCN : Hid (∀ d, cnt (dgI b p) (l.map (·.1)) d = cnt (dgR b p) l d) := Lib.hid (fun d => cnt_map (dgI b p) l d)
      have hbn : b ≤ 256 := by omega
      have hb1001 : (b : Int) ≤ 1001 := by omega
      have hb0 : (0 : Int) ≤ (b : Int) := by omega
      have hbz : ¬ (b : Int) < 0 := by omega
      have hbz1 : ¬ (1001 : Int) < (b : Int) := by omega
      have hbz2 : ¬ 1001 = b := by omega
      have hbpos : 0 < b := by omega
      rw [HF.out]
      simp only [Int.toNat_natCast]
      clear hok hv hb1 hb2 hp1 hp2 HF HNONE hmlen
      generalize dgR b p = fR at *
      generalize dgI b p = fI at *
      obtain ⟨M, hM⟩ : ∃ M, M = (List.range b).map fun d => (cnt fR l d : Int) := ⟨_, rfl⟩
      rw [← hM]
      have HE : Hid (((List.range b).map fun d => (cnt fI (l.map (·.1)) d : Int)) = M) := Lib.hid (by rw [hM]; exact List.map_congr_left fun d _ => by rw [HCN.out])
      have HLEN : Hid (M.length = b) := Lib.hid (by rw [hM]; simp)
      clear hM HCN
      go_enter Try.func28, Try.ntmps28
      go_wp2_with fail
      refine HV.out.mono ?_
      rintro e w1 ⟨rfl, hb1⟩
      have HB1 := Lib.hid hb1
      clear hb1 HV
      go_wp2_with fail
      refine (HB.out _).mono ?_
      rintro e w1' ⟨rfl, rfl⟩
      go_wp2_with fail
      refine (HKEYS.out _ HB1.out).mono ?_
      rintro e w2 ⟨gk, rfl, hgk, hrk, hb2⟩
      have HB2 := Lib.hid (HB1.out.trans (hb2.mono HB1.out.size))
      have HRK := Lib.hid hrk
      clear hb2 hrk hgk HB1 HKEYS HB
      go_wp2_with fail
      refine (HDA.out _).mono ?_
      rintro e w3 ⟨rfl, hw3⟩
      have HC := Lib.hid (HBC.out gk w2 w3 HRK.out hw3)
      have HB3 : Hid (Below w.heap.size w w3) := Lib.hid (by rw [hw3]; exact HB2.out.trans ((HBX.out w2).mono HB2.out.size))
      clear hw3 HBC HBX HB2 HDA HRK
      go_wp2_with fail
      refine HC.out.mono ?_
      rintro e w4 ⟨rfl, hb4⟩
      have HB4 := Lib.hid (HB3.out.trans (hb4.mono HB3.out.size))
      clear hb4 HC HB3
      obtain ⟨hr1, hr2⟩ := (TabAt.new w4 (fun _ => 0)).row (cnt fI (l.map (·.1)))
      have hst := run_tabStore (cnt fI (l.map (·.1))) (TabAt.new w4 (fun _ => 0))
      obtain ⟨W5, hW5⟩ : ∃ W5, W5 = (w4.alloc (.cells (tabA fun _ => 0) 95)).setRow w4.heap.size (tabA (cnt fI (l.map (·.1)))) := ⟨_, rfl⟩
      rw [← hW5] at hr1 hr2 hst
      have hb5 : Below w4.heap.size w4 W5 := ((Below.refl _ _).alloc (Nat.le_refl _) _).trans (hr2.below (Nat.le_refl _) (by simp))
      have HB5 := Lib.hid (HB4.out.trans (hb5.mono HB4.out.size))
      have HCL := Lib.hid (cloneInts_any w4.heap.size 0 1001 ((List.range b).map fun d => (cnt fI (l.map (·.1)) d : Int)) W5 (by rw [show ((List.range b).map fun d => (cnt fI (l.map (·.1)) d : Int)).length = b by simp]; exact tab_ints _ (by omega) hr1) (by simp; omega))
      rw [show ((List.range b).map fun d => (cnt fI (l.map (·.1)) d : Int)).length = b by simp] at HCL
      rw [HE.out] at HCL
      clear hr1 hr2 hW5 hb5 HB4 HE
      go_wp2_with fail
      refine HCL.out.mono ?_
      rintro e w6 ⟨g, cg, rfl, hcg, hg, hrow, hb6⟩
      have HRES : Hid (RetIE (M, true) w (.returned (.tuple #[.slice (some ⟨g, 0, none⟩) M.length cg, .bool true])) w6) := Lib.hid (.inl ⟨g, cg, rfl, hcg, Nat.le_trans HB5.out.size hg, hrow, HB5.out.trans (hb6.mono HB5.out.size)⟩)
      clear hcg hg hrow hb6 HCL HB5 hst
      go_wp2_with fail
      go_ret2
      exact HRES.out
    · rw [decide_eq_false hbp] at HB
      rw [HNONE.out fun h => hbp h.2]
      clear hok hbp hv HNONE
      go_enter Try.func28, Try.ntmps28
      go_wp2_with fail
      refine HV.out.mono ?_
      rintro e w1 ⟨rfl, hb1⟩
      have HRES := Lib.hid (RetIE.none0 w w1 hb1)
      clear hb1 HV
      go_wp2_with fail
      refine (HB.out _).mono ?_
      rintro e w1' ⟨rfl, rfl⟩
      go_wp2_with fail
      go_ret2
      exact HRES.out
  · rw [decide_eq_false hok] at HV
    rw [HNONE.out fun h => hok h.1]
    clear hok hv HNONE
    go_enter Try.func28, Try.ntmps28
    go_wp2_with fail
    refine HV.out.mono ?_
    rintro e w1 ⟨rfl, hb1⟩
    have HRES := Lib.hid (RetIE.none0 w w1 hb1)
    clear hb1 HV
    go_wp2_with fail
    go_ret2
    exact HRES.out

end Go.Proofs.Ytebipiehkmhaiaa
end
