/- Tables of 1001 numbers, held by value: the run of what touches one whole, each under a name of its own. -/
import Derived.Test.YtagibgphegoagaaFlat
import Derived.Laws.Tables
import Derived.Laws.Rows
namespace Go.Proofs.Ytagibgphegoagaa
open Go.RowKit
set_option linter.unusedVariables false

/-- The cells of a table. -/
def tab (f : Nat → Nat) : List Value := (List.range 1001).map fun k => .int .i64 (f k : Int)
def tabA (f : Nat → Nat) : Array Value := (tab f).toArray
theorem tab_length (f : Nat → Nat) : (tab f).length = 1001 := by simp [tab]
theorem tabA_size (f : Nat → Nat) : (tabA f).size = 1001 := by simp [tabA, tab_length]
theorem tab_at (f : Nat → Nat) {k : Nat} (h : k < 1001) : (tab f)[k]? = some (.int .i64 (f k : Int)) := by unfold tab; simp [h]
theorem tab_set (f : Nat → Nat) (d v : Nat) : (tab f).set d (.int .i64 (v : Int)) = tab (fun k => if k = d then v else f k) := by
  refine List.ext_getElem? fun k => ?_
  rw [List.getElem?_set]
  by_cases hk : k < 1001
  · rw [tab_at _ hk, tab_at _ hk, tab_length]
    by_cases hd : d = k
    · subst hd; simp [hk]
    · rw [if_neg hd, if_neg (fun e => hd e.symm)]
  · rw [List.getElem?_eq_none (by rw [tab_length]; omega), List.getElem?_eq_none (l := tab _) (by rw [tab_length]; omega), tab_length]
    split
    · rw [if_neg (by omega)]
    · rfl
theorem tab_congr {f h : Nat → Nat} (e : ∀ k, k < 1001 → f k = h k) : tab f = tab h := by
  refine List.ext_getElem? fun k => ?_
  by_cases hk : k < 1001
  · rw [tab_at _ hk, tab_at _ hk, e k hk]
  · rw [List.getElem?_eq_none (by rw [tab_length]; omega), List.getElem?_eq_none (by rw [tab_length]; omega)]
theorem tab_one (f : Nat → Nat) : (tabA f).all (·.oneCell') = true := by
  rw [Array.all_eq_true_iff_forall_mem]
  intro v hv
  simp only [tabA, tab, List.mem_toArray, List.mem_map] at hv
  obtain ⟨k, _, rfl⟩ := hv
  rfl

theorem infoTab : (Try.prog.info? 139).map (fun i => (i.zero, i.size)) = some (some (.agg (tabA fun _ => 0)), 1001) := by kernel_rfl

/-- A table in block g. -/
def TabAt (w : World) (g : Nat) (f : Nat → Nat) : Prop := RowIs w g 139 (tab f)
theorem TabAt.at {w : World} {g : Nat} {f : Nat → Nat} (h : TabAt w g f) {k : Nat} (hk : k < 1001) : w.cell? ⟨g, k, none⟩ = some (.int .i64 (f k : Int)) ∧ w.frozen? ⟨g, k, none⟩ = false :=
  ⟨by rw [RowIs.cell h k, tab_at f hk], RowIs.frozen h k⟩
theorem TabAt.put {w : World} {g : Nat} {f : Nat → Nat} (h : TabAt w g f) (d v : Nat) : TabAt (w.setCell ⟨g, d, none⟩ (.int .i64 (v : Int))) g (fun k => if k = d then v else f k) := by
  have := RowIs.stored h d (.int .i64 (v : Int))
  rw [tab_set] at this
  exact this
theorem TabAt.new (w : World) (f : Nat → Nat) : TabAt (w.alloc (.cells (tabA f) 139)) w.heap.size f := heap_alloc_new w _
theorem TabAt.lt {w : World} {g : Nat} {f : Nat → Nat} (h : TabAt w g f) : g < w.heap.size := RowIs.lt h
theorem TabAt.below {w w' : World} {g : Nat} {f : Nat → Nat} (h : TabAt w g f) {B : Nat} (hb : Below B w w') (hg : g < B) : TabAt w' g f := RowIs.below h hb hg
theorem TabAt.but {w w' : World} {g k : Nat} {f : Nat → Nat} (h : TabAt w g f) (hb : But k w w') (hg : g ≠ k) : TabAt w' g f := RowIs.but h hb hg
theorem TabAt.congr {w : World} {g : Nat} {f h : Nat → Nat} (ht : TabAt w g f) (e : ∀ k, k < 1001 → f k = h k) : TabAt w g h := by unfold TabAt at ht ⊢; rw [← tab_congr e]; exact ht

def tabNew (b : Bool) (o : Value) : Sem Value := Instr.alloc 139 b o
theorem alloc_tab (b : Bool) (o : Value) : Instr.alloc 139 b o = tabNew b o := rfl
theorem run_tabNew (w : World) : (tabNew true (.tuple #[])).run Try.prog w = .ok (.pointer (some ⟨w.heap.size, 0, none⟩)) (w.alloc (.cells (tabA fun _ => 0) 139)) := by
  cases hi : Try.prog.info? 139 with
  | none => have := infoTab; rw [hi] at this; simp at this
  | some i =>
    have hz : i.zero = some (.agg (tabA fun _ => 0)) := by
      have := infoTab
      rw [hi, Option.map_some] at this
      exact congrArg Prod.fst (Option.some.inj this)
    unfold tabNew Instr.alloc
    simp only [zeroValue, typeInfo, Sem.run_bind, run_program, Result.andThen_ok, hi, hz, Sem.run_pure, newVar, newRow, Value.cells, run_newObj]
    rfl

def tabLoad (v : Value) : Sem Value := Instr.loadAt 139 v
theorem load_tab (v : Value) : Instr.loadAt 139 v = tabLoad v := rfl
theorem infoTabS : (Try.prog.info? 139).map (·.size) = some 1001 := by
  have := infoTab
  cases hi : Try.prog.info? 139 with
  | none => rw [hi] at this; simp at this
  | some i =>
    rw [hi, Option.map_some] at this
    rw [Option.map_some]
    exact congrArg some (congrArg Prod.snd (Option.some.inj this))
theorem underTab : Try.prog.underlying 139 = some (.array 1001 3) := by kernel_rfl
theorem run_tabLoad {w : World} {g : Nat} {f : Nat → Nat} (h : TabAt w g f) : (tabLoad (.pointer (some ⟨g, 0, none⟩))).run Try.prog w = .ok (.agg (tabA f)) w := by
  have := run_loadVar_row (P := Try.prog) w g 139 139 (tabA f) (0, 0) _ h underTab rfl (by rw [infoTabS, tabA_size])
  unfold tabLoad Instr.loadAt
  simp only [Instr.sureAddr, Sem.run_bind, Sem.run_pure, Result.andThen_ok, this]

def tabStore (a v : Value) : Sem Unit := Instr.storeAt 139 a v
theorem store_tab (a v : Value) : Instr.storeAt 139 a v = tabStore a v := rfl
theorem run_tabStore {w : World} {g : Nat} {o : Nat → Nat} (f : Nat → Nat) (h : TabAt w g o) : (tabStore (.pointer (some ⟨g, 0, none⟩)) (.agg (tabA f))).run Try.prog w = .ok () (w.setRow g (tabA f)) := by
  have := run_storeVar_row (P := Try.prog) w g 139 139 (tabA o) (tabA f) h (by rw [infoTabS, tabA_size]) (by rw [tabA_size, tabA_size]) (tab_one f)
  unfold tabStore Instr.storeAt
  simp only [Instr.sureAddr, Sem.run_bind, Sem.run_pure, Result.andThen_ok, this]
theorem TabAt.row {w : World} {g : Nat} {o : Nat → Nat} (f : Nat → Nat) (h : TabAt w g o) : TabAt (w.setRow g (tabA f)) g f ∧ But g w (w.setRow g (tabA f)) := by
  refine ⟨?_, rfl, rfl, rfl, ?_, fun k hk hg => ?_⟩
  · have := setRow_heap w g (tabA o) (tabA f) _ _ h
    exact this
  · unfold World.setRow; simp
  · unfold World.setRow
    have hgk : ¬ g = k := fun e => hg e.symm
    simp [Array.getElem?_modify, hgk]

def tabBox (v : Value) : Sem Value := Instr.box 139 v
theorem box_tab (v : Value) : Instr.box 139 v = tabBox v := rfl
theorem run_tabBox (w : World) (f : Nat → Nat) : (tabBox (.agg (tabA f))).run Try.prog w = .ok (.pointer (some ⟨w.heap.size, 0, none⟩)) (w.alloc (.cells (tabA f) 139)) := by
  unfold tabBox Instr.box
  simp only [newVar, newRow, Value.cells, Sem.run_bind, Sem.run_pure, Result.andThen_ok, run_newObj]
  rfl

def tabIdx (x i : Value) : Sem Value := Instr.index 139 x i
theorem idx_tab (x i : Value) : Instr.index 139 x i = tabIdx x i := rfl
theorem sizeInt : (Try.prog.info? 3).map (·.size) = some 1 := by kernel_rfl
theorem run_tabIdx (w : World) (f : Nat → Nat) (k : Nat) (hk : k < 1001) : (tabIdx (.agg (tabA f)) (.int .i64 (k : Int))).run Try.prog w = .ok (.int .i64 (f k : Int)) w := by
  cases hi : Try.prog.info? 3 with
  | none => have := sizeInt; rw [hi] at this; simp at this
  | some i =>
    have hs : i.size = 1 := by
      have := sizeInt
      rw [hi, Option.map_some] at this
      exact Option.some.inj this
    have hu := run_underlying Try.underlying3 w
    have hc : (tabA f)[k]? = some (.int .i64 (f k : Int)) := by
      have := tab_at f hk
      simpa [tabA] using this
    have h1 : (0 : Int) ≤ (k : Int) ∧ (k : Int) < (1001 : Nat) := by omega
    unfold tabIdx Instr.index
    simp only [asIntOf, Sem.run_bind, Sem.run_pure, Result.andThen_ok, run_underlying underTab w, if_pos h1, sizeOf, typeInfo, run_program, hi, hs, part, isAgg, hu, Int.toNat_natCast, Nat.mul_one, hc]
    simp

theorem tab_results {fn : Func} {p : Tmp} (h : fn.results = #[.cell p 139]) (tmps : Array Value) (w : World) (g : Nat) (f : Nat → Nat) (hp : tmps.getD p undef = .pointer (some ⟨g, 0, none⟩)) (ht : TabAt w g f) :
    (results fn tmps).run Try.prog w = .ok (.agg (tabA f)) w :=
  results_cell_row h tmps w g 139 (tabA f) (0, 0) _ hp ht underTab rfl (by rw [infoTabS, tabA_size])

end Go.Proofs.Ytagibgphegoagaa
