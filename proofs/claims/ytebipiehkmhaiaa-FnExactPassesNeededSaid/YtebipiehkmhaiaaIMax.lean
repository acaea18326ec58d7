/- slices.MaxFunc at records by their keys, by its contract. -/
import Derived.Test.YtebipiehkmhaiaaCmpK
import Derived.Test.YtebipiehkmhaiaaHeldC
import Derived.BigRegion
import Derived.BigQuiet
import Derived.Deep.QuietTactic
import Derived.Deep.RegionWith
import Derived.Shelf.Abstract
import Derived.Laws.Rows
namespace Go.Proofs.Ytebipiehkmhaiaa
open Go.RowKit Go.Lib
set_option linter.unusedVariables false

theorem below_grow (W : World) (q : Nat) (os' : Array Obj) : Below W.heap.size W (Go.Sort.grow (W.drewN q) os') :=
  ⟨rfl, rfl, rfl, by rw [Go.Sort.size_grow]; exact Nat.le_add_right _ _, fun k hk => Go.Sort.heap_grow_old _ _ hk⟩

theorem infoRecSz : (Try.prog.info? 45).map (·.size) = some 2 := by kernel_rfl

set_option maxRecDepth 100000 in
set_option maxHeartbeats 4000000 in
theorem maxFunc_any (v : Value) (l : List (Int × Int)) (w : World) (hv : FlatAt w v l.length (recs l)) (hn : l.length ≤ 1048576) (hne : 0 < l.length) :
    Calls Try.prog 76 #[v, .func (.func 68) #[] #[]] w fun e w' => ∃ p : Int × Int, e = .returned (.agg #[.int .i64 p.1, .int .i64 p.2]) ∧ p ∈ l ∧ (∀ q ∈ l, q.1 ≤ p.1) ∧ Below w.heap.size w w' := by
  obtain ⟨a, c, rfl, _, h⟩ := hv
  have H := Lib.hid h
  clear h
  have eg : ∀ args w, (callFunc 68 args).run Try.prog w = .ok (.enter 68 args) w := enters_of Try.func68 (by kernel_rfl) rfl
  obtain ⟨⟨x0, y0⟩, hp0⟩ : ∃ p, l[0]? = some p := ⟨_, List.getElem?_eq_getElem hne⟩
  obtain ⟨b, o, rfl, hbb, hc0, hc1⟩ := recs_el H.out hp0
  rw [Nat.zero_mul, Nat.add_zero] at hc0 hc1
  simp only at hc0 hc1
  have HP0 := Lib.hid hp0
  have hnez : ¬ (l.length : Int) < 1 := by omega
  have hnez2 : (0 : Int) < (l.length : Int) := by omega
  obtain ⟨W0, hW0⟩ : ∃ W0, W0 = (w.alloc (.cells #[.int .i64 0, .int .i64 0] 45)).alloc (.cells #[.int .i64 x0, .int .i64 y0] 45) := ⟨_, rfl⟩
  have hs0 : (w.alloc (.cells #[.int .i64 0, .int .i64 0] 45)).heap.size = w.heap.size + 1 := by simp
  have HR0 : Hid (RowIs W0 w.heap.size 45 [.int .i64 0, .int .i64 0] ∧ RowIs W0 (w.heap.size + 1) 45 [.int .i64 x0, .int .i64 y0] ∧ Below w.heap.size w W0) := Lib.hid (by
    rw [hW0]
    refine ⟨?_, ?_, ((Below.refl _ _).alloc (Nat.le_refl _) _).alloc (by omega) _⟩
    · exact RowIs.below (heap_alloc_new w _) ((Below.refl (w.heap.size + 1) _).alloc (by omega) _) (by omega)
    · have := heap_alloc_new (w.alloc (.cells #[.int .i64 0, .int .i64 0] 45)) (.cells #[.int .i64 x0, .int .i64 y0] 45)
      rw [hs0] at this; exact this)
  clear hp0 hs0
  go_enter Try.func76, Try.ntmps76
  go_wp2_with fail
  rw [← hW0]
  clear hW0 hc0 hc1
  go_loopw [6] (fun iv wr => ∃ (k : Nat) (p : Int × Int), 1 ≤ k ∧ k ≤ l.length ∧ iv = .int .i64 k ∧ p ∈ l.take k ∧ (∀ q ∈ l.take k, q.1 ≤ p.1) ∧ RowIs wr w.heap.size 45 [.int .i64 0, .int .i64 0] ∧ RowIs wr (w.heap.size + 1) 45 [.int .i64 p.1, .int .i64 p.2] ∧ Below w.heap.size w wr) (fun iv _ => l.length - (intOf iv).toNat)
  case atStart =>
    have ht : l.take 1 = [(x0, y0)] := by rw [List.take_add_one, HP0.out]; rfl
    exact ⟨1, (x0, y0), Nat.le_refl _, hne, rfl, by rw [ht]; simp, by rw [ht]; simp, HR0.out.1, HR0.out.2.1, HR0.out.2.2⟩
  case round =>
    obtain ⟨k, ⟨x, y⟩, hk1, hk, rfl, hpm, hpa, hr1, hr2, hb⟩ := hrel
    have HB := Lib.hid hb
    have HR1 := Lib.hid hr1
    have HR2 := Lib.hid hr2
    have HPM := Lib.hid hpm
    have HPA := Lib.hid hpa
    clear hb hr1 hr2 hpm hpa HR0 HP0
    by_cases hlt : k < l.length
    · have hltz : (k : Int) < (l.length : Int) := by omega
      obtain ⟨⟨s, t⟩, hp⟩ : ∃ p, l[k]? = some p := ⟨_, List.getElem?_eq_getElem hlt⟩
      obtain ⟨b2, o2, he2, hbb2, hc0, hc1⟩ := recs_el H.out hp
      obtain rfl : b = b2 := congrArg Addr.block (Option.some.inj he2)
      obtain rfl : o = o2 := congrArg Addr.off (Option.some.inj he2)
      simp only at hc0 hc1
      have cx : ∀ W, Below w.heap.size w W → W.cell? ⟨b, o + k * 2, none⟩ = some (.int .i64 s) ∧ W.cell? ⟨b, o + k * 2 + 1, none⟩ = some (.int .i64 t) := fun W hW => ⟨(hW.cell (p := ⟨b, o + k * 2, none⟩) hbb).trans hc0, (hW.cell (p := ⟨b, o + k * 2 + 1, none⟩) hbb).trans hc1⟩
      have HCX := Lib.hid cx
      obtain ⟨d0, d1⟩ := cx wr HB.out
      have m0 := HR2.out.cell 0
      have m1 := HR2.out.cell 1
      have m2 : wr.cell? ⟨w.heap.size + 1, 0, none⟩ = some (.int .i64 x) := m0.trans rfl
      have m3 : wr.cell? ⟨w.heap.size + 1, 1, none⟩ = some (.int .i64 y) := m1.trans rfl
      have HTK : Hid (l.take (k + 1) = l.take k ++ [(s, t)]) := Lib.hid (by rw [List.take_add_one, hp]; rfl)
      have HC : Hid (∀ n, Calls Try.prog 68 #[.agg #[.int .i64 s, .int .i64 t], .agg #[.int .i64 x, .int .i64 y]] (wr.drewN n) fun e w' => e = .returned (.int .i64 (compareInt s x)) ∧ Below wr.heap.size wr w') := Lib.hid (fun n => (compareKeys_any (s, t) (x, y) (wr.drewN n)).mono (by
        rintro e w' ⟨h1, q, os', h2⟩
        refine ⟨h1, ?_⟩
        rw [h2]
        have hd : Below wr.heap.size wr (wr.drewN n) := ⟨rfl, rfl, rfl, Nat.le_refl _, fun _ _ => rfl⟩
        exact hd.trans (below_grow (wr.drewN n) q os')))
      have hbbr : b < wr.heap.size := Nat.lt_of_lt_of_le hbb HB.out.size
      clear hc0 hc1 hp cx he2 m0 m1
      have HTKP : Hid (∀ q ∈ l.take (k + 1), q ∈ l.take k ∨ q = (s, t)) := Lib.hid (fun q hq => by rw [HTK.out] at hq; rcases List.mem_append.1 hq with h | h; exact .inl h; exact .inr (List.mem_singleton.1 h))
      by_cases hgt : x < s
      · have hcv : Hid (compareInt s x = 1) := Lib.hid (by unfold compareInt; rw [if_neg (by omega), if_pos hgt])
        rw [hcv.out] at HC
        go_wp2_with fail
        go_region_with (go_at_fn 68; refine (HC.out 1).mono ?_; rintro e w2 ⟨rfl, hb2⟩)
        all_goals (
          have HB2 := Lib.hid (HB.out.trans (hb2.mono HB.out.size))
          have HS1 := Lib.hid (HR1.out.below hb2 HR1.out.lt)
          have HS2 := Lib.hid (HR2.out.below hb2 HR2.out.lt)
          obtain ⟨f0, f1⟩ := HCX.out w2 HB2.out
          have n2 : w2.cell? ⟨w.heap.size + 1, 0, none⟩ = some (.int .i64 x) := (HS2.out.cell 0).trans rfl
          have n3 : w2.cell? ⟨w.heap.size + 1, 1, none⟩ = some (.int .i64 y) := (HS2.out.cell 1).trans rfl
          have n4 := HS2.out.frozen 0
          have n5 := HS2.out.frozen 1
          have HRES : Hid ((s, t) ∈ l.take (k + 1) ∧ (∀ q ∈ l.take (k + 1), q.1 ≤ s) ∧ RowIs ((w2.setCell ⟨w.heap.size + 1, 0, none⟩ (.int .i64 s)).setCell ⟨w.heap.size + 1, 1, none⟩ (.int .i64 t)) w.heap.size 45 [.int .i64 0, .int .i64 0] ∧
              RowIs ((w2.setCell ⟨w.heap.size + 1, 0, none⟩ (.int .i64 s)).setCell ⟨w.heap.size + 1, 1, none⟩ (.int .i64 t)) (w.heap.size + 1) 45 [.int .i64 s, .int .i64 t] ∧ Below w.heap.size w ((w2.setCell ⟨w.heap.size + 1, 0, none⟩ (.int .i64 s)).setCell ⟨w.heap.size + 1, 1, none⟩ (.int .i64 t))) := Lib.hid (by
            have hbt := ((But.refl (w.heap.size + 1) w2).setCell 0 (.int .i64 s)).setCell 1 (.int .i64 t)
            refine ⟨by rw [HTK.out]; simp, fun q hq => ?_, HS1.out.but hbt (by omega), ?_, HB2.out.trans (hbt.below (by omega) HB2.out.size)⟩
            · rcases HTKP.out q hq with h | h
              · have := HPA.out q h; omega
              · rw [h]; exact Int.le_refl _
            · exact (HS2.out.stored 0 (.int .i64 s)).stored 1 (.int .i64 t))
          clear hb2 HB HR1 HR2 HPM HPA HTK HTKP HC HCX d0 d1 m2 m3 HB2 HS1 HS2
          go_wp2_with fail
          go_roundw
          case rel => exact ⟨k + 1, (s, t), by omega, by omega, by go_num, HRES.out.1, HRES.out.2.1, HRES.out.2.2.1, HRES.out.2.2.2.1, HRES.out.2.2.2.2⟩
          case measure => simp [intOf]; omega)
      · have hcv : Hid (¬ (0 : Int) < compareInt s x) := Lib.hid (by
          unfold compareInt
          by_cases h : s < x
          · rw [if_pos h]; decide
          · rw [if_neg h, if_neg hgt]; decide)
        generalize compareInt s x = r at HC hcv
        have hr := hcv.out
        have hrd : decide ((0 : Int) < r) = false := decide_eq_false hr
        go_wp2_with fail
        go_region_with (go_at_fn 68; refine (HC.out 1).mono ?_; rintro e w2 ⟨rfl, hb2⟩)
        all_goals (
          have HRES : Hid ((x, y) ∈ l.take (k + 1) ∧ (∀ q ∈ l.take (k + 1), q.1 ≤ x) ∧ RowIs w2 w.heap.size 45 [.int .i64 0, .int .i64 0] ∧
              RowIs w2 (w.heap.size + 1) 45 [.int .i64 x, .int .i64 y] ∧ Below w.heap.size w w2) := Lib.hid (by
            refine ⟨by rw [HTK.out]; exact List.mem_append_left _ HPM.out, fun q hq => ?_, HR1.out.below hb2 HR1.out.lt, HR2.out.below hb2 HR2.out.lt, HB.out.trans (hb2.mono HB.out.size)⟩
            rcases HTKP.out q hq with h | h
            · exact HPA.out q h
            · rw [h]; simp only; omega)
          clear hb2 HB HR1 HR2 HPM HPA HTK HTKP HC HCX d0 d1 m2 m3
          go_wp2_with fail
          go_roundw
          case rel => exact ⟨k + 1, (x, y), by omega, by omega, by go_num, HRES.out.1, HRES.out.2.1, HRES.out.2.2.1, HRES.out.2.2.2.1, HRES.out.2.2.2.2⟩
          case measure => simp [intOf]; omega)
    · have hltz : ¬ (k : Int) < (l.length : Int) := by omega
      obtain rfl : k = l.length := by omega
      rw [List.take_length] at HPM HPA
      have m2 : wr.cell? ⟨w.heap.size + 1, 0, none⟩ = some (.int .i64 x) := (HR2.out.cell 0).trans rfl
      have m3 : wr.cell? ⟨w.heap.size + 1, 1, none⟩ = some (.int .i64 y) := (HR2.out.cell 1).trans rfl
      have n2 : wr.cell? ⟨w.heap.size, 0, none⟩ = some (.int .i64 0) := (HR1.out.cell 0).trans rfl
      have n3 : wr.cell? ⟨w.heap.size, 1, none⟩ = some (.int .i64 0) := (HR1.out.cell 1).trans rfl
      have n4 := HR1.out.frozen 0
      have n5 := HR1.out.frozen 1
      have HRES : Hid (RowIs ((wr.setCell ⟨w.heap.size, 0, none⟩ (.int .i64 x)).setCell ⟨w.heap.size, 1, none⟩ (.int .i64 y)) w.heap.size 45 [.int .i64 x, .int .i64 y] ∧ Below w.heap.size w ((wr.setCell ⟨w.heap.size, 0, none⟩ (.int .i64 x)).setCell ⟨w.heap.size, 1, none⟩ (.int .i64 y))) := Lib.hid
        ⟨(HR1.out.stored 0 (.int .i64 x)).stored 1 (.int .i64 y), HB.out.trans ((((But.refl w.heap.size wr).setCell 0 _).setCell 1 _).below (Nat.le_refl _) HB.out.size)⟩
      go_wp2_with fail
      refine bodyPost_ret (results_cell_row rfl _ _ w.heap.size 45 #[.int .i64 x, .int .i64 y] (0, 0) _ rfl HRES.out.1 Try.underlying45 rfl infoRecSz) rfl ?_
      first | exact ⟨(x, y), rfl, HPM.out, HPA.out, HRES.out.2⟩ | exact ⟨x, y, rfl, HPM.out, HPA.out, HRES.out.2⟩ | exact ⟨x, y, rfl, HPM.out, fun a b h => HPA.out (a, b) h, HRES.out.2⟩

end Go.Proofs.Ytebipiehkmhaiaa
