/- The program's FormatSpecs, by its contract. -/
import Derived.Test.YtcbeoihgaccjcaaDoorFmtS
import Derived.Test.YtcbeoihgaccjcaaDoorFmt
import Derived.Test.YtcbeoihgaccjcaaDoorJoinI
import Derived.Test.YtcbeoihgaccjcaaDoorIKSpecs
import Derived.Test.YtcbeoihgaccjcaaDoorStrs
import Derived.Lib.AppendIntMem
import Derived.Laws.MakeOwn
import Derived.LoopTactic
namespace Go.Proofs.YtcbeoihgaccjcaaDoor
open Go.RowKit

theorem ba_of {d : ByteArray} {l : List UInt8} (h : d.data.toList = l) : d = ⟨l.toArray⟩ := by
  rw [← h]

set_option maxRecDepth 100000 in
theorem way000 (x : Int) (d : ByteArray) (w : World) (_hsz : d.size = 1) (hds : d.data.toList = Lib.decDigits x.toNat)
    (hf : ∀ W, Below w.heap.size w W → Calls Tryd.prog 36 #[.int .i64 x] W fun e w' => e = .returned (.tuple #[.string d, .bool true]) ∧ Below W.heap.size W w') :
    Calls Tryd.prog 20 #[.agg #[.int .i64 x, .bool false, .bool false, .bool false]] w fun e w' => e = .returned (.string ⟨(keyText (x, false, false, false)).toArray⟩) ∧ Below w.heap.size w w' := by
  have hb0 : Below w.heap.size w (w.alloc (.cells #[.int .i64 x, .bool false, .bool false, .bool false] 32)) := (Below.refl _ w).alloc (Nat.le_refl _) _
  have hr0 : RowIs (w.alloc (.cells #[.int .i64 x, .bool false, .bool false, .bool false] 32)) w.heap.size 32 [.int .i64 x, .bool false, .bool false, .bool false] := heap_alloc_new w _
  have HV : Hid (d = ⟨(keyText (x, false, false, false)).toArray⟩) := Lib.hid (ba_of (by rw [hds]; simp [keyText]))
  have HB0 := Lib.hid hb0
  have HR0 := Lib.hid hr0
  have HF := Lib.hid (hf _ hb0)
  clear hb0 hr0 hf hds 
  go_enter Tryd.func20, Tryd.ntmps20
  go_wp2_with fail
  refine (HF.out).mono ?_
  rintro e w1 ⟨rfl, hb1⟩
  have hr1 := HR0.out.below hb1 HR0.out.lt
  have hc1 : w1.cell? ⟨w.heap.size, 1, none⟩ = some (.bool false) := hr1.cell 1
  have hc2 : w1.cell? ⟨w.heap.size, 2, none⟩ = some (.bool false) := hr1.cell 2
  have hc3 : w1.cell? ⟨w.heap.size, 3, none⟩ = some (.bool false) := hr1.cell 3
  have HB1 := Lib.hid (HB0.out.trans (hb1.mono HB0.out.size))
  clear hb1 hr1 HF
  go_wp2_with fail
  go_ret
  exact ⟨by rw [← HV.out]; rfl, HB1.out⟩

set_option maxRecDepth 100000 in
theorem way001 (x : Int) (d : ByteArray) (w : World) (hsz : d.size = 1) (hds : d.data.toList = Lib.decDigits x.toNat)
    (hf : ∀ W, Below w.heap.size w W → Calls Tryd.prog 36 #[.int .i64 x] W fun e w' => e = .returned (.tuple #[.string d, .bool true]) ∧ Below W.heap.size W w') :
    Calls Tryd.prog 20 #[.agg #[.int .i64 x, .bool false, .bool false, .bool true]] w fun e w' => e = .returned (.string ⟨(keyText (x, false, false, true)).toArray⟩) ∧ Below w.heap.size w w' := by
  have hb0 : Below w.heap.size w (w.alloc (.cells #[.int .i64 x, .bool false, .bool false, .bool true] 32)) := (Below.refl _ w).alloc (Nat.le_refl _) _
  have hr0 : RowIs (w.alloc (.cells #[.int .i64 x, .bool false, .bool false, .bool true] 32)) w.heap.size 32 [.int .i64 x, .bool false, .bool false, .bool true] := heap_alloc_new w _
  obtain ⟨d1, e1, s1, r1⟩ := cat_small d ⟨#[102]⟩ (by have : (⟨#[102]⟩ : ByteArray).size = 1 := rfl; omega)
  have s1' : d1.size = d.size + 1 := s1
  have HV : Hid (d1 = ⟨(keyText (x, false, false, true)).toArray⟩) := Lib.hid (ba_of (by rw [e1, hds]; simp [keyText]))
  have HB0 := Lib.hid hb0
  have HR0 := Lib.hid hr0
  have HF := Lib.hid (hf _ hb0)
  clear hb0 hr0 hf hds e1
  go_enter Tryd.func20, Tryd.ntmps20
  go_wp2_with fail
  refine (HF.out).mono ?_
  rintro e w1 ⟨rfl, hb1⟩
  have hr1 := HR0.out.below hb1 HR0.out.lt
  have hc1 : w1.cell? ⟨w.heap.size, 1, none⟩ = some (.bool false) := hr1.cell 1
  have hc2 : w1.cell? ⟨w.heap.size, 2, none⟩ = some (.bool false) := hr1.cell 2
  have hc3 : w1.cell? ⟨w.heap.size, 3, none⟩ = some (.bool true) := hr1.cell 3
  have HB1 := Lib.hid (HB0.out.trans (hb1.mono HB0.out.size))
  clear hb1 hr1 HF
  go_wp2_with fail
  go_ret
  exact ⟨by rw [← HV.out]; rfl, HB1.out⟩

set_option maxRecDepth 100000 in
theorem way010 (x : Int) (d : ByteArray) (w : World) (hsz : d.size = 1) (hds : d.data.toList = Lib.decDigits x.toNat)
    (hf : ∀ W, Below w.heap.size w W → Calls Tryd.prog 36 #[.int .i64 x] W fun e w' => e = .returned (.tuple #[.string d, .bool true]) ∧ Below W.heap.size W w') :
    Calls Tryd.prog 20 #[.agg #[.int .i64 x, .bool false, .bool true, .bool false]] w fun e w' => e = .returned (.string ⟨(keyText (x, false, true, false)).toArray⟩) ∧ Below w.heap.size w w' := by
  have hb0 : Below w.heap.size w (w.alloc (.cells #[.int .i64 x, .bool false, .bool true, .bool false] 32)) := (Below.refl _ w).alloc (Nat.le_refl _) _
  have hr0 : RowIs (w.alloc (.cells #[.int .i64 x, .bool false, .bool true, .bool false] 32)) w.heap.size 32 [.int .i64 x, .bool false, .bool true, .bool false] := heap_alloc_new w _
  obtain ⟨d1, e1, s1, r1⟩ := cat_small d ⟨#[100]⟩ (by have : (⟨#[100]⟩ : ByteArray).size = 1 := rfl; omega)
  have s1' : d1.size = d.size + 1 := s1
  have HV : Hid (d1 = ⟨(keyText (x, false, true, false)).toArray⟩) := Lib.hid (ba_of (by rw [e1, hds]; simp [keyText]))
  have HB0 := Lib.hid hb0
  have HR0 := Lib.hid hr0
  have HF := Lib.hid (hf _ hb0)
  clear hb0 hr0 hf hds e1
  go_enter Tryd.func20, Tryd.ntmps20
  go_wp2_with fail
  refine (HF.out).mono ?_
  rintro e w1 ⟨rfl, hb1⟩
  have hr1 := HR0.out.below hb1 HR0.out.lt
  have hc1 : w1.cell? ⟨w.heap.size, 1, none⟩ = some (.bool false) := hr1.cell 1
  have hc2 : w1.cell? ⟨w.heap.size, 2, none⟩ = some (.bool true) := hr1.cell 2
  have hc3 : w1.cell? ⟨w.heap.size, 3, none⟩ = some (.bool false) := hr1.cell 3
  have HB1 := Lib.hid (HB0.out.trans (hb1.mono HB0.out.size))
  clear hb1 hr1 HF
  go_wp2_with fail
  go_ret
  exact ⟨by rw [← HV.out]; rfl, HB1.out⟩

set_option maxRecDepth 100000 in
theorem way011 (x : Int) (d : ByteArray) (w : World) (hsz : d.size = 1) (hds : d.data.toList = Lib.decDigits x.toNat)
    (hf : ∀ W, Below w.heap.size w W → Calls Tryd.prog 36 #[.int .i64 x] W fun e w' => e = .returned (.tuple #[.string d, .bool true]) ∧ Below W.heap.size W w') :
    Calls Tryd.prog 20 #[.agg #[.int .i64 x, .bool false, .bool true, .bool true]] w fun e w' => e = .returned (.string ⟨(keyText (x, false, true, true)).toArray⟩) ∧ Below w.heap.size w w' := by
  have hb0 : Below w.heap.size w (w.alloc (.cells #[.int .i64 x, .bool false, .bool true, .bool true] 32)) := (Below.refl _ w).alloc (Nat.le_refl _) _
  have hr0 : RowIs (w.alloc (.cells #[.int .i64 x, .bool false, .bool true, .bool true] 32)) w.heap.size 32 [.int .i64 x, .bool false, .bool true, .bool true] := heap_alloc_new w _
  obtain ⟨d1, e1, s1, r1⟩ := cat_small d ⟨#[100]⟩ (by have : (⟨#[100]⟩ : ByteArray).size = 1 := rfl; omega)
  have s1' : d1.size = d.size + 1 := s1
  obtain ⟨d2, e2, s2, r2⟩ := cat_small d1 ⟨#[102]⟩ (by have : (⟨#[102]⟩ : ByteArray).size = 1 := rfl; omega)
  have s2' : d2.size = d1.size + 1 := s2
  have HV : Hid (d2 = ⟨(keyText (x, false, true, true)).toArray⟩) := Lib.hid (ba_of (by rw [e2, e1, hds]; simp [keyText]))
  have HB0 := Lib.hid hb0
  have HR0 := Lib.hid hr0
  have HF := Lib.hid (hf _ hb0)
  clear hb0 hr0 hf hds e1 e2
  go_enter Tryd.func20, Tryd.ntmps20
  go_wp2_with fail
  refine (HF.out).mono ?_
  rintro e w1 ⟨rfl, hb1⟩
  have hr1 := HR0.out.below hb1 HR0.out.lt
  have hc1 : w1.cell? ⟨w.heap.size, 1, none⟩ = some (.bool false) := hr1.cell 1
  have hc2 : w1.cell? ⟨w.heap.size, 2, none⟩ = some (.bool true) := hr1.cell 2
  have hc3 : w1.cell? ⟨w.heap.size, 3, none⟩ = some (.bool true) := hr1.cell 3
  have HB1 := Lib.hid (HB0.out.trans (hb1.mono HB0.out.size))
  clear hb1 hr1 HF
  go_wp2_with fail
  go_ret
  exact ⟨by rw [← HV.out]; rfl, HB1.out⟩

set_option maxRecDepth 100000 in
theorem way100 (x : Int) (d : ByteArray) (w : World) (hsz : d.size = 1) (hds : d.data.toList = Lib.decDigits x.toNat)
    (hf : ∀ W, Below w.heap.size w W → Calls Tryd.prog 36 #[.int .i64 x] W fun e w' => e = .returned (.tuple #[.string d, .bool true]) ∧ Below W.heap.size W w') :
    Calls Tryd.prog 20 #[.agg #[.int .i64 x, .bool true, .bool false, .bool false]] w fun e w' => e = .returned (.string ⟨(keyText (x, true, false, false)).toArray⟩) ∧ Below w.heap.size w w' := by
  have hb0 : Below w.heap.size w (w.alloc (.cells #[.int .i64 x, .bool true, .bool false, .bool false] 32)) := (Below.refl _ w).alloc (Nat.le_refl _) _
  have hr0 : RowIs (w.alloc (.cells #[.int .i64 x, .bool true, .bool false, .bool false] 32)) w.heap.size 32 [.int .i64 x, .bool true, .bool false, .bool false] := heap_alloc_new w _
  obtain ⟨d1, e1, s1, r1⟩ := cat_small d ⟨#[110]⟩ (by have : (⟨#[110]⟩ : ByteArray).size = 1 := rfl; omega)
  have s1' : d1.size = d.size + 1 := s1
  have HV : Hid (d1 = ⟨(keyText (x, true, false, false)).toArray⟩) := Lib.hid (ba_of (by rw [e1, hds]; simp [keyText]))
  have HB0 := Lib.hid hb0
  have HR0 := Lib.hid hr0
  have HF := Lib.hid (hf _ hb0)
  clear hb0 hr0 hf hds e1
  go_enter Tryd.func20, Tryd.ntmps20
  go_wp2_with fail
  refine (HF.out).mono ?_
  rintro e w1 ⟨rfl, hb1⟩
  have hr1 := HR0.out.below hb1 HR0.out.lt
  have hc1 : w1.cell? ⟨w.heap.size, 1, none⟩ = some (.bool true) := hr1.cell 1
  have hc2 : w1.cell? ⟨w.heap.size, 2, none⟩ = some (.bool false) := hr1.cell 2
  have hc3 : w1.cell? ⟨w.heap.size, 3, none⟩ = some (.bool false) := hr1.cell 3
  have HB1 := Lib.hid (HB0.out.trans (hb1.mono HB0.out.size))
  clear hb1 hr1 HF
  go_wp2_with fail
  go_ret
  exact ⟨by rw [← HV.out]; rfl, HB1.out⟩

set_option maxRecDepth 100000 in
theorem way101 (x : Int) (d : ByteArray) (w : World) (hsz : d.size = 1) (hds : d.data.toList = Lib.decDigits x.toNat)
    (hf : ∀ W, Below w.heap.size w W → Calls Tryd.prog 36 #[.int .i64 x] W fun e w' => e = .returned (.tuple #[.string d, .bool true]) ∧ Below W.heap.size W w') :
    Calls Tryd.prog 20 #[.agg #[.int .i64 x, .bool true, .bool false, .bool true]] w fun e w' => e = .returned (.string ⟨(keyText (x, true, false, true)).toArray⟩) ∧ Below w.heap.size w w' := by
  have hb0 : Below w.heap.size w (w.alloc (.cells #[.int .i64 x, .bool true, .bool false, .bool true] 32)) := (Below.refl _ w).alloc (Nat.le_refl _) _
  have hr0 : RowIs (w.alloc (.cells #[.int .i64 x, .bool true, .bool false, .bool true] 32)) w.heap.size 32 [.int .i64 x, .bool true, .bool false, .bool true] := heap_alloc_new w _
  obtain ⟨d1, e1, s1, r1⟩ := cat_small d ⟨#[110]⟩ (by have : (⟨#[110]⟩ : ByteArray).size = 1 := rfl; omega)
  have s1' : d1.size = d.size + 1 := s1
  obtain ⟨d2, e2, s2, r2⟩ := cat_small d1 ⟨#[102]⟩ (by have : (⟨#[102]⟩ : ByteArray).size = 1 := rfl; omega)
  have s2' : d2.size = d1.size + 1 := s2
  have HV : Hid (d2 = ⟨(keyText (x, true, false, true)).toArray⟩) := Lib.hid (ba_of (by rw [e2, e1, hds]; simp [keyText]))
  have HB0 := Lib.hid hb0
  have HR0 := Lib.hid hr0
  have HF := Lib.hid (hf _ hb0)
  clear hb0 hr0 hf hds e1 e2
  go_enter Tryd.func20, Tryd.ntmps20
  go_wp2_with fail
  refine (HF.out).mono ?_
  rintro e w1 ⟨rfl, hb1⟩
  have hr1 := HR0.out.below hb1 HR0.out.lt
  have hc1 : w1.cell? ⟨w.heap.size, 1, none⟩ = some (.bool true) := hr1.cell 1
  have hc2 : w1.cell? ⟨w.heap.size, 2, none⟩ = some (.bool false) := hr1.cell 2
  have hc3 : w1.cell? ⟨w.heap.size, 3, none⟩ = some (.bool true) := hr1.cell 3
  have HB1 := Lib.hid (HB0.out.trans (hb1.mono HB0.out.size))
  clear hb1 hr1 HF
  go_wp2_with fail
  go_ret
  exact ⟨by rw [← HV.out]; rfl, HB1.out⟩

set_option maxRecDepth 100000 in
theorem way110 (x : Int) (d : ByteArray) (w : World) (hsz : d.size = 1) (hds : d.data.toList = Lib.decDigits x.toNat)
    (hf : ∀ W, Below w.heap.size w W → Calls Tryd.prog 36 #[.int .i64 x] W fun e w' => e = .returned (.tuple #[.string d, .bool true]) ∧ Below W.heap.size W w') :
    Calls Tryd.prog 20 #[.agg #[.int .i64 x, .bool true, .bool true, .bool false]] w fun e w' => e = .returned (.string ⟨(keyText (x, true, true, false)).toArray⟩) ∧ Below w.heap.size w w' := by
  have hb0 : Below w.heap.size w (w.alloc (.cells #[.int .i64 x, .bool true, .bool true, .bool false] 32)) := (Below.refl _ w).alloc (Nat.le_refl _) _
  have hr0 : RowIs (w.alloc (.cells #[.int .i64 x, .bool true, .bool true, .bool false] 32)) w.heap.size 32 [.int .i64 x, .bool true, .bool true, .bool false] := heap_alloc_new w _
  obtain ⟨d1, e1, s1, r1⟩ := cat_small d ⟨#[110]⟩ (by have : (⟨#[110]⟩ : ByteArray).size = 1 := rfl; omega)
  have s1' : d1.size = d.size + 1 := s1
  obtain ⟨d2, e2, s2, r2⟩ := cat_small d1 ⟨#[100]⟩ (by have : (⟨#[100]⟩ : ByteArray).size = 1 := rfl; omega)
  have s2' : d2.size = d1.size + 1 := s2
  have HV : Hid (d2 = ⟨(keyText (x, true, true, false)).toArray⟩) := Lib.hid (ba_of (by rw [e2, e1, hds]; simp [keyText]))
  have HB0 := Lib.hid hb0
  have HR0 := Lib.hid hr0
  have HF := Lib.hid (hf _ hb0)
  clear hb0 hr0 hf hds e1 e2
  go_enter Tryd.func20, Tryd.ntmps20
  go_wp2_with fail
  refine (HF.out).mono ?_
  rintro e w1 ⟨rfl, hb1⟩
  have hr1 := HR0.out.below hb1 HR0.out.lt
  have hc1 : w1.cell? ⟨w.heap.size, 1, none⟩ = some (.bool true) := hr1.cell 1
  have hc2 : w1.cell? ⟨w.heap.size, 2, none⟩ = some (.bool true) := hr1.cell 2
  have hc3 : w1.cell? ⟨w.heap.size, 3, none⟩ = some (.bool false) := hr1.cell 3
  have HB1 := Lib.hid (HB0.out.trans (hb1.mono HB0.out.size))
  clear hb1 hr1 HF
  go_wp2_with fail
  go_ret
  exact ⟨by rw [← HV.out]; rfl, HB1.out⟩

set_option maxRecDepth 100000 in
theorem way111 (x : Int) (d : ByteArray) (w : World) (hsz : d.size = 1) (hds : d.data.toList = Lib.decDigits x.toNat)
    (hf : ∀ W, Below w.heap.size w W → Calls Tryd.prog 36 #[.int .i64 x] W fun e w' => e = .returned (.tuple #[.string d, .bool true]) ∧ Below W.heap.size W w') :
    Calls Tryd.prog 20 #[.agg #[.int .i64 x, .bool true, .bool true, .bool true]] w fun e w' => e = .returned (.string ⟨(keyText (x, true, true, true)).toArray⟩) ∧ Below w.heap.size w w' := by
  have hb0 : Below w.heap.size w (w.alloc (.cells #[.int .i64 x, .bool true, .bool true, .bool true] 32)) := (Below.refl _ w).alloc (Nat.le_refl _) _
  have hr0 : RowIs (w.alloc (.cells #[.int .i64 x, .bool true, .bool true, .bool true] 32)) w.heap.size 32 [.int .i64 x, .bool true, .bool true, .bool true] := heap_alloc_new w _
  obtain ⟨d1, e1, s1, r1⟩ := cat_small d ⟨#[110]⟩ (by have : (⟨#[110]⟩ : ByteArray).size = 1 := rfl; omega)
  have s1' : d1.size = d.size + 1 := s1
  obtain ⟨d2, e2, s2, r2⟩ := cat_small d1 ⟨#[100]⟩ (by have : (⟨#[100]⟩ : ByteArray).size = 1 := rfl; omega)
  have s2' : d2.size = d1.size + 1 := s2
  obtain ⟨d3, e3, s3, r3⟩ := cat_small d2 ⟨#[102]⟩ (by have : (⟨#[102]⟩ : ByteArray).size = 1 := rfl; omega)
  have s3' : d3.size = d2.size + 1 := s3
  have HV : Hid (d3 = ⟨(keyText (x, true, true, true)).toArray⟩) := Lib.hid (ba_of (by rw [e3, e2, e1, hds]; simp [keyText]))
  have HB0 := Lib.hid hb0
  have HR0 := Lib.hid hr0
  have HF := Lib.hid (hf _ hb0)
  clear hb0 hr0 hf hds e1 e2 e3
  go_enter Tryd.func20, Tryd.ntmps20
  go_wp2_with fail
  refine (HF.out).mono ?_
  rintro e w1 ⟨rfl, hb1⟩
  have hr1 := HR0.out.below hb1 HR0.out.lt
  have hc1 : w1.cell? ⟨w.heap.size, 1, none⟩ = some (.bool true) := hr1.cell 1
  have hc2 : w1.cell? ⟨w.heap.size, 2, none⟩ = some (.bool true) := hr1.cell 2
  have hc3 : w1.cell? ⟨w.heap.size, 3, none⟩ = some (.bool true) := hr1.cell 3
  have HB1 := Lib.hid (HB0.out.trans (hb1.mono HB0.out.size))
  clear hb1 hr1 HF
  go_wp2_with fail
  go_ret
  exact ⟨by rw [← HV.out]; rfl, HB1.out⟩

theorem formatSpec_any (p : Int × Bool × Bool × Bool) (w : World) (h0 : 0 ≤ p.1 ∧ p.1 ≤ 5) (htab : Lib.TabIs Tryd.prog w "internal/strconv.uint64pow10" .u64 Lib.pow10Tab) :
    Calls Tryd.prog 20 #[.agg #[.int .i64 p.1, .bool p.2.1, .bool p.2.2.1, .bool p.2.2.2]] w fun e w' => e = .returned (.string ⟨(keyText p).toArray⟩) ∧ Below w.heap.size w w' := by
  obtain ⟨x, a, b, c⟩ := p
  have h1 : 0 ≤ x := h0.1
  have h2 : x ≤ 5 := h0.2
  have HT := Lib.tabBelow_of_tabIs htab
  have hds : (⟨(Lib.itoa x).toArray⟩ : ByteArray).data.toList = Lib.decDigits x.toNat := by
    obtain ⟨u, rfl⟩ : ∃ u : Nat, x = u := ⟨x.toNat, by omega⟩
    rw [Lib.itoa_nonneg]; simp
  have hsz : (⟨(Lib.itoa x).toArray⟩ : ByteArray).size = 1 := by
    have h := decDigits_small (u := x.toNat) (by omega)
    rw [← hds] at h
    have h' : ((Lib.itoa x).toArray).toList.length = 1 := h
    show ((Lib.itoa x).toArray).size = 1
    simpa using h'
  have hf := fun W hb => implFmt_yes x W (by omega) (by omega) (HT W hb)
  cases a <;> cases b <;> cases c
  · exact way000 x _ w hsz hds hf
  · exact way001 x _ w hsz hds hf
  · exact way010 x _ w hsz hds hf
  · exact way011 x _ w hsz hds hf
  · exact way100 x _ w hsz hds hf
  · exact way101 x _ w hsz hds hf
  · exact way110 x _ w hsz hds hf
  · exact way111 x _ w hsz hds hf

theorem infoStrM : (Tryd.prog.info? 9).map (fun i => (i.zero, i.size, i.bytes)) = some (some (.string ⟨#[]⟩), 1, 16) := by kernel_rfl

theorem strs_replicate (n : Nat) (x : ByteArray) : strs (List.replicate n x) = List.replicate n (.string x) := by unfold strs; simp
theorem strs_set (l : List ByteArray) (k : Nat) (x : ByteArray) : (strs l).set k (.string x) = strs (l.set k x) := by unfold strs; rw [List.map_set]

theorem makeStrs (n : Nat) (hn : n ≤ 1048576) (W : World) : (Instr.makeSlice 46 (.int .i64 (n : Int)) (.int .i64 (n : Int))).run Tryd.prog W = .ok (.slice (some ⟨W.heap.size, 0, none⟩) n n) (W.alloc (.cells (strs (List.replicate n ⟨#[]⟩)).toArray 9)) := by
  obtain ⟨i0, hi, hz0, hz1, hz2⟩ := info_parts infoStrM
  have h1 := run_make (P := Tryd.prog) W 46 9 i0 (.string ⟨#[]⟩) Tryd.underlying46 hi hz0 .i64 .i64 (n : Int) (n : Int) (by omega) (by omega) (by rw [hz2]; omega) (by omega)
  have h2 : madeCells (Value.string ⟨#[]⟩).cells ((n : Int).toNat * i0.size) = (strs (List.replicate n ⟨#[]⟩)).toArray := by
    rw [hz1, Int.toNat_natCast, Nat.mul_one]
    apply Array.toList_inj.1
    rw [show (Value.string ⟨#[]⟩).cells = #[.string ⟨#[]⟩] from rfl, strs_replicate, toList_madeCells_one]
  rw [h1, h2, Int.toNat_natCast]

/-- The texts of the keys. -/
def texts (l : List (Int × Bool × Bool × Bool)) : List ByteArray := l.map fun p => ⟨(keyText p).toArray⟩
theorem texts_at {l : List (Int × Bool × Bool × Bool)} {k : Nat} {p : Int × Bool × Bool × Bool} (h : l[k]? = some p) : (texts l)[k]? = some ⟨(keyText p).toArray⟩ := by unfold texts; rw [List.getElem?_map, h]; rfl
theorem texts_length (l : List (Int × Bool × Bool × Bool)) : (texts l).length = l.length := by unfold texts; simp

theorem idx_free {x : ByteArray} {b : UInt8} (h : ∀ c ∈ x.data.toList, c ≠ b) : ∀ k, k ≤ x.size → idx x b k = [] := by
  intro k hk
  induction k with
  | zero => rfl
  | succ k ih =>
    rw [idx_miss (by omega) (fun e => h x[k] (by
      have : x[k] = x.data[k] := rfl
      rw [this]; simp) e)]
    exact ih (by omega)

theorem keyText_free {p : Int × Bool × Bool × Bool} (h : 0 ≤ p.1 ∧ p.1 ≤ 5) : ∀ c ∈ keyText p, c ≠ 44 := by
  obtain ⟨x, a, b, c⟩ := p
  have h0 : 0 ≤ x := h.1
  have h5 : x ≤ 5 := h.2
  have : x = 0 ∨ x = 1 ∨ x = 2 ∨ x = 3 ∨ x = 4 ∨ x = 5 := by omega
  rcases this with rfl | rfl | rfl | rfl | rfl | rfl <;> cases a <;> cases b <;> cases c <;> (simp only [keyText]; rw [Lib.decDigits_one (by decide)]; decide)

theorem specText_jn (l : List (Int × Bool × Bool × Bool)) : jn (texts l) ⟨#[44]⟩ (texts l).length = specText l := by
  unfold jn specText texts
  rw [List.take_length, List.map_map]
  rfl

theorem join_specs {l : List (Int × Bool × Bool × Bool)} (h : OkS l) : joinVal (texts l) ⟨#[44]⟩ 44 = .tuple #[.string ⟨(specText l).toArray⟩, .bool true] := by
  have hg : Good (texts l) 44 := by
    refine good_of (sep := ⟨#[44]⟩) rfl (by rw [texts_length]; exact h.1.1) (fun j x hj hx => ?_) ?_
    · have hjl : j < l.length := by rwa [texts_length] at hj
      have hp := List.getElem?_eq_getElem hjl
      rw [texts_at hp] at hx
      obtain rfl := Option.some.inj hx
      exact idx_free (fun c hc => keyText_free (h.2 l[j] (List.getElem_mem hjl)) c (by simpa using hc)) _ (Nat.le_refl _)
    · rw [specText_jn]
      have h1 := specText_len l h.2 l.length (Nat.le_refl _)
      rw [List.take_length] at h1
      have := h.1.2
      omega
  have := joinVal_yes (sep := ⟨#[44]⟩) hg
  rw [specText_jn] at this
  exact (Ending.returned.inj this).symm

set_option maxRecDepth 100000 in
set_option maxHeartbeats 4000000 in
theorem implFmtS_any (v : Value) (l : List (Int × Bool × Bool × Bool)) (w : World) (hv : FlatAt w v l.length (keys l)) (hn : l.length ≤ 1048576) (htab : Lib.TabIs Tryd.prog w "internal/strconv.uint64pow10" .u64 Lib.pow10Tab) :
    Calls Tryd.prog 8 #[v] w fun e w' => e = .returned (fmtSVal l) ∧ Below w.heap.size w w' := by
  have HC := Lib.hid (isValidSpecs_any v l w hv hn)
  have HT := Lib.hid (Lib.tabBelow_of_tabIs htab)
  have HV := Lib.hid hv
  have hv0 := hv
  obtain ⟨a, c, rfl, _, h⟩ := hv0
  clear hv htab h
  by_cases hok : OkS l
  · have hval : fmtSVal l = .tuple #[.string ⟨(specText l).toArray⟩, .bool true] := by unfold fmtSVal; rw [if_pos hok]
    rw [decide_eq_true hok] at HC
    have HOK := Lib.hid hok
    rw [hval]
    have hmk := makeStrs l.length hn
    clear hok hval
    go_enter Tryd.func8, Tryd.ntmps8
    go_wp2_with fail
    refine (HC.out).mono ?_
    rintro e w1 ⟨rfl, hb⟩
    obtain ⟨g, hg⟩ : ∃ g, g = w1.heap.size := ⟨_, rfl⟩
    have HB1 := Lib.hid hb
    have HV1 := Lib.hid (HV.out.below hb)
    have HB2 := Lib.hid (show Below w1.heap.size w1 (w1.alloc (.cells (strs (List.replicate l.length ⟨#[]⟩)).toArray 9)) from (Below.refl _ w1).alloc (Nat.le_refl _) _)
    have hrow := heap_alloc_new w1 (.cells (strs (List.replicate l.length ⟨#[]⟩)).toArray 9)
    have HROW := Lib.hid (CellRow.of_row hrow)
    clear hb hrow HC
    go_wp2_with fail
    clear hmk
    go_loopw [5, 6, 15] (fun _ _ i wr => ∃ k : Nat, k ≤ l.length ∧ i = .int .i64 k ∧ CellRow wr w1.heap.size (strs (fill (texts l) ⟨#[]⟩ k)) ∧ Below w1.heap.size w1 wr) (fun _ _ i _ => l.length - (intOf i).toNat)
    case atStart => exact ⟨0, Nat.zero_le _, rfl, by rw [fill_zero, texts_length]; exact HROW.out, HB2.out⟩
    case round =>
      obtain ⟨k, hk, rfl, hr, hb⟩ := hrel
      have HR := Lib.hid hr
      have HB := Lib.hid hb
      clear hr hb HROW HB2
      by_cases hlt : k < l.length
      · have hltz : (k : Int) < (l.length : Int) := by omega
        obtain ⟨p, hp⟩ : ∃ p, l[k]? = some p := ⟨_, List.getElem?_eq_getElem hlt⟩
        obtain ⟨_, _, he, _, hcs⟩ := HV1.out.below HB.out
        simp at he
        obtain ⟨rfl, rfl⟩ := he
        obtain ⟨b, o, rfl, hbb, hc0, hc1, hc2, hc3⟩ := keys_el hcs hp
        have HP := Lib.hid hp
        clear hcs hp
        go_wp2_with fail
        have HA := Lib.hid (show Below wr.heap.size wr (wr.alloc (.cells #[.int .i64 p.1, .bool p.2.1, .bool p.2.2.1, .bool p.2.2.2] 32)) from (Below.refl _ wr).alloc (Nat.le_refl _) _)
        refine (formatSpec_any p _ (HOK.out.2 p (List.mem_of_getElem? HP.out)) (HT.out _ ((HB1.out.trans (HB.out.mono HB1.out.size)).trans (HA.out.mono (Nat.le_trans HB1.out.size HB.out.size))))).mono ?_
        rintro e w2 ⟨rfl, hb2⟩
        have HB2 := Lib.hid (HA.out.trans (hb2.mono HA.out.size))
        have hr2 := HR.out.below HB2.out HR.out.1
        obtain ⟨hg1, hf1⟩ := hr2.2 k _ (strs_at (fill_at (d := (⟨#[]⟩ : ByteArray)) (l := texts l) (by rw [texts_length]; exact hlt)))
        have HR2 := Lib.hid hr2
        clear hb2 hr2
        go_wp2_with fail
        go_roundw
        case rel =>
          refine ⟨k + 1, by omega, by go_num, ?_, (HB.out.trans (HB2.out.mono HB.out.size)).setCell (p := ⟨w1.heap.size, k, none⟩) (Nat.le_refl _) _⟩
          rw [← fill_set (texts_at HP.out), ← strs_set]
          exact HR2.out.set k _ (by rw [strs_length, fill_length _ _ _ (by rw [texts_length]; exact hk), texts_length]; exact hlt)
        case measure => simp [intOf]; omega
      · have hltz : ¬ (k : Int) < (l.length : Int) := by omega
        obtain rfl : k = l.length := by omega
        have hrow : CellRow wr w1.heap.size (strs (texts l)) := by
          have := HR.out
          rwa [show l.length = (texts l).length from (texts_length l).symm, fill_all] at this
        have hst : StrsAt wr (.slice (some ⟨w1.heap.size, 0, none⟩) l.length l.length) (texts l) := by
          have := FlatAt.strs (xs := texts l) (by rw [texts_length]; exact hrow.flat (Nat.le_refl _))
          exact this
        have HST := Lib.hid hst
        have HJ := Lib.hid (join_specs HOK.out)
        have HX : Hid (∀ (j : Nat) x, (texts l)[j]? = some x → x.size ≤ 1048576) := Lib.hid (fun j x hx => by
          have hj : j < l.length := by have := (List.getElem?_eq_some_iff.1 hx).1; rwa [texts_length] at this
          rw [texts_at (List.getElem?_eq_getElem hj)] at hx
          obtain rfl := Option.some.inj hx
          have := keyText_len (HOK.out.2 l[j] (List.getElem_mem hj))
          show ((keyText l[j]).toArray).size ≤ 1048576
          simp; omega)
        clear hrow hst
        go_wp2_with fail
        refine (implJoin_any _ (texts l) ⟨#[44]⟩ wr HST.out (by rw [texts_length]; exact HOK.out.1.1) (by rw [texts_length]; exact hn) HX.out rfl 44 (by decide) rfl).mono ?_
        rw [HJ.out]
        rintro e w3 ⟨rfl, hb3⟩
        have HB3 := Lib.hid ((HB1.out.trans (HB.out.mono HB1.out.size)).trans (hb3.mono (Nat.le_trans HB1.out.size HB.out.size)))
        clear hb3
        go_wp2_with fail
        go_ret2
        exact ⟨rfl, HB3.out⟩
  · have hval : fmtSVal l = .tuple #[.string ⟨#[]⟩, .bool false] := by unfold fmtSVal; rw [if_neg hok]
    rw [decide_eq_false hok] at HC
    rw [hval]
    clear hok hval
    go_enter Tryd.func8, Tryd.ntmps8
    go_wp2_with fail
    refine (HC.out).mono ?_
    rintro e w1 ⟨rfl, hb⟩
    have HB1 := Lib.hid hb
    clear hb
    go_wp2_with fail
    go_ret2
    exact ⟨rfl, HB1.out⟩

end Go.Proofs.YtcbeoihgaccjcaaDoor
