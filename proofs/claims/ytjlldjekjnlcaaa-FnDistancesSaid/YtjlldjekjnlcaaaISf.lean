/- The program's SpearmanFootrule, by its contract. -/
import Derived.Test.YtjlldjekjnlcaaaIRnk
namespace Go.Proofs.Ytjlldjekjnlcaaa
open Go.RowKit P Iv
set_option linter.unusedVariables false

set_option maxRecDepth 100000 in
set_option maxHeartbeats 4000000 in
theorem implSf_any (v : Value) (l : List Int) (v' : Value) (m : List Int) (w : World) (hv : FlatAt w v l.length (ints l)) (hn : l.length ≤ 1048576) (hv' : FlatAt w v' m.length (ints m)) (hn' : m.length ≤ 1048576) :
    Calls Try.prog 28 #[v, v'] w fun e w' => e = .returned (.tuple #[.int .i64 (sfF l m).1, .bool (sfF l m).2]) ∧ Below w.heap.size w w' := by
  by_cases hok : OkB l m
  · have HR := Lib.hid (rankPairs_yes v l v' m w hv hv' hok)
    have HF : Hid (sfF l m = (((ff l m : Nat) : Int), true)) := Lib.hid (sfF_yes hok)
    have HS := Lib.hid (zip_small hok)
    have hl64 := hok.1.1
    have HFL := Lib.hid (ff_le hok)
    have hz64 : (l.zip m).length ≤ 64 := by rw [List.length_zip]; have := hok.1.1; omega
    obtain ⟨z, hz⟩ : ∃ z, z = l.zip m := ⟨_, rfl⟩
    have HFF : Hid (ff l m = fz z) := Lib.hid (by rw [hz]; rfl)
    rw [← hz] at HR HS hz64
    have HFD := Lib.hid (fun k a (h : z[k]? = some a) => fz_drop h)
    have HFE := Lib.hid (fun k (h : z.length ≤ k) => fz_end h)
    clear hok hv hv' hz
    go_enter Try.func28, Try.ntmps28
    go_wp2_with fail
    refine (HR.out).mono ?_
    rintro e w1 ⟨g, rfl, hr, hb⟩
    have HE := Lib.hid (fun (W : World) (hb : Below w1.heap.size w1 W) j (a : Int × Int) (hj : z[j]? = some a) => by
      obtain ⟨h1, h2⟩ := recs_at hj
      have hrw := hr.below hb hr.1
      exact (⟨(hrw.2 _ _ h1).1, (hrw.2 _ _ h2).1⟩ : W.cell? ⟨g, j * 2, none⟩ = some (.int .i64 a.1) ∧ W.cell? ⟨g, j * 2 + 1, none⟩ = some (.int .i64 a.2)))
    have hgw := hr.1
    have HB := Lib.hid hb
    clear hr hb HR
    go_wp2_with fail
    go_loopw [8, 10, 21] (fun n _ i wr => ∃ (k s : Nat), k ≤ z.length ∧ i = .int .i64 k ∧ n = .int .i64 s ∧ Hid (s + fz (z.drop k) = fz z) ∧ Below w1.heap.size w1 wr) (fun _ _ i _ => z.length - (intOf i).toNat)
    case atStart => exact ⟨0, 0, Nat.zero_le _, rfl, rfl, Lib.hid (by simp), Below.refl _ _⟩
    case round =>
      obtain ⟨k, s, hk, rfl, rfl, HM, hb⟩ := hrel
      have HB2 := Lib.hid hb
      clear hb
      by_cases hlt : k < z.length
      · obtain ⟨⟨x, y⟩, hx⟩ : ∃ x, z[k]? = some x := ⟨_, List.getElem?_eq_getElem hlt⟩
        obtain ⟨hcx, hcy⟩ := HE.out _ HB2.out _ _ hx
        obtain ⟨hx0, hx1, hy0, hy1⟩ := HS.out (x, y) (List.mem_of_getElem? hx)
        have HD := Lib.hid (HFD.out _ _ hx)
        simp only at hcx hcy hx0 hx1 hy0 hy1
        have hgr : g < wr.heap.size := Nat.lt_of_lt_of_le hgw HB2.out.size
        have hx64 : x < 64 := by omega
        have hy64 : y < 64 := by omega
        obtain ⟨d, hd⟩ : ∃ d, d = (x - y).natAbs := ⟨_, rfl⟩
        have hmax : max (x - y) (y - x) = (d : Int) := by omega
        have HSB : Hid (s ≤ 4096 ∧ d ≤ 64) := Lib.hid (by have := HM.out; have := HFL.out; have := HFF.out; omega)
        have hs1 := HSB.out.1
        have hd1 := HSB.out.2
        have HDD := Lib.hid hd
        clear hx hx1 hy1 hd
        have HBN : Hid (Below w1.heap.size w1 (wr.alloc (.cells #[.int .i64 x, .int .i64 y] 59))) := Lib.hid (HB2.out.alloc HB2.out.size _)
        go_wp2_with fail
        go_roundw
        case rel => exact ⟨k + 1, s + d, by omega, by go_num, by go_num, Lib.hid (by have h1 := HM.out; have h2 := HD.out; have h3 := HDD.out; simp only at h2; omega), HBN.out⟩
        case measure => simp [intOf]; omega
      · obtain rfl : k = z.length := by omega
        have hs : s = ff l m := by have h1 := HM.out; have h2 := HFE.out z.length (Nat.le_refl _); have := HFF.out; omega
        obtain rfl := hs
        go_wp2_with fail
        go_ret2
        exact ⟨by rw [HF.out]; rfl, HB.out.trans (HB2.out.mono HB.out.size)⟩
  · have HR := Lib.hid (rankPairs_no v l v' m w hv hn hv' hn' hok)
    have HF := Lib.hid (sfF_no hok)
    clear hok hv hv'
    go_enter Try.func28, Try.ntmps28
    go_wp2_with fail
    refine (HR.out).mono ?_
    rintro e w1 ⟨rfl, hb⟩
    have HB := Lib.hid hb
    clear hb HR
    go_wp2_with fail
    go_ret2
    exact ⟨by rw [HF.out]; rfl, HB.out⟩

end Go.Proofs.Ytjlldjekjnlcaaa
