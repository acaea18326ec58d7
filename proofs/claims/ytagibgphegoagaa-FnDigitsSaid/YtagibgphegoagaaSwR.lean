/- Exchanging two parts of a row of structs, and turning a part (loop.example/g00907/impl.Record). -/
import Derived.Test.YtagibgphegoagaaStC
import Derived.Test.YtagibgphegoagaaRows
import Derived.Shelf.SlSortCmp.KitK
import Derived.Sort.WalkB2
import Derived.Sort.WalkB12
import Derived.Deep.LoopGhost
import Derived.Deep.CutRange
import Derived.Deep.Cut
import Derived.Lib.Hide
namespace Go.Proofs.Ytagibgphegoagaa
open Go.Shelf Go.RowKit Go.Lib Go.Sort StC

/-- The cells of an element. -/
def encR (x : (Int × Int)) : List Value := [.int .i64 x.1, .int .i64 x.2]
theorem cellsR {w0 W : World} {blk off : Nat} {d0 dk : Array (Int × Int)} (S : SWK encR 2 w0 blk off dk W) (R : RowK encR 2 w0 blk off d0) (hs : dk.size = d0.size) (i : Nat) (hi : i < dk.size) :
    (W.cell? ⟨blk, off + (i) * 2, none⟩ = some (.int .i64 dk[i]!.1) ∧ W.frozen? ⟨blk, off + (i) * 2, none⟩ = false) ∧ (W.cell? ⟨blk, off + (i) * 2 + 1, none⟩ = some (.int .i64 dk[i]!.2) ∧ W.frozen? ⟨blk, off + (i) * 2 + 1, none⟩ = false) :=
  ⟨(S.holds R.hblk R.hH hs).cell (c := 0) hi (by omega), (S.holds R.hblk R.hH hs).cell (c := 1) hi (by omega)⟩

set_option maxHeartbeats 8000000 in
set_option maxRecDepth 1000000 in
theorem swapRangeR (g : Nat) (cb : Array Value) (blk off cap : Nat) (d0 : Array (Int × Int)) (w0 w : World) (R : RowK encR 2 w0 blk off d0) (hsz : d0.size < 4611686018427387904)
    (p X M Y s : List (Int × Int)) (hXY : X.length = Y.length) (hN : d0.size = p.length + X.length + M.length + Y.length + s.length) (az bz nz : Int) (haz : az = (p.length : Nat)) (hbz : bz = (p.length + X.length + M.length : Nat)) (hnz : nz = (X.length : Nat))
    (S : SWK encR 2 w0 blk off (p ++ X ++ M ++ Y ++ s).toArray w) :
    Calls Try.prog 200 #[.slice (some ⟨blk, off, none⟩) d0.size cap, .int .i64 az, .int .i64 bz, .int .i64 nz, .func (.func g) #[] cb] w fun e w' =>
      e = .returned (.tuple #[]) ∧ SWK encR 2 w0 blk off (p ++ Y ++ M ++ X ++ s).toArray w' := by
  obtain ⟨a, ha⟩ : ∃ a, a = p.length := ⟨_, rfl⟩
  obtain ⟨b, hb⟩ : ∃ b, b = p.length + X.length + M.length := ⟨_, rfl⟩
  obtain ⟨n, hn⟩ : ∃ n, n = X.length := ⟨_, rfl⟩
  rw [← ha] at haz
  rw [← hb] at hbz
  rw [← hn] at hnz
  subst haz hbz hnz
  have S0 : Aside (SWK encR 2 w0 blk off (p ++ X ++ M ++ Y ++ s).toArray w) := S
  have HN := Lib.hid hN
  have HA := Lib.hid ha
  have HB := Lib.hid hb
  have HNN := Lib.hid hn
  have HXY := Lib.hid hXY
  have bnd : a + n ≤ b ∧ b + n ≤ d0.size := by omega
  clear S hN ha hb hn hXY
  have mixed : Try.prog.follows .mixedOrders = true := by kernel_rfl
  go_enter Try.func200, Try.ntmps200
  go_wp2
  go_loopg [10] n (fun kx s10 wr => ∃ (i : Nat) (dk : Array (Int × Int)), s10 = .int .i64 i ∧ i ≤ n ∧ n - i ≤ kx ∧ dk.size = d0.size ∧ Aside (SWK encR 2 w0 blk off dk wr) ∧ Hid (dk = (p ++ Y.take i ++ X.drop i ++ M ++ X.take i ++ Y.drop i ++ s).toArray))
  case atStart => exact ⟨0, _, rfl, by omega, Nat.le_refl _, by have := HN.out; simp; omega, S0, (show _ = _ by simp)⟩
  case round =>
    clear S0
    obtain ⟨i, dk, rfl, hin, hkx, hs, S1, HD⟩ := hrel
    by_cases hlt : i < n
    · have hltz : (i : Int) < (n : Int) := by omega
      have eas : ((a : Int) + (i : Int)).toNat = a + i := by omega
      have pas : (0 : Int) ≤ (a : Int) + (i : Int) := by omega
      have bas : (a : Int) + (i : Int) < (d0.size : Int) := by omega
      have ras : IntKind.i64.wrap ((a : Int) + (i : Int)) = (a : Int) + (i : Int) := by rw [IntKind.wrap_i64]; omega
      have ecs : ((b : Int) + (i : Int)).toNat = b + i := by omega
      have pcs : (0 : Int) ≤ (b : Int) + (i : Int) := by omega
      have bcs : (b : Int) + (i : Int) < (d0.size : Int) := by omega
      have rcs : IntKind.i64.wrap ((b : Int) + (i : Int)) = (b : Int) + (i : Int) := by rw [IntKind.wrap_i64]; omega
      obtain ⟨xs, hxs⟩ : ∃ x, x = dk[a + i]! := ⟨_, rfl⟩
      obtain ⟨ys, hys⟩ : ∃ x, x = dk[b + i]! := ⟨_, rfl⟩
      have S2 : Aside (SWK encR 2 w0 blk off (swp dk (a + i) (b + i)) ((((wr.setCell ⟨blk, off + (a + i) * 2, none⟩ (.int .i64 ys.1)).setCell ⟨blk, off + (a + i) * 2 + 1, none⟩ (.int .i64 ys.2)).setCell ⟨blk, off + (b + i) * 2, none⟩ (.int .i64 xs.1)).setCell ⟨blk, off + (b + i) * 2 + 1, none⟩ (.int .i64 xs.2)).drew) := by rw [hxs, hys]; exact S1.out.swapped R (a + i) (b + i) (by omega) (by omega)
      have has := cellsR S1.out.drew R (by omega) (a + i) (by omega)
      have hbs := cellsR S1.out.drew R (by omega) (b + i) (by omega)
      have hds := cellsR S1.out R (by omega) (a + i) (by omega)
      have hes := cellsR S1.out R (by omega) (b + i) (by omega)
      rw [← hxs] at has hds
      rw [← hys] at hbs hes
      obtain ⟨⟨las0, fas0⟩, ⟨las1, fas1⟩⟩ := has
      obtain ⟨⟨lbs0, fbs0⟩, ⟨lbs1, fbs1⟩⟩ := hbs
      obtain ⟨⟨lds0, fds0⟩, ⟨lds1, fds1⟩⟩ := hds
      obtain ⟨⟨les0, fes0⟩, ⟨les1, fes1⟩⟩ := hes
      have nes00 : ¬ (off + (b + i) * 2 = off + (a + i) * 2) := by omega
      have nes01 : ¬ (off + (b + i) * 2 = off + (a + i) * 2 + 1) := by omega
      have nes10 : ¬ (off + (b + i) * 2 + 1 = off + (a + i) * 2) := by omega
      have nes11 : ¬ (off + (b + i) * 2 + 1 = off + (a + i) * 2 + 1) := by omega
      clear S1 hxs hys
      go_wp2_with fail
      go_big_region_o
      clear las0 fas0 las1 fas1 lbs0 fbs0 lbs1 fbs1 lds0 fds0 lds1 fds1 les0 fes0 les1 fes1
      generalize ((((wr.setCell ⟨blk, off + (a + i) * 2, none⟩ (.int .i64 ys.1)).setCell ⟨blk, off + (a + i) * 2 + 1, none⟩ (.int .i64 ys.2)).setCell ⟨blk, off + (b + i) * 2, none⟩ (.int .i64 xs.1)).setCell ⟨blk, off + (b + i) * 2 + 1, none⟩ (.int .i64 xs.2)).drew = w2 at S2 ⊢
      go_wp2

      go_roundg (n - (i + 1))
      case measure => omega
      case rel =>
        refine ⟨i + 1, _, by go_num, by omega, Nat.le_refl _, ?_, S2, (show _ = _ from ?_)⟩
        · rw [size_swp]; exact hs
        · have h1 : i < X.length := by have := HNN.out; omega
          have h2 : i < Y.length := by have := HNN.out; have := HXY.out; omega
          rw [HD.out]
          exact swap_half p X M Y s i h1 h2 (by have := HA.out; omega) (by have := HB.out; omega)
    · have hltz : ¬ (i : Int) < (n : Int) := by omega
      go_wp2
      go_end0
      refine ⟨rfl, ?_⟩
      have e : i = n := by omega
      subst e
      have h2 := HD.out
      rw [HNN.out] at h2
      rw [List.take_of_length_le (Nat.le_refl X.length), List.drop_eq_nil_of_le (Nat.le_refl X.length), HXY.out, List.take_of_length_le (Nat.le_refl Y.length), List.drop_eq_nil_of_le (Nat.le_refl Y.length)] at h2
      have h3 := S1.out
      rw [h2] at h3
      simpa using h3

set_option maxHeartbeats 8000000 in
set_option maxRecDepth 1000000 in
theorem rotateR (g : Nat) (cb : Array Value) (blk off cap : Nat) (d0 : Array (Int × Int)) (w0 w : World) (R : RowK encR 2 w0 blk off d0) (hsz : d0.size < 4611686018427387904)
    (p A B s : List (Int × Int)) (hA : 0 < A.length) (hB : 0 < B.length) (hN : d0.size = p.length + A.length + B.length + s.length) (az mz bz : Int) (haz : az = (p.length : Nat)) (hmz : mz = (p.length + A.length : Nat)) (hbz : bz = (p.length + A.length + B.length : Nat))
    (S : SWK encR 2 w0 blk off (p ++ A ++ B ++ s).toArray w) :
    Calls Try.prog 197 #[.slice (some ⟨blk, off, none⟩) d0.size cap, .int .i64 az, .int .i64 mz, .int .i64 bz, .func (.func g) #[] cb] w fun e w' =>
      e = .returned (.tuple #[]) ∧ SWK encR 2 w0 blk off (p ++ B ++ A ++ s).toArray w' := by
  obtain ⟨a, ha⟩ : ∃ a, a = p.length := ⟨_, rfl⟩
  obtain ⟨m, hm⟩ : ∃ m, m = p.length + A.length := ⟨_, rfl⟩
  obtain ⟨b, hb⟩ : ∃ b, b = p.length + A.length + B.length := ⟨_, rfl⟩
  rw [← ha] at haz
  rw [← hm] at hmz
  rw [← hb] at hbz
  subst haz hmz hbz
  have HSW := Lib.hid (fun (w : World) (p X M Y s : List (Int × Int)) hXY hN az bz nz haz hbz hnz S => swapRangeR g cb blk off cap d0 w0 w R hsz p X M Y s hXY hN az bz nz haz hbz hnz S)
  have S0 : Aside (SWK encR 2 w0 blk off (p ++ A ++ B ++ s).toArray w) := S
  have HN := Lib.hid hN
  have HA := Lib.hid ha
  have HM := Lib.hid hm
  have HB := Lib.hid hb
  have bnd : a < m ∧ m < b ∧ b ≤ d0.size := by omega
  have r1 : IntKind.i64.wrap ((m : Int) - (a : Int)) = (m : Int) - (a : Int) := by rw [IntKind.wrap_i64]; omega
  have r2 : IntKind.i64.wrap ((b : Int) - (m : Int)) = (b : Int) - (m : Int) := by rw [IntKind.wrap_i64]; omega
  clear S hN ha hm hb hA hB
  go_enter Try.func197, Try.ntmps197
  go_wp2
  go_loopg [10, 11] (b - a) (fun kx s10 s11 wr => ∃ (i j : Nat), s10 = .int .i64 i ∧ s11 = .int .i64 j ∧ 0 < i ∧ 0 < j ∧ i + j ≤ kx ∧ i ≤ m - a ∧ j ≤ b - m ∧ ∃ (F X Y G : List (Int × Int)), Hid (X.length = i ∧ Y.length = j ∧ F.length + i = m - a ∧ F ++ Y ++ X ++ G = B ++ A ∧ p.length + F.length + X.length + Y.length + (G ++ s).length = d0.size) ∧ Aside (SWK encR 2 w0 blk off (p ++ F ++ X ++ Y ++ G ++ s).toArray wr))
  case atStart =>
    refine ⟨m - a, b - m, by congr 1; omega, by congr 1; omega, by omega, by omega, by omega, Nat.le_refl _, Nat.le_refl _, [], A, B, [], (show _ ∧ _ from ⟨?_, ?_, by simp, by simp, ?_⟩), ?_⟩
    · have := HM.out; have := HA.out; omega
    · have := HM.out; have := HB.out; omega
    · have := HN.out; simp; omega
    · have := S0.out; show SWK encR 2 w0 blk off _ _; simpa using this
  case round =>
    clear S0
    obtain ⟨i, j, rfl, rfl, hi, hj, hkx, him, hjm, F, X, Y, G, HL, S1⟩ := hrel
    have hsum : m ≤ d0.size ∧ b ≤ d0.size := by omega
    have ri : IntKind.i64.wrap ((m : Int) - (i : Int)) = (m : Int) - (i : Int) := by rw [IntKind.wrap_i64]; omega
    have rj : IntKind.i64.wrap ((m : Int) + (j : Int)) = (m : Int) + (j : Int) := by rw [IntKind.wrap_i64]; omega
    have rji : IntKind.i64.wrap ((m : Int) + (j : Int) - (i : Int)) = (m : Int) + (j : Int) - (i : Int) := by rw [IntKind.wrap_i64]; omega
    have rij : IntKind.i64.wrap ((i : Int) - (j : Int)) = (i : Int) - (j : Int) := by rw [IntKind.wrap_i64]; omega
    have rji2 : IntKind.i64.wrap ((j : Int) - (i : Int)) = (j : Int) - (i : Int) := by rw [IntKind.wrap_i64]; omega
    by_cases heq : i = j
    · subst heq
      have q := HSW.out wr (p ++ F) X [] Y (G ++ s) (by rw [HL.out.1, HL.out.2.1]) (by have := HL.out.2.2.2.2; simp at this ⊢; omega) ((m : Int) - (i : Int)) m i (by have := HL.out; have := HM.out; have := HA.out; simp; omega) (by have := HL.out; have := HM.out; have := HA.out; simp; omega) (by rw [HL.out.1]) (by have := S1.out; simpa using this)
      have HQ := Lib.hid q
      clear q
      go_wp2_with fail
      refine (HQ.out).mono ?_
      rintro e w1 ⟨rfl, S2⟩
      go_wp2
      go_end0
      refine ⟨rfl, ?_⟩
      have e := HL.out.2.2.2.1
      rw [show p ++ F ++ Y ++ [] ++ X ++ (G ++ s) = p ++ (F ++ Y ++ X ++ G) ++ s by simp, e] at S2
      simpa using S2
    · have heqz : ¬ ((i : Int) = (j : Int)) := by omega
      have heqb : ((i : Int) == (j : Int)) = false := by simpa using heqz
      by_cases hgt : j < i
      · have hgtz : (j : Int) < (i : Int) := by omega
        obtain ⟨X1, X2, hX, hX1, hX2⟩ : ∃ X1 X2, X = X1 ++ X2 ∧ X1.length = j ∧ X2.length = i - j := ⟨X.take j, X.drop j, by simp, by have := HL.out.1; simp; omega, by have := HL.out.1; simp; omega⟩
        subst hX
        have q := HSW.out wr (p ++ F) X1 X2 Y (G ++ s) (by rw [hX1, HL.out.2.1]) (by have := HL.out.2.2.2.2; simp at this ⊢; omega) ((m : Int) - (i : Int)) m j (by have := HL.out; have := HM.out; have := HA.out; simp; omega) (by have := HL.out; have := HM.out; have := HA.out; simp; omega) (by rw [hX1]) (by have := S1.out; simpa using this)
        have HQ := Lib.hid q
        have HX := Lib.hid (And.intro hX1 hX2)
        clear q hX1 hX2
        go_wp2_with fail
        refine (HQ.out).mono ?_
        rintro e w1 ⟨rfl, S2⟩
        have S3 : Aside (SWK encR 2 w0 blk off (p ++ (F ++ Y) ++ X2 ++ X1 ++ G ++ s).toArray w1) := by show SWK encR 2 w0 blk off _ _; simpa using S2
        clear S1 S2 HQ
        go_wp2
        go_roundg (i - j + j)
        case measure => omega
        case rel =>
          have h := HL.out
          refine ⟨i - j, j, by congr 1; omega, rfl, by omega, hj, Nat.le_refl _, by omega, hjm, F ++ Y, X2, X1, G, (show _ ∧ _ from ⟨HX.out.2, HX.out.1, ?_, ?_, ?_⟩), S3⟩
          · simp; omega
          · have := h.2.2.2.1; simpa using this
          · have := h.2.2.2.2; simp at this ⊢; omega
      · have hgtz : ¬ (j : Int) < (i : Int) := by omega
        obtain ⟨Y1, Y2, hY, hY1, hY2⟩ : ∃ Y1 Y2, Y = Y1 ++ Y2 ∧ Y1.length = j - i ∧ Y2.length = i := ⟨Y.take (j - i), Y.drop (j - i), by simp, by have := HL.out.2.1; simp; omega, by have := HL.out.2.1; simp; omega⟩
        subst hY
        have q := HSW.out wr (p ++ F) X Y1 Y2 (G ++ s) (by rw [hY2, HL.out.1]) (by have := HL.out.2.2.2.2; simp at this ⊢; omega) ((m : Int) - (i : Int)) ((m : Int) + (j : Int) - (i : Int)) i (by have := HL.out; have := HM.out; have := HA.out; simp; omega) (by have := HL.out; have := HM.out; have := HA.out; simp; omega) (by rw [HL.out.1]) (by have := S1.out; simpa using this)
        have HQ := Lib.hid q
        have HY := Lib.hid (And.intro hY1 hY2)
        clear q hY1 hY2
        go_wp2_with fail
        refine (HQ.out).mono ?_
        rintro e w1 ⟨rfl, S2⟩
        have S3 : Aside (SWK encR 2 w0 blk off (p ++ F ++ Y2 ++ Y1 ++ (X ++ G) ++ s).toArray w1) := by show SWK encR 2 w0 blk off _ _; simpa using S2
        clear S1 S2 HQ
        go_wp2
        go_roundg (i + (j - i))
        case measure => omega
        case rel =>
          have h := HL.out
          refine ⟨i, j - i, rfl, by congr 1; omega, hi, by omega, Nat.le_refl _, him, by omega, F, Y2, Y1, X ++ G, (show _ ∧ _ from ⟨HY.out.2, HY.out.1, h.2.2.1, ?_, ?_⟩), S3⟩
          · have := h.2.2.2.1; simpa using this
          · have := h.2.2.2.2; have := HY.out; simp at *; omega

end Go.Proofs.Ytagibgphegoagaa
