/- The stable arrangement of indices, of any number of them. -/
import Derived.Test.YtagibgphegoagaaISortP
namespace Go.Proofs.Ytagibgphegoagaa
open Go.RowKit Go.Sort Go.Lib StC P

theorem ins0_any (a : Option Addr) (c : Nat) (fv : Value) (w : World) :
    Calls Try.prog 195 #[.slice a 0 c, .int .i64 0, .int .i64 0, fv] w fun e w' => e = .returned (.tuple #[]) ∧ w' = w := by
  go_enter Try.func195, Try.ntmps195
  go_wp2_with fail
  go_loopw [8] (fun i wr => i = .int .i64 1 ∧ wr = w) (fun _ _ => 0)
  case atStart => exact ⟨rfl, rfl⟩
  case round =>
    obtain ⟨rfl, rfl⟩ := hrel
    go_wp2_with fail
    go_end0
    first | exact ⟨rfl, rfl⟩ | exact ⟨rfl, by trivial⟩

theorem sort0_any (a : Option Addr) (c : Nat) (fv : Value) (w : World) :
    Calls Try.prog 166 #[.slice a 0 c, fv] w fun e w' => e = .returned (.tuple #[]) ∧ w' = w := by
  have HI := Lib.hid (fun W => ins0_any a c fv W)
  have HS : Hid (∀ W, Calls Try.prog 185 #[.slice a 0 c, .int .i64 0, fv] W fun e w' => e = .returned (.tuple #[]) ∧ w' = W) := Lib.hid (fun W => by
    go_enter Try.func185, Try.ntmps185
    go_wp2_with fail
    go_loopw [7, 8] (fun i j wr => i = .int .i64 0 ∧ j = .int .i64 20 ∧ wr = W) (fun _ _ _ => 0)
    case atStart => exact ⟨rfl, rfl, rfl⟩
    case round =>
      obtain ⟨rfl, rfl, rfl⟩ := hrel
      go_wp2_with fail
      refine (HI.out _).mono ?_
      rintro e w1 ⟨rfl, rfl⟩
      go_wp2_with fail
      go_loopw [6, 7, 8] (fun i j k wr => i = .int .i64 20 ∧ wr = w1) (fun _ _ _ _ => 0)
      case atStart => exact ⟨rfl, rfl⟩
      case round =>
        obtain ⟨rfl, rfl⟩ := hrel
        go_wp2_with fail
        go_end0
        first | exact ⟨rfl, rfl⟩ | exact ⟨rfl, by trivial⟩)
  go_enter Try.func166, Try.ntmps166
  go_wp2_with fail
  refine (HS.out _).mono ?_
  rintro e w1 ⟨rfl, rfl⟩
  go_wp2_with fail
  go_end0
  first | exact ⟨rfl, rfl⟩ | exact ⟨rfl, by trivial⟩

theorem arrange0_any (b c : Nat) (fv : Value) (w : World) (_hb : b < w.heap.size) :
    Calls Try.prog 134 #[.slice (some ⟨b, 0, none⟩) 0 c, fv] w (RowI [] w) := by
  have HCL := Lib.hid (cloneInts_any b 0 c [] w ⟨_, c, rfl, Nat.zero_le _, fun j u hu => by simp [ints] at hu⟩ (by simp))
  go_enter Try.func134, Try.ntmps134
  go_wp2_with fail
  refine (HCL.out).mono ?_
  rintro e w1 ⟨g, cap, rfl, hcp, hg, hrow, hb⟩
  have HRES : Hid (RowI [] w (.returned (.slice (some ⟨g, 0, none⟩) 0 cap)) w1) := Lib.hid ⟨g, cap, rfl, hcp, hg, hrow, hb⟩
  clear hcp hg hrow hb HCL
  go_wp2_with fail
  refine (sort0_any _ _ _ _).mono ?_
  rintro e w2 ⟨rfl, rfl⟩
  go_wp2_with fail
  go_ret
  exact HRES.out

theorem arrangeN_any {NN : Nat} (N : Nat) (hN : N = NN + 1) (cf : Fin (NN + 1) → Fin (NN + 1) → Int) (hO : SWO (ltOf cf)) (gf : Nat) (cb : Array Value) (eg : ∀ args w, (callFunc gf args).run Try.prog w = .ok (.enter gf args) w) (b c : Nat) (w : World) (hr : CellRow w b (ints (iota N))) (hn : N ≤ 1048576)
    (hC : ∀ (W : World), Below w.heap.size w W → ∀ x y : Fin (NN + 1), Calls Try.prog gf (#[.int .i64 (x.val : Int), .int .i64 (y.val : Int)] ++ cb) W fun e w' => e = .returned (.int .i64 (cf x y)) ∧ ∃ q os', w' = grow (W.drewN q) os') (hcap : N ≤ c) :
    Calls Try.prog 134 #[.slice (some ⟨b, 0, none⟩) N c, .func (.func gf) #[] cb] w fun e w' =>
      ∃ (g cg : Nat) (M : List (Fin (NN + 1))), e = .returned (.slice (some ⟨g, 0, none⟩) N cg) ∧ N ≤ cg ∧ w.heap.size ≤ g ∧ CellRow w' g (ints (valsF M)) ∧ St (ltOf cf) (fins NN) M ∧ Below w.heap.size w w' := by
  subst hN
  exact arrange_any cf hO gf cb eg b c w hr hn hC hcap

end Go.Proofs.Ytagibgphegoagaa
