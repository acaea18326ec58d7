/- make of a list of bools. -/
import Derived.Test.YtjlldjekjnlcaaaBools
import Derived.Deep.RegionWith
namespace Go.Proofs.Ytjlldjekjnlcaaa
open Go.RowKit

theorem infoBool3 : (Try.prog.info? 4).map (fun i => (i.zero, i.size, i.bytes)) = some (some (.bool false), 1, 1) := by kernel_rfl

theorem makeBools (n : Nat) (hn : n ≤ 1048576) (W : World) : (Instr.makeSlice 68 (.int .i64 (n : Int)) (.int .i64 (n : Int))).run Try.prog W = .ok (.slice (some ⟨W.heap.size, 0, none⟩) n n) (W.alloc (.cells (bools (List.replicate n false)).toArray 4)) := by
  obtain ⟨i0, hi, hz0, hz1, hz2⟩ := info_parts infoBool3
  have h1 := run_make (P := Try.prog) W 68 4 i0 (.bool false) Try.underlying68 hi hz0 .i64 .i64 (n : Int) (n : Int) (by omega) (by omega) (by rw [hz2]; omega) (by omega)
  have h2 : madeCells (Value.bool false).cells ((n : Int).toNat * i0.size) = (bools (List.replicate n false)).toArray := by
    rw [hz1, Int.toNat_natCast, Nat.mul_one]
    apply Array.toList_inj.1
    rw [show (Value.bool false).cells = #[.bool false] from rfl, bools_replicate, toList_madeCells_one]
  rw [h1, h2, Int.toNat_natCast]

end Go.Proofs.Ytjlldjekjnlcaaa
