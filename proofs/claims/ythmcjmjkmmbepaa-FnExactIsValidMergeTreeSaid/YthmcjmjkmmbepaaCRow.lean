/- A row of a list of rows. -/
import Derived.Test.YthmcjmjkmmbepaaPerm
import Derived.Test.YthmcjmjkmmbepaaRetI
import Derived.Shelf.Abstract
import Derived.Shelf.RegionOpen
import Derived.WalkKit
import Derived.OwnWalkIn
import Derived.TacticsInMore
import Derived.LoopNIn
import Derived.LoopIn
import Derived.Maps.AppendAt
import Derived.Lib.Hide
import Derived.Stop.RegionWithIn
namespace Go.Proofs.Ythmcjmjkmmbepaa
open Go.RowKit P

/-- A row handed out: its block, its capacity, its elements. -/
structure CRow where
  g : Nat
  c : Nat
  L : List Nat

theorem But.then {g : Nat} {a b c : World} (h : But g a b) (k : Below a.heap.size b c) : But g a c :=
  ⟨k.os.trans h.os, k.tape.trans h.tape, k.output.trans h.output, Nat.le_trans h.size k.size, fun i hi hg => (k.block i hi).trans (h.block i hi hg)⟩

end Go.Proofs.Ythmcjmjkmmbepaa
