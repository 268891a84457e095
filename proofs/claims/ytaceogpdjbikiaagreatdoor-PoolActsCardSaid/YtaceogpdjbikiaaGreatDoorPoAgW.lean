
/- PoolAgain: the walk. -/
import Derived.Test.YtaceogpdjbikiaaGreatDoorPoAgL
namespace Go.Proofs.YtaceogpdjbikiaaGreatDoor

open Go.RowKit

/-- An act's own cells, in a block. -/
def actObj (k : Nat) (x : Int) : Obj := .cells #[.int .u8 (k : Int), .int .i64 x] 39 (0, 0)
/-- What the first loop keeps. -/
def Ag (w1 : World) (q D N s : Nat) (k : Nat) (w : World) : Prop := ∃ d ws xs, PoolK w1 (.pointer (some ⟨q, 0, none⟩)) (some ⟨D, 0, none⟩) d ⟨(N : Int), (s : Int), 128, 192⟩ ws xs [] w ∧ St7 N s d ws xs k

end Go.Proofs.YtaceogpdjbikiaaGreatDoor
