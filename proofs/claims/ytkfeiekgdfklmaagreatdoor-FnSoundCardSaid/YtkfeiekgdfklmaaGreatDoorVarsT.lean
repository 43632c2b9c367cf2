/- The names within a term. Without conditions. -/
import Derived.Test.YtkfeiekgdfklmaaGreatDoorTrees
namespace Go.Proofs.YtkfeiekgdfklmaaGreatDoor.Trm
open Go.RowKit Own
mutual
def varsT : Tree → List ByteArray
  | .node k _ s ks => if k = 2 then [s] else varsL ks
def varsL : List Tree → List ByteArray
  | [] => []
  | t :: ts => varsT t ++ varsL ts
end
end Go.Proofs.YtkfeiekgdfklmaaGreatDoor.Trm
