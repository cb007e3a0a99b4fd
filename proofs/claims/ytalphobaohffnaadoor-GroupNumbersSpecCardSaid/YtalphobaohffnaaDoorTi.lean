/- Two facts for the reference's digests. -/
import Derived.Test.YtalphobaohffnaaDoorTh
namespace Go.Proofs.YtalphobaohffnaaDoor
open Go.RowKit

theorem blkD {w w' : World} {g : Nat} {o : Obj} (h : w.heap[g]? = some o) (hb : Below w.heap.size w w') : w'.heap[g]? = some o := (hb.block g (Array.getElem?_eq_some_iff.1 h).1).trans h
theorem belD (w : World) (o : Obj) : Below w.heap.size w (w.alloc o) := (Below.refl _ w).alloc (Nat.le_refl _) o
end Go.Proofs.YtalphobaohffnaaDoor
