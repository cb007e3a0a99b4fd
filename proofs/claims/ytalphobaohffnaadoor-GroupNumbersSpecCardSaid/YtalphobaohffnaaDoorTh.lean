/- Digests: small facts for the reference. -/
import Derived.Test.YtalphobaohffnaaDoorTg
import Derived.Test.YtalphobaohffnaaDoorRj
import Derived.Test.YtalphobaohffnaaDoorAr
import Derived.Deep.MidRow
import Derived.Deep.DeepCutAuto
import Derived.Stop.BytesEq
namespace Go.Proofs.YtalphobaohffnaaDoor
open Go.RowKit

theorem below_row {w w' : World} {B g : Nat} (h : Below B w w') (c : Array Value) (hg : B ≤ g) (hB : B ≤ w'.heap.size) : Below B w (w'.setRow g c) := h.grown (grownBy_setRow _ _ _) hB (fun k e => by injection e with e; omega)
def zeroD : List UInt8 := List.replicate 32 0
theorem zero_new (w : World) : (w.alloc (.cells #[.int .u8 0, .int .u8 0, .int .u8 0, .int .u8 0, .int .u8 0, .int .u8 0, .int .u8 0, .int .u8 0, .int .u8 0, .int .u8 0, .int .u8 0, .int .u8 0, .int .u8 0, .int .u8 0, .int .u8 0, .int .u8 0, .int .u8 0, .int .u8 0, .int .u8 0, .int .u8 0, .int .u8 0, .int .u8 0, .int .u8 0, .int .u8 0, .int .u8 0, .int .u8 0, .int .u8 0, .int .u8 0, .int .u8 0, .int .u8 0, .int .u8 0, .int .u8 0] 30)).heap[w.heap.size]? = some (.cells (BV zeroD).toArray 30 (0, 0)) := heap_alloc_new w _
theorem RBs.lift {w w' : World} {B B' : Nat} {A : Option Addr} {bs : List UInt8} (h : RBs w B A bs) (hb : Below B w w') (hB : B ≤ B') : RBs w' B' A bs := by
  intro hp
  obtain ⟨b, off, e, hlt, hc⟩ := h hp
  exact ⟨b, off, e, Nat.lt_of_lt_of_le hlt hB, fun j hj => by rw [hb.cell (p := ⟨b, off + j, none⟩) hlt]; exact hc j hj⟩
end Go.Proofs.YtalphobaohffnaaDoor
