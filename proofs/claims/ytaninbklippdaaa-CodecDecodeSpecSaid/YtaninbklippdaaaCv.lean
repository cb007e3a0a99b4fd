/- A row of bytes of the call's own, as a string. -/
import Derived.Test.YtaninbklippdaaaSa
namespace Go.Proofs.Ytaninbklippdaaa
open Go.RowKit

theorem OB.conv {w : World} {B : Nat} {a : Option Addr} {n c : Nat} {l : List UInt8} (h : OB w B (.slice a n c) l) : (convert 22 9 (.slice a n c)).run Try.prog w = .ok (.string ⟨l.toArray⟩) w := by
  obtain ⟨h1, h2, _⟩ := h.reads
  rw [h2]
  exact conv_str h1

end Go.Proofs.Ytaninbklippdaaa
