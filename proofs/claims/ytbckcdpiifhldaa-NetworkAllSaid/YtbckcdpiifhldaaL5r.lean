/- A list of packets that came in. -/
import Derived.Test.YtbckcdpiifhldaaN9
import Derived.Test.YtbckcdpiifhldaaL5
namespace Go.Proofs.Ytbckcdpiifhldaa
open Go.ChangeShapes Go.WideShapes Go.ChangeAt Go.RowKit Go.Deep

theorem openQ {H : Type} {enc : TypeId × Value → H} {sp : Nat → Bool} {r : Reach} {b0 : Nat} {W : World} {v : Value} {d : DataW H} {p : List MemPlace} (hv : Value.okWide Try.prog W r b0 22 v)
    (h : DataW.Trod enc Try.prog W 0 sp true 22 v d p) : ∃ (l : List Pk) (A : Option Addr) (cap : Nat), v = .slice A l.length cap ∧ (l.length ≤ cap ∧ cap ≤ maxLen) ∧ QR W (· < W.heap.size) A l := by
  have hc := okWide_sliceV Try.underlying22 hv
  obtain ⟨n, hn⟩ := h
  cases n with
  | zero => simp [DataW.trod] at hn
  | succ n =>
    obtain ⟨ps, A, c, e, q1, q2, q3⟩ := QR.ofTrod hn
    rw [hc] at e
    simp only [List.cons.injEq, and_true] at e
    exact ⟨ps, A, c, e, ⟨q1, q2⟩, q3⟩
end Go.Proofs.Ytbckcdpiifhldaa
