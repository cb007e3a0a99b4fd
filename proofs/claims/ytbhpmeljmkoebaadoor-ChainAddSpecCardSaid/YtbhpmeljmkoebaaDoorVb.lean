/- Links: isNode, isShort, belongs, same and the reference's SameLink. -/
import Derived.Test.YtbhpmeljmkoebaaDoorVa
namespace Go.Proofs.YtbhpmeljmkoebaaDoor
open Go.RowKit

def isNodeP (n : Int) : Bool := decide (0 ≤ n ∧ n < 24)
def belongsP (l : List Lk) (n : Int) : Bool := match l with | [] => true | x :: _ => x.node == n
set_option maxRecDepth 100000 in
theorem isNode_any (n : Int) (w : World) : Calls Tryd.prog 20 #[.int .i64 n] w fun e w' => e = .returned (.bool (isNodeP n)) ∧ Below w.heap.size w w' := by
  have hB := Below.refl w.heap.size w
  by_cases h0 : 0 ≤ n
  · go_enter Tryd.func20, Tryd.ntmps20
    go_wp2_with fail
    go_ret
    exact ⟨by simp [isNodeP, h0], hB⟩
  · have he : isNodeP n = false := by simp [isNodeP, h0]
    rw [he]
    go_enter Tryd.func20, Tryd.ntmps20
    go_wp2_with fail
    go_ret
    exact ⟨rfl, hB⟩
set_option maxRecDepth 100000 in
theorem isShort_any (a : Option Addr) (n c : Nat) (w : World) : Calls Tryd.prog 22 #[.slice a n c] w fun e w' => e = .returned (.bool (decide (n ≤ 65536))) ∧ Below w.heap.size w w' := by
  have hB := Below.refl w.heap.size w
  by_cases h : n ≤ 65536
  · have h' : (n : Int) ≤ 65536 := by omega
    have he : decide (n ≤ 65536) = true := by simpa using h
    rw [he]
    clear h
    go_enter Tryd.func22, Tryd.ntmps22
    go_wp2_with fail
    go_ret
    exact ⟨rfl, hB⟩
  · have h' : ¬ (n : Int) ≤ 65536 := by omega
    have he : decide (n ≤ 65536) = false := by simpa using h
    rw [he]
    clear h
    go_enter Tryd.func22, Tryd.ntmps22
    go_wp2_with fail
    go_ret
    exact ⟨rfl, hB⟩
set_option maxRecDepth 100000 in
theorem belongs_any (l : List Lk) (n : Int) (w : World) (B : Nat) (a : Option Addr) (cap : Nat) (h : QL w B l a cap) :
    Calls Tryd.prog 21 #[.slice a l.length cap, .int .i64 n] w fun e w' => e = .returned (.bool (belongsP l n)) ∧ Below w.heap.size w w' := by
  have hB := Below.refl w.heap.size w
  cases l with
  | nil =>
    rw [show ([] : List Lk).length = 0 from rfl]
    go_enter Tryd.func21, Tryd.ntmps21
    go_wp2_with fail
    go_ret
    exact ⟨rfl, hB⟩
  | cons x r =>
    obtain ⟨b, off, da, dc, rfl, hb, hr, -⟩ := h.at_ (i := 0) (by simp)
    have hx := (h.fine x (by simp)).prev
    have hc := (range_parts hx (x := x) hr).1
    rw [Nat.zero_mul, Nat.add_zero] at hc
    have hl : (x :: r).length = r.length + 1 := rfl
    have hn : (r.length + 1 : Int) ≠ 0 := by omega
    rw [hl]
    clear h hr hx
    go_enter Tryd.func21, Tryd.ntmps21
    go_wp2_with fail
    go_ret
    exact ⟨rfl, hB⟩
end Go.Proofs.YtbhpmeljmkoebaaDoor
