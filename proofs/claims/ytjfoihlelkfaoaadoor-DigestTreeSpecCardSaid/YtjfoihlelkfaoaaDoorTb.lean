/- What the program and the reference answer alike: Path, Climb. -/
import Derived.Test.YtjfoihlelkfaoaaDoorRsm
import Derived.Test.YtjfoihlelkfaoaaDoorCg
namespace Go.Proofs.YtjfoihlelkfaoaaDoor
open Go.RowKit

/-- Both Paths give one list and one number. -/
theorem path_both (l : List (List UInt8)) (hm : l.length ≤ 24) (h32 : ∀ e ∈ l, e.length = 32) (z : Int) : ∃ (P : List (List UInt8)) (e : Int), P.length ≤ 1000 ∧ (∀ x ∈ P, x.length = 32) ∧
    (∀ (w : World) (a : Option Addr) (cap : Nat), RD w w.heap.size l a cap → KT w → 0 < w.heap.size → Calls Tryd.prog 10 #[.slice a l.length cap, .int .i64 z] w fun x w' => ∃ v, x = .returned (.tuple #[v, .int .i64 e]) ∧ OD w' w.heap.size v P ∧ Below w.heap.size w w') ∧
    (∀ (w : World) (a : Option Addr) (cap : Nat), RD w w.heap.size l a cap → Calls Tryd.prog 11 #[.slice a l.length cap, .int .i64 z] w fun x w' => ∃ v, x = .returned (.tuple #[v, .int .i64 e]) ∧ OD w' w.heap.size v P ∧ Below w.heap.size w w') := by
  by_cases hout : z < 0 ∨ (l.length : Int) ≤ z
  · refine ⟨[], 1, by simp, by simp, fun w a cap _ _ _ => (Path_out l.length z hout w a cap).mono fun x w' h => ?_, fun w a cap _ => (rPath_out l.length z hout w a cap).mono fun x w' h => ?_⟩
    · obtain ⟨rfl, rfl⟩ := h
      exact ⟨_, rfl, OD.nil _ _, Below.refl _ _⟩
    · obtain ⟨rfl, rfl⟩ := h
      exact ⟨_, rfl, OD.nil _ _, Below.refl _ _⟩
  · obtain ⟨i, rfl⟩ : ∃ i : Nat, z = i := ⟨z.toNat, by omega⟩
    have hi : i < l.length := by omega
    have hpl := pathH_length _ l i (Nat.le_refl _) (by omega)
    exact ⟨pathH l i, 0, by omega, pathH_32 _ l i (Nat.le_refl _) (by omega), fun w a cap hR hK h0 => Path_in l (by omega) i hi w a cap hR hK h0, fun w a cap hR => rPath_in l (by omega) i hi w a cap hR⟩

/-- Both Climbs give one digest and one number. -/
theorem climb_both (d : List UInt8) (hd : d.length = 32) (z y : Int) (p : List (List UInt8)) : ∃ (r : List UInt8) (e : Int), r.length = 32 ∧
    (∀ (w : World) (a : Option Addr) (cap : Nat), RD w w.heap.size p a cap → KT w → 0 < w.heap.size → Calls Tryd.prog 13 #[.agg (BV d).toArray, .int .i64 z, .int .i64 y, .slice a p.length cap] w fun x w' => x = .returned (.tuple #[.agg (BV r).toArray, .int .i64 e]) ∧ Below w.heap.size w w') ∧
    (∀ (w : World) (a : Option Addr) (cap : Nat), RD w w.heap.size p a cap → Calls Tryd.prog 14 #[.agg (BV d).toArray, .int .i64 z, .int .i64 y, .slice a p.length cap] w fun x w' => x = .returned (.tuple #[.agg (BV r).toArray, .int .i64 e]) ∧ Below w.heap.size w w') := by
  by_cases harg : y < 1 ∨ 1099511627776 < y ∨ z < 0 ∨ y ≤ z
  · exact ⟨zeroD, 1, rfl, fun w a cap _ _ _ => Climb_arg d z y harg w _, fun w a cap _ => rClimb_arg d z y harg w _⟩
  · obtain ⟨i, rfl⟩ : ∃ i : Nat, z = i := ⟨z.toNat, by omega⟩
    obtain ⟨n, rfl⟩ : ∃ n : Nat, y = n := ⟨y.toNat, by omega⟩
    have hin : i < n := by omega
    have hn : n ≤ 1099511627776 := by omega
    by_cases hlen : p.length = (desc i n).length
    · exact ⟨upTo d (desc i n) p p.length, 0, upTo_length _ _ _ _, fun w a cap hR hK h0 => Climb_ok d hd i n hn hin p hlen w a cap hR hK h0, fun w a cap hR => rClimb_ok d hd i n hn hin p hlen w a cap hR⟩
    · exact ⟨zeroD, 1, rfl, fun w a cap _ _ _ => Climb_len d i n hn hin p.length hlen w a cap, fun w a cap _ => rClimb_len d i n hn hin p.length hlen w a cap⟩
end Go.Proofs.YtjfoihlelkfaoaaDoor
