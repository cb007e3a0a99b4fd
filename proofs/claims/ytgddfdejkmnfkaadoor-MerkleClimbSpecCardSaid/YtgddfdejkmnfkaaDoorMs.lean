/- The chapter's examples: sane. -/
import Derived.Test.YtgddfdejkmnfkaaDoorMx
namespace Go.Proofs.YtgddfdejkmnfkaaDoor
open Go.RowKit

theorem RD.nil (w : World) (B : Nat) : RD w B [] none 0 := ⟨Nat.le_refl _, by omega, (by intro d h; cases h), fun _ => rfl, 0, 0, fun h => absurd h (by simp), fun i h => absurd h (by simp)⟩
theorem one_byte (w : World) (x : UInt8) (t : TypeId) : RBs (w.alloc (.cells #[.int .u8 (x.toNat : Int)] t)) (w.alloc (.cells #[.int .u8 (x.toNat : Int)] t)).heap.size (some ⟨w.heap.size, 0, none⟩) [x] := fun _ => by
  refine ⟨w.heap.size, 0, rfl, by simp, fun j hj => ?_⟩
  have hj : j = 0 := by simpa using hj
  subst hj
  exact (cell_of_row _ w.heap.size 0 _ _ _ (heap_alloc_new w _)).trans rfl
theorem RBs.byte {W : World} {g : Nat} {x : UInt8} {t : TypeId} (h : W.heap[g]? = some (.cells #[.int .u8 (x.toNat : Int)] t (0, 0))) : RBs W W.heap.size (some ⟨g, 0, none⟩) [x] := fun _ => by
  refine ⟨g, 0, rfl, (Array.getElem?_eq_some_iff.1 h).1, fun j hj => ?_⟩
  have hj : j = 0 := by simpa using hj
  subst hj
  exact (cell_of_row _ g 0 _ _ _ h).trans rfl
theorem rows_1 : rows 1 = 0 := by rw [rows, dif_pos (by decide)]
theorem rows_2 : rows 2 = 1 := by rw [rows, dif_neg (by decide)]; show rows 1 + 1 = 1; rw [rows_1]
theorem rows_3 : rows 3 = 2 := by rw [rows, dif_neg (by decide)]; show rows 2 + 1 = 2; rw [rows_2]
theorem sane1 : climbP 1 0 [5] [] = (sha (leafM [5]), 0) := by
  unfold climbP
  rw [if_neg (by decide), if_neg (by unfold pathN; show ¬ (0 : Nat) ≠ used 1 0 (rows 1); rw [rows_1]; decide)]
  show (clM 1 0 [5] [] (rows 1), 0) = _
  rw [rows_1]; rfl
theorem sane2 : climbP 0 0 [] [] = (zeroD, 1) := by unfold climbP; rw [if_pos (by decide)]
theorem sane3 : climbP 2 0 [] [] = (zeroD, 70) := by
  unfold climbP
  rw [if_neg (by decide), if_pos (by unfold pathN; show (0 : Nat) ≠ used 2 0 (rows 2); rw [rows_2]; decide)]
theorem sane4 : ((climbP 1 0 [5] []).1 ≠ (climbP 1 0 [6] []).1) := by
  have h6 : climbP 1 0 [6] [] = (sha (leafM [6]), 0) := by
    unfold climbP
    rw [if_neg (by decide), if_neg (by unfold pathN; show ¬ (0 : Nat) ≠ used 1 0 (rows 1); rw [rows_1]; decide)]
    show (clM 1 0 [6] [] (rows 1), 0) = _
    rw [rows_1]; rfl
  rw [sane1, h6]
  decide +kernel
def sl3 : List (List UInt8) := [[1], [2], [3]]
theorem sane5 : proveP sl3 2 = ([rootM [[1], [2]]], 0) := by
  have hr : rootM [[1], [2]] = joinM [sha (leafM [1]), sha (leafM [2])] := by
    unfold rootM
    rw [if_neg (by simp)]
    show (rowL _ (rows 2)).getD 0 [] = _
    rw [rows_2]; rfl
  unfold proveP
  rw [if_neg (by decide), hr]
  show (pathP (firstM sl3) 3 2 (rows 3), (0 : Int)) = _
  rw [rows_3]; rfl
theorem sane6 : proveP (sl3.take 1) 0 = ([], 0) := by
  unfold proveP
  rw [if_neg (by decide)]
  show (pathP (firstM (sl3.take 1)) 1 0 (rows 1), (0 : Int)) = _
  rw [rows_1]; rfl
theorem sane7 : (proveP sl3 3).2 = 1 := by unfold proveP; rw [if_pos (by decide)]
theorem LL.take {w : World} {B : Nat} {ls : List (List UInt8)} {A : Option Addr} (h : LL w B ls A) (k : Nat) : LL w B (ls.take k) A := fun hp => by
  rw [List.length_take] at hp
  obtain ⟨b, off, e, hb, hc⟩ := h (by omega)
  refine ⟨b, off, e, hb, fun i hi => ?_⟩
  rw [List.length_take] at hi
  rw [List.getElem_take]
  exact hc i (by omega)
theorem small3 : Small sl3 := fun x hx => by
  simp [sl3] at hx
  rcases hx with rfl | rfl | rfl <;> simp
/-- Three slices of a byte each. -/
theorem LL.three {W : World} {g g1 g2 g3 : Nat} {t t1 : TypeId} (h : W.heap[g]? = some (.cells #[.slice (some ⟨g1, 0, none⟩) 1 1, .slice (some ⟨g2, 0, none⟩) 1 1, .slice (some ⟨g3, 0, none⟩) 1 1] t (0, 0)))
    (h1 : W.heap[g1]? = some (.cells #[.int .u8 ((1 : UInt8).toNat : Int)] t1 (0, 0))) (h2 : W.heap[g2]? = some (.cells #[.int .u8 ((2 : UInt8).toNat : Int)] t1 (0, 0))) (h3 : W.heap[g3]? = some (.cells #[.int .u8 ((3 : UInt8).toNat : Int)] t1 (0, 0))) : LL W W.heap.size sl3 (some ⟨g, 0, none⟩) := fun _ => by
  refine ⟨g, 0, rfl, (Array.getElem?_eq_some_iff.1 h).1, fun i hi => ?_⟩
  match i, hi with
  | 0, _ => exact ⟨_, 1, (cell_of_row _ g 0 _ _ _ h).trans rfl, RBs.byte h1, (fun e => by cases e), Nat.le_refl _⟩
  | 1, _ => exact ⟨_, 1, (cell_of_row _ g 1 _ _ _ h).trans rfl, RBs.byte h2, (fun e => by cases e), Nat.le_refl _⟩
  | 2, _ => exact ⟨_, 1, (cell_of_row _ g 2 _ _ _ h).trans rfl, RBs.byte h3, (fun e => by cases e), Nat.le_refl _⟩
end Go.Proofs.YtgddfdejkmnfkaaDoor
