/- Add, minus: contracts. -/
import Derived.Test.YtfblkkdoijfpfaaFc
namespace Go.Proofs.Ytfblkkdoijfpfaa
open Go.RowKit

/-- A row of two integers that the call has made. -/
theorem IR.two {a b : Int} (ha : I64 a) (hb : I64 b) (w : World) (t : TypeId) : IR (w.alloc (.cells #[.int .i64 a, .int .i64 b] t)) (· < (w.alloc (.cells #[.int .i64 a, .int .i64 b] t)).heap.size) (some ⟨w.heap.size, 0, none⟩) [a, b] := by
  intro _
  refine ⟨w.heap.size, 0, rfl, by simp, fun i hi => ?_⟩
  match i, hi with
  | 0, _ => exact ⟨by rw [World.cell?_alloc_at _ _ _ _ rfl]; rfl, ha⟩
  | 1, _ => exact ⟨by rw [World.cell?_alloc_at _ _ _ _ rfl]; rfl, hb⟩
theorem I64.md (n : Int) : I64 (md n) := by have := md_range n; unfold I64; omega
theorem I64.neg_md (n : Int) : I64 (-(Go.Proofs.Ytfblkkdoijfpfaa.md n)) := by have := md_range n; unfold I64; omega
def subF (a b : Int) : Int := md (a - b)

set_option maxRecDepth 100000 in
set_option maxHeartbeats 1000000 in
theorem Add_any (a b : Int) (ha : I64 a) (hb : I64 b) (w : World) : Calls Try.prog 12 #[.int .i64 a, .int .i64 b] w fun e w' => e = .returned (.int .i64 (addF a b)) ∧ Below w.heap.size w w' := by
  have hs := Lib.hid (fun c => sum_any [a, b] (by simp) _ _ c (IR.two ha hb w 3))
  have hB := Lib.hid (bnew w (.cells #[.int .i64 a, .int .i64 b] 3))
  go_enter Try.func12, Try.ntmps12
  go_wp2_with fail
  refine (hs.out _).mono ?_
  rintro e w1 ⟨rfl, rfl⟩
  go_wp2_with fail
  go_ret
  refine ⟨retI ?_, hB.out⟩
  simp only [sumI, addF, Int.add_zero]

set_option maxRecDepth 100000 in
set_option maxHeartbeats 1000000 in
theorem minus_any (a b : Int) (ha : I64 a) (w : World) : Calls Try.prog 27 #[.int .i64 a, .int .i64 b] w fun e w' => e = .returned (.int .i64 (subF a b)) ∧ Below w.heap.size w w' := by
  have hs := Lib.hid (fun c => sum_any [a, -(md b)] (by simp) _ _ c (IR.two ha (I64.neg_md b) w 3))
  have hB := Lib.hid (bnew w (.cells #[.int .i64 a, .int .i64 (-(md b))] 3))
  have hr := md_range b
  have he := Lib.hid (show md (sumI [a, -(md b)]) = subF a b by
    simp only [sumI, subF, Int.add_zero]
    exact md_eq ((Cg.refl a).sub (md_cg b)))
  go_enter Try.func27, Try.ntmps27
  go_wp2_with fail
  refine (Mod_any b _).mono ?_
  rintro e w1 ⟨rfl, rfl⟩
  go_wp2_with fail
  refine (hs.out _).mono ?_
  rintro e w1 ⟨rfl, rfl⟩
  go_wp2_with fail
  go_ret
  exact ⟨retI he.out, hB.out⟩
end Go.Proofs.Ytfblkkdoijfpfaa
