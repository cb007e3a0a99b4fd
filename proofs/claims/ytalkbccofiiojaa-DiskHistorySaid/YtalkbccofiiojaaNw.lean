/- Restart, performed: contracts. -/
import Derived.Test.YtalkbccofiiojaaCk
namespace Go.Proofs.Ytalkbccofiiojaa
open Go.RowKit

set_option maxRecDepth 100000 in
set_option maxHeartbeats 400000 in
theorem Restart_any (d : Dk) (w : World) (A A' : Option Addr) (c c' : Nat) :
    Calls Try.prog 17 #[.agg #[.slice A d.secs.length c, .slice A' d.pend.length c', .int .i64 d.left, .bool d.stop]] w fun e w' => e = .returned (.agg #[.slice A d.secs.length c, .slice none 0 0, .int .i64 (-1), .bool false]) ∧ Below w.heap.size w w' := by
  go_enter Try.func17, Try.ntmps17
  go_wp2_with fail
  exact bodyPost_ret (v := .agg #[.slice A d.secs.length c, .slice none 0 0, .int .i64 (-1), .bool false]) (by simp [results, Try.results17, go_sem]) rfl ⟨rfl, ((Below.refl _ _).alloc (Nat.le_refl _) _).alloc (by simp) _⟩
set_option maxRecDepth 100000 in
set_option maxHeartbeats 400000 in
theorem rRestart_any (d : Dk) (w : World) (A A' : Option Addr) (c c' : Nat) :
    Calls Try.prog 18 #[.agg #[.slice A d.secs.length c, .slice A' d.pend.length c', .int .i64 d.left, .bool d.stop]] w fun e w' => e = .returned (.agg #[.slice A d.secs.length c, .slice none 0 0, .int .i64 (-1), .bool false]) ∧ Below w.heap.size w w' := by
  go_enter Try.func18, Try.ntmps18
  go_wp2_with fail
  exact bodyPost_ret (v := .agg #[.slice A d.secs.length c, .slice none 0 0, .int .i64 (-1), .bool false]) (by simp [results, Try.results18, go_sem]) rfl ⟨rfl, ((Below.refl _ _).alloc (Nat.le_refl _) _).alloc (by simp) _⟩

set_option maxRecDepth 100000 in
set_option maxHeartbeats 400000 in
theorem performed_any (d : Dk) (w : World) (A A' : Option Addr) (c c' : Nat) (h0 : -1 ≤ d.left) (h1 : d.left ≤ 65536) (hp : d.pend.length ≤ 4096) :
    Calls Try.prog 34 #[.agg #[.slice A d.secs.length c, .slice A' d.pend.length c', .int .i64 d.left, .bool d.stop]] w fun e w' => e = .returned (.int .i64 (perfN d : Nat)) ∧ Below w.heap.size w w' := by
  have hB := Lib.hid (bnew w (.cells #[.slice A d.secs.length c, .slice A' d.pend.length c', .int .i64 d.left, .bool d.stop] 25))
  by_cases hl : d.left = -1
  · have hv := Lib.hid (show perfN d = d.pend.length by unfold perfN; rw [if_pos hl])
    have hl' : (d.left == -1) = true := by rw [hl]; rfl
    clear hl
    go_enter Try.func34, Try.ntmps34
    go_wp2_with fail
    go_ret
    exact ⟨retI (by rw [hv.out]), hB.out⟩
  · have hv := Lib.hid (show ((perfN d : Nat) : Int) = min d.left (d.pend.length : Int) by unfold perfN; rw [if_neg hl]; omega)
    have hl' : (d.left == -1) = false := by simpa using hl
    clear hl
    go_enter Try.func34, Try.ntmps34
    go_wp2_with fail
    all_goals
      go_ret
      exact ⟨retI (by rw [hv.out]; omega), hB.out⟩
end Go.Proofs.Ytalkbccofiiojaa
