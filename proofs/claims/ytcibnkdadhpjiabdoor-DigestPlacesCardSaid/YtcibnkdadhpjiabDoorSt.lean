/- How many steps an index has: steps. -/
import Derived.Test.YtcibnkdadhpjiabDoorCg
namespace Go.Proofs.YtcibnkdadhpjiabDoor
open Go.RowKit

set_option maxRecDepth 100000 in
set_option maxHeartbeats 2000000 in
theorem steps_any (i n : Nat) (hn : n ≤ 1099511627776) (hi : i < n) (w : World) : Calls Tryd.prog 11 #[.int .i64 i, .int .i64 n] w fun e w' => e = .returned (.int .i64 (desc i n).length) ∧ w = w' := by
  have hlen := desc_length n i n (Nat.le_refl _) (by omega)
  obtain ⟨M, hM⟩ : ∃ M, M = (desc i n).length := ⟨_, rfl⟩
  rw [← hM] at hlen ⊢
  have hM' := Lib.hid hM
  clear hM
  go_enter Tryd.func11, Tryd.ntmps11
  go_wp2_with fail
  go_loop [0, 1, 5, 6] (fun x y c _ => ∃ (i' n' c' : Nat), x = .int .i64 i' ∧ y = .int .i64 n' ∧ c = .int .i64 c' ∧ n' ≤ 1099511627776 ∧ i' < n' ∧ Hid (M = c' + (desc i' n').length)) (fun _ y _ _ => (intOf y).toNat)
  case atStart => exact ⟨i, n, 0, rfl, rfl, rfl, hn, hi, Lib.hid (by rw [hM'.out]; omega)⟩
  case round =>
    obtain ⟨i', n', c', rfl, rfl, rfl, hn', hi', heq⟩ := hrel
    by_cases h2 : 2 ≤ n'
    · go_wp2_with fail
      go_loop [6] (fun k => ∃ j : Nat, k = .int .i64 ((2 ^ j : Nat) : Int) ∧ 2 ^ j < n') (fun k => 1099511627776 - (intOf k).toNat)
      case atStart => exact ⟨0, rfl, by omega⟩
      case round =>
        obtain ⟨j, rfl, hj⟩ := hrel
        have hjp := Nat.two_pow_pos j
        generalize hk : 2 ^ j = k at *
        have hw2 : IntKind.i64.wrap (2 * (k : Int)) = 2 * k := IntWalk.i64_in _ (by omega)
        have hw3 : IntKind.i64.wrap ((k : Int) * 2) = k * 2 := IntWalk.i64_in _ (by omega)
        by_cases h3 : 2 * k < n'
        · go_wp2_with fail
          go_round
          case rel => exact ⟨j + 1, by rw [Nat.pow_succ, hk]; go_num, by rw [Nat.pow_succ, hk]; omega⟩
          case measure => simp [intOf]; omega
        · have hhk : half n' = k := by rw [← hk]; exact half_unique _ j (by rw [hk]; exact hj) (by rw [hk]; omega) (by omega)
          have hst := desc_step i' n' h2 (by omega)
          rw [hhk] at hst
          have hdl := desc_length n' i' n' (Nat.le_refl _) (by omega)
          have hMc := heq.out
          have hst' := Lib.hid hst
          clear hst
          have hwc : IntKind.i64.wrap ((c' : Int) + 1) = c' + 1 := IntWalk.i64_in _ (by omega)
          by_cases hik : i' < k
          · have hl1 : (desc i' n').length = 1 + (desc i' k).length := by rw [hst'.out, if_pos hik, List.length_cons]; omega
            have hl1' := Lib.hid hl1
            clear hl1 hdl hMc
            go_wp2_with fail
            go_round
            case rel => exact ⟨i', k, c' + 1, rfl, rfl, by go_num, by omega, hik, Lib.hid (by rw [heq.out, hl1'.out]; omega)⟩
            case measure => simp [intOf]; omega
          · have hl1 : (desc i' n').length = 1 + (desc (i' - k) (n' - k)).length := by rw [hst'.out, if_neg hik, List.length_cons]; omega
            have hl1' := Lib.hid hl1
            have hwa : IntKind.i64.wrap ((i' : Int) - k) = i' - k := IntWalk.i64_in _ (by omega)
            have hwb : IntKind.i64.wrap ((n' : Int) - k) = n' - k := IntWalk.i64_in _ (by omega)
            have hki : k ≤ i' := by omega
            clear hl1 hdl hMc
            go_wp2_with fail
            go_round
            case rel => exact ⟨i' - k, n' - k, c' + 1, by go_num, by go_num, by go_num, by omega, by omega, Lib.hid (by rw [heq.out, hl1'.out]; omega)⟩
            case measure => simp [intOf]; omega
    · have hMc := heq.out
      rw [desc_one i' n' (by omega)] at hMc
      have hc : M = c' := hMc
      subst hc
      clear hMc
      go_wp2_with fail
      go_ret
      exact ⟨rfl, rfl⟩
end Go.Proofs.YtcibnkdadhpjiabDoor
