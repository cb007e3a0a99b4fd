/- Rotations. -/
import Derived.Test.YtalphobaohffnaaDoorChecked
import Derived.Test.YtalphobaohffnaaDoorDs
import Derived.Deep.QuietTactic
import Derived.BigQuiet
namespace Go.Proofs.YtalphobaohffnaaDoor
open Go.RowKit

theorem neg_mask (n : Nat) (h1 : 1 ≤ n) (h2 : n ≤ 31) : bits .and .u64 (IntKind.u64.wrap (-(n : Int))) 31 = ((32 - n : Nat) : Int) := by
  rw [IntKind.wrap_u64, show (-(n : Int)) % 18446744073709551616 = ((18446744073709551616 - n : Nat) : Int) by omega]
  rw [u64_and _ _ (by omega) (by omega) (by omega) (by omega)]
  rw [Int.toNat_natCast, show (31 : Int).toNat = 2 ^ 5 - 1 from rfl, Nat.and_two_pow_sub_one_eq_mod]
  omega
theorem U_shl' (a : UInt32) (n : Nat) : U a * 2 ^ n % 4294967296 = U (UInt32.ofNat (a.toNat * 2 ^ n)) := by
  rw [← U_shl, IntKind.wrap_u32']
theorem rot_or (x : UInt32) (k n : Nat) (h : 32 - n = k) (h2 : n ≤ 31) : bits .or .u32 (U x * 2 ^ k % 4294967296) (U x / 2 ^ (32 - k)) = U (rotr x n) := by
  subst h
  rw [U_shl', U_shr, U_or, show 32 - (32 - n) = n by omega, rotr, UInt32.or_comm]
theorem rot_or' (x : UInt32) (n : Nat) : bits .or .u32 (U x / 2 ^ n) (U x * 2 ^ (32 - n) % 4294967296) = U (rotr x n) := by
  rw [U_shl', U_shr, U_or, rotr]

set_option maxRecDepth 100000 in
theorem rotl_any (x : UInt32) (n : Nat) (h1 : 1 ≤ n) (h2 : n ≤ 31) (w : World) : Calls Tryd.prog 45 #[.int .u32 (U x), .int .i64 (-(n : Int))] w fun e w' => e = .returned (.int .u32 (U (rotr x n))) ∧ w = w' := by
  have hm := neg_mask n h1 h2
  have hk1 : 1 ≤ 32 - n := by omega
  have hk2 : 32 - n ≤ 31 := by omega
  generalize hk : 32 - n = k at *
  have hk' := Lib.hid hk
  clear hk
  go_enter Tryd.func45, Tryd.ntmps45
  go_wp2
  go_ret
  rw [rot_or x k n hk'.out h2]
  exact ⟨rfl, rfl⟩

set_option maxRecDepth 100000 in
theorem ror_any (x : UInt32) (n : Nat) (h1 : 1 ≤ n) (h2 : n ≤ 31) (w : World) : Calls Tryd.prog 38 #[.int .u32 (U x), .int .i64 (n : Int)] w fun e w' => e = .returned (.int .u32 (U (rotr x n))) ∧ w = w' := by
  go_enter Tryd.func38, Tryd.ntmps38
  go_wp2_with fail
  refine (rotl_any x n h1 h2 _).mono ?_
  rintro e w' ⟨rfl, rfl⟩
  go_wp2_with fail
  go_ret
  exact ⟨rfl, rfl⟩

theorem ror_still (x : UInt32) (n : Nat) (m : Int) (hm : m = n) (h1 : 1 ≤ n) (h2 : n ≤ 31) (w : World) : Calls Tryd.prog 38 #[.int .u32 (U x), .int .i64 m] w fun e w' => e = .returned (.int .u32 (U (rotr x n))) ∧ w' = w := by
  subst hm
  exact (ror_any x n h1 h2 w).mono fun _ _ ⟨h1, h2⟩ => ⟨h1, h2.symm⟩

theorem ror_q (x : UInt32) (m : Int) (h1 : 1 ≤ m) (h2 : m ≤ 31) (w : World) : Calls Tryd.prog 38 #[.int .u32 (U x), .int .i64 m] w fun e w' => e = .returned (.int .u32 (U (rotr x m.toNat))) ∧ w' = w := by
  obtain ⟨n, rfl⟩ := Int.eq_ofNat_of_zero_le (by omega : 0 ≤ m)
  exact (ror_any x n (by omega) (by omega) w).mono fun _ _ ⟨h1, h2⟩ => ⟨h1, h2.symm⟩

set_option maxRecDepth 100000 in
theorem rror_any (x : UInt32) (n : Nat) (h1 : 1 ≤ n) (h2 : n ≤ 31) (w : World) : Calls Tryd.prog 43 #[.int .u32 (U x), .int .i64 (n : Int)] w fun e w' => e = .returned (.int .u32 (U (rotr x n))) ∧ ∃ k, w' = w.drewN k := by
  have hsub : IntKind.i64.wrap (32 - (n : Int)) = ((32 - n : Nat) : Int) := by rw [IntWalk.i64_in _ (by omega)]; omega
  have hk1 : 1 ≤ 32 - n := by omega
  have hk2 : 32 - n ≤ 31 := by omega
  have hfin := rot_or' x n
  generalize hk : 32 - n = k at *
  clear hk
  have hfin' := Lib.hid hfin
  clear hfin
  go_enter Tryd.func43, Tryd.ntmps43
  go_wp2_with fail
  go_quiet (fail)
  go_wp2_with fail
  go_ret
  rw [hfin'.out]
  exact ⟨rfl, _, rfl⟩
end Go.Proofs.YtalphobaohffnaaDoor
