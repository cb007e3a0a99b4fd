/- The greatest power of 2 below a number: first. -/
import Derived.Test.YtjfoihlelkfaoaaDoorLf
import Derived.Test.YtjfoihlelkfaoaaDoorShelf
import Derived.Lib.BitFns
namespace Go.Proofs.YtjfoihlelkfaoaaDoor
open Go.RowKit

/-- The length of the first part of a list of n elements. -/
def half (n : Nat) : Nat := 2 ^ (Lib.bitLen (n - 1) - 1)
theorem bitLen_bounds (m : Nat) : ∀ x, 0 < x → x < 2 ^ m → m ≤ 64 → 0 < Lib.bitLen x ∧ Lib.bitLen x ≤ m ∧ 2 ^ (Lib.bitLen x - 1) ≤ x ∧ x < 2 ^ Lib.bitLen x := by
  induction m with
  | zero => intro x h0 h; omega
  | succ m ih =>
    intro x h0 h hm
    have h64 : x < 2 ^ 64 := Nat.lt_of_lt_of_le h (Nat.pow_le_pow_right (by omega) hm)
    rw [Lib.bitLen_half x (by omega) h64]
    by_cases h1 : x = 1
    · subst h1
      have : Lib.bitLen (1 / 2) = 0 := by decide
      rw [this]
      refine ⟨by omega, by omega, by decide, by decide⟩
    · obtain ⟨a, b, c, d⟩ := ih (x / 2) (by omega) (by rw [Nat.pow_succ] at h; omega) (by omega)
      refine ⟨by omega, by omega, ?_, ?_⟩
      · have e : 1 + Lib.bitLen (x / 2) - 1 = (Lib.bitLen (x / 2) - 1) + 1 := by omega
        rw [e, Nat.pow_succ]; omega
      · rw [Nat.add_comm, Nat.pow_succ]; omega
theorem half_bounds (n : Nat) (h : 2 ≤ n) (hm : n ≤ 2 ^ 63) : half n < n ∧ n ≤ 2 * half n ∧ 1 ≤ half n := by
  obtain ⟨a, -, c, d⟩ := bitLen_bounds 63 (n - 1) (by omega) (by omega) (by omega)
  unfold half
  have e : 2 ^ Lib.bitLen (n - 1) = 2 * 2 ^ (Lib.bitLen (n - 1) - 1) := by
    rw [← Nat.pow_succ']; congr 1; omega
  have := Nat.two_pow_pos (Lib.bitLen (n - 1) - 1)
  omega

set_option maxRecDepth 100000 in
theorem Len_any (x : Nat) (h : x ≤ 18446744073709551615) (w : World) : Calls Tryd.prog 37 #[.int .u64 x] w fun e w' => e = .returned (.int .i64 (Lib.bitLen x)) ∧ w = w' := by
  go_enter Tryd.func37, Tryd.ntmps37
  go_wp2_with fail
  refine (Tryd.bits_Len64 x w (by omega) (by omega)).mono ?_
  rintro e w' ⟨rfl, rfl⟩
  go_wp2_with fail
  go_ret
  exact ⟨by simp, rfl⟩

set_option maxRecDepth 100000 in
theorem first_any (n : Nat) (h : 2 ≤ n) (hm : n ≤ 4611686018427387904) (w : World) : Calls Tryd.prog 20 #[.int .i64 n] w fun e w' => e = .returned (.int .i64 (half n)) ∧ w = w' := by
  obtain ⟨b1, b2, b3, b4⟩ := bitLen_bounds 63 (n - 1) (by omega) (by omega) (by omega)
  have hu : IntKind.u64.wrap ((n : Int) - 1) = ((n - 1 : Nat) : Int) := by rw [IntKind.wrap_u64]; omega
  have hL := Len_any (n - 1) (by omega) w
  have hfin : half n = 2 ^ (Lib.bitLen (n - 1) - 1) := rfl
  have hle : 2 ^ (Lib.bitLen (n - 1) - 1) ≤ 4611686018427387904 := by omega
  generalize hk : Lib.bitLen (n - 1) = k at *
  have hL' := Lib.hid hL
  have hfin' := Lib.hid hfin
  have k0 : (0 : Int) ≤ (k : Int) - 1 := by omega
  have k1 : ((k : Int) - 1).toNat = k - 1 := by omega
  have k2 : (1 : Int) ≤ k := by omega
  clear hL hfin hk b3 b4
  go_enter Tryd.func20, Tryd.ntmps20
  go_wp2_with fail
  refine hL'.out.mono ?_
  rintro e w' ⟨rfl, rfl⟩
  go_wp2_with fail
  go_ret
  refine ⟨?_, rfl⟩
  have e : (2 : Int) ^ (k - 1) = ((2 ^ (k - 1) : Nat) : Int) := by simp
  have e2 : wrap64 ((2 : Int) ^ (k - 1)) = ((half n : Nat) : Int) := by
    rw [hfin'.out, e]
    generalize 2 ^ (k - 1) = q at *
    unfold wrap64
    omega
  show Ending.returned (.int .i64 (wrap64 ((2 : Int) ^ (k - 1)))) = _
  rw [e2]
end Go.Proofs.YtjfoihlelkfaoaaDoor
