/- Numerals: the numbers' forms, the digits to the base 128, and the functions that write them. -/
import Derived.Test.YtbhpmeljmkoebaaDoorKShelf
import Derived.Test.YtbhpmeljmkoebaaDoorKGv
import Derived.Outline
import Derived.Deep.AppendLies
namespace Go.Proofs.YtbhpmeljmkoebaaDoor.K
open Go.RowKit

/-! Plain -/
def uns (n : Int) : Int := if 0 ≤ n then 2 * n else -2 * n - 1
def sgn (u : Int) : Int := if u % 2 = 0 then u / 2 else -(u / 2) - 1
theorem sgn_uns (n : Int) : sgn (uns n) = n := by unfold sgn uns; split <;> split <;> omega
theorem uns_sgn (u : Int) (h : 0 ≤ u) : uns (sgn u) = u := by unfold sgn uns; split <;> split <;> omega
theorem uns_range {n : Int} (h : I64 n) : 0 ≤ uns n ∧ uns n ≤ 18446744073709551615 := by unfold I64 at h; unfold uns; split <;> omega
theorem sgn_range {u : Int} (h0 : 0 ≤ u) (h1 : u ≤ 18446744073709551615) : I64 (sgn u) := by unfold I64 sgn; split <;> omega

/-- The digits, the least significant one first. -/
def digs (u : Nat) : List UInt8 := if h : u < 128 then [UInt8.ofNat u] else UInt8.ofNat (u % 128 + 128) :: digs (u / 128)
termination_by u
decreasing_by omega
theorem digs_small {u : Nat} (h : u < 128) : digs u = [UInt8.ofNat u] := by rw [digs, dif_pos h]
theorem digs_big {u : Nat} (h : ¬ u < 128) : digs u = UInt8.ofNat (u % 128 + 128) :: digs (u / 128) := by rw [digs, dif_neg h]
theorem digs_pos (u : Nat) : 1 ≤ (digs u).length := by
  by_cases h : u < 128
  · rw [digs_small h]; simp
  · rw [digs_big h]; simp
theorem digs_le (k : Nat) : ∀ u : Nat, u < 128 ^ (k + 1) → (digs u).length ≤ k + 1 := by
  induction k with
  | zero => intro u h; rw [digs_small (by simpa using h)]; simp
  | succ k ih =>
    intro u h
    by_cases hs : u < 128
    · rw [digs_small hs]; simp
    · rw [digs_big hs, List.length_cons]
      have := ih (u / 128) (by rw [Nat.div_lt_iff_lt_mul (by omega)]; rw [Nat.pow_succ] at h; exact h)
      omega
theorem digs_le10 (u : Nat) (h : u ≤ 18446744073709551615) : (digs u).length ≤ 10 := digs_le 9 u (by omega)

theorem bitLenAux_seven (f x : Nat) (h : 64 ≤ x) : Lib.bitLenAux (f + 7) x = 7 + Lib.bitLenAux f (x / 128) := by
  have e : x / 2 / 2 / 2 / 2 / 2 / 2 / 2 = x / 128 := by omega
  simp only [Lib.bitLenAux]
  rw [if_neg (by omega), if_neg (by omega), if_neg (by omega), if_neg (by omega), if_neg (by omega), if_neg (by omega), if_neg (by omega), e]
  omega
theorem bitLenAux_small (f x : Nat) (h : x < 128) (hx : 0 < x) : 1 ≤ Lib.bitLenAux (f + 7) x ∧ Lib.bitLenAux (f + 7) x ≤ 7 := by
  simp only [Lib.bitLenAux]
  rw [if_neg (by omega)]
  by_cases h1 : x / 2 = 0
  · rw [if_pos h1]; omega
  rw [if_neg h1]
  by_cases h2 : x / 2 / 2 = 0
  · rw [if_pos h2]; omega
  rw [if_neg h2]
  by_cases h3 : x / 2 / 2 / 2 = 0
  · rw [if_pos h3]; omega
  rw [if_neg h3]
  by_cases h4 : x / 2 / 2 / 2 / 2 = 0
  · rw [if_pos h4]; omega
  rw [if_neg h4]
  by_cases h5 : x / 2 / 2 / 2 / 2 / 2 = 0
  · rw [if_pos h5]; omega
  rw [if_neg h5]
  by_cases h6 : x / 2 / 2 / 2 / 2 / 2 / 2 = 0
  · rw [if_pos h6]; omega
  rw [if_neg h6]
  have h7 : x / 2 / 2 / 2 / 2 / 2 / 2 / 2 = 0 := by omega
  rw [h7]
  cases f <;> simp [Lib.bitLenAux]
theorem digs_aux (k : Nat) : ∀ (f x : Nat), x < 128 ^ (k + 1) → 0 < x → (Lib.bitLenAux (f + 7 * (k + 1)) x + 6) / 7 = (digs x).length := by
  induction k with
  | zero =>
    intro f x h hx
    have h : x < 128 := by simpa using h
    have := bitLenAux_small f x h hx
    rw [digs_small h]
    simp only [List.length_singleton]
    simp only [Nat.zero_add, Nat.mul_one]
    omega
  | succ k ih =>
    intro f x h hx
    by_cases hs : x < 128
    · have := bitLenAux_small (f + 7 * (k + 1)) x hs hx
      rw [digs_small hs]
      rw [show f + 7 * (k + 1 + 1) = f + 7 * (k + 1) + 7 from by omega]
      simp only [List.length_singleton]
      omega
    · rw [digs_big hs, List.length_cons, ← ih f (x / 128) (by rw [Nat.div_lt_iff_lt_mul (by omega)]; rw [Nat.pow_succ] at h; exact h) (by omega)]
      rw [show f + 7 * (k + 1 + 1) = f + 7 * (k + 1) + 7 from by omega, bitLenAux_seven _ _ (by omega)]
      omega
theorem bitLenAux_more (f g x : Nat) (h : x < 2 ^ f) : Lib.bitLenAux (f + g) x = Lib.bitLenAux f x := by
  induction f generalizing x with
  | zero =>
    have hx : x = 0 := by simpa using h
    subst hx
    cases g <;> simp [Lib.bitLenAux]
  | succ f ih =>
    rw [show f + 1 + g = (f + g) + 1 from by omega]
    simp only [Lib.bitLenAux]
    split
    · rfl
    · rw [ih _ (by rw [Nat.pow_succ] at h; omega)]
/-- The size of a numeral, as the program computes it. -/
theorem digs_bits (u : Nat) (h : u ≤ 18446744073709551615) : max 1 ((Lib.bitLen u + 6) / 7) = (digs u).length := by
  unfold Lib.bitLen
  by_cases h0 : u = 0
  · subst h0; rw [digs_small (by omega)]; simp [Lib.bitLenAux]
  · rw [← bitLenAux_more 64 6 u (by omega)]
    have := digs_aux 9 0 u (by omega) (by omega)
    rw [show 64 + 6 = 0 + 7 * (9 + 1) from rfl, this]
    have := digs_pos u
    omega

theorem xor_neg1 (n : Int) (h : I64 n) : bits .xor .i64 (-1) n = -n - 1 := by
  unfold I64 at h
  have e : bits .xor .i64 (-1) n = IntKind.i64.wrap ((BitVec.ofInt 64 (-1) ^^^ BitVec.ofInt 64 n).toNat : Int) := rfl
  rw [e, show (BitVec.ofInt 64 (-1)) = BitVec.allOnes 64 from by decide, BitVec.allOnes_xor, BitVec.toNat_not, IntKind.wrap_i64]
  have h2 := (BitVec.ofInt 64 n).isLt
  have h3 : (BitVec.ofInt 64 n).toNat = (n % ((2 ^ 64 : Nat) : Int)).toNat := BitVec.toNat_ofInt n
  omega

/-! Walks -/
set_option maxHeartbeats 400000 in
theorem unsigned_any (n : Int) (h : I64 n) (w : World) : Calls Tryd.prog 82 #[.int .i64 n] w fun e w' => e = .returned (.int .u64 (uns n)) ∧ w = w' := by
  have hx := xor_neg1 n h
  unfold I64 at h
  obtain ⟨h1, h2⟩ := h
  by_cases hn : 0 ≤ n
  · go_enter Tryd.func82, Tryd.ntmps82
    go_wp2_with fail
    go_ret
    exact ⟨retI (by simp [uns, hn]), rfl⟩
  · go_enter Tryd.func82, Tryd.ntmps82
    go_wp2_with fail
    go_ret
    exact ⟨retI (by
      show IntKind.u64.wrap (IntKind.u64.wrap (2 * IntKind.u64.wrap (-n - 1)) + 1) = uns n
      rw [IntWalk.u64_in (-n - 1) (by omega), IntWalk.u64_in (2 * (-n - 1)) (by omega), IntWalk.u64_in _ (by omega)]
      unfold uns; rw [if_neg (by omega)]; omega), rfl⟩

set_option maxHeartbeats 400000 in
theorem runsigned_any (n : Int) (h : I64 n) (w : World) : Calls Tryd.prog 66 #[.int .i64 n] w fun e w' => e = .returned (.int .u64 (uns n)) ∧ w = w' := by
  unfold I64 at h
  obtain ⟨h1, h2⟩ := h
  by_cases hn : 0 ≤ n
  · go_enter Tryd.func66, Tryd.ntmps66
    go_wp2_with fail
    go_ret
    exact ⟨retI (by simp [uns, hn]), rfl⟩
  · go_enter Tryd.func66, Tryd.ntmps66
    go_wp2_with fail
    go_ret
    exact ⟨retI (by simp [uns]; omega), rfl⟩


set_option maxHeartbeats 400000 in
theorem sizeNumeral_any (u : Nat) (h1 : u ≤ 18446744073709551615) (w : World) : Calls Tryd.prog 81 #[.int .u64 u] w fun e w' => e = .returned (.int .i64 (digs u).length) ∧ w = w' := by
  have hb := Lib.hid (digs_bits u h1)
  have hle := Lib.bitLen_le u 64 (by omega) (by omega)
  go_enter Tryd.func81, Tryd.ntmps81
  go_wp2_with fail
  refine (Tryd.bits_Len64 (u : Int) _ (by omega) (by omega)).mono ?_
  rintro e w1 ⟨rfl, rfl⟩
  rw [Int.toNat_natCast]
  generalize Lib.bitLen u = b at *
  go_wp2_with fail
  go_ret
  exact ⟨retI (by rw [← hb.out]; omega), rfl⟩
end Go.Proofs.YtbhpmeljmkoebaaDoor.K
