/- The reference's power, Valid: contracts. -/
import Derived.Test.YtalphobaohffnaaDoorGq
namespace Go.Proofs.YtalphobaohffnaaDoor
open Go.RowKit

/-- What the loop keeps: the product, the square and what is left of the exponent. -/
def sqP (k c a x n : Nat) : Prop := c < 2147483579 ∧ a < 2147483579 ∧ c * pw a k % 2147483579 = pw x n
theorem sqP.init {x : Nat} (hx : x < 2147483579) (n : Nat) : sqP n 1 x x n := ⟨by omega, hx, by rw [Nat.one_mul, Nat.mod_eq_of_lt (pw_lt _ _)]⟩
theorem sqP.done {c a x n : Nat} (h : sqP 0 c a x n) : c = pw x n := by
  rw [← h.2.2, pw_zero, Nat.mul_one, Nat.mod_eq_of_lt h.1]
theorem sqP.even {k c a x n : Nat} (h : sqP k c a x n) (he : k % 2 = 0) : sqP (k / 2) c (a * a % 2147483579) x n := by
  refine ⟨h.1, Nat.mod_lt _ (by omega), ?_⟩
  rw [pw_base, ← pw_add, show k / 2 + k / 2 = k by omega]
  exact h.2.2
theorem sqP.odd {k c a x n : Nat} (h : sqP k c a x n) (he : k % 2 = 1) : sqP (k / 2) (c * a % 2147483579) (a * a % 2147483579) x n := by
  refine ⟨Nat.mod_lt _ (by omega), Nat.mod_lt _ (by omega), ?_⟩
  rw [pw_base, ← pw_add, ← h.2.2]
  have e : pw a k = pw a (k / 2 + k / 2) * a % 2147483579 := by
    conv => lhs; rw [show k = k / 2 + k / 2 + 1 by omega]
    rw [pw_add, pw_one _ h.2.1]
  rw [e]
  generalize pw a (k / 2 + k / 2) = u
  rw [Nat.mul_mod, Nat.mod_mod, ← Nat.mul_mod, Nat.mul_mod c (u * a % 2147483579), Nat.mod_mod, ← Nat.mul_mod, Nat.mul_assoc, Nat.mul_comm a u]

set_option maxRecDepth 100000 in
set_option maxHeartbeats 2000000 in
theorem rpower_any (x n : Nat) (hx : x < 2147483579) (hn : n ≤ 9223372036854775807) (w : World) : Calls Tryd.prog 24 #[.int .i64 (x : Int), .int .i64 (n : Int)] w fun e w' => e = .returned (.int .i64 (pw x n : Int)) ∧ w' = w := by
  have h0 := Lib.hid (sqP.init hx n)
  go_enter Tryd.func24, Tryd.ntmps24
  go_wp2_with fail
  go_loopw [0, 1, 5] (fun a e c wr => wr = w ∧ ∃ (k av cv : Nat), k ≤ 9223372036854775807 ∧ e = .int .i64 (k : Int) ∧ c = .int .i64 (cv : Int) ∧ a = .int .i64 (av : Int) ∧ Hid (sqP k cv av x n)) (fun _ e _ _ => (intOf e).toNat)
  case atStart => exact ⟨rfl, n, x, 1, hn, rfl, rfl, rfl, h0⟩
  case round =>
    obtain ⟨rfl, k, a, c, hk, rfl, rfl, rfl, hs⟩ := hrel
    by_cases hk0 : k = 0
    · subst hk0
      have hd := Lib.hid (show (c : Int) = (pw x n : Int) by rw [hs.out.done])
      go_wp2_with fail
      go_ret
      exact ⟨retI hd.out, rfl⟩
    · have hkne : (0 : Int) < (k : Int) := by omega
      have hhalf := Lib.hid (show (k : Int) / 2 = ((k / 2 : Nat) : Int) by omega)
      have haa := mul_lt hs.out.2.1 hs.out.2.1
      have hca := mul_lt hs.out.1 hs.out.2.1
      have wa := IntWalk.wrap64_in ((a : Int) * a) (by omega)
      have wc := IntWalk.wrap64_in ((c : Int) * a) (by omega)
      have ra := Lib.hid (show (a : Int) * a % 2147483579 = ((a * a % 2147483579 : Nat) : Int) from mul_rem)
      have rc := Lib.hid (show (c : Int) * a % 2147483579 = ((c * a % 2147483579 : Nat) : Int) from mul_rem)
      by_cases hodd : k % 2 = 1
      · have hbit : Int.tmod (k : Int) 2 = 1 := by rw [Int.tmod_eq_emod_of_nonneg (by omega)]; omega
        have hn := Lib.hid (hs.out.odd hodd)
        clear hs hodd
        go_wp2_with fail
        go_roundw
        case rel => exact ⟨trivial, k / 2, a * a % 2147483579, c * a % 2147483579, by omega, by rw [← hhalf.out], by rw [← rc.out], by rw [← ra.out], hn⟩
        case measure => simp [intOf]; omega
      · have hbit : Int.tmod (k : Int) 2 = 0 := by rw [Int.tmod_eq_emod_of_nonneg (by omega)]; omega
        have hn := Lib.hid (hs.out.even (by omega))
        clear hs hodd
        go_wp2_with fail
        go_roundw
        case rel => exact ⟨trivial, k / 2, a * a % 2147483579, c, by omega, by rw [← hhalf.out], rfl, by rw [← ra.out], hn⟩
        case measure => simp [intOf]; omega

set_option maxRecDepth 100000 in
set_option maxHeartbeats 1000000 in
theorem rValid_any (x : Int) (w : World) : Calls Tryd.prog 16 #[.int .i64 x] w fun e w' => e = .returned (.bool (vd x)) ∧ w' = w := by
  obtain ⟨Q, hQ⟩ : ∃ Q : Nat, Q = 1073741789 := ⟨_, rfl⟩
  have hp := Lib.hid (fun (n : Nat) (hn : n < 2147483579) (w : World) => rpower_any n Q hn (by omega) w)
  rw [hQ] at hp
  clear hQ
  go_enter Tryd.func16, Tryd.ntmps16
  by_cases h1 : 1 ≤ x
  · by_cases h2 : x < 2147483579
    · obtain ⟨n, rfl⟩ := Int.eq_ofNat_of_zero_le (show 0 ≤ x by omega)
      have hv := Lib.hid (show vd (n : Int) = ((pw n 1073741789 : Int) == 1) by
        rw [vd_in (by omega) (by omega), gP_pw (by omega) (by omega), Bool.eq_iff_iff]
        simp
        omega)
      go_wp2_with fail
      refine (hp.out n (by omega) _).mono ?_
      rintro e w1 ⟨rfl, rfl⟩
      go_wp2_with fail
      go_ret
      exact ⟨retB hv.out.symm, rfl⟩
    · have hv := Lib.hid (vd_no (x := x) (by omega))
      go_wp2_with fail
      go_ret
      exact ⟨retB hv.out.symm, rfl⟩
  · have hv := Lib.hid (vd_no (x := x) (by omega))
    go_wp2_with fail
    go_ret
    exact ⟨retB hv.out.symm, rfl⟩
end Go.Proofs.YtalphobaohffnaaDoor
