/- The reference's Mul, Pow; GroupSpec: true. -/
import Derived.Test.YtalphobaohffnaaGr
import Derived.Test.YtalphobaohffnaaGs
namespace Go.Proofs.Ytalphobaohffnaa
open Go.RowKit

set_option maxRecDepth 100000 in
set_option maxHeartbeats 1000000 in
theorem exponent_any (n : Int) (w : World) : Calls Try.prog 24 #[.int .i64 n] w fun e w' => e = .returned (.int .i64 (md n)) ∧ w' = w := by
  go_enter Try.func24, Try.ntmps24
  go_wp2_with fail
  all_goals
    rename_i h
    go_ret
    refine ⟨retI ?_, rfl⟩
  · rw [IntWalk.wrap64_in _ (by have := rem_lo n; omega)]
    exact rem_md' h
  · exact rem_md (by omega)

set_option maxRecDepth 100000 in
set_option maxHeartbeats 1000000 in
theorem rMul_any (a b : Int) (w : World) : Calls Try.prog 10 #[.int .i64 a, .int .i64 b] w fun e w' => e = .returned (.tuple #[.int .i64 (mulV a b), .int .i64 (mulE a b)]) ∧ w' = w := by
  go_enter Try.func10, Try.ntmps10
  go_wp2_with fail
  refine (rValid_any a _).mono ?_
  rintro e w1 ⟨rfl, rfl⟩
  by_cases ha : vd a = true
  · have ra := vd_range ha
    go_wp2_with fail
    refine (rValid_any b _).mono ?_
    rintro e w1 ⟨rfl, rfl⟩
    by_cases hb : vd b = true
    · have rb := vd_range hb
      have hv := Lib.hid (show mulV a b = ((a.toNat * b.toNat % 2147483579 : Nat) : Int) ∧ mulE a b = 0 by unfold mulV mulE; simp [ha, hb])
      obtain ⟨x, rfl⟩ := Int.eq_ofNat_of_zero_le (show 0 ≤ a by omega)
      obtain ⟨y, rfl⟩ := Int.eq_ofNat_of_zero_le (show 0 ≤ b by omega)
      rw [Int.toNat_natCast, Int.toNat_natCast] at hv
      have hxy := mul_lt (a := x) (b := y) (by omega) (by omega)
      have wa := IntWalk.wrap64_in ((x : Int) * y) (by omega)
      have rr := Lib.hid (show (x : Int) * y % 2147483579 = ((x * y % 2147483579 : Nat) : Int) from mul_rem)
      go_wp2_with fail
      go_ret2
      exact ⟨by rw [hv.out.1, hv.out.2, ← rr.out]; rfl, rfl⟩
    · have hb : vd b = false := by simpa using hb
      have hv := Lib.hid (show mulV a b = 0 ∧ mulE a b = 100 by unfold mulV mulE; simp [hb])
      go_wp2_with fail
      go_ret2
      exact ⟨by rw [hv.out.1, hv.out.2]; rfl, rfl⟩
  · have ha : vd a = false := by simpa using ha
    have hv := Lib.hid (show mulV a b = 0 ∧ mulE a b = 100 by unfold mulV mulE; simp [ha])
    go_wp2_with fail
    go_ret2
    exact ⟨by rw [hv.out.1, hv.out.2]; rfl, rfl⟩

set_option maxRecDepth 100000 in
set_option maxHeartbeats 1000000 in
theorem rPow_any (a n : Int) (w : World) : Calls Try.prog 12 #[.int .i64 a, .int .i64 n] w fun e w' => e = .returned (.tuple #[.int .i64 (powV a n), .int .i64 (powE a)]) ∧ w' = w := by
  go_enter Try.func12, Try.ntmps12
  go_wp2_with fail
  refine (rValid_any a _).mono ?_
  rintro e w1 ⟨rfl, rfl⟩
  by_cases ha : vd a = true
  · have ra := vd_range ha
    have hv := Lib.hid (show powV a n = ((pw a.toNat (md n).toNat : Nat) : Int) ∧ powE a = 0 by unfold powV powE; simp [ha])
    obtain ⟨x, rfl⟩ := Int.eq_ofNat_of_zero_le (show 0 ≤ a by omega)
    have hm := md_range n
    obtain ⟨k, hk⟩ := Int.eq_ofNat_of_zero_le hm.1
    rw [hk, Int.toNat_natCast, Int.toNat_natCast] at hv
    have hp := Lib.hid (fun w => rpower_any x k (by omega) (by omega) w)
    have ho := Lib.hid hk
    clear hk hm
    go_wp2_with fail
    refine (exponent_any n _).mono ?_
    rintro e w2 ⟨rfl, rfl⟩
    rw [ho.out]
    go_wp2_with fail
    refine (hp.out _).mono ?_
    rintro e w3 ⟨rfl, rfl⟩
    go_wp2_with fail
    go_ret2
    exact ⟨by rw [hv.out.1, hv.out.2]; rfl, rfl⟩
  · have ha : vd a = false := by simpa using ha
    have hv := Lib.hid (show powV a n = 0 ∧ powE a = 100 by unfold powV powE; simp [ha])
    go_wp2_with fail
    go_ret2
    exact ⟨by rw [hv.out.1, hv.out.2]; rfl, rfl⟩

set_option maxRecDepth 100000 in
set_option maxHeartbeats 4000000 in
theorem spec_any (a b n : Int) (hn : I64 n) (W : World) : Calls Try.prog 3 #[.int .i64 a, .int .i64 b, .int .i64 n] W fun e w' => e = .returned (.bool true) ∧ Below W.heap.size W w' := by
  go_enter Try.func3, Try.ntmps3
  go_wp2_with fail
  refine (sane_any _).mono ?_
  rintro e w ⟨rfl, hB⟩
  replace hB := Lib.hid hB
  go_wp2_with fail
  refine (Mul_any a b _).mono ?_
  rintro e w ⟨rfl, rfl⟩
  go_wp2_with fail
  refine (rMul_any a b _).mono ?_
  rintro e w ⟨rfl, rfl⟩
  go_wp2_with fail
  refine (Pow_any a n hn _).mono ?_
  rintro e w2 ⟨rfl, hb2⟩
  replace hB := Lib.hid (hB.out.trans (hb2.mono hB.out.size))
  clear hb2
  go_wp2_with fail
  refine (rPow_any a n _).mono ?_
  rintro e w ⟨rfl, rfl⟩
  go_wp2_with fail
  refine (Valid_any a _).mono ?_
  rintro e w ⟨rfl, rfl⟩
  go_wp2_with fail
  refine (rValid_any a _).mono ?_
  rintro e w ⟨rfl, rfl⟩
  go_wp2_with fail
  go_ret
  exact ⟨rfl, hB.out⟩
end Go.Proofs.Ytalphobaohffnaa
