/- sane: the chapter's examples hold; element, mul, pow of the laws: contracts. -/
import Derived.Test.YtalphobaohffnaaDoorGq
import Derived.Deep.DeepCutAuto
namespace Go.Proofs.YtalphobaohffnaaDoor
open Go.RowKit

theorem Pow_eq {a n x y : Int} (h : powV a n = x ∧ powE a = y) (hn : I64 n) (w : World) : Calls Tryd.prog 13 #[.int .i64 a, .int .i64 n] w fun e w' => e = .returned (.tuple #[.int .i64 x, .int .i64 y]) ∧ Below w.heap.size w w' := by
  rw [← h.1, ← h.2]
  exact Pow_any a n hn w
theorem Mul_eq {a b x y : Int} (h : mulV a b = x ∧ mulE a b = y) (w : World) : Calls Tryd.prog 14 #[.int .i64 a, .int .i64 b] w fun e w' => e = .returned (.tuple #[.int .i64 x, .int .i64 y]) ∧ w' = w := by
  rw [← h.1, ← h.2]
  exact Mul_any a b w
theorem Element_eq {n x y : Int} (h : elV n = x ∧ elE n = y) (w : World) : Calls Tryd.prog 6 #[.int .i64 n] w fun e w' => e = .returned (.tuple #[.int .i64 x, .int .i64 y]) ∧ w' = w := by
  rw [← h.1, ← h.2]
  exact Element_any n w
theorem Number_eq {n x y : Int} (h : nuV n = x ∧ powE n = y) (w : World) : Calls Tryd.prog 8 #[.int .i64 n] w fun e w' => e = .returned (.tuple #[.int .i64 x, .int .i64 y]) ∧ w' = w := by
  rw [← h.1, ← h.2]
  exact Number_any n w
theorem Valid_eq {x : Int} {b : Bool} (h : vd x = b) (w : World) : Calls Tryd.prog 15 #[.int .i64 x] w fun e w' => e = .returned (.bool b) ∧ w' = w := by
  rw [← h]
  exact Valid_any x w

set_option maxRecDepth 100000 in
set_option maxHeartbeats 4000000 in
theorem sane_any (w : World) : Calls Tryd.prog 5 #[] w fun e w' => e = .returned (.bool true) ∧ Below w.heap.size w w' := by
  go_enter Tryd.func5, Tryd.ntmps5
  go_wp2_with fail
  refine (Pow_eq ex_pow (I64.lit rfl) _).mono ?_
  rintro e w1 ⟨rfl, hb⟩
  replace hb := Lib.hid hb
  go_wp2_with fail
  refine (Pow_eq ex_powQ (I64.lit rfl) _).mono ?_
  rintro e w2 ⟨rfl, hb2⟩
  replace hb := Lib.hid (hb.out.trans (hb2.mono hb.out.size))
  clear hb2
  go_wp2_with fail
  refine (Pow_eq ex_powI (I64.lit rfl) _).mono ?_
  rintro e w3 ⟨rfl, hb2⟩
  replace hb := Lib.hid (hb.out.trans (hb2.mono hb.out.size))
  clear hb2
  go_wp2_with fail
  refine (Pow_eq ex_pow0 (I64.lit rfl) _).mono ?_
  rintro e w4 ⟨rfl, hb2⟩
  replace hb := Lib.hid (hb.out.trans (hb2.mono hb.out.size))
  clear hb2
  go_wp2_with fail
  refine (Mul_eq ex_mul _).mono ?_
  rintro e w5 ⟨rfl, rfl⟩
  go_wp2_with fail
  refine (Mul_eq ex_mul2 _).mono ?_
  rintro e w5 ⟨rfl, rfl⟩
  go_wp2_with fail
  refine (Element_eq ex_el2 _).mono ?_
  rintro e w5 ⟨rfl, rfl⟩
  go_wp2_with fail
  refine (Element_eq ex_el0 _).mono ?_
  rintro e w5 ⟨rfl, rfl⟩
  go_wp2_with fail
  refine (Element_eq ex_elQ _).mono ?_
  rintro e w5 ⟨rfl, rfl⟩
  go_wp2_with fail
  refine (Number_eq ex_nu _).mono ?_
  rintro e w5 ⟨rfl, rfl⟩
  go_wp2_with fail
  refine (Number_eq ex_nu2 _).mono ?_
  rintro e w5 ⟨rfl, rfl⟩
  go_wp2_with fail
  refine (Valid_eq ex_no0 _).mono ?_
  rintro e w5 ⟨rfl, rfl⟩
  go_wp2_with fail
  refine (Valid_eq ex_noP _).mono ?_
  rintro e w5 ⟨rfl, rfl⟩
  go_wp2_with fail
  refine (Valid_eq not_two _).mono ?_
  rintro e w5 ⟨rfl, rfl⟩
  go_wp2_with fail
  refine (Valid_eq vd_one _).mono ?_
  rintro e w5 ⟨rfl, rfl⟩
  go_wp2_with fail
  refine (Valid_eq vd_four _).mono ?_
  rintro e w5 ⟨rfl, rfl⟩
  go_wp2_with fail
  refine (Valid_eq vd_last _).mono ?_
  rintro e w5 ⟨rfl, rfl⟩
  go_wp2_with fail
  go_ret
  exact ⟨rfl, hb.out⟩
end Go.Proofs.YtalphobaohffnaaDoor
