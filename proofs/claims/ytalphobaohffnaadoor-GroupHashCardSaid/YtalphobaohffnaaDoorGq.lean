/- Plainly: the elements, their products and powers. -/
import Derived.Test.YtalphobaohffnaaDoorGm
namespace Go.Proofs.YtalphobaohffnaaDoor
open Go.RowKit

/-- x is an element. -/
def El (x : Nat) : Prop := 1 ≤ x ∧ x < 2147483579 ∧ pw x 1073741789 = 1
theorem gP_pw {x : Nat} (h1 : 1 ≤ x) (h2 : x < 2147483579) : (!gP x) = decide (pw x 1073741789 = 1) := by
  rw [euler_P x h1 h2]
  cases gP x <;> rfl
theorem vd_El {x : Nat} : vd (x : Int) = true ↔ El x := by
  constructor
  · intro h
    have r := vd_range h
    rw [vd_in (by omega) (by omega), gP_pw (by omega) (by omega), decide_eq_true_eq] at h
    exact ⟨by omega, by omega, h⟩
  · intro h
    rw [vd_in h.1 h.2.1, gP_pw h.1 h.2.1, decide_eq_true_eq]
    exact h.2.2
theorem vd_nat {x : Int} (h : vd x = true) : ∃ n : Nat, x = (n : Int) ∧ El n := by
  obtain ⟨n, rfl⟩ := Int.eq_ofNat_of_zero_le (show 0 ≤ x by have := vd_range h; omega)
  exact ⟨n, rfl, vd_El.1 h⟩
theorem nz {x y : Nat} (h1 : 1 ≤ x) (h2 : x < 2147483579) (h3 : 1 ≤ y) (h4 : y < 2147483579) : x * y % 2147483579 ≠ 0 := fun e => by
  rcases prime_nat x y (Nat.dvd_of_mod_eq_zero e) with h | h <;> have := Nat.le_of_dvd (by omega) h <;> omega
theorem one_pw (n : Nat) : pw 1 n = 1 := by rw [pw_eq, Nat.one_pow]
theorem El.one : El 1 := ⟨Nat.le_refl _, by omega, one_pw _⟩
theorem El.mul {a b : Nat} (ha : El a) (hb : El b) : El (a * b % 2147483579) := by
  refine ⟨Nat.pos_of_ne_zero (nz ha.1 ha.2.1 hb.1 hb.2.1), Nat.mod_lt _ (by omega), ?_⟩
  rw [pw_base, ha.2.2, hb.2.2]
theorem pw_nz {a : Nat} (h1 : 1 ≤ a) (h2 : a < 2147483579) : ∀ n, pw a n ≠ 0 := by
  intro n
  induction n with
  | zero => rw [pw_zero]; omega
  | succ n ih =>
    rw [pw_add, pw_one _ h2]
    exact nz (by omega) (pw_lt _ _) h1 h2
theorem pw_pw_comm (a m n : Nat) : pw (pw a m) n = pw (pw a n) m := by rw [← pw_mul, ← pw_mul, Nat.mul_comm]
theorem El.pw {a : Nat} (ha : El a) (n : Nat) : El (pw a n) := by
  refine ⟨Nat.pos_of_ne_zero (pw_nz ha.1 ha.2.1 n), pw_lt _ _, ?_⟩
  rw [pw_pw_comm, ha.2.2, one_pw]
theorem pw_mod_Q {a : Nat} (ha : El a) (n : Nat) : Go.Proofs.YtalphobaohffnaaDoor.pw a (n % 1073741789) = Go.Proofs.YtalphobaohffnaaDoor.pw a n := by
  have h := Nat.div_add_mod n 1073741789
  rw [← h, pw_add, pw_mul, ha.2.2, one_pw, Nat.one_mul, Nat.mod_eq_of_lt (pw_lt _ _), h]
/-- The power to an integer. -/
@[irreducible] def pz (a : Nat) (n : Int) : Nat := Go.Proofs.YtalphobaohffnaaDoor.pw a (md n).toNat
theorem pz_eq (a : Nat) (n : Int) : pz a n = Go.Proofs.YtalphobaohffnaaDoor.pw a (md n).toNat := by unfold pz; rfl
theorem pz_nat {a : Nat} (ha : El a) (n : Nat) : pz a (n : Int) = Go.Proofs.YtalphobaohffnaaDoor.pw a n := by
  rw [pz_eq, show (md (n : Int)).toNat = n % 1073741789 by unfold md; omega, pw_mod_Q ha]
theorem pz_md {a : Nat} (m n : Int) (h : md m = md n) : pz a m = pz a n := by rw [pz_eq, pz_eq, h]
theorem pz_lt (a : Nat) (n : Int) : pz a n < 2147483579 := by rw [pz_eq]; exact pw_lt _ _
theorem El.pz {a : Nat} (ha : El a) (n : Int) : El (pz a n) := by rw [pz_eq]; exact ha.pw _
theorem pz_add {a : Nat} (ha : El a) (m n : Int) : Go.Proofs.YtalphobaohffnaaDoor.pz a (m + n) = Go.Proofs.YtalphobaohffnaaDoor.pz a m * Go.Proofs.YtalphobaohffnaaDoor.pz a n % 2147483579 := by
  rw [pz_eq, pz_eq, pz_eq, ← pw_add, ← pw_mod_Q ha ((md m).toNat + (md n).toNat)]
  congr 1
  unfold md
  omega
theorem pz_mul {a : Nat} (ha : El a) (m n : Int) : Go.Proofs.YtalphobaohffnaaDoor.pz a (m * n) = Go.Proofs.YtalphobaohffnaaDoor.pz (Go.Proofs.YtalphobaohffnaaDoor.pz a m) n := by
  rw [pz_eq, pz_eq, pz_eq, ← pw_mul, ← pw_mod_Q ha ((md m).toNat * (md n).toNat)]
  congr 1
  have h1 := md_range m
  have h2 := md_range n
  have e : (((md m).toNat * (md n).toNat % 1073741789 : Nat) : Int) = md (m * n) := by
    rw [Int.natCast_emod, Int.natCast_mul, Int.toNat_of_nonneg h1.1, Int.toNat_of_nonneg h2.1]
    unfold md
    rw [Int.mul_emod m n]
    rfl
  omega
theorem pz_base {a b : Nat} (n : Int) : Go.Proofs.YtalphobaohffnaaDoor.pz (a * b % 2147483579) n = Go.Proofs.YtalphobaohffnaaDoor.pz a n * Go.Proofs.YtalphobaohffnaaDoor.pz b n % 2147483579 := by rw [pz_eq, pz_eq, pz_eq, pw_base]
theorem pz_zero (a : Nat) : Go.Proofs.YtalphobaohffnaaDoor.pz a 0 = 1 := by rw [pz_eq]; exact pw_zero a
theorem pz_one {a : Nat} (h : a < 2147483579) : Go.Proofs.YtalphobaohffnaaDoor.pz a 1 = a := by rw [pz_eq]; exact pw_one a h
theorem pz_two {a : Nat} (h : a < 2147483579) : Go.Proofs.YtalphobaohffnaaDoor.pz a 2 = a * a % 2147483579 := by
  rw [pz_eq]
  show Go.Proofs.YtalphobaohffnaaDoor.pw a (1 + 1) = _
  rw [pw_add, pw_one _ h]
theorem pz_Q (a : Nat) : Go.Proofs.YtalphobaohffnaaDoor.pz a 1073741789 = 1 := by rw [pz_eq]; exact pw_zero a
/-- The power to -1 is the inverse. -/
theorem pz_inv {a : Nat} (ha : El a) : a * Go.Proofs.YtalphobaohffnaaDoor.pz a (-1) % 2147483579 = 1 := by
  have h := pz_add ha 1 (-1)
  rw [show (1 : Int) + -1 = 0 by omega, pz_zero, pz_one ha.2.1] at h
  exact h.symm
/-- The greatest number is no element: its power to Q is itself. -/
theorem pw_minus (n : Nat) : Go.Proofs.YtalphobaohffnaaDoor.pw 2147483578 (2 * n + 1) = 2147483578 := by
  rw [pw_add, pw_mul, show Go.Proofs.YtalphobaohffnaaDoor.pw 2147483578 2 = 1 by rw [pw_eq], one_pw, pw_one _ (by omega)]
/-- Of x and P - x exactly one is an element. -/
theorem pw_neg {x : Nat} (h1 : 1 ≤ x) (h2 : x < 2147483579) : Go.Proofs.YtalphobaohffnaaDoor.pw (2147483579 - x) 1073741789 = if gP x then 1 else 2147483578 := by
  have e : 2147483579 - x = 2147483578 * x % 2147483579 := by
    have : 2147483578 * x = (2147483579 - x) + 2147483579 * (x - 1) := by omega
    rw [this, Nat.add_mul_mod_self_left, Nat.mod_eq_of_lt (by omega)]
  rw [e, pw_base, euler_P x h1 h2]
  have hm : Go.Proofs.YtalphobaohffnaaDoor.pw 2147483578 1073741789 = 2147483578 := pw_minus 536870894
  rw [hm]
  cases gP x
  · decide
  · decide
theorem El_or {x : Nat} (h1 : 1 ≤ x) (h2 : x < 2147483579) : vd ((2147483579 - x : Nat) : Int) = !vd (x : Int) := by
  rw [vd_in h1 h2, vd_in (by omega) (by omega), gP_pw (x := 2147483579 - x) (by omega) (by omega), pw_neg h1 h2]
  cases gP x <;> rfl
theorem El.sq {x : Nat} (h1 : 1 ≤ x) (h2 : x < 2147483579) : El (x * x % 2147483579) := by
  refine ⟨Nat.pos_of_ne_zero (nz h1 h2 h1 h2), Nat.mod_lt _ (by omega), ?_⟩
  rw [pw_base, ← pw_add, show 1073741789 + 1073741789 = 2 * 1073741789 from rfl, pw_two_Q x h1 h2]
theorem vd_int (n : Int) (h1 : 1 ≤ n) (h2 : n < 2147483579) : vd (2147483579 - n) = !vd n := by
  obtain ⟨x, rfl⟩ := Int.eq_ofNat_of_zero_le (show 0 ≤ n by omega)
  rw [show (2147483579 : Int) - (x : Int) = ((2147483579 - x : Nat) : Int) by omega]
  exact El_or (by omega) (by omega)
/-- The element for a number from 1 to Q. -/
theorem elV_vd {n : Int} (h1 : 1 ≤ n) (h2 : n ≤ 1073741789) : vd (elV n) = true := by
  unfold elV
  rw [if_pos ⟨h1, h2⟩]
  by_cases h : vd n = true
  · rw [if_pos h, h]
  · rw [if_neg h, vd_int n h1 (by omega)]
    simpa using h
/-! The chapter's examples. -/
theorem gP_two : gP 2 = true := by
  obtain ⟨q, hq⟩ : ∃ q, q = 1073741789 := ⟨_, rfl⟩
  rw [gP_eq, ← hq, gs_two, hq]
  rfl
theorem not_two : vd 2 = false := by rw [show (2 : Int) = ((2 : Nat) : Int) from rfl, vd_in (by omega) (by omega), gP_two]; rfl
theorem pw_two : Go.Proofs.YtalphobaohffnaaDoor.pw 2 1073741789 = 2147483578 := by rw [euler_P 2 (by omega) (by omega), gP_two]; rfl
theorem El.four : El 4 := by
  refine ⟨by omega, by omega, ?_⟩
  have := pw_base 2 2 1073741789
  rw [pw_two] at this
  exact this
theorem vd_four : vd 4 = true := vd_El.2 El.four
theorem vd_one : vd 1 = true := vd_El.2 El.one
theorem vd_last : vd 2147483578 = false := by
  have := vd_int 1 (by omega) (by omega)
  rw [vd_one] at this
  exact this
theorem vd_sane : vd 2147483577 = true := by
  have := vd_int 2 (by omega) (by omega)
  rw [not_two] at this
  exact this
theorem inv_uniq {P x a v : Nat} (hl : x < P) (hv : v < P) (h : a * x % P = 1) (h' : a * v % P = 1) : x = v := by
  have e1 : a * x * v % P = v := by rw [Nat.mul_mod, h, Nat.one_mul, Nat.mod_mod, Nat.mod_eq_of_lt hv]
  have e2 : a * v * x % P = x := by rw [Nat.mul_mod, h', Nat.one_mul, Nat.mod_mod, Nat.mod_eq_of_lt hl]
  rw [Nat.mul_right_comm, e2] at e1
  exact e1
theorem inv_four : Go.Proofs.YtalphobaohffnaaDoor.pz 4 (-1) = 536870895 := inv_uniq (pz_lt 4 (-1)) (by decide) (pz_inv El.four) (by decide)
theorem ex_pow : powV 4 2 = 16 ∧ powE 4 = 0 := by
  unfold powV powE
  rw [if_pos vd_four, if_pos vd_four, show ((4 : Int).toNat) = 4 from rfl, ← pz_eq, pz_two (by omega)]
  exact ⟨rfl, rfl⟩
theorem ex_powQ : powV 4 1073741789 = 1 ∧ powE 4 = 0 := by
  unfold powV powE
  rw [if_pos vd_four, if_pos vd_four, show ((4 : Int).toNat) = 4 from rfl, ← pz_eq, pz_Q]
  exact ⟨rfl, rfl⟩
theorem ex_powI : powV 4 (-1) = 536870895 ∧ powE 4 = 0 := by
  unfold powV powE
  rw [if_pos vd_four, if_pos vd_four, show ((4 : Int).toNat) = 4 from rfl, ← pz_eq, inv_four]
  exact ⟨rfl, rfl⟩
theorem ex_pow0 : powV 0 1 = 0 ∧ powE 0 = 100 := by
  unfold powV powE
  rw [vd_no (by omega)]
  exact ⟨rfl, rfl⟩
theorem ex_mul : mulV 4 4 = 16 ∧ mulE 4 4 = 0 := by
  unfold mulV mulE
  rw [vd_four]
  exact ⟨rfl, rfl⟩
theorem ex_mul2 : mulV 4 2 = 0 ∧ mulE 4 2 = 100 := by
  unfold mulV mulE
  rw [vd_four, not_two]
  exact ⟨rfl, rfl⟩
theorem ex_el2 : elV 2 = 2147483577 ∧ elE 2 = 0 := by
  unfold elV elE
  rw [not_two]
  exact ⟨rfl, rfl⟩
theorem ex_el0 : elV 0 = 0 ∧ elE 0 = 1 := by unfold elV elE; exact ⟨rfl, rfl⟩
theorem ex_elQ : elV 1073741790 = 0 ∧ elE 1073741790 = 1 := by unfold elV elE; exact ⟨rfl, rfl⟩
theorem ex_nu : nuV 2147483577 = 2 ∧ powE 2147483577 = 0 := by
  unfold nuV powE
  rw [vd_sane]
  exact ⟨rfl, rfl⟩
theorem ex_nu2 : nuV 2 = 0 ∧ powE 2 = 100 := by
  unfold nuV powE
  rw [not_two]
  exact ⟨rfl, rfl⟩
theorem ex_no0 : vd 0 = false := vd_no (by omega)
theorem ex_noP : vd 2147483579 = false := vd_no (by omega)
end Go.Proofs.YtalphobaohffnaaDoor
