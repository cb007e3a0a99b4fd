/- Plainly: what the loop that tells squares keeps. -/
import Derived.WalkKit
import Derived.Test.YtalphobaohffnaaDoorGa
namespace Go.Proofs.YtalphobaohffnaaDoor

/-- What the loop of square keeps. -/
def Jc (x t b : Nat) (ok : Bool) : Prop := 1 ≤ t ∧ t < b ∧ b % 2 = 1 ∧ Nat.Coprime b t ∧ gP x = xor (!ok) (gs t (b / 2))
theorem Jc.init {x : Nat} (h1 : 1 ≤ x) (h2 : x < 2147483579) : Jc x x 2147483579 true :=
  ⟨h1, h2, rfl, coprime_P x h1 h2, by rw [gP_eq, Bool.not_true, Bool.false_xor, show 2147483579 / 2 = 1073741789 from by decide]⟩
theorem Jc.done {x b : Nat} {ok : Bool} (h : Jc x 1 b ok) : gP x = !ok := by
  rw [h.2.2.2.2, gs_one, Bool.xor_false]
theorem Jc.even {x t b : Nat} {ok : Bool} (h : Jc x t b ok) (e : t % 2 = 0) : Jc x (t / 2) b (if b % 8 = 3 ∨ b % 8 = 5 then !ok else ok) := by
  obtain ⟨h1, h2, h3, h4, h5⟩ := h
  obtain ⟨s, rfl⟩ : ∃ s, t = 2 * s := ⟨t / 2, by omega⟩
  obtain ⟨m, rfl⟩ : ∃ m, b = 2 * m + 1 := ⟨b / 2, by omega⟩
  have e1 : 2 * s / 2 = s := by omega
  have e2 : (2 * m + 1) / 2 = m := by omega
  rw [e1]
  rw [e2] at h5
  have c2 : Nat.Coprime (2 * m + 1) 2 := Nat.Coprime.coprime_mul_right_right h4
  have cs : Nat.Coprime (2 * m + 1) s := Nat.Coprime.coprime_mul_left_right h4
  refine ⟨by omega, by omega, h3, cs, ?_⟩
  rw [h5, e2, gs_mul c2 cs, gs_two]
  have e3 : xor (od m) (od (m / 2)) = decide ((2 * m + 1) % 8 = 3 ∨ (2 * m + 1) % 8 = 5) := by
    unfold od
    rcases (by omega : m % 4 = 0 ∨ m % 4 = 1 ∨ m % 4 = 2 ∨ m % 4 = 3) with c | c | c | c
    · rw [show m % 2 = 0 by omega, show m / 2 % 2 = 0 by omega, show (2 * m + 1) % 8 = 1 by omega]; rfl
    · rw [show m % 2 = 1 by omega, show m / 2 % 2 = 0 by omega, show (2 * m + 1) % 8 = 3 by omega]; rfl
    · rw [show m % 2 = 0 by omega, show m / 2 % 2 = 1 by omega, show (2 * m + 1) % 8 = 5 by omega]; rfl
    · rw [show m % 2 = 1 by omega, show m / 2 % 2 = 1 by omega, show (2 * m + 1) % 8 = 7 by omega]; rfl
  rw [e3]
  by_cases c : (2 * m + 1) % 8 = 3 ∨ (2 * m + 1) % 8 = 5
  · rw [if_pos c, decide_eq_true c]; cases ok <;> cases gs s m <;> rfl
  · rw [if_neg c, decide_eq_false c]; cases ok <;> cases gs s m <;> rfl
theorem Jc.odd {x t b : Nat} {ok : Bool} (h : Jc x t b ok) (n1 : t ≠ 1) (e : t % 2 = 1) : Jc x (b % t) t (if t % 4 = 3 ∧ b % 4 = 3 then !ok else ok) := by
  obtain ⟨h1, h2, h3, h4, h5⟩ := h
  have hl := Nat.mod_lt b (show t > 0 by omega)
  have hp : b % t ≠ 0 := fun e0 => by
    have hd : t ∣ b := Nat.dvd_of_mod_eq_zero e0
    have := Nat.Coprime.eq_one_of_dvd h4.symm hd
    omega
  obtain ⟨s, rfl⟩ : ∃ s, t = 2 * s + 1 := ⟨t / 2, by omega⟩
  obtain ⟨m, rfl⟩ : ∃ m, b = 2 * m + 1 := ⟨b / 2, by omega⟩
  have e1 : (2 * s + 1) / 2 = s := by omega
  have e2 : (2 * m + 1) / 2 = m := by omega
  rw [e2] at h5
  refine ⟨by omega, hl, e, ?_, ?_⟩
  · have := h4.symm
    exact (Nat.gcd_comm _ _).trans ((Nat.gcd_rec (2 * s + 1) (2 * m + 1)).symm.trans this)
  · have r := recip h4
    rw [h5, e1, gs_mod (a := (2 * m + 1) % (2 * s + 1)) (b := 2 * m + 1) (Nat.mod_mod _ _)]
    have e3 : (od m && od s) = decide ((2 * s + 1) % 4 = 3 ∧ (2 * m + 1) % 4 = 3) := by
      unfold od
      rcases Nat.mod_two_eq_zero_or_one m with c | c <;> rcases Nat.mod_two_eq_zero_or_one s with d | d
      · rw [c, d, show (2 * s + 1) % 4 = 1 by omega, show (2 * m + 1) % 4 = 1 by omega]; rfl
      · rw [c, d, show (2 * s + 1) % 4 = 3 by omega, show (2 * m + 1) % 4 = 1 by omega]; rfl
      · rw [c, d, show (2 * s + 1) % 4 = 1 by omega, show (2 * m + 1) % 4 = 3 by omega]; rfl
      · rw [c, d, show (2 * s + 1) % 4 = 3 by omega, show (2 * m + 1) % 4 = 3 by omega]; rfl
    rw [e3] at r
    generalize gs (2 * s + 1) m = u at *
    generalize gs (2 * m + 1) s = v at *
    by_cases c : (2 * s + 1) % 4 = 3 ∧ (2 * m + 1) % 4 = 3
    · rw [if_pos c]; rw [decide_eq_true c] at r; revert r; cases ok <;> cases u <;> cases v <;> decide
    · rw [if_neg c]; rw [decide_eq_false c] at r; revert r; cases ok <;> cases u <;> cases v <;> decide

end Go.Proofs.YtalphobaohffnaaDoor
