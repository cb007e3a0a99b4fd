/- Contracts: square, Valid; the reference's power, Valid, exponent. -/
import Derived.Test.YtalphobaohffnaaDoorGc
namespace Go.Proofs.YtalphobaohffnaaDoor
open Go.RowKit

/-- Is a number an element? -/
def vd (x : Int) : Bool := decide (1 ≤ x) && (decide (x < 2147483579) && !gP x.toNat)

theorem tmodN (a b : Nat) : Int.tmod (a : Int) (b : Int) = ((a % b : Nat) : Int) := by
  rw [Int.tmod_eq_emod_of_nonneg (by omega)]
  rfl
theorem tdivN (a b : Nat) : Int.tdiv (a : Int) (b : Int) = ((a / b : Nat) : Int) := by
  rw [Int.tdiv_eq_ediv_of_nonneg (by omega)]
  rfl

set_option maxRecDepth 100000 in
set_option maxHeartbeats 2000000 in
theorem square_any (x : Nat) (h1 : 1 ≤ x) (h2 : x < 2147483579) (w : World) : Calls Tryd.prog 23 #[.int .i64 (x : Int)] w fun e w' => e = .returned (.bool (!gP x)) ∧ w' = w := by
  have h0 := Lib.hid (Jc.init h1 h2)
  go_enter Tryd.func23, Tryd.ntmps23
  go_wp2_with fail
  refine wp_scope_straight ?_
  go_wp2_with fail
  refine wp_label ?_
  go_wp2_with fail
  go_loopw [2, 3, 4] (fun o t b wr => wr = w ∧ ∃ (k m : Nat) (ok : Bool), m ≤ 2147483579 ∧ o = .bool ok ∧ t = .int .i64 (k : Int) ∧ b = .int .i64 (m : Int) ∧ Hid (Jc x k m ok)) (fun _ t b _ => (intOf t).toNat + (intOf b).toNat)
  case atStart => exact ⟨rfl, x, 2147483579, true, Nat.le_refl _, rfl, rfl, rfl, h0⟩
  case round =>
    obtain ⟨rfl, k, m, ok, hm, rfl, rfl, rfl, hs⟩ := hrel
    have hk1 := hs.out.1
    have hkm := hs.out.2.1
    by_cases hone : k = 1
    · subst hone
      have hd := Lib.hid hs.out.done
      go_wp2_with fail
      try simp only [Exit.noGoto]
      go_wp2_with fail
      go_ret
      exact ⟨retB (by rw [hd.out, Bool.not_not]), rfl⟩
    · have hne : ((k : Int) == 1) = false := by simp; omega
      by_cases hev : k % 2 = 0
      · have hbit : Int.tmod (k : Int) 2 = 0 := by rw [Int.tmod_eq_emod_of_nonneg (by omega)]; omega
        have h8 : Int.tmod (m : Int) 8 = ((m % 8 : Nat) : Int) := tmodN m 8
        have hhalf := Lib.hid (show (k : Int) / 2 = ((k / 2 : Nat) : Int) by omega)
        have hn := hs.out.even hev
        by_cases c3 : m % 8 = 3
        · rw [if_pos (.inl c3)] at hn
          rw [c3] at h8
          have hn := Lib.hid hn
          clear hs
          go_wp2_with fail
          go_roundw
          case rel => exact ⟨trivial, k / 2, m, _, hm, rfl, by rw [← hhalf.out], rfl, hn⟩
          case measure => simp [intOf]; omega
        · by_cases c5 : m % 8 = 5
          · rw [if_pos (.inr c5)] at hn
            rw [c5] at h8
            have hn := Lib.hid hn
            clear hs
            go_wp2_with fail
            go_roundw
            case rel => exact ⟨trivial, k / 2, m, _, hm, rfl, by rw [← hhalf.out], rfl, hn⟩
            case measure => simp [intOf]; omega
          · rw [if_neg (by omega)] at hn
            have n3 : (((m % 8 : Nat) : Int) == 3) = false := by simp; omega
            have n5 : (((m % 8 : Nat) : Int) == 5) = false := by simp; omega
            generalize ((m % 8 : Nat) : Int) = r at *
            have hn := Lib.hid hn
            clear hs
            go_wp2_with fail
            go_roundw
            case rel => exact ⟨trivial, k / 2, m, _, hm, rfl, by rw [← hhalf.out], rfl, hn⟩
            case measure => simp [intOf]; omega
      · have hbit : Int.tmod (k : Int) 2 = 1 := by rw [Int.tmod_eq_emod_of_nonneg (by omega)]; omega
        have hk4 : Int.tmod (k : Int) 4 = ((k % 4 : Nat) : Int) := tmodN k 4
        have hm4 : Int.tmod (m : Int) 4 = ((m % 4 : Nat) : Int) := tmodN m 4
        have hr := Lib.hid (show (m : Int) % (k : Int) = ((m % k : Nat) : Int) from rfl)
        have hlt := Nat.mod_lt m (show k > 0 by omega)
        have hn := hs.out.odd hone (by omega)
        have hk0 : ((k : Int) == 0) = false := by simp; omega
        by_cases c3 : k % 4 = 3
        · rw [c3] at hk4
          by_cases d3 : m % 4 = 3
          · rw [d3] at hm4
            rw [if_pos ⟨c3, d3⟩] at hn
            have hn := Lib.hid hn
            clear hs
            go_wp2_with fail
            go_roundw
            case rel => exact ⟨trivial, m % k, k, _, by omega, rfl, by rw [← hr.out], rfl, hn⟩
            case measure => simp [intOf]; omega
          · rw [if_neg (by omega)] at hn
            have n3 : (((m % 4 : Nat) : Int) == 3) = false := by simp; omega
            generalize ((m % 4 : Nat) : Int) = r at *
            have hn := Lib.hid hn
            clear hs
            go_wp2_with fail
            go_roundw
            case rel => exact ⟨trivial, m % k, k, _, by omega, rfl, by rw [← hr.out], rfl, hn⟩
            case measure => simp [intOf]; omega
        · rw [if_neg (by omega)] at hn
          have n3 : (((k % 4 : Nat) : Int) == 3) = false := by simp; omega
          generalize ((k % 4 : Nat) : Int) = r at *
          have hn := Lib.hid hn
          clear hs
          go_wp2_with fail
          go_roundw
          case rel => exact ⟨trivial, m % k, k, _, by omega, rfl, by rw [← hr.out], rfl, hn⟩
          case measure => simp [intOf]; omega
end Go.Proofs.YtalphobaohffnaaDoor
