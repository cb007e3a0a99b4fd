/- power, Inverse; the reference's: contracts. -/
import Derived.Test.YtfblkkdoijfpfaaFb
namespace Go.Proofs.Ytfblkkdoijfpfaa
open Go.RowKit

def sq (e : Nat) (acc s : Int) (n : Int) (E : Nat) : Prop := (0 ≤ acc ∧ acc < 1073741789) ∧ Cg (acc * s ^ e) (n ^ E)
theorem sq_start (n : Int) (E : Nat) : sq E 1 n n E := ⟨by omega, .of_eq (by rw [Int.one_mul])⟩
theorem sq_end {acc s n : Int} {E : Nat} (h : sq 0 acc s n E) : acc = pwF n E := by
  rw [pwF_eq, ← md_id h.1.1 h.1.2]
  exact md_eq ((Cg.of_eq (by rw [Int.pow_zero, Int.mul_one])).trans h.2)
theorem sq_even {e : Nat} {acc s n : Int} {E : Nat} (h : sq e acc s n E) (he : e % 2 = 0) : sq (e / 2) acc (mulF s s) n E := by
  refine ⟨h.1, (((Cg.refl acc).mul ((mulF_cg s s).pow (e / 2))).trans (.of_eq ?_)).trans h.2⟩
  obtain ⟨k, rfl⟩ : ∃ k, e = k + k := ⟨e / 2, by omega⟩
  rw [show (k + k) / 2 = k by omega, Int.pow_add, Int.mul_pow]
theorem sq_odd {e : Nat} {acc s n : Int} {E : Nat} (h : sq e acc s n E) (he : e % 2 = 1) : sq (e / 2) (mulF acc s) (mulF s s) n E := by
  refine ⟨md_range _, (((mulF_cg acc s).mul ((mulF_cg s s).pow (e / 2))).trans (.of_eq ?_)).trans h.2⟩
  obtain ⟨k, rfl⟩ : ∃ k, e = k + k + 1 := ⟨e / 2, by omega⟩
  rw [show (k + k + 1) / 2 = k by omega, Int.pow_succ, Int.pow_add, Int.mul_pow]
  grind

theorem and_bit (i : Nat) (hi : i < 9223372036854775808) : bits BinOp.and IntKind.i64 (i : Int) 1 = ((i % 2 : Nat) : Int) := by
  have p : (2 : Int) ^ 63 = 9223372036854775808 := by decide
  have h := bits_mask .i64 63 (by decide) (fun n h0 h1 => by rw [p] at h1; rw [IntKind.wrap_i64]; omega) 1 (by decide) (i : Int) (by omega) (by rw [p]; omega)
  have e : ((2 : Int) ^ 1 - 1) = 1 := by decide
  rw [e] at h
  rw [h]
  omega

set_option maxRecDepth 100000 in
set_option maxHeartbeats 1000000 in
theorem power_any (n : Int) (E : Nat) (hE : E ≤ 1073741787) (w : World) : Calls Try.prog 20 #[.int .i64 n, .int .i64 (E : Int)] w fun e w' => e = .returned (.int .i64 (pwF n E)) ∧ w' = w := by
  have h0 := Lib.hid (sq_start n E)
  go_enter Try.func20, Try.ntmps20
  go_wp2_with fail
  refine wp_scope_straight ?_
  go_wp2_with fail
  refine wp_label ?_
  go_wp2_with fail
  go_loopw [1, 4, 5] (fun e x s wr => wr = w ∧ ∃ (k : Nat) (acc t : Int), k ≤ 1073741787 ∧ e = .int .i64 (k : Int) ∧ x = .int .i64 acc ∧ s = .int .i64 t ∧ Hid (sq k acc t n E)) (fun e _ _ _ => (intOf e).toNat)
  case atStart => exact ⟨rfl, E, 1, n, hE, rfl, rfl, rfl, h0⟩
  case round =>
    obtain ⟨rfl, k, acc, t, hk, rfl, rfl, rfl, hs⟩ := hrel
    by_cases hk0 : k = 0
    · subst hk0
      go_wp2_with fail
      try simp only [Exit.noGoto]
      go_ret
      exact ⟨retI (sq_end hs.out), rfl⟩
    · have hkne : ((k : Int) == 0) = false := by simp; omega
      have hhalf := Lib.hid (show (k : Int) / 2 = ((k / 2 : Nat) : Int) by omega)
      by_cases hodd : k % 2 = 1
      · have hbit : bits BinOp.and IntKind.i64 (k : Int) 1 = 1 := by rw [and_bit k (by omega), hodd]; rfl
        have hn := Lib.hid (sq_odd hs.out hodd)
        clear hs hodd
        go_wp2_with fail
        refine (Mul_any acc t _).mono ?_
        rintro e w1 ⟨rfl, rfl⟩
        go_wp2_with fail
        refine (Mul_any t t _).mono ?_
        rintro e w1 ⟨rfl, rfl⟩
        go_wp2_with fail
        go_roundw
        case rel => exact ⟨trivial, k / 2, _, _, by omega, by rw [← hhalf.out], rfl, rfl, hn⟩
        case measure => simp [intOf]; omega
      · have hbit : bits BinOp.and IntKind.i64 (k : Int) 1 = 0 := by rw [and_bit k (by omega), show k % 2 = 0 by omega]; rfl
        have hn := Lib.hid (sq_even hs.out (by omega))
        clear hs hodd
        go_wp2_with fail
        refine (Mul_any t t _).mono ?_
        rintro e w1 ⟨rfl, rfl⟩
        go_wp2_with fail
        go_roundw
        case rel => exact ⟨trivial, k / 2, _, _, by omega, by rw [← hhalf.out], rfl, rfl, hn⟩
        case measure => simp [intOf]; omega

set_option maxRecDepth 100000 in
set_option maxHeartbeats 1000000 in
theorem rpower_any (n : Int) (E : Nat) (hE : E ≤ 1073741787) (w : World) : Calls Try.prog 21 #[.int .i64 n, .int .i64 (E : Int)] w fun e w' => e = .returned (.int .i64 (pwF n E)) ∧ w' = w := by
  have h0 := Lib.hid (sq_start n E)
  go_enter Try.func21, Try.ntmps21
  go_wp2_with fail
  go_loopw [0, 1, 5] (fun s e x wr => wr = w ∧ ∃ (k : Nat) (acc t : Int), k ≤ 1073741787 ∧ e = .int .i64 (k : Int) ∧ x = .int .i64 acc ∧ s = .int .i64 t ∧ Hid (sq k acc t n E)) (fun _ e _ _ => (intOf e).toNat)
  case atStart => exact ⟨rfl, E, 1, n, hE, rfl, rfl, rfl, h0⟩
  case round =>
    obtain ⟨rfl, k, acc, t, hk, rfl, rfl, rfl, hs⟩ := hrel
    by_cases hk0 : k = 0
    · subst hk0
      go_wp2_with fail
      go_ret
      exact ⟨retI (sq_end hs.out), rfl⟩
    · have hkne : (0 : Int) < (k : Int) := by omega
      have hhalf := Lib.hid (show (k : Int) / 2 = ((k / 2 : Nat) : Int) by omega)
      by_cases hodd : k % 2 = 1
      · have hbit : Int.tmod (k : Int) 2 = 1 := by rw [Int.tmod_eq_emod_of_nonneg (by omega)]; omega
        have hn := Lib.hid (sq_odd hs.out hodd)
        clear hs hodd
        go_wp2_with fail
        refine (rMul_any acc t _).mono ?_
        rintro e w1 ⟨rfl, rfl⟩
        go_wp2_with fail
        refine (rMul_any t t _).mono ?_
        rintro e w1 ⟨rfl, rfl⟩
        go_wp2_with fail
        go_roundw
        case rel => exact ⟨trivial, k / 2, _, _, by omega, by rw [← hhalf.out], rfl, rfl, hn⟩
        case measure => simp [intOf]; omega
      · have hbit : Int.tmod (k : Int) 2 = 0 := by rw [Int.tmod_eq_emod_of_nonneg (by omega)]; omega
        have hn := Lib.hid (sq_even hs.out (by omega))
        clear hs hodd
        go_wp2_with fail
        refine (rMul_any t t _).mono ?_
        rintro e w1 ⟨rfl, rfl⟩
        go_wp2_with fail
        go_roundw
        case rel => exact ⟨trivial, k / 2, _, _, by omega, by rw [← hhalf.out], rfl, rfl, hn⟩
        case measure => simp [intOf]; omega

/-- The inverse, and the error number. -/
def invV (n : Int) : Int := if md n = 0 then 0 else invF n
def invE (n : Int) : Int := if md n = 0 then 90 else 0
set_option maxRecDepth 100000 in
set_option maxHeartbeats 1000000 in
theorem Inverse_any (n : Int) (w : World) : Calls Try.prog 8 #[.int .i64 n] w fun e w' => e = .returned (.tuple #[.int .i64 (invV n), .int .i64 (invE n)]) ∧ w' = w := by
  obtain ⟨E, hE⟩ : ∃ E : Nat, E = 1073741787 := ⟨_, rfl⟩
  have hp := Lib.hid (fun w => power_any n E (by omega) w)
  rw [hE] at hp
  rw [show ((1073741787 : Nat) : Int) = 1073741787 from rfl, ← invF_eq] at hp
  clear hE
  go_enter Try.func8, Try.ntmps8
  go_wp2_with fail
  refine (Mod_any n _).mono ?_
  rintro e w1 ⟨rfl, rfl⟩
  by_cases h0 : md n = 0
  · go_wp2_with fail
    go_ret2
    exact ⟨by unfold invV invE; rw [if_pos h0, if_pos h0]; rfl, rfl⟩
  · go_wp2_with fail
    refine (hp.out _).mono ?_
    rintro e w1 ⟨rfl, rfl⟩
    go_wp2_with fail
    go_ret2
    exact ⟨by unfold invV invE; rw [if_neg h0, if_neg h0]; rfl, rfl⟩

set_option maxRecDepth 100000 in
set_option maxHeartbeats 1000000 in
theorem rInverse_any (n : Int) (w : World) : Calls Try.prog 9 #[.int .i64 n] w fun e w' => e = .returned (.tuple #[.int .i64 (invV n), .int .i64 (invE n)]) ∧ w' = w := by
  obtain ⟨E, hE⟩ : ∃ E : Nat, E = 1073741787 := ⟨_, rfl⟩
  have hp := Lib.hid (fun w => rpower_any n E (by omega) w)
  rw [hE] at hp
  rw [show ((1073741787 : Nat) : Int) = 1073741787 from rfl, ← invF_eq] at hp
  clear hE
  go_enter Try.func9, Try.ntmps9
  go_wp2_with fail
  refine (rMod_any n _).mono ?_
  rintro e w1 ⟨rfl, rfl⟩
  by_cases h0 : md n = 0
  · go_wp2_with fail
    go_ret2
    exact ⟨by unfold invV invE; rw [if_pos h0, if_pos h0]; rfl, rfl⟩
  · go_wp2_with fail
    refine (hp.out _).mono ?_
    rintro e w1 ⟨rfl, rfl⟩
    go_wp2_with fail
    go_ret2
    exact ⟨by unfold invV invE; rw [if_neg h0, if_neg h0]; rfl, rfl⟩

/-- The sum of integers, not reduced. -/
def sumI : List Int → Int
  | [] => 0
  | x :: r => x + sumI r
theorem sumI_app (a b : List Int) : sumI (a ++ b) = sumI a + sumI b := by
  induction a with
  | nil => simp [sumI]
  | cons x r ih => simp only [List.cons_append, sumI, ih]; omega
theorem sumI_take (l : List Int) (k : Nat) (h : k < l.length) : md (md (sumI (l.take k)) + md l[k]) = md (sumI (l.take (k + 1))) := by
  rw [List.take_succ_eq_append_getElem h, sumI_app, show sumI [l[k]] = l[k] by simp [sumI]]
  exact md_eq ((md_cg _).add (md_cg _))

set_option maxRecDepth 100000 in
set_option maxHeartbeats 1000000 in
theorem sum_any (ls : List Int) (hm : ls.length ≤ 9223372036854775807) (w : World) (A : Option Addr) (c : Nat) (h : IR w (· < w.heap.size) A ls) :
    Calls Try.prog 22 #[.slice A ls.length c] w fun e w' => e = .returned (.int .i64 (md (sumI ls))) ∧ w' = w := by
  have hh := Lib.hid h
  clear h
  go_enter Try.func22, Try.ntmps22
  go_wp2_with fail
  go_loopw [2, 7] (fun n i wr => wr = w ∧ ∃ k : Nat, k ≤ ls.length ∧ n = .int .i64 (md (sumI (ls.take k))) ∧ i = .int .i64 (k : Int)) (fun _ i _ => ls.length - (intOf i).toNat)
  case atStart => exact ⟨rfl, 0, Nat.zero_le _, rfl, rfl⟩
  case round =>
    obtain ⟨rfl, k, hk, rfl, rfl⟩ := hrel
    by_cases hlt : k < ls.length
    · obtain ⟨b, off, rfl, hs, hc0, hI⟩ := hh.out.at_ hlt
      have hst := sumI_take ls k hlt
      have hr1 := md_range (sumI (ls.take k))
      have hr2 := md_range ls[k]
      have j0 : (0 : Int) ≤ k := by omega
      have j1 : (k : Int) < ls.length := by omega
      replace hst := Lib.hid hst
      generalize ls[k] = x at *
      go_wp2_with fail
      refine (Mod_any x _).mono ?_
      rintro e w1 ⟨rfl, rfl⟩
      go_wp2_with fail
      refine (Mod_any _ _).mono ?_
      rintro e w1 ⟨rfl, rfl⟩
      go_wp2_with fail
      go_roundw
      case rel => exact ⟨trivial, k + 1, by omega, by rw [← hst.out], by go_num⟩
      case measure => simp [intOf]; omega
    · have hle : ¬ ((k : Int) < ls.length) := by omega
      have hkl : k = ls.length := by omega
      rw [hkl, List.take_of_length_le (Nat.le_refl _)]
      rw [hkl] at hle
      clear hlt hkl
      go_wp2_with fail
      go_ret
      exact ⟨rfl, rfl⟩
end Go.Proofs.Ytfblkkdoijfpfaa
