/- Valid, Mul, Pow, Element, Number; what the laws call: contracts. -/
import Derived.Test.YtalphobaohffnaaDoorGp
namespace Go.Proofs.YtalphobaohffnaaDoor
open Go.RowKit

theorem vd_no {x : Int} (h : ¬ (1 ≤ x ∧ x < 2147483579)) : vd x = false := by
  unfold vd
  by_cases h1 : 1 ≤ x
  · rw [decide_eq_false (show ¬ x < 2147483579 by omega)]; simp
  · rw [decide_eq_false h1]; rfl
theorem vd_in {x : Nat} (h1 : 1 ≤ x) (h2 : x < 2147483579) : vd (x : Int) = !gP x := by
  unfold vd
  rw [decide_eq_true (show (1 : Int) ≤ (x : Int) by omega), decide_eq_true (show (x : Int) < 2147483579 by omega)]
  simp
theorem vd_range {x : Int} (h : vd x = true) : 1 ≤ x ∧ x < 2147483579 := by
  rcases Classical.em (1 ≤ x ∧ x < 2147483579) with c | c
  · exact c
  · rw [vd_no c] at h; cases h

set_option maxRecDepth 100000 in
set_option maxHeartbeats 1000000 in
theorem Valid_any (x : Int) (w : World) : Calls Tryd.prog 15 #[.int .i64 x] w fun e w' => e = .returned (.bool (vd x)) ∧ w' = w := by
  go_enter Tryd.func15, Tryd.ntmps15
  by_cases h1 : 1 ≤ x
  · by_cases h2 : x < 2147483579
    · obtain ⟨n, rfl⟩ := Int.eq_ofNat_of_zero_le (show 0 ≤ x by omega)
      have hv := Lib.hid (vd_in (x := n) (by omega) (by omega))
      have hs := Lib.hid (fun w => square_any n (by omega) (by omega) w)
      go_wp2_with fail
      refine (hs.out _).mono ?_
      rintro e w1 ⟨rfl, rfl⟩
      go_wp2_with fail
      go_ret
      exact ⟨retB hv.out.symm, rfl⟩
    · have hv := Lib.hid (vd_no (x := x) (by omega))
      go_wp2_with fail
      go_ret
      exact ⟨retB hv.out.symm, rfl⟩
  · have hv := Lib.hid (vd_no (x := x) (by omega))
    go_wp2_with fail
    go_ret
    exact ⟨retB hv.out.symm, rfl⟩

/-- The products, and the error numbers. -/
def mulV (a b : Int) : Int := if vd a && vd b then ((a.toNat * b.toNat % 2147483579 : Nat) : Int) else 0
def mulE (a b : Int) : Int := if vd a && vd b then 0 else 100
def powV (a n : Int) : Int := if vd a then ((pw a.toNat (md n).toNat : Nat) : Int) else 0
def powE (a : Int) : Int := if vd a then 0 else 100

set_option maxRecDepth 100000 in
set_option maxHeartbeats 1000000 in
theorem Mul_any (a b : Int) (w : World) : Calls Tryd.prog 14 #[.int .i64 a, .int .i64 b] w fun e w' => e = .returned (.tuple #[.int .i64 (mulV a b), .int .i64 (mulE a b)]) ∧ w' = w := by
  go_enter Tryd.func14, Tryd.ntmps14
  go_wp2_with fail
  refine (Valid_any a _).mono ?_
  rintro e w1 ⟨rfl, rfl⟩
  by_cases ha : vd a = true
  · have ra := vd_range ha
    go_wp2_with fail
    refine (Valid_any b _).mono ?_
    rintro e w1 ⟨rfl, rfl⟩
    by_cases hb : vd b = true
    · have rb := vd_range hb
      have hv := Lib.hid (show mulV a b = ((a.toNat * b.toNat % 2147483579 : Nat) : Int) ∧ mulE a b = 0 by unfold mulV mulE; simp [ha, hb])
      obtain ⟨x, rfl⟩ := Int.eq_ofNat_of_zero_le (show 0 ≤ a by omega)
      obtain ⟨y, rfl⟩ := Int.eq_ofNat_of_zero_le (show 0 ≤ b by omega)
      rw [Int.toNat_natCast, Int.toNat_natCast] at hv
      have hp := Lib.hid (fun w => product_any x y (by omega) (by omega) w)
      go_wp2_with fail
      refine (hp.out _).mono ?_
      rintro e w1 ⟨rfl, rfl⟩
      go_wp2_with fail
      go_ret2
      exact ⟨by rw [hv.out.1, hv.out.2]; rfl, rfl⟩
    · have hb : vd b = false := by simpa using hb
      have hv := Lib.hid (show mulV a b = 0 ∧ mulE a b = 100 by unfold mulV mulE; simp [hb])
      go_wp2_with fail
      go_ret2
      exact ⟨by rw [hv.out.1, hv.out.2]; rfl, rfl⟩
  · have ha : vd a = false := by simpa using ha
    have hv := Lib.hid (show mulV a b = 0 ∧ mulE a b = 100 by unfold mulV mulE; simp [ha])
    go_wp2_with fail
    go_ret2
    exact ⟨by rw [hv.out.1, hv.out.2]; rfl, rfl⟩

theorem one_sum (a : Int) : md (sumI [a]) = md a := by simp [sumI]
set_option maxRecDepth 100000 in
set_option maxHeartbeats 1000000 in
theorem Pow_any (a n : Int) (hn : I64 n) (w : World) : Calls Tryd.prog 13 #[.int .i64 a, .int .i64 n] w fun e w' => e = .returned (.tuple #[.int .i64 (powV a n), .int .i64 (powE a)]) ∧ Below w.heap.size w w' := by
  have hl := Lib.hid (IR.one hn w 3)
  have hB := Lib.hid (bnew w (.cells #[.int .i64 n] 3))
  go_enter Tryd.func13, Tryd.ntmps13
  go_wp2_with fail
  refine (Valid_any a _).mono ?_
  rintro e w1 ⟨rfl, rfl⟩
  by_cases ha : vd a = true
  · have ra := vd_range ha
    have hv := Lib.hid (show powV a n = ((pw a.toNat (md n).toNat : Nat) : Int) ∧ powE a = 0 by unfold powV powE; simp [ha])
    obtain ⟨x, rfl⟩ := Int.eq_ofNat_of_zero_le (show 0 ≤ a by omega)
    have hm := md_range n
    obtain ⟨k, hk⟩ := Int.eq_ofNat_of_zero_le hm.1
    rw [hk, Int.toNat_natCast, Int.toNat_natCast] at hv
    have hp := Lib.hid (fun w => power_any x k (by omega) (by omega) w)
    have ho := Lib.hid ((one_sum n).trans hk)
    go_wp2_with fail
    refine (modulo_any [n] (by simp) _ _ _ hl.out).mono ?_
    rintro e w2 ⟨rfl, hb2⟩
    rw [ho.out]
    replace hB := Lib.hid (hB.out.trans (hb2.mono hB.out.size))
    clear hb2 hk
    go_wp2_with fail
    refine (hp.out _).mono ?_
    rintro e w3 ⟨rfl, hb2⟩
    replace hB := Lib.hid (hB.out.trans (hb2.mono hB.out.size))
    clear hb2
    go_wp2_with fail
    go_ret2
    exact ⟨by rw [hv.out.1, hv.out.2]; rfl, hB.out⟩
  · have ha : vd a = false := by simpa using ha
    have hv := Lib.hid (show powV a n = 0 ∧ powE a = 100 by unfold powV powE; simp [ha])
    go_wp2_with fail
    go_ret2
    exact ⟨by rw [hv.out.1, hv.out.2]; rfl, Below.refl _ _⟩

def elV (n : Int) : Int := if 1 ≤ n ∧ n ≤ 1073741789 then (if vd n then n else 2147483579 - n) else 0
def elE (n : Int) : Int := if 1 ≤ n ∧ n ≤ 1073741789 then 0 else 1
set_option maxRecDepth 100000 in
set_option maxHeartbeats 1000000 in
theorem Element_any (n : Int) (w : World) : Calls Tryd.prog 6 #[.int .i64 n] w fun e w' => e = .returned (.tuple #[.int .i64 (elV n), .int .i64 (elE n)]) ∧ w' = w := by
  go_enter Tryd.func6, Tryd.ntmps6
  by_cases h1 : n < 1
  · have hv := Lib.hid (show elV n = 0 ∧ elE n = 1 by unfold elV elE; rw [if_neg (by omega), if_neg (by omega)]; exact ⟨rfl, rfl⟩)
    go_wp2_with fail
    go_ret2
    exact ⟨by rw [hv.out.1, hv.out.2]; rfl, rfl⟩
  · by_cases h2 : n > 1073741789
    · have hv := Lib.hid (show elV n = 0 ∧ elE n = 1 by unfold elV elE; rw [if_neg (by omega), if_neg (by omega)]; exact ⟨rfl, rfl⟩)
      go_wp2_with fail
      go_ret2
      exact ⟨by rw [hv.out.1, hv.out.2]; rfl, rfl⟩
    · have hE := Lib.hid (show elE n = 0 by unfold elE; rw [if_pos (by omega)])
      go_wp2_with fail
      refine (Valid_any n _).mono ?_
      rintro e w1 ⟨rfl, rfl⟩
      by_cases ha : vd n = true
      · have hv := Lib.hid (show elV n = n by unfold elV; rw [if_pos (by omega), if_pos ha])
        go_wp2_with fail
        go_ret2
        exact ⟨by rw [hv.out, hE.out]; rfl, rfl⟩
      · have hv := Lib.hid (show elV n = 2147483579 - n by unfold elV; rw [if_pos (by omega), if_neg ha])
        have ha : vd n = false := by simpa using ha
        have hw := IntWalk.wrap64_in (2147483579 - n) (by omega)
        go_wp2_with fail
        go_ret2
        exact ⟨by rw [hv.out, hE.out]; rfl, rfl⟩

def nuV (x : Int) : Int := if vd x then (if x ≤ 1073741789 then x else 2147483579 - x) else 0
set_option maxRecDepth 100000 in
set_option maxHeartbeats 1000000 in
theorem Number_any (x : Int) (w : World) : Calls Tryd.prog 8 #[.int .i64 x] w fun e w' => e = .returned (.tuple #[.int .i64 (nuV x), .int .i64 (powE x)]) ∧ w' = w := by
  go_enter Tryd.func8, Tryd.ntmps8
  go_wp2_with fail
  refine (Valid_any x _).mono ?_
  rintro e w1 ⟨rfl, rfl⟩
  by_cases ha : vd x = true
  · have ra := vd_range ha
    have hw := IntWalk.wrap64_in (2147483579 - x) (by omega)
    by_cases hx : x ≤ 1073741789
    · have hv := Lib.hid (show nuV x = x ∧ powE x = 0 by unfold nuV powE; rw [if_pos ha, if_pos ha, if_pos hx]; exact ⟨rfl, rfl⟩)
      have hmin : min x (2147483579 - x) = x := by omega
      go_wp2_with fail
      go_ret2
      exact ⟨by rw [hv.out.1, hv.out.2]; rfl, rfl⟩
    · have hv := Lib.hid (show nuV x = 2147483579 - x ∧ powE x = 0 by unfold nuV powE; rw [if_pos ha, if_pos ha, if_neg hx]; exact ⟨rfl, rfl⟩)
      have hmin : min x (2147483579 - x) = 2147483579 - x := by omega
      go_wp2_with fail
      go_ret2
      exact ⟨by rw [hv.out.1, hv.out.2]; rfl, rfl⟩
  · have ha : vd x = false := by simpa using ha
    have hv := Lib.hid (show nuV x = 0 ∧ powE x = 100 by unfold nuV powE; simp [ha])
    go_wp2_with fail
    go_ret2
    exact ⟨by rw [hv.out.1, hv.out.2]; rfl, rfl⟩
end Go.Proofs.YtalphobaohffnaaDoor
