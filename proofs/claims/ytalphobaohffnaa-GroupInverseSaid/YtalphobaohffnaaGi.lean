/- GroupSquares, GroupInverse: true. -/
import Derived.Test.YtalphobaohffnaaGt
namespace Go.Proofs.Ytalphobaohffnaa
open Go.RowKit

theorem remP_md {n : Int} (h : ¬ n.tmod 2147483579 < 0) : n.tmod 2147483579 = n % 2147483579 := by
  rw [Int.tmod_eq_emod] at h ⊢
  split at h <;> rename_i h0 <;> simp only [h0, if_true, if_false, Bool.false_eq_true] at h ⊢ <;> omega
theorem remP_md' {n : Int} (h : n.tmod 2147483579 < 0) : n.tmod 2147483579 + 2147483579 = n % 2147483579 := by
  rw [Int.tmod_eq_emod] at h ⊢
  split at h <;> rename_i h0 <;> simp only [h0, if_true, if_false, Bool.false_eq_true] at h ⊢ <;> omega
theorem root {a : Nat} (ha : El a) : pz (pz a 536870895) 2 = a := by
  rw [← pz_mul ha, pz_md (536870895 * 2) 1 rfl, pz_one ha.2.1]
theorem sq_int {n : Nat} (h1 : 1 ≤ n) (h2 : n < 2147483579) : vd (((n * n % 2147483579 : Nat) : Int)) = true := vd_El.2 (El.sq h1 h2)
theorem neg_nat {n : Nat} (h1 : 1 ≤ n) (h2 : n < 2147483579) : vd (2147483579 - (n : Int)) = !vd (n : Int) := vd_int n (by omega) (by omega)
theorem no_m4 : vd (-4) = false := vd_no (by omega)

set_option maxRecDepth 100000 in
set_option maxHeartbeats 4000000 in
/-- Behind the remainder. -/
theorem squares_law (x : Int) (W : World) : Calls Try.prog 6 #[.int .i64 x] W fun e w' => e = .returned (.bool true) ∧ Below W.heap.size W w' := by
  obtain ⟨n, hn⟩ := Int.eq_ofNat_of_zero_le (show 0 ≤ x % 2147483579 by omega)
  have hnP : n < 2147483579 := by omega
  have hw0 := Lib.hid (show x.tmod 2147483579 < 0 → wrap64 (x.tmod 2147483579 + 2147483579) = (n : Int) from fun h => by rw [IntWalk.wrap64_in _ (by have := rem_loP x; omega), remP_md' h, hn])
  have hw1 := Lib.hid (show 0 ≤ x.tmod 2147483579 → x.tmod 2147483579 = (n : Int) from fun h => (remP_md (by omega)).trans hn)
  have hne := Lib.hid (show (n : Int) ≠ x → vd x = false from fun h => vd_no (by omega))
  have hsub := IntWalk.wrap64_in (2147483579 - (n : Int)) (by omega)
  have hmul := IntWalk.wrap64_in ((n : Int) * n) (by have := mul_lt hnP hnP; omega)
  have hrem : (n : Int) * n % 2147483579 = ((n * n % 2147483579 : Nat) : Int) := by rw [← Int.natCast_mul]; rfl
  have hre2 : Int.tmod ((n : Int) * n) 2147483579 = ((n * n % 2147483579 : Nat) : Int) := by rw [← Int.natCast_mul]; exact tmodN _ _
  replace hn := Lib.hid hn
  go_enter Try.func6, Try.ntmps6
  go_wp2_with fail
  refine (sane_any _).mono ?_
  rintro e w ⟨rfl, hB⟩
  replace hB := Lib.hid hB
  by_cases hneg : x.tmod 2147483579 < 0
  · have hw0 := hw0.out hneg
    clear hw1
    by_cases h0 : n = 0
    · subst h0
      clear hsub hmul hrem hre2
      go_wp2_with fail
      refine (Valid_eq ex_no0 _).mono ?_
      rintro e w ⟨rfl, rfl⟩
      go_wp2_with fail
      refine (Valid_eq ex_noP _).mono ?_
      rintro e w ⟨rfl, rfl⟩
      go_wp2_with fail
      refine (Valid_eq no_m4 _).mono ?_
      rintro e w ⟨rfl, rfl⟩
      go_wp2_with fail
      go_ret
      exact ⟨rfl, hB.out⟩
    · have h0' : ((n : Int) == 0) = false := by simp; omega
      have hsq := Lib.hid (sq_int (n := n) (by omega) hnP)
      have hng := Lib.hid (neg_nat (n := n) (by omega) hnP)
      generalize hq : ((n * n % 2147483579 : Nat) : Int) = q at *
      replace hq := Lib.hid hq
      by_cases hv : vd (n : Int) = true
      · rw [hv] at hng
        replace hv := Lib.hid hv
        have he := Lib.hid (vd_El.1 hv.out)
        have hr := Lib.hid (root he.out)
        have hp := Lib.hid (he.out.pz 536870895)
        have e1 := Lib.hid (show pz n 536870895 = pz n 536870895 ∧ True from ⟨rfl, trivial⟩)
        clear e1
        obtain ⟨r, er⟩ : ∃ v, pz n 536870895 = v := ⟨_, rfl⟩
        rw [er] at hr hp
        replace er := Lib.hid er
        by_cases hnx : (n : Int) = x
        · have hnx' : ((n : Int) != x) = false := by simpa using hnx
          clear hnx
          go_wp2_with fail
          refine (Valid_eq hv.out _).mono ?_
          rintro e w ⟨rfl, rfl⟩
          go_wp2_with fail
          refine (Valid_eq hng.out _).mono ?_
          rintro e w ⟨rfl, rfl⟩
          go_wp2_with fail
          refine (Valid_eq hsq.out _).mono ?_
          rintro e w ⟨rfl, rfl⟩
          go_wp2_with fail
          refine (Valid_eq hv.out _).mono ?_
          rintro e w ⟨rfl, rfl⟩
          go_wp2_with fail
          refine (pow_eq he.out (I64.lit rfl) er.out W _ hB).mono ?_
          clear hB
          rintro e w ⟨rfl, hB⟩
          go_wp2_with fail
          refine (pow_eq hp.out (I64.lit rfl) hr.out W _ hB).mono ?_
          clear hB
          rintro e w ⟨rfl, hB⟩
          go_wp2_with fail
          go_ret
          exact ⟨rfl, hB.out⟩
        · have hvx := Lib.hid (hne.out hnx)
          have hnx' : ((n : Int) != x) = true := by simpa using hnx
          clear hnx
          go_wp2_with fail
          refine (Valid_eq hv.out _).mono ?_
          rintro e w ⟨rfl, rfl⟩
          go_wp2_with fail
          refine (Valid_eq hng.out _).mono ?_
          rintro e w ⟨rfl, rfl⟩
          go_wp2_with fail
          refine (Valid_eq hsq.out _).mono ?_
          rintro e w ⟨rfl, rfl⟩
          go_wp2_with fail
          refine (Valid_eq hvx.out _).mono ?_
          rintro e w ⟨rfl, rfl⟩
          go_wp2_with fail
          refine (Valid_eq hv.out _).mono ?_
          rintro e w ⟨rfl, rfl⟩
          go_wp2_with fail
          refine (pow_eq he.out (I64.lit rfl) er.out W _ hB).mono ?_
          clear hB
          rintro e w ⟨rfl, hB⟩
          go_wp2_with fail
          refine (pow_eq hp.out (I64.lit rfl) hr.out W _ hB).mono ?_
          clear hB
          rintro e w ⟨rfl, hB⟩
          go_wp2_with fail
          go_ret
          exact ⟨rfl, hB.out⟩
      · have hv : vd (n : Int) = false := by simpa using hv
        rw [hv] at hng
        replace hv := Lib.hid hv
        by_cases hnx : (n : Int) = x
        · have hnx' : ((n : Int) != x) = false := by simpa using hnx
          clear hnx
          go_wp2_with fail
          refine (Valid_eq hv.out _).mono ?_
          rintro e w ⟨rfl, rfl⟩
          go_wp2_with fail
          refine (Valid_eq hng.out _).mono ?_
          rintro e w ⟨rfl, rfl⟩
          go_wp2_with fail
          refine (Valid_eq hsq.out _).mono ?_
          rintro e w ⟨rfl, rfl⟩
          go_wp2_with fail
          refine (Valid_eq hv.out _).mono ?_
          rintro e w ⟨rfl, rfl⟩
          go_wp2_with fail
          go_ret
          exact ⟨rfl, hB.out⟩
        · have hvx := Lib.hid (hne.out hnx)
          have hnx' : ((n : Int) != x) = true := by simpa using hnx
          clear hnx
          go_wp2_with fail
          refine (Valid_eq hv.out _).mono ?_
          rintro e w ⟨rfl, rfl⟩
          go_wp2_with fail
          refine (Valid_eq hng.out _).mono ?_
          rintro e w ⟨rfl, rfl⟩
          go_wp2_with fail
          refine (Valid_eq hsq.out _).mono ?_
          rintro e w ⟨rfl, rfl⟩
          go_wp2_with fail
          refine (Valid_eq hvx.out _).mono ?_
          rintro e w ⟨rfl, rfl⟩
          go_wp2_with fail
          refine (Valid_eq hv.out _).mono ?_
          rintro e w ⟨rfl, rfl⟩
          go_wp2_with fail
          go_ret
          exact ⟨rfl, hB.out⟩
  · have hw1 := hw1.out (by omega)
    replace hneg := Lib.hid hneg
    clear hw0
    by_cases h0 : n = 0
    · subst h0
      clear hsub hmul hrem hre2
      go_wp2_with fail
      refine (Valid_eq ex_no0 _).mono ?_
      rintro e w ⟨rfl, rfl⟩
      go_wp2_with fail
      refine (Valid_eq ex_noP _).mono ?_
      rintro e w ⟨rfl, rfl⟩
      go_wp2_with fail
      refine (Valid_eq no_m4 _).mono ?_
      rintro e w ⟨rfl, rfl⟩
      go_wp2_with fail
      go_ret
      exact ⟨rfl, hB.out⟩
    · have h0' : ((n : Int) == 0) = false := by simp; omega
      have hsq := Lib.hid (sq_int (n := n) (by omega) hnP)
      have hng := Lib.hid (neg_nat (n := n) (by omega) hnP)
      generalize hq : ((n * n % 2147483579 : Nat) : Int) = q at *
      replace hq := Lib.hid hq
      by_cases hv : vd (n : Int) = true
      · rw [hv] at hng
        replace hv := Lib.hid hv
        have he := Lib.hid (vd_El.1 hv.out)
        have hr := Lib.hid (root he.out)
        have hp := Lib.hid (he.out.pz 536870895)
        have e1 := Lib.hid (show pz n 536870895 = pz n 536870895 ∧ True from ⟨rfl, trivial⟩)
        clear e1
        obtain ⟨r, er⟩ : ∃ v, pz n 536870895 = v := ⟨_, rfl⟩
        rw [er] at hr hp
        replace er := Lib.hid er
        by_cases hnx : (n : Int) = x
        · have hnx' : ((n : Int) != x) = false := by simpa using hnx
          clear hnx
          go_wp2_with fail
          refine (Valid_eq hv.out _).mono ?_
          rintro e w ⟨rfl, rfl⟩
          go_wp2_with fail
          refine (Valid_eq hng.out _).mono ?_
          rintro e w ⟨rfl, rfl⟩
          go_wp2_with fail
          refine (Valid_eq hsq.out _).mono ?_
          rintro e w ⟨rfl, rfl⟩
          go_wp2_with fail
          refine (Valid_eq hv.out _).mono ?_
          rintro e w ⟨rfl, rfl⟩
          go_wp2_with fail
          refine (pow_eq he.out (I64.lit rfl) er.out W _ hB).mono ?_
          clear hB
          rintro e w ⟨rfl, hB⟩
          go_wp2_with fail
          refine (pow_eq hp.out (I64.lit rfl) hr.out W _ hB).mono ?_
          clear hB
          rintro e w ⟨rfl, hB⟩
          go_wp2_with fail
          go_ret
          exact ⟨rfl, hB.out⟩
        · have hvx := Lib.hid (hne.out hnx)
          have hnx' : ((n : Int) != x) = true := by simpa using hnx
          clear hnx
          go_wp2_with fail
          refine (Valid_eq hv.out _).mono ?_
          rintro e w ⟨rfl, rfl⟩
          go_wp2_with fail
          refine (Valid_eq hng.out _).mono ?_
          rintro e w ⟨rfl, rfl⟩
          go_wp2_with fail
          refine (Valid_eq hsq.out _).mono ?_
          rintro e w ⟨rfl, rfl⟩
          go_wp2_with fail
          refine (Valid_eq hvx.out _).mono ?_
          rintro e w ⟨rfl, rfl⟩
          go_wp2_with fail
          refine (Valid_eq hv.out _).mono ?_
          rintro e w ⟨rfl, rfl⟩
          go_wp2_with fail
          refine (pow_eq he.out (I64.lit rfl) er.out W _ hB).mono ?_
          clear hB
          rintro e w ⟨rfl, hB⟩
          go_wp2_with fail
          refine (pow_eq hp.out (I64.lit rfl) hr.out W _ hB).mono ?_
          clear hB
          rintro e w ⟨rfl, hB⟩
          go_wp2_with fail
          go_ret
          exact ⟨rfl, hB.out⟩
      · have hv : vd (n : Int) = false := by simpa using hv
        rw [hv] at hng
        replace hv := Lib.hid hv
        by_cases hnx : (n : Int) = x
        · have hnx' : ((n : Int) != x) = false := by simpa using hnx
          clear hnx
          go_wp2_with fail
          refine (Valid_eq hv.out _).mono ?_
          rintro e w ⟨rfl, rfl⟩
          go_wp2_with fail
          refine (Valid_eq hng.out _).mono ?_
          rintro e w ⟨rfl, rfl⟩
          go_wp2_with fail
          refine (Valid_eq hsq.out _).mono ?_
          rintro e w ⟨rfl, rfl⟩
          go_wp2_with fail
          refine (Valid_eq hv.out _).mono ?_
          rintro e w ⟨rfl, rfl⟩
          go_wp2_with fail
          go_ret
          exact ⟨rfl, hB.out⟩
        · have hvx := Lib.hid (hne.out hnx)
          have hnx' : ((n : Int) != x) = true := by simpa using hnx
          clear hnx
          go_wp2_with fail
          refine (Valid_eq hv.out _).mono ?_
          rintro e w ⟨rfl, rfl⟩
          go_wp2_with fail
          refine (Valid_eq hng.out _).mono ?_
          rintro e w ⟨rfl, rfl⟩
          go_wp2_with fail
          refine (Valid_eq hsq.out _).mono ?_
          rintro e w ⟨rfl, rfl⟩
          go_wp2_with fail
          refine (Valid_eq hvx.out _).mono ?_
          rintro e w ⟨rfl, rfl⟩
          go_wp2_with fail
          refine (Valid_eq hv.out _).mono ?_
          rintro e w ⟨rfl, rfl⟩
          go_wp2_with fail
          go_ret
          exact ⟨rfl, hB.out⟩

/-! Element and Number. -/
theorem nu_el {n : Int} (h1 : 1 ≤ n) (h2 : n ≤ 1073741789) : nuV (elV n) = n ∧ vd (elV n) = true ∧ (elV n = n ∨ elV n = 2147483579 - n) := by
  have hv := elV_vd h1 h2
  unfold elV at hv ⊢
  rw [if_pos ⟨h1, h2⟩] at hv ⊢
  by_cases h : vd n = true
  · rw [if_pos h] at hv ⊢
    refine ⟨?_, hv, .inl rfl⟩
    unfold nuV
    rw [if_pos h, if_pos h2]
  · rw [if_neg h] at hv ⊢
    refine ⟨?_, hv, .inr rfl⟩
    unfold nuV
    rw [if_pos hv, if_neg (by omega)]
    omega
theorem el_nu {n : Int} (h : vd n = true) : elV (nuV n) = n ∧ 1 ≤ nuV n ∧ nuV n ≤ 1073741789 := by
  have hr := vd_range h
  unfold nuV
  rw [if_pos h]
  by_cases hn : n ≤ 1073741789
  · rw [if_pos hn]
    refine ⟨?_, by omega, by omega⟩
    unfold elV
    rw [if_pos (by omega), if_pos h]
  · rw [if_neg hn]
    refine ⟨?_, by omega, by omega⟩
    unfold elV
    rw [if_pos (by omega), vd_int n (by omega) (by omega), h]
    simp only [Bool.not_true, Bool.false_eq_true, if_false]
    omega
theorem el_E {n : Int} (h1 : 1 ≤ n) (h2 : n ≤ 1073741789) : elE n = 0 := by unfold elE; rw [if_pos ⟨h1, h2⟩]
theorem el_no {n : Int} (h : ¬ (1 ≤ n ∧ n ≤ 1073741789)) : elV n = 0 ∧ elE n = 1 := by unfold elV elE; rw [if_neg h, if_neg h]; exact ⟨rfl, rfl⟩
theorem nu_no {n : Int} (h : vd n = false) : nuV n = 0 ∧ powE n = 100 := by unfold nuV powE; rw [h]; exact ⟨rfl, rfl⟩
theorem nu_E {n : Int} (h : vd n = true) : powE n = 0 := by unfold powE; rw [h]; rfl
set_option maxRecDepth 100000 in
set_option maxHeartbeats 4000000 in
theorem inverse_law (n m : Int) (W : World) : Calls Try.prog 7 #[.int .i64 n, .int .i64 m] W fun e w' => e = .returned (.bool true) ∧ Below W.heap.size W w' := by
  go_enter Try.func7, Try.ntmps7
  go_wp2_with fail
  refine (sane_any _).mono ?_
  rintro e w ⟨rfl, hB⟩
  replace hB := Lib.hid hB
  by_cases hr : 1 ≤ n ∧ n ≤ 1073741789
  · have hr1 := hr.1
    have hr2 := hr.2
    have hne := Lib.hid (nu_el hr1 hr2)
    have hE := Lib.hid (el_E hr1 hr2)
    have hsub := IntWalk.wrap64_in (2147483579 - n) (by omega)
    obtain ⟨x, ex⟩ : ∃ v, elV n = v := ⟨_, rfl⟩
    rw [ex] at hne
    have hnE := Lib.hid (nu_E hne.out.2.1)
    have hvx := Lib.hid hne.out.2.1
    have hnx := Lib.hid hne.out.1
    have hinj := Lib.hid (show ∀ m, 1 ≤ m → m ≤ 1073741789 → (x = elV m ↔ n = m) from fun m h1 h2 => ⟨fun h => by rw [← hne.out.1, h, (nu_el h1 h2).1], fun h => by rw [← ex, h]⟩)
    replace ex := Lib.hid ex
    clear hr
    by_cases hxn : x = n
    · have hxn' : (x != n) = false := by simpa using hxn
      clear hxn
      clear hne
      by_cases hm : 1 ≤ m ∧ m ≤ 1073741789
      · have hmE := Lib.hid (el_E hm.1 hm.2)
        have hij := hinj.out m hm.1 hm.2
        obtain ⟨y, ey⟩ : ∃ v, elV m = v := ⟨_, rfl⟩
        rw [ey] at hij
        replace ey := Lib.hid ey
        clear hm
        have hb : (x == y) = (n == m) := by rw [Bool.eq_iff_iff]; simpa using hij
        replace hij := Lib.hid hij
        go_wp2_with fail
        refine (Element_eq ⟨ex.out, hE.out⟩ _).mono ?_
        rintro e w ⟨rfl, rfl⟩
        go_wp2_with fail
        refine (Number_eq ⟨hnx.out, hnE.out⟩ _).mono ?_
        rintro e w ⟨rfl, rfl⟩
        go_wp2_with fail
        refine (Valid_eq hvx.out _).mono ?_
        rintro e w ⟨rfl, rfl⟩
        go_wp2_with fail
        refine (Element_eq ⟨ey.out, hmE.out⟩ _).mono ?_
        rintro e w ⟨rfl, rfl⟩
        go_wp2_with fail
        by_cases hv : vd n = true
        · have hnu := Lib.hid (el_nu hv)
          have hne := Lib.hid (nu_E hv)
          have hee := Lib.hid (el_E hnu.out.2.1 hnu.out.2.2)
          have hk1 := hnu.out.2.1
          have hk2 := hnu.out.2.2
          have hnu := Lib.hid hnu.out.1
          obtain ⟨k, ek⟩ : ∃ v, nuV n = v := ⟨_, rfl⟩
          rw [ek] at hnu hee hk1 hk2
          replace ek := Lib.hid ek
          replace hv := Lib.hid hv
          refine (Number_eq ⟨ek.out, hne.out⟩ _).mono ?_
          rintro e w ⟨rfl, rfl⟩
          go_wp2_with fail
          refine (Valid_eq hv.out _).mono ?_
          rintro e w ⟨rfl, rfl⟩
          go_wp2_with fail
          refine (Element_eq ⟨hnu.out, hee.out⟩ _).mono ?_
          rintro e w ⟨rfl, rfl⟩
          go_wp2_with fail
          go_ret
          exact ⟨rfl, hB.out⟩
        · have hv : vd n = false := by simpa using hv
          have hnu := Lib.hid (nu_no hv)
          replace hv := Lib.hid hv
          refine (Number_eq hnu.out _).mono ?_
          rintro e w ⟨rfl, rfl⟩
          go_wp2_with fail
          refine (Valid_eq hv.out _).mono ?_
          rintro e w ⟨rfl, rfl⟩
          go_wp2_with fail
          go_ret
          exact ⟨rfl, hB.out⟩
      · have hmE := Lib.hid (el_no hm)
        clear hm
        go_wp2_with fail
        refine (Element_eq ⟨ex.out, hE.out⟩ _).mono ?_
        rintro e w ⟨rfl, rfl⟩
        go_wp2_with fail
        refine (Number_eq ⟨hnx.out, hnE.out⟩ _).mono ?_
        rintro e w ⟨rfl, rfl⟩
        go_wp2_with fail
        refine (Valid_eq hvx.out _).mono ?_
        rintro e w ⟨rfl, rfl⟩
        go_wp2_with fail
        refine (Element_eq hmE.out _).mono ?_
        rintro e w ⟨rfl, rfl⟩
        go_wp2_with fail
        by_cases hv : vd n = true
        · have hnu := Lib.hid (el_nu hv)
          have hne := Lib.hid (nu_E hv)
          have hee := Lib.hid (el_E hnu.out.2.1 hnu.out.2.2)
          have hk1 := hnu.out.2.1
          have hk2 := hnu.out.2.2
          have hnu := Lib.hid hnu.out.1
          obtain ⟨k, ek⟩ : ∃ v, nuV n = v := ⟨_, rfl⟩
          rw [ek] at hnu hee hk1 hk2
          replace ek := Lib.hid ek
          replace hv := Lib.hid hv
          refine (Number_eq ⟨ek.out, hne.out⟩ _).mono ?_
          rintro e w ⟨rfl, rfl⟩
          go_wp2_with fail
          refine (Valid_eq hv.out _).mono ?_
          rintro e w ⟨rfl, rfl⟩
          go_wp2_with fail
          refine (Element_eq ⟨hnu.out, hee.out⟩ _).mono ?_
          rintro e w ⟨rfl, rfl⟩
          go_wp2_with fail
          go_ret
          exact ⟨rfl, hB.out⟩
        · have hv : vd n = false := by simpa using hv
          have hnu := Lib.hid (nu_no hv)
          replace hv := Lib.hid hv
          refine (Number_eq hnu.out _).mono ?_
          rintro e w ⟨rfl, rfl⟩
          go_wp2_with fail
          refine (Valid_eq hv.out _).mono ?_
          rintro e w ⟨rfl, rfl⟩
          go_wp2_with fail
          go_ret
          exact ⟨rfl, hB.out⟩
    · have hxn' : (x != n) = true := by simpa using hxn
      have hxp : (x != 2147483579 - n) = false := by have h := hne.out.2.2.resolve_left hxn; simpa using h
      clear hxn
      clear hne
      by_cases hm : 1 ≤ m ∧ m ≤ 1073741789
      · have hmE := Lib.hid (el_E hm.1 hm.2)
        have hij := hinj.out m hm.1 hm.2
        obtain ⟨y, ey⟩ : ∃ v, elV m = v := ⟨_, rfl⟩
        rw [ey] at hij
        replace ey := Lib.hid ey
        clear hm
        have hb : (x == y) = (n == m) := by rw [Bool.eq_iff_iff]; simpa using hij
        replace hij := Lib.hid hij
        go_wp2_with fail
        refine (Element_eq ⟨ex.out, hE.out⟩ _).mono ?_
        rintro e w ⟨rfl, rfl⟩
        go_wp2_with fail
        refine (Number_eq ⟨hnx.out, hnE.out⟩ _).mono ?_
        rintro e w ⟨rfl, rfl⟩
        go_wp2_with fail
        refine (Valid_eq hvx.out _).mono ?_
        rintro e w ⟨rfl, rfl⟩
        go_wp2_with fail
        refine (Element_eq ⟨ey.out, hmE.out⟩ _).mono ?_
        rintro e w ⟨rfl, rfl⟩
        go_wp2_with fail
        by_cases hv : vd n = true
        · have hnu := Lib.hid (el_nu hv)
          have hne := Lib.hid (nu_E hv)
          have hee := Lib.hid (el_E hnu.out.2.1 hnu.out.2.2)
          have hk1 := hnu.out.2.1
          have hk2 := hnu.out.2.2
          have hnu := Lib.hid hnu.out.1
          obtain ⟨k, ek⟩ : ∃ v, nuV n = v := ⟨_, rfl⟩
          rw [ek] at hnu hee hk1 hk2
          replace ek := Lib.hid ek
          replace hv := Lib.hid hv
          refine (Number_eq ⟨ek.out, hne.out⟩ _).mono ?_
          rintro e w ⟨rfl, rfl⟩
          go_wp2_with fail
          refine (Valid_eq hv.out _).mono ?_
          rintro e w ⟨rfl, rfl⟩
          go_wp2_with fail
          refine (Element_eq ⟨hnu.out, hee.out⟩ _).mono ?_
          rintro e w ⟨rfl, rfl⟩
          go_wp2_with fail
          go_ret
          exact ⟨rfl, hB.out⟩
        · have hv : vd n = false := by simpa using hv
          have hnu := Lib.hid (nu_no hv)
          replace hv := Lib.hid hv
          refine (Number_eq hnu.out _).mono ?_
          rintro e w ⟨rfl, rfl⟩
          go_wp2_with fail
          refine (Valid_eq hv.out _).mono ?_
          rintro e w ⟨rfl, rfl⟩
          go_wp2_with fail
          go_ret
          exact ⟨rfl, hB.out⟩
      · have hmE := Lib.hid (el_no hm)
        clear hm
        go_wp2_with fail
        refine (Element_eq ⟨ex.out, hE.out⟩ _).mono ?_
        rintro e w ⟨rfl, rfl⟩
        go_wp2_with fail
        refine (Number_eq ⟨hnx.out, hnE.out⟩ _).mono ?_
        rintro e w ⟨rfl, rfl⟩
        go_wp2_with fail
        refine (Valid_eq hvx.out _).mono ?_
        rintro e w ⟨rfl, rfl⟩
        go_wp2_with fail
        refine (Element_eq hmE.out _).mono ?_
        rintro e w ⟨rfl, rfl⟩
        go_wp2_with fail
        by_cases hv : vd n = true
        · have hnu := Lib.hid (el_nu hv)
          have hne := Lib.hid (nu_E hv)
          have hee := Lib.hid (el_E hnu.out.2.1 hnu.out.2.2)
          have hk1 := hnu.out.2.1
          have hk2 := hnu.out.2.2
          have hnu := Lib.hid hnu.out.1
          obtain ⟨k, ek⟩ : ∃ v, nuV n = v := ⟨_, rfl⟩
          rw [ek] at hnu hee hk1 hk2
          replace ek := Lib.hid ek
          replace hv := Lib.hid hv
          refine (Number_eq ⟨ek.out, hne.out⟩ _).mono ?_
          rintro e w ⟨rfl, rfl⟩
          go_wp2_with fail
          refine (Valid_eq hv.out _).mono ?_
          rintro e w ⟨rfl, rfl⟩
          go_wp2_with fail
          refine (Element_eq ⟨hnu.out, hee.out⟩ _).mono ?_
          rintro e w ⟨rfl, rfl⟩
          go_wp2_with fail
          go_ret
          exact ⟨rfl, hB.out⟩
        · have hv : vd n = false := by simpa using hv
          have hnu := Lib.hid (nu_no hv)
          replace hv := Lib.hid hv
          refine (Number_eq hnu.out _).mono ?_
          rintro e w ⟨rfl, rfl⟩
          go_wp2_with fail
          refine (Valid_eq hv.out _).mono ?_
          rintro e w ⟨rfl, rfl⟩
          go_wp2_with fail
          go_ret
          exact ⟨rfl, hB.out⟩
  · have hE := Lib.hid (el_no hr)
    by_cases hr1 : 1 ≤ n
    · have hr2 : ¬ n ≤ 1073741789 := fun h => hr ⟨hr1, h⟩
      clear hr
      go_wp2_with fail
      refine (Element_eq hE.out _).mono ?_
      rintro e w ⟨rfl, rfl⟩
      go_wp2_with fail
      by_cases hv : vd n = true
      · have hnu := Lib.hid (el_nu hv)
        have hne := Lib.hid (nu_E hv)
        have hee := Lib.hid (el_E hnu.out.2.1 hnu.out.2.2)
        have hk1 := hnu.out.2.1
        have hk2 := hnu.out.2.2
        have hnu := Lib.hid hnu.out.1
        obtain ⟨k, ek⟩ : ∃ v, nuV n = v := ⟨_, rfl⟩
        rw [ek] at hnu hee hk1 hk2
        replace ek := Lib.hid ek
        replace hv := Lib.hid hv
        refine (Number_eq ⟨ek.out, hne.out⟩ _).mono ?_
        rintro e w ⟨rfl, rfl⟩
        go_wp2_with fail
        refine (Valid_eq hv.out _).mono ?_
        rintro e w ⟨rfl, rfl⟩
        go_wp2_with fail
        refine (Element_eq ⟨hnu.out, hee.out⟩ _).mono ?_
        rintro e w ⟨rfl, rfl⟩
        go_wp2_with fail
        go_ret
        exact ⟨rfl, hB.out⟩
      · have hv : vd n = false := by simpa using hv
        have hnu := Lib.hid (nu_no hv)
        replace hv := Lib.hid hv
        refine (Number_eq hnu.out _).mono ?_
        rintro e w ⟨rfl, rfl⟩
        go_wp2_with fail
        refine (Valid_eq hv.out _).mono ?_
        rintro e w ⟨rfl, rfl⟩
        go_wp2_with fail
        go_ret
        exact ⟨rfl, hB.out⟩
    · clear hr
      go_wp2_with fail
      refine (Element_eq hE.out _).mono ?_
      rintro e w ⟨rfl, rfl⟩
      go_wp2_with fail
      by_cases hv : vd n = true
      · have hnu := Lib.hid (el_nu hv)
        have hne := Lib.hid (nu_E hv)
        have hee := Lib.hid (el_E hnu.out.2.1 hnu.out.2.2)
        have hk1 := hnu.out.2.1
        have hk2 := hnu.out.2.2
        have hnu := Lib.hid hnu.out.1
        obtain ⟨k, ek⟩ : ∃ v, nuV n = v := ⟨_, rfl⟩
        rw [ek] at hnu hee hk1 hk2
        replace ek := Lib.hid ek
        replace hv := Lib.hid hv
        refine (Number_eq ⟨ek.out, hne.out⟩ _).mono ?_
        rintro e w ⟨rfl, rfl⟩
        go_wp2_with fail
        refine (Valid_eq hv.out _).mono ?_
        rintro e w ⟨rfl, rfl⟩
        go_wp2_with fail
        refine (Element_eq ⟨hnu.out, hee.out⟩ _).mono ?_
        rintro e w ⟨rfl, rfl⟩
        go_wp2_with fail
        go_ret
        exact ⟨rfl, hB.out⟩
      · have hv : vd n = false := by simpa using hv
        have hnu := Lib.hid (nu_no hv)
        replace hv := Lib.hid hv
        refine (Number_eq hnu.out _).mono ?_
        rintro e w ⟨rfl, rfl⟩
        go_wp2_with fail
        refine (Valid_eq hv.out _).mono ?_
        rintro e w ⟨rfl, rfl⟩
        go_wp2_with fail
        go_ret
        exact ⟨rfl, hB.out⟩
end Go.Proofs.Ytalphobaohffnaa
