/- GroupLaws, GroupPowers: true. (Written by genlaws.py.) -/
import Derived.Test.YtalphobaohffnaaGt
namespace Go.Proofs.Ytalphobaohffnaa
open Go.RowKit

/-! What the laws say, of elements. -/
theorem l_comm (a b : Nat) : b * a % 2147483579 = a * b % 2147483579 := by rw [Nat.mul_comm]
theorem l_assoc (a b c : Nat) : a * (b * c % 2147483579) % 2147483579 = a * b % 2147483579 * c % 2147483579 := by
  rw [Nat.mul_mod, Nat.mod_mod, ← Nat.mul_mod, Nat.mul_mod (a * b % 2147483579), Nat.mod_mod, ← Nat.mul_mod, Nat.mul_assoc]
theorem l_one {a : Nat} (ha : El a) : a * 1 % 2147483579 = a := by rw [Nat.mul_one, Nat.mod_eq_of_lt ha.2.1]
theorem l_back {a b : Nat} (ha : El a) (hb : El b) : a * b % 2147483579 * pz b (-1) % 2147483579 = a := by
  rw [← l_assoc, pz_inv hb, l_one ha]

set_option maxRecDepth 100000 in
set_option maxHeartbeats 4000000 in
theorem laws_any (x y z : Int) (W : World) : Calls Try.prog 4 #[.int .i64 x, .int .i64 y, .int .i64 z] W fun e w' => e = .returned (.bool true) ∧ Below W.heap.size W w' := by
  go_enter Try.func4, Try.ntmps4
  go_wp2_with fail
  refine (sane_any _).mono ?_
  rintro e w ⟨rfl, hB⟩
  replace hB := Lib.hid hB
  go_wp2_with fail
  refine (element_any x _).mono ?_
  rintro e w ⟨rfl, rfl⟩
  go_wp2_with fail
  refine (element_any y _).mono ?_
  rintro e w ⟨rfl, rfl⟩
  go_wp2_with fail
  refine (element_any z _).mono ?_
  rintro e w ⟨rfl, rfl⟩
  go_wp2_with fail
  have ha := Lib.hid (anE_El x).1
  have hb := Lib.hid (anE_El y).1
  have hc := Lib.hid (anE_El z).1
  generalize anE x = a at *
  generalize anE y = b at *
  generalize anE z = c at *
  have hab := Lib.hid (ha.out.mul hb.out)
  have hbc := Lib.hid (hb.out.mul hc.out)
  have h1 := Lib.hid (l_comm a b)
  have h2 := Lib.hid (l_assoc a b c)
  have h3 := Lib.hid (l_one ha.out)
  have hai := Lib.hid (ha.out.pz (-1))
  have hbi := Lib.hid (hb.out.pz (-1))
  have h4 := Lib.hid (pz_inv ha.out)
  have h5 := Lib.hid (l_back ha.out hb.out)
  have h6 := Lib.hid (pz_base (a := a) (b := b) (-1))
  obtain ⟨ab, eab⟩ : ∃ v, v = a * b % 2147483579 := ⟨_, rfl⟩
  obtain ⟨bc, ebc⟩ : ∃ v, v = b * c % 2147483579 := ⟨_, rfl⟩
  rw [← eab] at hab h1 h2 h5 h6
  rw [← ebc] at hbc h2
  replace eab := Lib.hid eab.symm
  replace ebc := Lib.hid ebc.symm
  have habc := Lib.hid (hab.out.mul hc.out)
  obtain ⟨abc, eabc⟩ : ∃ v, v = ab * c % 2147483579 := ⟨_, rfl⟩
  rw [← eabc] at h2 habc
  replace eabc := Lib.hid eabc.symm
  have one := El.one
  replace one := Lib.hid one
  obtain ⟨ai, eai⟩ : ∃ v, pz a (-1) = v := ⟨_, rfl⟩
  obtain ⟨bi, ebi⟩ : ∃ v, pz b (-1) = v := ⟨_, rfl⟩
  rw [eai] at hai h4 h6
  rw [ebi] at hbi h5 h6
  obtain ⟨ci, eci⟩ : ∃ v, pz ab (-1) = v := ⟨_, rfl⟩
  rw [eci] at h6
  replace eai := Lib.hid eai
  replace ebi := Lib.hid ebi
  replace eci := Lib.hid eci
  have h6 := Lib.hid h6.out.symm
  have va := vd_El.2 ha.out
  have vab := vd_El.2 hab.out
  replace va := Lib.hid va
  replace vab := Lib.hid vab
  refine (mul_eq ha.out hb.out eab.out W _ hB).mono ?_
  clear hB
  rintro e w ⟨rfl, hB⟩
  go_wp2_with fail
  refine (Valid_eq va.out _).mono ?_
  rintro e w ⟨rfl, rfl⟩
  go_wp2_with fail
  refine (Valid_eq vab.out _).mono ?_
  rintro e w ⟨rfl, rfl⟩
  go_wp2_with fail
  refine (mul_eq hb.out ha.out h1.out W _ hB).mono ?_
  clear hB
  rintro e w ⟨rfl, hB⟩
  go_wp2_with fail
  refine (mul_eq hab.out hc.out eabc.out W _ hB).mono ?_
  clear hB
  rintro e w ⟨rfl, hB⟩
  go_wp2_with fail
  refine (mul_eq hb.out hc.out ebc.out W _ hB).mono ?_
  clear hB
  rintro e w ⟨rfl, hB⟩
  go_wp2_with fail
  refine (mul_eq ha.out hbc.out h2.out W _ hB).mono ?_
  clear hB
  rintro e w ⟨rfl, hB⟩
  go_wp2_with fail
  refine (mul_eq ha.out one.out h3.out W _ hB).mono ?_
  clear hB
  rintro e w ⟨rfl, hB⟩
  go_wp2_with fail
  refine (pow_eq ha.out (I64.lit rfl) eai.out W _ hB).mono ?_
  clear hB
  rintro e w ⟨rfl, hB⟩
  go_wp2_with fail
  refine (mul_eq ha.out hai.out h4.out W _ hB).mono ?_
  clear hB
  rintro e w ⟨rfl, hB⟩
  go_wp2_with fail
  refine (mul_eq ha.out hb.out eab.out W _ hB).mono ?_
  clear hB
  rintro e w ⟨rfl, hB⟩
  go_wp2_with fail
  refine (pow_eq hb.out (I64.lit rfl) ebi.out W _ hB).mono ?_
  clear hB
  rintro e w ⟨rfl, hB⟩
  go_wp2_with fail
  refine (mul_eq hab.out hbi.out h5.out W _ hB).mono ?_
  clear hB
  rintro e w ⟨rfl, hB⟩
  go_wp2_with fail
  refine (pow_eq hab.out (I64.lit rfl) eci.out W _ hB).mono ?_
  clear hB
  rintro e w ⟨rfl, hB⟩
  go_wp2_with fail
  refine (pow_eq ha.out (I64.lit rfl) eai.out W _ hB).mono ?_
  clear hB
  rintro e w ⟨rfl, hB⟩
  go_wp2_with fail
  refine (pow_eq hb.out (I64.lit rfl) ebi.out W _ hB).mono ?_
  clear hB
  rintro e w ⟨rfl, hB⟩
  go_wp2_with fail
  refine (mul_eq hai.out hbi.out h6.out W _ hB).mono ?_
  clear hB
  rintro e w ⟨rfl, hB⟩
  go_wp2_with fail
  go_ret
  exact ⟨rfl, hB.out⟩

theorem mul_i32 {i k : Int} (h1 : -2147483648 ≤ i ∧ i ≤ 2147483647) (h2 : -2147483648 ≤ k ∧ k ≤ 2147483647) : -4611686018427387904 ≤ i * k ∧ i * k ≤ 4611686018427387904 := by
  have h := Int.natAbs_mul i k
  have hm := Nat.mul_le_mul (show i.natAbs ≤ 2147483648 by omega) (show k.natAbs ≤ 2147483648 by omega)
  rw [← h] at hm
  omega
set_option maxRecDepth 100000 in
set_option maxHeartbeats 4000000 in
theorem powers_any (x y i k : Int) (hi : -2147483648 ≤ i ∧ i ≤ 2147483647) (hk : -2147483648 ≤ k ∧ k ≤ 2147483647) (W : World) : Calls Try.prog 5 #[.int .i64 x, .int .i64 y, .int .i32 i, .int .i32 k] W fun e w' => e = .returned (.bool true) ∧ Below W.heap.size W w' := by
  have hw1 := IntWalk.wrap64_in (i + 1073741789) (by omega)
  have hw2 := IntWalk.wrap64_in (i - 1073741789) (by omega)
  have hw3 := IntWalk.wrap64_in (i + k) (by omega)
  have hw4 := IntWalk.wrap64_in (i * k) (by have := mul_i32 hi hk; omega)
  have hci := IntWalk.wrap64_in i (by omega)
  have hck := IntWalk.wrap64_in k (by omega)
  have s0 := Lib.hid (show I64 i by unfold I64; omega)
  have s1 := Lib.hid (show I64 k by unfold I64; omega)
  have s2 := Lib.hid (show I64 (i + 1073741789) by unfold I64; omega)
  have s3 := Lib.hid (show I64 (i - 1073741789) by unfold I64; omega)
  have s4 := Lib.hid (show I64 (i + k) by unfold I64; omega)
  have s5 := Lib.hid (show I64 (i * k) by have := mul_i32 hi hk; unfold I64; omega)
  go_enter Try.func5, Try.ntmps5
  go_wp2_with fail
  refine (sane_any _).mono ?_
  rintro e w ⟨rfl, hB⟩
  replace hB := Lib.hid hB
  go_wp2_with fail
  refine (element_any x _).mono ?_
  rintro e w ⟨rfl, rfl⟩
  go_wp2_with fail
  refine (element_any y _).mono ?_
  rintro e w ⟨rfl, rfl⟩
  go_wp2_with fail
  have ha := Lib.hid (anE_El x).1
  have hb := Lib.hid (anE_El y).1
  generalize anE x = a at *
  generalize anE y = b at *
  have hab := Lib.hid (ha.out.mul hb.out)
  have q0 := Lib.hid (pz_zero a)
  have q1 := Lib.hid (pz_one ha.out.2.1)
  have q2 := Lib.hid (pz_two ha.out.2.1)
  have q3 := Lib.hid (pz_Q a)
  have q4 := Lib.hid (pz_md (a := a) (i + 1073741789) i (by unfold md; omega))
  have q5 := Lib.hid (pz_md (a := a) (i - 1073741789) i (by unfold md; omega))
  have q6 := Lib.hid (pz_add ha.out i k).symm
  have q7 := Lib.hid (pz_mul ha.out i k).symm
  have q8 := Lib.hid (pz_base (a := a) (b := b) i).symm
  have hpi := Lib.hid (ha.out.pz i)
  have hpk := Lib.hid (ha.out.pz k)
  have hbi := Lib.hid (hb.out.pz i)
  obtain ⟨aa, eaa⟩ : ∃ v, a * a % 2147483579 = v := ⟨_, rfl⟩
  rw [eaa] at q2
  obtain ⟨ab, eab⟩ : ∃ v, a * b % 2147483579 = v := ⟨_, rfl⟩
  rw [eab] at hab q8
  obtain ⟨ai, eai⟩ : ∃ v, pz a i = v := ⟨_, rfl⟩
  obtain ⟨ak, eak⟩ : ∃ v, pz a k = v := ⟨_, rfl⟩
  obtain ⟨bi, ebi⟩ : ∃ v, pz b i = v := ⟨_, rfl⟩
  rw [eai] at q4 q5 q6 q7 q8 hpi
  rw [eak] at q6 hpk
  rw [ebi] at q8 hbi
  obtain ⟨sa, eas⟩ : ∃ v, pz a (i + k) = v := ⟨_, rfl⟩
  obtain ⟨am, eam⟩ : ∃ v, pz a (i * k) = v := ⟨_, rfl⟩
  obtain ⟨abi, eabi⟩ : ∃ v, pz ab i = v := ⟨_, rfl⟩
  rw [eas] at q6
  rw [eam] at q7
  rw [eabi] at q8
  replace eaa := Lib.hid eaa
  replace eab := Lib.hid eab
  replace eai := Lib.hid eai
  replace eak := Lib.hid eak
  replace ebi := Lib.hid ebi
  replace eas := Lib.hid eas
  replace eam := Lib.hid eam
  replace eabi := Lib.hid eabi
  refine (pow_eq ha.out (I64.lit rfl) q0.out W _ hB).mono ?_
  clear hB
  rintro e w ⟨rfl, hB⟩
  go_wp2_with fail
  refine (pow_eq ha.out (I64.lit rfl) q1.out W _ hB).mono ?_
  clear hB
  rintro e w ⟨rfl, hB⟩
  go_wp2_with fail
  refine (pow_eq ha.out (I64.lit rfl) q2.out W _ hB).mono ?_
  clear hB
  rintro e w ⟨rfl, hB⟩
  go_wp2_with fail
  refine (mul_eq ha.out ha.out eaa.out W _ hB).mono ?_
  clear hB
  rintro e w ⟨rfl, hB⟩
  go_wp2_with fail
  refine (pow_eq ha.out (I64.lit rfl) q3.out W _ hB).mono ?_
  clear hB
  rintro e w ⟨rfl, hB⟩
  go_wp2_with fail
  refine (pow_eq ha.out s2.out q4.out W _ hB).mono ?_
  clear hB
  rintro e w ⟨rfl, hB⟩
  go_wp2_with fail
  refine (pow_eq ha.out s0.out eai.out W _ hB).mono ?_
  clear hB
  rintro e w ⟨rfl, hB⟩
  go_wp2_with fail
  refine (pow_eq ha.out s3.out q5.out W _ hB).mono ?_
  clear hB
  rintro e w ⟨rfl, hB⟩
  go_wp2_with fail
  refine (pow_eq ha.out s0.out eai.out W _ hB).mono ?_
  clear hB
  rintro e w ⟨rfl, hB⟩
  go_wp2_with fail
  refine (pow_eq ha.out s0.out eai.out W _ hB).mono ?_
  clear hB
  rintro e w ⟨rfl, hB⟩
  go_wp2_with fail
  refine (pow_eq ha.out s1.out eak.out W _ hB).mono ?_
  clear hB
  rintro e w ⟨rfl, hB⟩
  go_wp2_with fail
  refine (mul_eq hpi.out hpk.out q6.out W _ hB).mono ?_
  clear hB
  rintro e w ⟨rfl, hB⟩
  go_wp2_with fail
  refine (pow_eq ha.out s4.out eas.out W _ hB).mono ?_
  clear hB
  rintro e w ⟨rfl, hB⟩
  go_wp2_with fail
  refine (pow_eq ha.out s0.out eai.out W _ hB).mono ?_
  clear hB
  rintro e w ⟨rfl, hB⟩
  go_wp2_with fail
  refine (pow_eq hpi.out s1.out q7.out W _ hB).mono ?_
  clear hB
  rintro e w ⟨rfl, hB⟩
  go_wp2_with fail
  refine (pow_eq ha.out s5.out eam.out W _ hB).mono ?_
  clear hB
  rintro e w ⟨rfl, hB⟩
  go_wp2_with fail
  refine (mul_eq ha.out hb.out eab.out W _ hB).mono ?_
  clear hB
  rintro e w ⟨rfl, hB⟩
  go_wp2_with fail
  refine (pow_eq hab.out s0.out eabi.out W _ hB).mono ?_
  clear hB
  rintro e w ⟨rfl, hB⟩
  go_wp2_with fail
  refine (pow_eq ha.out s0.out eai.out W _ hB).mono ?_
  clear hB
  rintro e w ⟨rfl, hB⟩
  go_wp2_with fail
  refine (pow_eq hb.out s0.out ebi.out W _ hB).mono ?_
  clear hB
  rintro e w ⟨rfl, hB⟩
  go_wp2_with fail
  refine (mul_eq hpi.out hbi.out q8.out W _ hB).mono ?_
  clear hB
  rintro e w ⟨rfl, hB⟩
  go_wp2_with fail
  go_ret
  exact ⟨rfl, hB.out⟩

end Go.Proofs.Ytalphobaohffnaa
