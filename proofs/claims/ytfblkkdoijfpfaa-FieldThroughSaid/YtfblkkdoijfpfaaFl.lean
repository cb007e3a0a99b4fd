/- FieldSpec, FieldLaws: true. -/
import Derived.Test.YtfblkkdoijfpfaaFk
namespace Go.Proofs.Ytfblkkdoijfpfaa
open Go.RowKit

set_option maxRecDepth 100000 in
set_option maxHeartbeats 4000000 in
theorem spec_any (a b : Int) (ha : I64 a) (hb : I64 b) (w : World) : Calls Try.prog 3 #[.int .i64 a, .int .i64 b] w fun e w' => e = .returned (.bool true) ∧ Below w.heap.size w w' := by
  go_enter Try.func3, Try.ntmps3
  go_wp2_with fail
  refine (sane_any _).mono ?_
  rintro e w1 ⟨rfl, hb1⟩
  go_wp2_with fail
  refine (Inverse_any a _).mono ?_
  rintro e w2 ⟨rfl, rfl⟩
  go_wp2_with fail
  refine (rInverse_any a _).mono ?_
  rintro e w3 ⟨rfl, rfl⟩
  go_wp2_with fail
  refine (Mod_any a _).mono ?_
  rintro e w4 ⟨rfl, rfl⟩
  go_wp2_with fail
  refine (rMod_any a _).mono ?_
  rintro e w5 ⟨rfl, rfl⟩
  go_wp2_with fail
  refine (Add_any a b ha hb _).mono ?_
  rintro e w6 ⟨rfl, hb2⟩
  have hb3 := Lib.hid (hb1.trans (hb2.mono hb1.size))
  clear hb1 hb2
  go_wp2_with fail
  refine (rAdd_any a b _).mono ?_
  rintro e w7 ⟨rfl, rfl⟩
  go_wp2_with fail
  refine (Mul_any a b _).mono ?_
  rintro e w8 ⟨rfl, rfl⟩
  go_wp2_with fail
  refine (rMul_any a b _).mono ?_
  rintro e w9 ⟨rfl, rfl⟩
  go_wp2_with fail
  go_ret
  exact ⟨rfl, hb3.out⟩

theorem Mul_eq' {a b x : Int} (h : mulF a b = x) (w : World) : Calls Try.prog 14 #[.int .i64 a, .int .i64 b] w fun e w' => e = .returned (.int .i64 x) ∧ Below w.heap.size w w' := h ▸ (Mul_any a b w).mono fun _ _ ⟨h1, h2⟩ => ⟨h1, h2 ▸ Below.refl _ _⟩
theorem in_eq {n : Int} (h : inB n = true) (w : World) : Calls Try.prog 16 #[.int .i64 n] w fun e w' => e = .returned (.bool true) ∧ w' = w := h ▸ in_any n w
/-! The laws of a field. -/
theorem md_sub (a : Int) (h : 0 ≤ a) : (a - md a).tmod 1073741789 = 0 := by
  have := md_range a
  have h2 : md a ≤ a := by unfold md; omega
  rw [Int.tmod_eq_emod_of_nonneg (by omega)]
  unfold md
  omega
theorem l_add_comm (a b : Int) : addF (md b) (md a) = addF a b := md_eq (((md_cg b).add (md_cg a)).trans (.of_eq (Int.add_comm _ _)))
theorem l_mul_comm (a b : Int) : mulF (md b) (md a) = mulF a b := md_eq (((md_cg b).mul (md_cg a)).trans (.of_eq (Int.mul_comm _ _)))
theorem l_add_assoc (a b c : Int) : addF (addF a b) c = addF a (addF b c) := md_eq (((addF_cg a b).add (Cg.refl c)).trans ((Cg.of_eq (by omega)).trans ((Cg.refl a).add (addF_cg b c).symm)))
theorem l_mul_assoc (a b c : Int) : mulF (mulF a b) c = mulF a (mulF b c) := md_eq (((mulF_cg a b).mul (Cg.refl c)).trans ((Cg.of_eq (by rw [Int.mul_assoc])).trans ((Cg.refl a).mul (mulF_cg b c).symm)))
theorem l_distr (a b c : Int) : mulF a (addF b c) = addF (mulF a b) (mulF a c) := md_eq (((Cg.refl a).mul (addF_cg b c)).trans ((Cg.of_eq (by rw [Int.mul_add])).trans ((mulF_cg a b).symm.add (mulF_cg a c).symm)))
theorem l_zero (a : Int) : addF a 0 = md a := by unfold addF; rw [Int.add_zero]
theorem l_one (a : Int) : mulF a 1 = md a := by unfold mulF; rw [Int.mul_one]
theorem l_neg (a : Int) : addF (md a) (-(md a)) = 0 := by unfold addF; rw [Int.add_right_neg]; rfl
theorem l_null (a b : Int) : mulF a b = 0 ↔ md a = 0 ∨ md b = 0 := by
  unfold mulF
  rw [md_zero, md_zero, md_zero]
  refine ⟨prime_int a b, fun h => ?_⟩
  rcases h with h | h
  · exact (h.mul (Cg.refl b)).trans (.of_eq (Int.zero_mul b))
  · exact ((Cg.refl a).mul h).trans (.of_eq (Int.mul_zero a))
theorem l_inv (a : Int) (h : ¬ md a = 0) : mulF a (invF a) = 1 := by
  have := md_eq (inv_cg a (fun e => h (md_zero.2 e)))
  unfold mulF
  rw [this]
  rfl
theorem Add_eq3 {a b x : Int} (h : addF a b = x) (ha : I64 a) (hb : I64 b) (w0 : World) (w : World) (h0 : Hid (Below w0.heap.size w0 w)) : Calls Try.prog 12 #[.int .i64 a, .int .i64 b] w fun e w' => e = .returned (.int .i64 x) ∧ Hid (Below w0.heap.size w0 w') :=
  (Add_eq h ha hb w).mono fun _ _ ⟨h1, h2⟩ => ⟨h1, Lib.hid (h0.out.trans (h2.mono h0.out.size))⟩
set_option maxRecDepth 100000 in
set_option maxHeartbeats 4000000 in
theorem laws_any (a b c : Int) (ha : I64 a) (hb : I64 b) (hc : I64 c) (w : World) : Calls Try.prog 4 #[.int .i64 a, .int .i64 b, .int .i64 c] w fun e w' => e = .returned (.bool true) ∧ Below w.heap.size w w' := by
  go_enter Try.func4, Try.ntmps4
  have hma := md_range a
  go_wp2_with fail
  refine (sane_any _).mono ?_
  rintro e w1 ⟨rfl, hb1⟩
  have hB := Lib.hid hb1
  clear hb1
  go_wp2_with fail
  refine (Mod_any a _).mono ?_
  rintro e w2 ⟨rfl, rfl⟩
  go_wp2_with fail
  refine (Mod_any b _).mono ?_
  rintro e w2 ⟨rfl, rfl⟩
  go_wp2_with fail
  refine (Mod_any c _).mono ?_
  rintro e w2 ⟨rfl, rfl⟩
  go_wp2_with fail
  refine (in_eq (inB_md a) _).mono ?_
  rintro e w2 ⟨rfl, rfl⟩
  go_wp2_with fail
  refine (in_eq (inB_md b) _).mono ?_
  rintro e w2 ⟨rfl, rfl⟩
  go_wp2_with fail
  refine (in_eq (inB_md c) _).mono ?_
  rintro e w2 ⟨rfl, rfl⟩
  go_wp2_with fail
  refine (Mod_eq (md_md a) _).mono ?_
  rintro e w2 ⟨rfl, rfl⟩
  by_cases hpos : 0 ≤ a
  · have hq : (wrap64 (a - md a)).tmod 1073741789 = 0 := by
      have h2 : md a ≤ a := by unfold md; omega
      have := ha.2
      rw [IntWalk.wrap64_in _ (by omega)]
      exact md_sub a hpos
    go_wp2_with fail
    refine (Add_eq3 (show addF a b = addF a b from rfl) ha hb w _ hB).mono ?_
    clear hB
    rintro e w2 ⟨rfl, hB⟩
    go_wp2_with fail
    refine (Add_eq3 (l_add_comm a b) (I64.md _) (I64.md _) w _ hB).mono ?_
    clear hB
    rintro e w2 ⟨rfl, hB⟩
    go_wp2_with fail
    refine (Mul_any a b _).mono ?_
    rintro e w2 ⟨rfl, rfl⟩
    go_wp2_with fail
    refine (Mul_eq (l_mul_comm a b) _).mono ?_
    rintro e w2 ⟨rfl, rfl⟩
    go_wp2_with fail
    refine (Add_eq3 (show addF a b = addF a b from rfl) ha hb w _ hB).mono ?_
    clear hB
    rintro e w2 ⟨rfl, hB⟩
    go_wp2_with fail
    refine (Add_eq3 (l_add_assoc a b c) (I64.md _) hc w _ hB).mono ?_
    clear hB
    rintro e w2 ⟨rfl, hB⟩
    go_wp2_with fail
    refine (Add_eq3 (show addF b c = addF b c from rfl) hb hc w _ hB).mono ?_
    clear hB
    rintro e w2 ⟨rfl, hB⟩
    go_wp2_with fail
    refine (Add_eq3 (show addF a (addF b c) = addF a (addF b c) from rfl) ha (I64.md _) w _ hB).mono ?_
    clear hB
    rintro e w2 ⟨rfl, hB⟩
    go_wp2_with fail
    refine (Mul_any a b _).mono ?_
    rintro e w2 ⟨rfl, rfl⟩
    go_wp2_with fail
    refine (Mul_eq (l_mul_assoc a b c) _).mono ?_
    rintro e w2 ⟨rfl, rfl⟩
    go_wp2_with fail
    refine (Mul_any b c _).mono ?_
    rintro e w2 ⟨rfl, rfl⟩
    go_wp2_with fail
    refine (Mul_any a (mulF b c) _).mono ?_
    rintro e w2 ⟨rfl, rfl⟩
    go_wp2_with fail
    refine (Add_eq3 (show addF b c = addF b c from rfl) hb hc w _ hB).mono ?_
    clear hB
    rintro e w2 ⟨rfl, hB⟩
    go_wp2_with fail
    refine (Mul_eq (l_distr a b c) _).mono ?_
    rintro e w2 ⟨rfl, rfl⟩
    go_wp2_with fail
    refine (Mul_any a b _).mono ?_
    rintro e w2 ⟨rfl, rfl⟩
    go_wp2_with fail
    refine (Mul_any a c _).mono ?_
    rintro e w2 ⟨rfl, rfl⟩
    go_wp2_with fail
    refine (Add_eq3 (show addF (mulF a b) (mulF a c) = addF (mulF a b) (mulF a c) from rfl) (I64.md _) (I64.md _) w _ hB).mono ?_
    clear hB
    rintro e w2 ⟨rfl, hB⟩
    go_wp2_with fail
    refine (Add_eq3 (l_zero a) ha (I64.lit rfl) w _ hB).mono ?_
    clear hB
    rintro e w2 ⟨rfl, hB⟩
    go_wp2_with fail
    refine (Mul_eq (l_one a) _).mono ?_
    rintro e w2 ⟨rfl, rfl⟩
    go_wp2_with fail
    refine (Add_eq3 (l_neg a) (I64.md _) (I64.neg_md _) w _ hB).mono ?_
    clear hB
    rintro e w2 ⟨rfl, hB⟩
    go_wp2_with fail
    refine (Mul_any a b _).mono ?_
    rintro e w2 ⟨rfl, rfl⟩
    clear hq
    by_cases za : md a = 0
    · have hm : mulF a b = 0 := (l_null a b).2 (.inl za)
      have hi := Lib.hid (show invV a = 0 ∧ invE a = 90 by unfold invV invE; rw [if_pos za, if_pos za]; exact ⟨rfl, rfl⟩)
      go_wp2_with fail
      refine (Inv_eq hi.out _).mono ?_
      rintro e w2 ⟨rfl, rfl⟩
      go_wp2_with fail
      go_ret
      exact ⟨rfl, hB.out⟩
    · have hi := Lib.hid (show invV a = invF a ∧ invE a = 0 by unfold invV invE; rw [if_neg za, if_neg za]; exact ⟨rfl, rfl⟩)
      have hin := Lib.hid (show inB (invF a) = true by have := invF_range a; unfold inB; simp [this.1, this.2])
      have hone := Lib.hid (l_inv a za)
      by_cases zb : md b = 0
      · have hm : mulF a b = 0 := (l_null a b).2 (.inr zb)
        go_wp2_with fail
        refine (Inv_eq hi.out _).mono ?_
        rintro e w2 ⟨rfl, rfl⟩
        go_wp2_with fail
        refine (in_eq hin.out _).mono ?_
        rintro e w2 ⟨rfl, rfl⟩
        go_wp2_with fail
        refine (Mul_eq hone.out _).mono ?_
        rintro e w2 ⟨rfl, rfl⟩
        go_wp2_with fail
        go_ret
        exact ⟨rfl, hB.out⟩
      · have hm : (mulF a b == 0) = false := by simpa using (fun e => ((l_null a b).1 e).elim za zb)
        have za' : (md a == 0) = false := by simpa using za
        have zb' : (md b == 0) = false := by simpa using zb
        go_wp2_with fail
        refine (Inv_eq hi.out _).mono ?_
        rintro e w2 ⟨rfl, rfl⟩
        go_wp2_with fail
        refine (in_eq hin.out _).mono ?_
        rintro e w2 ⟨rfl, rfl⟩
        go_wp2_with fail
        refine (Mul_eq hone.out _).mono ?_
        rintro e w2 ⟨rfl, rfl⟩
        go_wp2_with fail
        go_ret
        exact ⟨rfl, hB.out⟩
  · by_cases hq : (wrap64 (a - md a)).tmod 1073741789 = 0
    · go_wp2_with fail
      refine (Add_eq3 (show addF a b = addF a b from rfl) ha hb w _ hB).mono ?_
      clear hB
      rintro e w2 ⟨rfl, hB⟩
      go_wp2_with fail
      refine (Add_eq3 (l_add_comm a b) (I64.md _) (I64.md _) w _ hB).mono ?_
      clear hB
      rintro e w2 ⟨rfl, hB⟩
      go_wp2_with fail
      refine (Mul_any a b _).mono ?_
      rintro e w2 ⟨rfl, rfl⟩
      go_wp2_with fail
      refine (Mul_eq (l_mul_comm a b) _).mono ?_
      rintro e w2 ⟨rfl, rfl⟩
      go_wp2_with fail
      refine (Add_eq3 (show addF a b = addF a b from rfl) ha hb w _ hB).mono ?_
      clear hB
      rintro e w2 ⟨rfl, hB⟩
      go_wp2_with fail
      refine (Add_eq3 (l_add_assoc a b c) (I64.md _) hc w _ hB).mono ?_
      clear hB
      rintro e w2 ⟨rfl, hB⟩
      go_wp2_with fail
      refine (Add_eq3 (show addF b c = addF b c from rfl) hb hc w _ hB).mono ?_
      clear hB
      rintro e w2 ⟨rfl, hB⟩
      go_wp2_with fail
      refine (Add_eq3 (show addF a (addF b c) = addF a (addF b c) from rfl) ha (I64.md _) w _ hB).mono ?_
      clear hB
      rintro e w2 ⟨rfl, hB⟩
      go_wp2_with fail
      refine (Mul_any a b _).mono ?_
      rintro e w2 ⟨rfl, rfl⟩
      go_wp2_with fail
      refine (Mul_eq (l_mul_assoc a b c) _).mono ?_
      rintro e w2 ⟨rfl, rfl⟩
      go_wp2_with fail
      refine (Mul_any b c _).mono ?_
      rintro e w2 ⟨rfl, rfl⟩
      go_wp2_with fail
      refine (Mul_any a (mulF b c) _).mono ?_
      rintro e w2 ⟨rfl, rfl⟩
      go_wp2_with fail
      refine (Add_eq3 (show addF b c = addF b c from rfl) hb hc w _ hB).mono ?_
      clear hB
      rintro e w2 ⟨rfl, hB⟩
      go_wp2_with fail
      refine (Mul_eq (l_distr a b c) _).mono ?_
      rintro e w2 ⟨rfl, rfl⟩
      go_wp2_with fail
      refine (Mul_any a b _).mono ?_
      rintro e w2 ⟨rfl, rfl⟩
      go_wp2_with fail
      refine (Mul_any a c _).mono ?_
      rintro e w2 ⟨rfl, rfl⟩
      go_wp2_with fail
      refine (Add_eq3 (show addF (mulF a b) (mulF a c) = addF (mulF a b) (mulF a c) from rfl) (I64.md _) (I64.md _) w _ hB).mono ?_
      clear hB
      rintro e w2 ⟨rfl, hB⟩
      go_wp2_with fail
      refine (Add_eq3 (l_zero a) ha (I64.lit rfl) w _ hB).mono ?_
      clear hB
      rintro e w2 ⟨rfl, hB⟩
      go_wp2_with fail
      refine (Mul_eq (l_one a) _).mono ?_
      rintro e w2 ⟨rfl, rfl⟩
      go_wp2_with fail
      refine (Add_eq3 (l_neg a) (I64.md _) (I64.neg_md _) w _ hB).mono ?_
      clear hB
      rintro e w2 ⟨rfl, hB⟩
      go_wp2_with fail
      refine (Mul_any a b _).mono ?_
      rintro e w2 ⟨rfl, rfl⟩
      clear hq
      by_cases za : md a = 0
      · have hm : mulF a b = 0 := (l_null a b).2 (.inl za)
        have hi := Lib.hid (show invV a = 0 ∧ invE a = 90 by unfold invV invE; rw [if_pos za, if_pos za]; exact ⟨rfl, rfl⟩)
        go_wp2_with fail
        refine (Inv_eq hi.out _).mono ?_
        rintro e w2 ⟨rfl, rfl⟩
        go_wp2_with fail
        go_ret
        exact ⟨rfl, hB.out⟩
      · have hi := Lib.hid (show invV a = invF a ∧ invE a = 0 by unfold invV invE; rw [if_neg za, if_neg za]; exact ⟨rfl, rfl⟩)
        have hin := Lib.hid (show inB (invF a) = true by have := invF_range a; unfold inB; simp [this.1, this.2])
        have hone := Lib.hid (l_inv a za)
        by_cases zb : md b = 0
        · have hm : mulF a b = 0 := (l_null a b).2 (.inr zb)
          go_wp2_with fail
          refine (Inv_eq hi.out _).mono ?_
          rintro e w2 ⟨rfl, rfl⟩
          go_wp2_with fail
          refine (in_eq hin.out _).mono ?_
          rintro e w2 ⟨rfl, rfl⟩
          go_wp2_with fail
          refine (Mul_eq hone.out _).mono ?_
          rintro e w2 ⟨rfl, rfl⟩
          go_wp2_with fail
          go_ret
          exact ⟨rfl, hB.out⟩
        · have hm : (mulF a b == 0) = false := by simpa using (fun e => ((l_null a b).1 e).elim za zb)
          have za' : (md a == 0) = false := by simpa using za
          have zb' : (md b == 0) = false := by simpa using zb
          go_wp2_with fail
          refine (Inv_eq hi.out _).mono ?_
          rintro e w2 ⟨rfl, rfl⟩
          go_wp2_with fail
          refine (in_eq hin.out _).mono ?_
          rintro e w2 ⟨rfl, rfl⟩
          go_wp2_with fail
          refine (Mul_eq hone.out _).mono ?_
          rintro e w2 ⟨rfl, rfl⟩
          go_wp2_with fail
          go_ret
          exact ⟨rfl, hB.out⟩
    · go_wp2_with fail
      refine (Add_eq3 (show addF a b = addF a b from rfl) ha hb w _ hB).mono ?_
      clear hB
      rintro e w2 ⟨rfl, hB⟩
      go_wp2_with fail
      refine (Add_eq3 (l_add_comm a b) (I64.md _) (I64.md _) w _ hB).mono ?_
      clear hB
      rintro e w2 ⟨rfl, hB⟩
      go_wp2_with fail
      refine (Mul_any a b _).mono ?_
      rintro e w2 ⟨rfl, rfl⟩
      go_wp2_with fail
      refine (Mul_eq (l_mul_comm a b) _).mono ?_
      rintro e w2 ⟨rfl, rfl⟩
      go_wp2_with fail
      refine (Add_eq3 (show addF a b = addF a b from rfl) ha hb w _ hB).mono ?_
      clear hB
      rintro e w2 ⟨rfl, hB⟩
      go_wp2_with fail
      refine (Add_eq3 (l_add_assoc a b c) (I64.md _) hc w _ hB).mono ?_
      clear hB
      rintro e w2 ⟨rfl, hB⟩
      go_wp2_with fail
      refine (Add_eq3 (show addF b c = addF b c from rfl) hb hc w _ hB).mono ?_
      clear hB
      rintro e w2 ⟨rfl, hB⟩
      go_wp2_with fail
      refine (Add_eq3 (show addF a (addF b c) = addF a (addF b c) from rfl) ha (I64.md _) w _ hB).mono ?_
      clear hB
      rintro e w2 ⟨rfl, hB⟩
      go_wp2_with fail
      refine (Mul_any a b _).mono ?_
      rintro e w2 ⟨rfl, rfl⟩
      go_wp2_with fail
      refine (Mul_eq (l_mul_assoc a b c) _).mono ?_
      rintro e w2 ⟨rfl, rfl⟩
      go_wp2_with fail
      refine (Mul_any b c _).mono ?_
      rintro e w2 ⟨rfl, rfl⟩
      go_wp2_with fail
      refine (Mul_any a (mulF b c) _).mono ?_
      rintro e w2 ⟨rfl, rfl⟩
      go_wp2_with fail
      refine (Add_eq3 (show addF b c = addF b c from rfl) hb hc w _ hB).mono ?_
      clear hB
      rintro e w2 ⟨rfl, hB⟩
      go_wp2_with fail
      refine (Mul_eq (l_distr a b c) _).mono ?_
      rintro e w2 ⟨rfl, rfl⟩
      go_wp2_with fail
      refine (Mul_any a b _).mono ?_
      rintro e w2 ⟨rfl, rfl⟩
      go_wp2_with fail
      refine (Mul_any a c _).mono ?_
      rintro e w2 ⟨rfl, rfl⟩
      go_wp2_with fail
      refine (Add_eq3 (show addF (mulF a b) (mulF a c) = addF (mulF a b) (mulF a c) from rfl) (I64.md _) (I64.md _) w _ hB).mono ?_
      clear hB
      rintro e w2 ⟨rfl, hB⟩
      go_wp2_with fail
      refine (Add_eq3 (l_zero a) ha (I64.lit rfl) w _ hB).mono ?_
      clear hB
      rintro e w2 ⟨rfl, hB⟩
      go_wp2_with fail
      refine (Mul_eq (l_one a) _).mono ?_
      rintro e w2 ⟨rfl, rfl⟩
      go_wp2_with fail
      refine (Add_eq3 (l_neg a) (I64.md _) (I64.neg_md _) w _ hB).mono ?_
      clear hB
      rintro e w2 ⟨rfl, hB⟩
      go_wp2_with fail
      refine (Mul_any a b _).mono ?_
      rintro e w2 ⟨rfl, rfl⟩
      clear hq
      by_cases za : md a = 0
      · have hm : mulF a b = 0 := (l_null a b).2 (.inl za)
        have hi := Lib.hid (show invV a = 0 ∧ invE a = 90 by unfold invV invE; rw [if_pos za, if_pos za]; exact ⟨rfl, rfl⟩)
        go_wp2_with fail
        refine (Inv_eq hi.out _).mono ?_
        rintro e w2 ⟨rfl, rfl⟩
        go_wp2_with fail
        go_ret
        exact ⟨rfl, hB.out⟩
      · have hi := Lib.hid (show invV a = invF a ∧ invE a = 0 by unfold invV invE; rw [if_neg za, if_neg za]; exact ⟨rfl, rfl⟩)
        have hin := Lib.hid (show inB (invF a) = true by have := invF_range a; unfold inB; simp [this.1, this.2])
        have hone := Lib.hid (l_inv a za)
        by_cases zb : md b = 0
        · have hm : mulF a b = 0 := (l_null a b).2 (.inr zb)
          go_wp2_with fail
          refine (Inv_eq hi.out _).mono ?_
          rintro e w2 ⟨rfl, rfl⟩
          go_wp2_with fail
          refine (in_eq hin.out _).mono ?_
          rintro e w2 ⟨rfl, rfl⟩
          go_wp2_with fail
          refine (Mul_eq hone.out _).mono ?_
          rintro e w2 ⟨rfl, rfl⟩
          go_wp2_with fail
          go_ret
          exact ⟨rfl, hB.out⟩
        · have hm : (mulF a b == 0) = false := by simpa using (fun e => ((l_null a b).1 e).elim za zb)
          have za' : (md a == 0) = false := by simpa using za
          have zb' : (md b == 0) = false := by simpa using zb
          go_wp2_with fail
          refine (Inv_eq hi.out _).mono ?_
          rintro e w2 ⟨rfl, rfl⟩
          go_wp2_with fail
          refine (in_eq hin.out _).mono ?_
          rintro e w2 ⟨rfl, rfl⟩
          go_wp2_with fail
          refine (Mul_eq hone.out _).mono ?_
          rintro e w2 ⟨rfl, rfl⟩
          go_wp2_with fail
          go_ret
          exact ⟨rfl, hB.out⟩
end Go.Proofs.Ytfblkkdoijfpfaa
