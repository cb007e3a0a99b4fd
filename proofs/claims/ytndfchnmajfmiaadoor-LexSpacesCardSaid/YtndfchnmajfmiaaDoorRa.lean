/- The reference's classes of bytes and names. -/
import Derived.Test.YtndfchnmajfmiaaDoorBk
namespace Go.Proofs.YtndfchnmajfmiaaDoor
open Go.RowKit

theorem b_le (a c : UInt8) : (a ≤ c) = ((a.toNat : Int) ≤ (c.toNat : Int)) := by rw [UInt8.le_iff_toNat_le]; simp
set_option maxHeartbeats 800000 in
theorem rLetter_any (c : UInt8) (w : World) : Calls Tryd.prog 26 #[.int .u8 (c.toNat : Int)] w fun e w' => e = .returned (.bool (letterB c)) ∧ w = w' := by
  have hc : (c.toNat : Int) < 256 := by have := c.toNat_lt; omega
  by_cases h1 : (97 : Int) ≤ c.toNat
  · by_cases h2 : (c.toNat : Int) ≤ 122
    · have hf : Hid (letterB c = true) := by show letterB c = true; unfold letterB; simp [UInt8.le_iff_toNat_le]; omega
      go_enter Tryd.func26, Tryd.ntmps26
      go_wp2_with fail
      go_ret
      exact ⟨retB hf.out.symm, rfl⟩
    · have hf : Hid (letterB c = false) := by show letterB c = false; unfold letterB; simp [UInt8.le_iff_toNat_le]; omega
      have h3 : ¬ (c.toNat : Int) ≤ 90 := by omega
      have h4 : (65 : Int) ≤ c.toNat := by omega
      have h2' : decide ((c.toNat : Int) ≤ 122) = false := by simpa using h2
      have h3' : decide ((c.toNat : Int) ≤ 90) = false := by simpa using h3
      go_enter Tryd.func26, Tryd.ntmps26
      go_wp2_with fail
      go_ret
      exact ⟨retB hf.out.symm, rfl⟩
  · have h1' : decide ((97 : Int) ≤ c.toNat) = false := by simpa using h1
    by_cases h2 : (65 : Int) ≤ c.toNat
    · by_cases h3 : (c.toNat : Int) ≤ 90
      · have hf : Hid (letterB c = true) := by show letterB c = true; unfold letterB; simp [UInt8.le_iff_toNat_le]; omega
        go_enter Tryd.func26, Tryd.ntmps26
        go_wp2_with fail
        go_ret
        exact ⟨retB hf.out.symm, rfl⟩
      · have hf : Hid (letterB c = false) := by show letterB c = false; unfold letterB; simp [UInt8.le_iff_toNat_le]; omega
        have h3' : decide ((c.toNat : Int) ≤ 90) = false := by simpa using h3
        go_enter Tryd.func26, Tryd.ntmps26
        go_wp2_with fail
        go_ret
        exact ⟨retB hf.out.symm, rfl⟩
    · have hf : Hid (letterB c = false) := by show letterB c = false; unfold letterB; simp [UInt8.le_iff_toNat_le]; omega
      have h2' : decide ((65 : Int) ≤ c.toNat) = false := by simpa using h2
      go_enter Tryd.func26, Tryd.ntmps26
      go_wp2_with fail
      go_ret
      exact ⟨retB hf.out.symm, rfl⟩
set_option maxHeartbeats 800000 in
theorem rFigure_any (c : UInt8) (w : World) : Calls Tryd.prog 28 #[.int .u8 (c.toNat : Int)] w fun e w' => e = .returned (.bool (digitB c)) ∧ w = w' := by
  have hc : (c.toNat : Int) < 256 := by have := c.toNat_lt; omega
  by_cases h1 : (48 : Int) ≤ c.toNat
  · have hf : Hid (digitB c = decide ((c.toNat : Int) ≤ 57)) := by show digitB c = _; unfold digitB; rw [Bool.eq_iff_iff]; simp [UInt8.le_iff_toNat_le]; omega
    go_enter Tryd.func28, Tryd.ntmps28
    go_wp2_with fail
    go_ret
    exact ⟨retB hf.out.symm, rfl⟩
  · have hf : Hid (digitB c = false) := by show digitB c = _; unfold digitB; simp [UInt8.le_iff_toNat_le]; omega
    have h1' : decide ((48 : Int) ≤ c.toNat) = false := by simpa using h1
    go_enter Tryd.func28, Tryd.ntmps28
    go_wp2_with fail
    go_ret
    exact ⟨retB hf.out.symm, rfl⟩
set_option maxHeartbeats 800000 in
theorem rpart_any (c : UInt8) (w : World) : Calls Tryd.prog 27 #[.int .u8 (c.toNat : Int)] w fun e w' => e = .returned (.bool (partB c)) ∧ w = w' := by
  have hL := Lib.hid (rLetter_any c)
  have hD := Lib.hid (rFigure_any c)
  cases h1 : letterB c with
  | true =>
    have hf : Hid (partB c = true) := by show partB c = _; unfold partB; rw [h1]; rfl
    have h1 := Lib.hid h1
    go_enter Tryd.func27, Tryd.ntmps27
    go_wp2_with fail
    refine (hL.out _).mono ?_
    rintro e w1 ⟨rfl, rfl⟩
    rw [h1.out]
    go_wp2_with fail
    go_ret
    exact ⟨retB hf.out.symm, rfl⟩
  | false =>
    have h1 := Lib.hid h1
    cases h2 : digitB c with
    | true =>
      have hf : Hid (partB c = true) := by show partB c = _; unfold partB; rw [h1.out, h2]; rfl
      have h2 := Lib.hid h2
      go_enter Tryd.func27, Tryd.ntmps27
      go_wp2_with fail
      refine (hL.out _).mono ?_
      rintro e w1 ⟨rfl, rfl⟩
      rw [h1.out]
      go_wp2_with fail
      refine (hD.out _).mono ?_
      rintro e w1 ⟨rfl, rfl⟩
      rw [h2.out]
      go_wp2_with fail
      go_ret
      exact ⟨retB hf.out.symm, rfl⟩
    | false =>
      have hf : Hid (partB c = ((c.toNat : Int) == 95)) := by
        show partB c = _
        unfold partB
        rw [h1.out, h2, Bool.false_or, Bool.false_or, Bool.eq_iff_iff, beq_iff_eq, beq_iff_eq]
        exact ⟨fun h => by subst h; rfl, fun h => UInt8.toNat_inj.1 (by show c.toNat = 95; omega)⟩
      have h2 := Lib.hid h2
      go_enter Tryd.func27, Tryd.ntmps27
      go_wp2_with fail
      refine (hL.out _).mono ?_
      rintro e w1 ⟨rfl, rfl⟩
      rw [h1.out]
      go_wp2_with fail
      refine (hD.out _).mono ?_
      rintro e w1 ⟨rfl, rfl⟩
      rw [h2.out]
      go_wp2_with fail
      go_ret
      exact ⟨retB hf.out.symm, rfl⟩
set_option maxHeartbeats 1600000 in
theorem rSpace_any (c : UInt8) (w : World) : Calls Tryd.prog 22 #[.int .u8 (c.toNat : Int)] w fun e w' => e = .returned (.bool (spaceB c)) ∧ w = w' := by
  have hq : ∀ (k : Nat) (b : UInt8), b.toNat = k → (c == b) = ((c.toNat : Int) == (k : Nat)) := fun k b hb => by
    rw [Bool.eq_iff_iff, beq_iff_eq, beq_iff_eq]
    exact ⟨fun h => by subst h; omega, fun h => UInt8.toNat_inj.1 (by omega)⟩
  have hs : spaceB c = ((((c.toNat : Int) == 32) || ((c.toNat : Int) == 9)) || ((c.toNat : Int) == 10) || ((c.toNat : Int) == 13)) := by
    unfold spaceB
    rw [hq 32 32 rfl, hq 9 9 rfl, hq 10 10 rfl, hq 13 13 rfl]
    rfl
  clear hq
  cases h1 : ((c.toNat : Int) == 32) with
  | true =>
    have hf : Hid (spaceB c = true) := by show _ = _; rw [hs, h1]; rfl
    clear hs
    go_enter Tryd.func22, Tryd.ntmps22
    go_wp2_with fail
    go_ret
    exact ⟨retB hf.out.symm, rfl⟩
  | false =>
    cases h2 : ((c.toNat : Int) == 9) with
    | true =>
      have hf : Hid (spaceB c = true) := by show _ = _; rw [hs, h1, h2]; rfl
      clear hs
      go_enter Tryd.func22, Tryd.ntmps22
      go_wp2_with fail
      go_ret
      exact ⟨retB hf.out.symm, rfl⟩
    | false =>
      cases h3 : ((c.toNat : Int) == 10) with
      | true =>
        have hf : Hid (spaceB c = true) := by show _ = _; rw [hs, h1, h2, h3]; rfl
        clear hs
        go_enter Tryd.func22, Tryd.ntmps22
        go_wp2_with fail
        go_ret
        exact ⟨retB hf.out.symm, rfl⟩
      | false =>
        have hf : Hid (spaceB c = ((c.toNat : Int) == 13)) := by show _ = _; rw [hs, h1, h2, h3]; rfl
        clear hs
        go_enter Tryd.func22, Tryd.ntmps22
        go_wp2_with fail
        go_ret
        exact ⟨retB hf.out.symm, rfl⟩

def signs16 : ByteArray := ⟨#[123, 125, 40, 41, 59, 44, 61, 58, 46, 60, 62, 33, 43, 45, 42, 47]⟩
theorem signs_mem (c : UInt8) : signB c = true ↔ ∃ j, ∃ h : j < signs16.size, signs16[j] = c := by
  have hl : signs16.data.toList = [123, 125, 40, 41, 59, 44, 61, 58, 46, 60, 62, 33, 43, 45, 42, 47] := rfl
  have : signB c = true ↔ c ∈ signs16.data.toList := by rw [hl]; unfold signB; exact List.contains_iff_mem
  rw [this]
  constructor
  · intro h
    obtain ⟨j, hj, e⟩ := List.getElem_of_mem h
    exact ⟨j, hj, e⟩
  · rintro ⟨j, hj, e⟩
    rw [← e]
    exact List.getElem_mem (l := signs16.data.toList) hj
set_option maxRecDepth 100000 in
set_option maxHeartbeats 1600000 in
/-- Sign: the bytes of a constant are gone through. -/
theorem rSign_any (c : UInt8) (w : World) : Calls Tryd.prog 30 #[.int .u8 (c.toNat : Int)] w fun e w' => e = .returned (.bool (signB c)) ∧ w = w' := by
  have hm := Lib.hid (signs_mem c)
  have hz : signs16.size = 16 := rfl
  go_enter Tryd.func30, Tryd.ntmps30
  go_wp2_with fail
  rw [show (⟨#[123, 125, 40, 41, 59, 44, 61, 58, 46, 60, 62, 33, 43, 45, 42, 47]⟩ : ByteArray) = signs16 from rfl]
  generalize signs16 = S at *
  have hlz : S.size ≤ 16 := by omega
  clear hz
  go_loop [4] (fun i => ∃ k : Nat, k ≤ S.size ∧ i = .int .i64 k ∧ ∀ j (h : j < S.size), j < k → S[j] ≠ c) (fun i => S.size - (intOf i).toNat)
  case atStart => exact ⟨0, Nat.zero_le _, rfl, fun _ _ h => absurd h (by omega)⟩
  case round =>
    obtain ⟨k, hk, rfl, hno⟩ := hrel
    have hnoH := Lib.hid hno
    clear hno
    by_cases hlt : k < S.size
    · by_cases hc : S[k] = c
      · have hf : Hid (signB c = true) := hm.out.2 ⟨k, hlt, hc⟩
        have hcc : ((S[k].toNat : Int) == (c.toNat : Int)) = true := by rw [hc]; simp
        clear hc
        go_wp2_with fail
        go_ret
        exact ⟨retB hf.out.symm, rfl⟩
      · have hcc : ((S[k].toNat : Int) == (c.toNat : Int)) = false := by rw [beq_eq_false_iff_ne]; intro e; exact hc (UInt8.toNat_inj.1 (by omega))
        have hn2 := Lib.hid (fun j (h : j < S.size) (hjk : j < k + 1) => show S[j] ≠ c by
          by_cases e : j = k
          · subst e; exact hc
          · exact hnoH.out j h (by omega))
        clear hc
        go_wp2_with fail
        go_round
        case rel => exact ⟨k + 1, by omega, by go_num, hn2.out⟩
        case measure => simp [intOf]; omega
    · have hf : Hid (signB c = false) := by
        show signB c = false
        rw [Bool.eq_false_iff]
        intro h
        obtain ⟨j, hj, e⟩ := hm.out.1 h
        exact hnoH.out j hj (by omega) e
      go_wp2_with fail
      go_ret
      exact ⟨retB hf.out.symm, rfl⟩
end Go.Proofs.YtndfchnmajfmiaaDoor
