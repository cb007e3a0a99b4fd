/- Sizes of what begins at a byte; names; signs. -/
import Derived.Test.YtndfchnmajfmiaaDoorNa
import Derived.WalkSpells
namespace Go.Proofs.YtndfchnmajfmiaaDoor
open Go.RowKit

theorem hcfPart : ∀ args w, Sem.run Tryd.prog (callFunc 47 args) w = .ok (.enter 47 args) w := by intro args w; simp [go_sem]
theorem hcfDigit : ∀ args w, Sem.run Tryd.prog (callFunc 60 args) w = .ok (.enter 60 args) w := by intro args w; simp [go_sem]

set_option maxHeartbeats 400000 in
theorem sizeName_any (s : ByteArray) (hs : s.size ≤ 9223372036854775807) (w : World) (hK : KW w) : Calls Tryd.prog 39 #[.string s] w fun e w' => e = .returned (.int .i64 (run partB s.data.toList : Nat)) ∧ w = w' := by
  have hr := Lib.hid (run_any 47 partB hcfPart (fun c w => (partF_any _ w).mono fun _ _ ⟨h1, h2⟩ => ⟨by rw [h1, cls_part], h2⟩) s hs w hK)
  clear hK
  go_enter Tryd.func39, Tryd.ntmps39
  go_wp2_with fail
  refine hr.out.mono ?_
  rintro e w1 ⟨rfl, rfl⟩
  go_wp2_with fail
  go_ret
  exact ⟨rfl, rfl⟩
set_option maxHeartbeats 400000 in
theorem sizeNumber_any (s : ByteArray) (hs : s.size ≤ 9223372036854775807) (w : World) (hK : KW w) : Calls Tryd.prog 52 #[.string s] w fun e w' => e = .returned (.int .i64 (run digitB s.data.toList : Nat)) ∧ w = w' := by
  have hr := Lib.hid (run_any 60 digitB hcfDigit (fun c w => (digitF_any _ w).mono fun _ _ ⟨h1, h2⟩ => ⟨by rw [h1, cls_digit], h2⟩) s hs w hK)
  clear hK
  go_enter Tryd.func52, Tryd.ntmps52
  go_wp2_with fail
  refine hr.out.mono ?_
  rintro e w1 ⟨rfl, rfl⟩
  go_wp2_with fail
  go_ret
  exact ⟨rfl, rfl⟩
set_option maxHeartbeats 400000 in
theorem sizeOne_any (s : ByteArray) (w : World) : Calls Tryd.prog 48 #[.string s] w fun e w' => e = .returned (.int .i64 1) ∧ w = w' := by
  go_enter Tryd.func48, Tryd.ntmps48
  go_wp2_with fail
  go_ret
  exact ⟨rfl, rfl⟩

/-- What a slash begins: itself, or a comment. -/
def slashN (l : List UInt8) : Nat := if (l.drop 1).head? = some 47 then run (· != 10) l else 1
theorem indexByte_run (l : List UInt8) : Lib.indexByte l 10 = if run (· != 10) l = l.length then -1 else (run (· != 10) l : Int) := by
  induction l with
  | nil => rfl
  | cons c r ih =>
    rw [Lib.indexByte]
    by_cases h : c = 10
    · subst h
      have : run (· != 10) ((10 : UInt8) :: r) = 0 := by rw [run]; rfl
      rw [this]
      simp
    · have h1 : (c == 10) = false := by simpa using h
      have h2 : run (· != 10) (c :: r) = run (· != 10) r + 1 := run_pos (by simp [h])
      rw [h2, h1, ih]
      simp only [Bool.false_eq_true, if_false, List.length_cons]
      split
      · rename_i h3; simp [h3]
      · rename_i h3
        have h4 : ((run (· != 10) r : Nat) : Int) ≠ -1 := by omega
        simp [h4]; omega
theorem hasPrefix_slash (l : List UInt8) (h : l.head? = some 47) : Lib.hasPrefix l [47, 47] = decide ((l.drop 1).head? = some 47) := by
  match l, h with
  | c :: r, h =>
    simp only [List.head?_cons, Option.some.injEq] at h
    subst h
    cases r with
    | nil => rfl
    | cons d r =>
      simp [Lib.hasPrefix, List.isPrefixOf]
      rw [Bool.eq_iff_iff, beq_iff_eq, decide_eq_true_iff]; exact eq_comm

set_option maxHeartbeats 800000 in
theorem sizeSlash_any (s : ByteArray) (_hs : s.size ≤ 9223372036854775807) (h47 : s.data.toList.head? = some 47) (w : World) : Calls Tryd.prog 55 #[.string s] w fun e w' => e = .returned (.int .i64 (slashN s.data.toList : Nat)) ∧ w = w' := by
  have hp := Lib.hid (Tryd.strings_HasPrefix s ⟨#[47, 47]⟩ w)
  have hpe := Lib.hid (hasPrefix_slash s.data.toList h47)
  have hi := Lib.hid (Tryd.strings_IndexByte s 10 w)
  have hie := Lib.hid (indexByte_run s.data.toList)
  have hlen : Hid (s.data.toList.length = s.size) := rfl
  have hle := run_le (· != 10) s.data.toList
  rw [hlen.out] at hle
  have hsl := Lib.hid (show slashN s.data.toList = _ from rfl)
  clear h47
  by_cases hc : (s.data.toList.drop 1).head? = some 47
  · have hsl' : Hid (slashN s.data.toList = run (· != 10) s.data.toList) := by show slashN _ = _; unfold slashN; rw [if_pos hc]
    have hpe' : Hid (Lib.hasPrefix s.data.toList [47, 47] = true) := by rw [hpe.out]; exact decide_eq_true hc
    clear hc hsl hpe
    go_enter Tryd.func55, Tryd.ntmps55
    go_wp2_with fail
    refine hp.out.mono ?_
    rintro e w1 ⟨rfl, rfl⟩
    rw [hpe'.out]
    go_wp2_with fail
    refine hi.out.mono ?_
    rintro e w1 ⟨rfl, rfl⟩
    rw [show (10 : Int).toNat.toUInt8 = 10 from rfl, hie.out]
    by_cases hr : run (· != 10) s.data.toList = s.data.toList.length
    · have hr' : Hid (run (· != 10) s.data.toList = s.size) := hr
      rw [if_pos hr]
      clear hr
      go_wp2_with fail
      go_ret
      exact ⟨retI (by rw [hsl'.out, hr'.out]), rfl⟩
    · rw [if_neg hr]
      clear hr
      go_wp2_with fail
      go_ret
      exact ⟨retI (by rw [hsl'.out]), rfl⟩
  · have hsl' : Hid (slashN s.data.toList = 1) := by show slashN _ = _; unfold slashN; rw [if_neg hc]
    have hpe' : Hid (Lib.hasPrefix s.data.toList [47, 47] = false) := by rw [hpe.out]; exact decide_eq_false hc
    clear hc hsl hpe
    go_enter Tryd.func55, Tryd.ntmps55
    go_wp2_with fail
    refine hp.out.mono ?_
    rintro e w1 ⟨rfl, rfl⟩
    rw [hpe'.out]
    go_wp2_with fail
    go_ret
    exact ⟨retI (by rw [hsl'.out]; rfl), rfl⟩

theorem run_all_iff (p : UInt8 → Bool) (l : List UInt8) : decide (run p l = l.length) = l.all p := by
  induction l with
  | nil => rfl
  | cons c r ih =>
    rw [List.all_cons, List.length_cons, run]
    cases h : p c with
    | true => rw [if_pos rfl, ← ih]; simp
    | false => simp
theorem nameB_eq (l : List UInt8) (h : 0 < l.length) : nameB l = (decide (l.length ≤ 32) && (letterB l[0] && decide (run partB l = l.length))) := by
  cases l with
  | nil => simp at h
  | cons c r =>
    rw [run_all_iff]
    simp only [nameB, List.length_cons, List.getElem_cons_zero, List.all_cons]
    have h1 : decide (r.length < 32) = decide (r.length + 1 ≤ 32) := rfl
    rw [h1]
    cases hc : letterB c with
    | true => simp [partB, hc]
    | false => simp

theorem str_ne (s : ByteArray) (h : 0 < s.size) : s.toList ≠ [] ∧ (!s.toList.isEmpty) = true ∧ s.toList.isEmpty = false := by
  have : s.toList = s.data.toList := by rw [ByteArray.toList_eq] <;> rfl
  have hl : s.data.toList.length = s.size := rfl
  rw [this]
  cases hd : s.data.toList with
  | nil => rw [hd] at hl; simp at hl; omega
  | cons c r => simp
end Go.Proofs.YtndfchnmajfmiaaDoor
