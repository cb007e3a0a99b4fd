/- Runs of bytes, names, signs. -/
import Derived.Test.YtndfchnmajfmiaaDoorBs
namespace Go.Proofs.YtndfchnmajfmiaaDoor
open Go.RowKit

theorem all_bytes {P : UInt8 → Bool} (h : ((List.range 256).all fun i => P (UInt8.ofNat i)) = true) (c : UInt8) : P c = true := by
  have := List.all_eq_true.1 h c.toNat (List.mem_range.2 c.toNat_lt)
  simpa using this
theorem cls_part (c : UInt8) : (((cls c : Nat) : Int) == 2 || ((cls c : Nat) : Int) == 3 || ((cls c : Nat) : Int) == 4) = partB c := by
  have := all_bytes (P := fun c => (((cls c : Nat) : Int) == 2 || ((cls c : Nat) : Int) == 3 || ((cls c : Nat) : Int) == 4) == partB c) (by decide +kernel) c
  simpa only [beq_iff_eq] using this
theorem cls_digit (c : UInt8) : (((cls c : Nat) : Int) == 3) = digitB c := by
  have := all_bytes (P := fun c => (((cls c : Nat) : Int) == 3) == digitB c) (by decide +kernel) c
  simpa only [beq_iff_eq] using this
theorem cls_letter (c : UInt8) : (((cls c : Nat) : Int) == 2) = letterB c := by
  have := all_bytes (P := fun c => (((cls c : Nat) : Int) == 2) == letterB c) (by decide +kernel) c
  simpa only [beq_iff_eq] using this
theorem cls_sign (c : UInt8) : (((cls c : Nat) : Int) == 5 || ((cls c : Nat) : Int) == 6) = signB c := by
  have := all_bytes (P := fun c => (((cls c : Nat) : Int) == 5 || ((cls c : Nat) : Int) == 6) == signB c) (by decide +kernel) c
  simpa only [beq_iff_eq] using this

set_option maxRecDepth 100000 in
set_option maxHeartbeats 400000 in
theorem partF_any (k : Int) (w : World) : Calls Tryd.prog 47 #[.int .u8 k] w fun e w' => e = .returned (.bool (k == 2 || k == 3 || k == 4)) ∧ w = w' := by
  cases h2 : k == 2 with
  | true =>
    have hfin : Hid ((true || k == 3 || k == 4) = true) := by simp [Hid]
    go_enter Tryd.func47, Tryd.ntmps47
    go_wp2_with fail
    go_ret
    exact ⟨retB hfin.out.symm, rfl⟩
  | false =>
    cases h3 : k == 3 with
    | true =>
      have hfin : Hid ((false || true || k == 4) = true) := by simp [Hid]
      go_enter Tryd.func47, Tryd.ntmps47
      go_wp2_with fail
      go_ret
      exact ⟨retB hfin.out.symm, rfl⟩
    | false =>
      have hfin : Hid ((false || false || k == 4) = (k == 4)) := by simp [Hid]
      go_enter Tryd.func47, Tryd.ntmps47
      go_wp2_with fail
      go_ret
      exact ⟨retB hfin.out.symm, rfl⟩
set_option maxHeartbeats 400000 in
theorem digitF_any (k : Int) (w : World) : Calls Tryd.prog 60 #[.int .u8 k] w fun e w' => e = .returned (.bool (k == 3)) ∧ w = w' := by
  go_enter Tryd.func60, Tryd.ntmps60
  go_wp2_with fail
  go_ret
  exact ⟨rfl, rfl⟩

set_option maxRecDepth 100000 in
set_option maxHeartbeats 800000 in
theorem run_any (F : Nat) (p : UInt8 → Bool) (hcf : ∀ args w, Sem.run Tryd.prog (callFunc F args) w = .ok (.enter F args) w) (hF : ∀ (c : UInt8) (w : World), Calls Tryd.prog F #[.int .u8 (cls c : Nat)] w fun e w' => e = .returned (.bool (p c)) ∧ w = w') (s : ByteArray) (hs : s.size ≤ 9223372036854775807) (w : World) (hK : KW w) :
    Calls Tryd.prog 46 #[.string s, .func (.func F) #[] #[]] w fun e w' => e = .returned (.int .i64 (run p s.data.toList : Nat)) ∧ w = w' := by
  have hF' := Lib.hid hF
  have hK' := Lib.hid hK
  have hlen : s.data.toList.length = s.size := rfl
  have hlen' := Lib.hid hlen
  have hrl : run p s.data.toList ≤ s.size := run_le p s.data.toList
  clear hF hK hlen
  go_enter Tryd.func46, Tryd.ntmps46
  go_wp2_with fail
  go_loop [5] (fun n => ∃ k : Nat, k ≤ run p s.data.toList ∧ n = .int .i64 k) (fun n => s.size - (intOf n).toNat)
  case atStart => exact ⟨0, Nat.zero_le _, rfl⟩
  case round =>
    obtain ⟨k, hk, rfl⟩ := hrel
    by_cases hlt : k < s.size
    · go_wp2_with fail
      refine (classOf_any s[k] _ hK'.out).mono ?_
      rintro e w1 ⟨rfl, rfl⟩
      go_wp2_with fail
      refine (hF'.out s[k] _).mono ?_
      rintro e w1 ⟨rfl, rfl⟩
      by_cases hp : p s[k] = true
      · have hk1 : k < run p s.data.toList := run_lt hk (by rw [hlen'.out]; exact hlt) hp
        rw [hp]
        go_wp2_with fail
        go_round
        case rel => exact ⟨k + 1, by omega, by go_num⟩
        case measure => simp [intOf]; omega
      · have hp' : p s[k] = false := by simpa using hp
        have he : Hid (k = run p s.data.toList) := run_stop hk (fun _ => hp')
        rw [hp']
        clear hp hp'
        go_wp2_with fail
        go_ret
        exact ⟨retI (by rw [← he.out]), rfl⟩
    · have he : Hid (k = run p s.data.toList) := run_stop hk (fun h => absurd (by rw [hlen'.out] at h; exact h) hlt)
      go_wp2_with fail
      go_ret
      exact ⟨retI (by rw [← he.out]), rfl⟩
end Go.Proofs.YtndfchnmajfmiaaDoor
