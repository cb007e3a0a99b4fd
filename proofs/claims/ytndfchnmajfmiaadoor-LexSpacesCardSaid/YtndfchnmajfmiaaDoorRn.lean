/- The reference's Name. -/
import Derived.Test.YtndfchnmajfmiaaDoorRa
namespace Go.Proofs.YtndfchnmajfmiaaDoor
open Go.RowKit

set_option maxRecDepth 100000 in
set_option maxHeartbeats 1600000 in
theorem rName_any (s : ByteArray) (hs : s.size ≤ 9223372036854775807) (w : World) : Calls Tryd.prog 21 #[.string s] w fun e w' => e = .returned (.bool (nameB s.data.toList)) ∧ w = w' := by
  have hlen : Hid (s.data.toList.length = s.size) := rfl
  by_cases h0 : 0 < s.size
  · have h0' : ¬ (s.size : Int) < 1 := by omega
    have hn := nameB_eq s.data.toList (by rw [hlen.out]; exact h0)
    by_cases h32 : s.size ≤ 32
    · have h32' : ¬ (32 : Int) < s.size := by omega
      have hn1 : nameB s.data.toList = (letterB s[0] && decide (run partB s.data.toList = s.data.toList.length)) := by rw [hn, show decide (s.data.toList.length ≤ 32) = true from decide_eq_true h32]; rfl
      clear hn
      have hL := Lib.hid (rLetter_any s[0])
      have hP := Lib.hid rpart_any
      cases hl : letterB s[0] with
      | false =>
        have hf : Hid (nameB s.data.toList = false) := by show _ = _; rw [hn1, hl]; rfl
        have hl := Lib.hid hl
        clear hn1
        go_enter Tryd.func21, Tryd.ntmps21
        go_wp2_with fail
        refine (hL.out _).mono ?_
        rintro e w1 ⟨rfl, rfl⟩
        rw [hl.out]
        go_wp2_with fail
        go_ret
        exact ⟨retB hf.out.symm, rfl⟩
      | true =>
        have hf : Hid (nameB s.data.toList = decide (run partB s.data.toList = s.data.toList.length)) := by show _ = _; rw [hn1, hl]; rfl
        have hl := Lib.hid hl
        have hrl := run_le partB s.data.toList
        rw [hlen.out] at hrl
        clear hn1
        go_enter Tryd.func21, Tryd.ntmps21
        go_wp2_with fail
        refine (hL.out _).mono ?_
        rintro e w1 ⟨rfl, rfl⟩
        rw [hl.out]
        go_wp2_with fail
        go_loop [3] (fun i => ∃ k : Nat, k ≤ run partB s.data.toList ∧ i = .int .i64 k) (fun i => s.size - (intOf i).toNat)
        case atStart => exact ⟨0, Nat.zero_le _, rfl⟩
        case round =>
          obtain ⟨k, hk, rfl⟩ := hrel
          by_cases hlt : k < s.size
          · by_cases hp : partB s[k] = true
            · have hk1 : k < run partB s.data.toList := run_lt hk (by rw [hlen.out]; exact hlt) hp
              have hp := Lib.hid hp
              go_wp2_with fail
              refine (hP.out s[k] _).mono ?_
              rintro e w1 ⟨rfl, rfl⟩
              rw [hp.out]
              go_wp2_with fail
              go_round
              case rel => exact ⟨k + 1, by omega, by go_num⟩
              case measure => simp [intOf]; omega
            · have hp' : partB s[k] = false := by simpa using hp
              have he : Hid (k = run partB s.data.toList) := run_stop hk (fun _ => hp')
              have hp' := Lib.hid hp'
              clear hp
              go_wp2_with fail
              refine (hP.out s[k] _).mono ?_
              rintro e w1 ⟨rfl, rfl⟩
              rw [hp'.out]
              go_wp2_with fail
              go_ret
              exact ⟨retB (by rw [hf.out, hlen.out, ← he.out]; symm; exact decide_eq_false (by omega)), rfl⟩
          · have he : Hid (k = run partB s.data.toList) := run_stop hk (fun h => absurd (by rw [hlen.out] at h; exact h) hlt)
            go_wp2_with fail
            go_ret
            exact ⟨retB (by rw [hf.out, hlen.out, ← he.out]; symm; exact decide_eq_true (by omega)), rfl⟩
    · have hf : Hid (nameB s.data.toList = false) := by show _ = _; rw [hn, show decide (s.data.toList.length ≤ 32) = false from decide_eq_false h32]; rfl
      have h32' : (32 : Int) < s.size := by omega
      clear hn
      go_enter Tryd.func21, Tryd.ntmps21
      go_wp2_with fail
      go_ret
      exact ⟨retB hf.out.symm, rfl⟩
  · have h00 : s.size = 0 := by omega
    have hd : s.data.toList = [] := List.eq_nil_of_length_eq_zero h00
    have hf : Hid (nameB s.data.toList = false) := by show _ = _; rw [hd]; rfl
    have h0' : (s.size : Int) < 1 := by omega
    clear hd h00
    go_enter Tryd.func21, Tryd.ntmps21
    go_wp2_with fail
    go_ret
    exact ⟨retB hf.out.symm, rfl⟩
theorem rName_list (l : List UInt8) (hs : l.length ≤ 9223372036854775807) (w : World) : Calls Tryd.prog 21 #[.string ⟨l.toArray⟩] w fun e w' => e = .returned (.bool (nameB l)) ∧ w = w' := by
  have := rName_any ⟨l.toArray⟩ hs w
  rw [list_data] at this
  exact this
end Go.Proofs.YtndfchnmajfmiaaDoor
