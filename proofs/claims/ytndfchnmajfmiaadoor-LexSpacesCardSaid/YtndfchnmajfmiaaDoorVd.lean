/- valid, textOf, Text. -/
import Derived.Test.YtndfchnmajfmiaaDoorLx
import Derived.WalkSpells
import Derived.Deep.QuietTactic
import Derived.BigQuiet
namespace Go.Proofs.YtndfchnmajfmiaaDoor
open Go.RowKit

theorem Name_list (l : List UInt8) (hs : l.length ≤ 9223372036854775807) (w : World) (hK : KW w) : Calls Tryd.prog 20 #[.string ⟨l.toArray⟩] w fun e w' => e = .returned (.bool (nameB l)) ∧ w = w' := by
  have := Name_any ⟨l.toArray⟩ hs w hK
  rw [list_data] at this
  exact this
theorem isSign_list (l : List UInt8) (hs : l.length ≤ 9223372036854775807) (w : World) (hK : KW w) : Calls Tryd.prog 41 #[.string ⟨l.toArray⟩] w fun e w' => e = .returned (.bool (signS l)) ∧ w = w' := by
  have := isSign_any ⟨l.toArray⟩ hs w hK
  rw [list_data] at this
  exact this
theorem str_empty (l : List UInt8) : (⟨l.toArray⟩ : ByteArray).toList = l := by rw [ByteArray.toList_eq]

theorem retStr {a b : List UInt8} (h : a = b) : Ending.returned (.string ⟨a.toArray⟩) = .returned (.string ⟨b.toArray⟩) := by rw [h]
theorem below_grow (w : World) (k : Nat) (os : Array Obj) : Below w.heap.size w (Sort.grow (w.drewN k) os) := by
  refine ⟨rfl, rfl, rfl, by simp [Sort.grow, World.drewN], fun j hj => ?_⟩
  show (w.heap ++ os)[j]? = _
  rw [Array.getElem?_append_left hj]
set_option maxRecDepth 100000 in
set_option maxHeartbeats 1600000 in
theorem valid_any (t : Tk) (ht : t.s.length ≤ 9223372036854775807) (w : World) (hK : KW w) : Calls Tryd.prog 31 #[tkV t] w fun e w' => e = .returned (.bool (validB t)) ∧ Below w.heap.size w w' := by
  obtain ⟨k, s, n, p⟩ := t
  simp only at ht
  have hN := Lib.hid (fun w hK => Name_list s ht w hK)
  have hS := Lib.hid (fun w hK => isSign_list s ht w hK)
  have hKH := Lib.hid hK
  clear hK
  have hb := Lib.hid (bnew w (.cells #[.int .i64 k, .string ⟨s.toArray⟩, .int .i64 n, .int .i64 p] 35))
  unfold tkV
  by_cases h1 : k = 1
  · subst h1
    cases hn : (n == 0) with
    | false =>
      have hf : Hid (validB ⟨1, s, n, p⟩ = false) := by show validB _ = _; unfold validB; rw [if_pos rfl]; simp only; rw [hn]; rfl
      go_enter Tryd.func31, Tryd.ntmps31
      go_wp2_with fail
      go_ret
      exact ⟨retB hf.out.symm, hb.out⟩
    | true =>
      have hf : Hid (validB ⟨1, s, n, p⟩ = nameB s) := by show validB _ = _; unfold validB; rw [if_pos rfl]; simp only; rw [hn]; rfl
      go_enter Tryd.func31, Tryd.ntmps31
      go_wp2_with fail
      refine (hN.out _ (hKH.out.al _)).mono ?_
      rintro e w1 ⟨rfl, rfl⟩
      go_wp2_with fail
      go_ret
      exact ⟨retB hf.out.symm, hb.out⟩
  · by_cases h2 : k = 2
    · subst h2
      cases s with
      | nil =>
        by_cases h3 : 0 ≤ n
        · have hf : Hid (validB ⟨2, [], n, p⟩ = decide (n ≤ 1099511627776)) := by show validB _ = _; unfold validB; rw [if_neg (by simp only; omega), if_pos rfl]; simp only [decide_eq_true h3, List.isEmpty_nil, Bool.true_and]; rfl
          go_enter Tryd.func31, Tryd.ntmps31
          go_wp2_with fail
          go_ret
          exact ⟨retB hf.out.symm, hb.out⟩
        · have hf : Hid (validB ⟨2, [], n, p⟩ = false) := by show validB _ = _; unfold validB; rw [if_neg (by simp only; omega), if_pos rfl]; simp only [decide_eq_false h3, List.isEmpty_nil, Bool.true_and, Bool.false_and]
          have h3' : decide (0 ≤ n) = false := decide_eq_false h3
          go_enter Tryd.func31, Tryd.ntmps31
          go_wp2_with fail
          go_ret
          exact ⟨retB hf.out.symm, hb.out⟩
      | cons c r =>
        have hf : Hid (validB ⟨2, c :: r, n, p⟩ = false) := by show validB _ = _; unfold validB; rw [if_neg (by simp only; omega), if_pos rfl]; rfl
        have hne : (⟨(c :: r).toArray⟩ : ByteArray).toList.isEmpty = false := by rw [str_empty]; rfl
        have hne2 : (⟨(c :: r).toArray⟩ : ByteArray).toList ≠ [] := by rw [str_empty]; simp
        go_enter Tryd.func31, Tryd.ntmps31
        go_wp2_with fail
        go_ret
        exact ⟨retB hf.out.symm, hb.out⟩
    · by_cases h3 : k = 3
      · subst h3
        cases hn : (n == 0) with
        | false =>
          have hf : Hid (validB ⟨3, s, n, p⟩ = false) := by show validB _ = _; unfold validB; rw [if_neg (by simp only; omega), if_neg (by simp only; omega), if_pos rfl]; simp only; rw [hn]; rfl
          go_enter Tryd.func31, Tryd.ntmps31
          go_wp2_with fail
          go_ret
          exact ⟨retB hf.out.symm, hb.out⟩
        | true =>
          have hf : Hid (validB ⟨3, s, n, p⟩ = signS s) := by show validB _ = _; unfold validB; rw [if_neg (by simp only; omega), if_neg (by simp only; omega), if_pos rfl]; simp only; rw [hn]; rfl
          go_enter Tryd.func31, Tryd.ntmps31
          go_wp2_with fail
          refine (hS.out _ (hKH.out.al _)).mono ?_
          rintro e w1 ⟨rfl, rfl⟩
          go_wp2_with fail
          go_ret
          exact ⟨retB hf.out.symm, hb.out⟩
      · have hf : Hid (validB ⟨k, s, n, p⟩ = false) := by show validB _ = _; unfold validB; rw [if_neg h1, if_neg h2, if_neg h3]
        have h1' : (k == 1) = false := by simpa using h1
        have h2' : (k == 2) = false := by simpa using h2
        have h3' : (k == 3) = false := by simpa using h3
        clear h1 h2 h3
        go_enter Tryd.func31, Tryd.ntmps31
        go_wp2_with fail
        go_ret
        exact ⟨retB hf.out.symm, hb.out⟩

set_option maxHeartbeats 800000 in
theorem textOf_any (t : Tk) (hn : -9223372036854775808 ≤ t.n ∧ t.n ≤ 9223372036854775807) (w : World) (hK : KW w) : Calls Tryd.prog 32 #[tkV t] w fun e w' => e = .returned (.string ⟨(spell t).toArray⟩) ∧ Below w.heap.size w w' := by
  obtain ⟨k, s, n, p⟩ := t
  simp only at hn
  have hI := Lib.hid (fun w (hK : KW w) => Tryd.strconv_Itoa n hn.1 hn.2 w hK.pow)
  have hKH := Lib.hid hK
  clear hK
  have hb := Lib.hid (bnew w (.cells #[.int .i64 k, .string ⟨s.toArray⟩, .int .i64 n, .int .i64 p] 35))
  unfold tkV
  cases h2 : (k == 2) with
  | true =>
    have hf : Hid (spell ⟨k, s, n, p⟩ = Lib.itoa n) := by show spell _ = _; unfold spell; rw [if_pos (by simpa using h2)]
    go_enter Tryd.func32, Tryd.ntmps32
    go_wp2_with fail
    refine (hI.out _ (hKH.out.al _)).mono ?_
    rintro e w1 ⟨rfl, kk, os, rfl⟩
    go_wp2_with fail
    go_ret
    exact ⟨retStr hf.out.symm, hb.out.trans ((below_grow _ _ _).mono (by simp))⟩
  | false =>
    have hf : Hid (spell ⟨k, s, n, p⟩ = s) := by show spell _ = _; unfold spell; rw [if_neg (by simpa using h2)]
    go_enter Tryd.func32, Tryd.ntmps32
    go_wp2_with fail
    go_ret
    exact ⟨retStr hf.out.symm, hb.out⟩
end Go.Proofs.YtndfchnmajfmiaaDoor
