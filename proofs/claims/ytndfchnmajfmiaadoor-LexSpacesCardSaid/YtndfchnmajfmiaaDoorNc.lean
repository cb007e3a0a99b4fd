/- Name and isSign. -/
import Derived.Test.YtndfchnmajfmiaaDoorNb
namespace Go.Proofs.YtndfchnmajfmiaaDoor
open Go.RowKit

set_option maxRecDepth 100000 in
set_option maxHeartbeats 800000 in
theorem Name_any (s : ByteArray) (hs : s.size ≤ 9223372036854775807) (w : World) (hK : KW w) : Calls Tryd.prog 20 #[.string s] w fun e w' => e = .returned (.bool (nameB s.data.toList)) ∧ w = w' := by
  have hsn := Lib.hid (sizeName_any s hs w hK)
  have hK' := Lib.hid hK
  clear hK
  have hlen : Hid (s.data.toList.length = s.size) := rfl
  by_cases h0 : 0 < s.size
  · obtain ⟨-, hne, hne'⟩ := str_ne s h0
    have hn := nameB_eq s.data.toList (by rw [hlen.out]; exact h0)
    by_cases h32 : s.size ≤ 32
    · have hn1 : nameB s.data.toList = (letterB s[0] && decide (run partB s.data.toList = s.data.toList.length)) := by rw [hn, show decide (s.data.toList.length ≤ 32) = true from decide_eq_true h32]; rfl
      have hn' := Lib.hid hn1
      clear hn hn1
      cases hl : letterB s[0] with
      | false =>
        have hfin : Hid (nameB s.data.toList = false) := by rw [hn'.out, hl]; rfl
        have hc := (cls_letter s[0]).trans hl
        clear hl
        go_enter Tryd.func20, Tryd.ntmps20
        go_wp2_with fail
        refine (classOf_any s[0] _ hK'.out).mono ?_
        rintro e w1 ⟨rfl, rfl⟩
        go_wp2_with fail
        go_ret
        exact ⟨retB hfin.out.symm, rfl⟩
      | true =>
        have hc := (cls_letter s[0]).trans hl
        have hl' := Lib.hid hl
        clear hl
        by_cases hr : run partB s.data.toList = s.size
        · have hfin : Hid (nameB s.data.toList = true) := by rw [hn'.out, hl'.out, hlen.out, decide_eq_true hr]; rfl
          have hr' : (((run partB s.data.toList : Nat) : Int) == (s.size : Int)) = true := by rw [hr]; simp
          clear hr
          go_enter Tryd.func20, Tryd.ntmps20
          go_wp2_with fail
          refine (classOf_any s[0] _ hK'.out).mono ?_
          rintro e w1 ⟨rfl, rfl⟩
          go_wp2_with fail
          refine hsn.out.mono ?_
          rintro e w1 ⟨rfl, rfl⟩
          go_wp2_with fail
          go_ret
          exact ⟨retB hfin.out.symm, rfl⟩
        · have hfin : Hid (nameB s.data.toList = false) := by rw [hn'.out, hl'.out, hlen.out, decide_eq_false hr]; rfl
          have hr' : (((run partB s.data.toList : Nat) : Int) == (s.size : Int)) = false := by rw [beq_eq_false_iff_ne]; omega
          clear hr
          go_enter Tryd.func20, Tryd.ntmps20
          go_wp2_with fail
          refine (classOf_any s[0] _ hK'.out).mono ?_
          rintro e w1 ⟨rfl, rfl⟩
          go_wp2_with fail
          refine hsn.out.mono ?_
          rintro e w1 ⟨rfl, rfl⟩
          go_wp2_with fail
          go_ret
          exact ⟨retB hfin.out.symm, rfl⟩
    · have hfin : Hid (nameB s.data.toList = false) := by rw [hn, show decide (s.data.toList.length ≤ 32) = false from decide_eq_false h32]; rfl
      clear hn
      go_enter Tryd.func20, Tryd.ntmps20
      go_wp2_with fail
      go_ret
      exact ⟨retB hfin.out.symm, rfl⟩
  · have h00 : s.size = 0 := by omega
    have hd : s.data.toList = [] := List.eq_nil_of_length_eq_zero h00
    have hfin : Hid (nameB s.data.toList = false) := by rw [hd]; rfl
    have ht : s.toList = [] := by rw [ByteArray.toList_eq]; exact hd
    have ht' : s.toList.isEmpty = true := by rw [ht]; rfl
    have ht2 := Lib.hid ht
    clear hd h00 ht
    go_enter Tryd.func20, Tryd.ntmps20
    go_wp2_with fail
    go_ret
    exact ⟨retB hfin.out.symm, rfl⟩

def signS (l : List UInt8) : Bool := match l with | [c] => signB c | _ => false
set_option maxRecDepth 100000 in
set_option maxHeartbeats 800000 in
theorem isSign_any (s : ByteArray) (_hs : s.size ≤ 9223372036854775807) (w : World) (hK : KW w) : Calls Tryd.prog 41 #[.string s] w fun e w' => e = .returned (.bool (signS s.data.toList)) ∧ w = w' := by
  have hK' := Lib.hid hK
  clear hK
  have hlen : Hid (s.data.toList.length = s.size) := rfl
  by_cases h1 : s.size = 1
  · have h1' : ((s.size : Int) == 1) = true := by rw [h1]; rfl
    have h0 : 0 < s.size := by omega
    have hn : signS s.data.toList = signB s[0] := by
      have hl : s.data.toList.length = 1 := h1
      match hd : s.data.toList, hl with
      | [c], _ =>
        have : s[0] = s.data.toList[0]'(by rw [hd]; simp) := rfl
        rw [this]
        simp [hd, signS]
    have hn' := Lib.hid hn
    have hcs := cls_sign s[0]
    clear hn h1
    cases h5 : (((cls s[0] : Nat) : Int) == 5) with
    | true =>
      have hfin : Hid (signS s.data.toList = true) := by rw [hn'.out, ← hcs, h5]; rfl
      clear hcs
      go_enter Tryd.func41, Tryd.ntmps41
      go_wp2_with fail
      refine (classOf_any s[0] _ hK'.out).mono ?_
      rintro e w1 ⟨rfl, rfl⟩
      go_wp2_with fail
      go_ret
      exact ⟨retB hfin.out.symm, rfl⟩
    | false =>
      have hfin : Hid (signS s.data.toList = (((cls s[0] : Nat) : Int) == 6)) := by rw [hn'.out, ← hcs, h5]; rfl
      clear hcs
      go_enter Tryd.func41, Tryd.ntmps41
      go_wp2_with fail
      refine (classOf_any s[0] _ hK'.out).mono ?_
      rintro e w1 ⟨rfl, rfl⟩
      go_wp2_with fail
      refine (classOf_any s[0] _ hK'.out).mono ?_
      rintro e w1 ⟨rfl, rfl⟩
      go_wp2_with fail
      go_ret
      exact ⟨retB hfin.out.symm, rfl⟩
  · have h1' : ((s.size : Int) == 1) = false := by rw [beq_eq_false_iff_ne]; omega
    have hfin : Hid (signS s.data.toList = false) := by
      show signS _ = false
      unfold signS
      split
      · rename_i c hd
        have : s.data.toList.length = 1 := by rw [hd]; rfl
        exact absurd this h1
      · rfl
    clear h1
    go_enter Tryd.func41, Tryd.ntmps41
    go_wp2_with fail
    go_ret
    exact ⟨retB hfin.out.symm, rfl⟩
end Go.Proofs.YtndfchnmajfmiaaDoor
