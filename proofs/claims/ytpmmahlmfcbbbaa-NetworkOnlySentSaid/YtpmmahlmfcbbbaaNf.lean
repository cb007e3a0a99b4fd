/- finds, asked: contracts. -/
import Derived.Test.YtpmmahlmfcbbbaaNt
namespace Go.Proofs.Ytpmmahlmfcbbbaa
open Go.RowKit

theorem findN_bad {n : Nt} {i : Int} (h : ntB n = false) : findN n i = 60 := by unfold findN; rw [if_pos h]
theorem findN_arg {n : Nt} {i : Int} (h : ntB n = true) (h2 : i < 0 ∨ (n.q.length : Int) ≤ i) : findN n i = 1 := by unfold findN; rw [h, if_neg (by decide), if_pos h2]
theorem findN_ok {n : Nt} {i : Int} (h : ntB n = true) (h2 : ¬ i < 0) (h3 : ¬ (n.q.length : Int) ≤ i) : findN n i = 0 := by unfold findN; rw [h, if_neg (by decide), if_neg (by omega)]
theorem findN_cases (n : Nt) (i : Int) : (findN n i = 0 ∧ ntB n = true ∧ ∃ k : Nat, i = k ∧ k < n.q.length) ∨ (findN n i ≠ 0 ∧ (findN n i = 60 ∨ findN n i = 1)) := by
  cases h : ntB n with
  | false => exact .inr (by rw [findN_bad h]; omega)
  | true =>
    by_cases h2 : i < 0 ∨ (n.q.length : Int) ≤ i
    · exact .inr (by rw [findN_arg h h2]; omega)
    · exact .inl ⟨findN_ok h (by omega) (by omega), rfl, i.toNat, by omega, by omega⟩

set_option maxRecDepth 100000 in
set_option maxHeartbeats 800000 in
theorem finds_any (n : Nt) (i : Int) (w : World) (A A' : Option Addr) (c c' : Nat) (B : Nat) (hBw : B ≤ w.heap.size) (h : NR w (· < B) A c A' c' n) :
    Calls Try.prog 43 #[.agg #[.slice A n.q.length c, .slice A' n.ap.length c'], .int .i64 i] w fun e w' => e = .returned (.int .i64 (findN n i)) ∧ Below w.heap.size w w' := by
  have hB := Lib.hid (bnew w (.cells #[.slice A n.q.length c, .slice A' n.ap.length c'] 25))
  have hC := Lib.hid (Check_any n (w.alloc (.cells #[.slice A n.q.length c, .slice A' n.ap.length c'] 25)) A A' c c' B (by simp; omega) (h.keep (Kept.below (hB.out.mono hBw))))
  clear h
  go_enter Try.func43, Try.ntmps43
  go_wp2_with fail
  refine hC.out.mono ?_
  rintro e w1 ⟨rfl, hb1⟩
  simp only [World.size_alloc] at hb1
  obtain ⟨y0, y1⟩ := box2 hb1
  have hfin := Lib.hid (unbox hb1)
  clear hC hb1
  rcases nchk_eq n with ⟨h1, h2⟩ | ⟨h1, h2⟩
  · rw [h2]
    have h1' := Lib.hid h1
    clear h1 h2
    by_cases c1 : i < 0
    · have hv := Lib.hid (findN_arg h1'.out (.inl c1))
      go_wp2_with fail
      go_ret
      exact ⟨retI hv.out.symm, hfin.out⟩
    · by_cases c2 : (n.q.length : Int) ≤ i
      · have hv := Lib.hid (findN_arg h1'.out (.inr c2))
        go_wp2_with fail
        go_ret
        exact ⟨retI hv.out.symm, hfin.out⟩
      · have hv := Lib.hid (findN_ok h1'.out c1 c2)
        go_wp2_with fail
        go_ret
        exact ⟨retI hv.out.symm, hfin.out⟩
  · rw [h2]
    have hv := Lib.hid (findN_bad (i := i) h1)
    clear h1 h2
    go_wp2_with fail
    go_ret
    exact ⟨retI hv.out.symm, hfin.out⟩
set_option maxRecDepth 100000 in
set_option maxHeartbeats 800000 in
theorem asked_any (n : Nt) (i : Int) (w : World) (A A' : Option Addr) (c c' : Nat) (B : Nat) (hBw : B ≤ w.heap.size) (h : NR w (· < B) A c A' c' n) :
    Calls Try.prog 41 #[.agg #[.slice A n.q.length c, .slice A' n.ap.length c'], .int .i64 i] w fun e w' => e = .returned (.int .i64 (findN n i)) ∧ Below w.heap.size w w' := by
  have hB := Lib.hid (bnew w (.cells #[.slice A n.q.length c, .slice A' n.ap.length c'] 25))
  have hC := Lib.hid (rCheck_any n (w.alloc (.cells #[.slice A n.q.length c, .slice A' n.ap.length c'] 25)) A A' c c' B (by simp; omega) (h.keep (Kept.below (hB.out.mono hBw))))
  clear h
  go_enter Try.func41, Try.ntmps41
  go_wp2_with fail
  refine hC.out.mono ?_
  rintro e w1 ⟨rfl, hb1⟩
  simp only [World.size_alloc] at hb1
  obtain ⟨y0, y1⟩ := box2 hb1
  have hfin := Lib.hid (unbox hb1)
  clear hC hb1
  rcases nchk_eq n with ⟨h1, h2⟩ | ⟨h1, h2⟩
  · rw [h2]
    have h1' := Lib.hid h1
    clear h1 h2
    by_cases c1 : i < 0
    · have hv := Lib.hid (findN_arg h1'.out (.inl c1))
      go_wp2_with fail
      go_ret
      exact ⟨retI hv.out.symm, hfin.out⟩
    · by_cases c2 : (n.q.length : Int) ≤ i
      · have hv := Lib.hid (findN_arg h1'.out (.inr c2))
        go_wp2_with fail
        go_ret
        exact ⟨retI hv.out.symm, hfin.out⟩
      · have hv := Lib.hid (findN_ok h1'.out c1 c2)
        go_wp2_with fail
        go_ret
        exact ⟨retI hv.out.symm, hfin.out⟩
  · rw [h2]
    have hv := Lib.hid (findN_bad (i := i) h1)
    clear h1 h2
    go_wp2_with fail
    go_ret
    exact ⟨retI hv.out.symm, hfin.out⟩
end Go.Proofs.Ytpmmahlmfcbbbaa
