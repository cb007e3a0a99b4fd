/- slices.Index, slices.Contains over links: contracts. -/
import Derived.Test.YtpmmahlmfcbbbaaNe
import Derived.Deep.QuietTactic
import Derived.BigQuiet
namespace Go.Proofs.Ytpmmahlmfcbbbaa
open Go.RowKit

theorem contains_take_no {ls : List (Int × Int)} {x : Int × Int} {k : Nat} (h : (ls.take k).contains x = false) (hk : k < ls.length) (hn : ls[k] ≠ x) : (ls.take (k + 1)).contains x = false := by
  rw [List.take_succ_eq_append_getElem hk]
  simp only [List.contains_eq_any_beq, List.any_append, List.any_cons, List.any_nil, Bool.or_false] at h ⊢
  rw [h, Bool.false_or]
  simp only [beq_eq_false_iff_ne, ne_eq]
  exact fun e => hn e.symm
theorem contains_yes {ls : List (Int × Int)} {x : Int × Int} {k : Nat} (hk : k < ls.length) (h : ls[k] = x) : ls.contains x = true := by
  rw [List.contains_iff_mem, ← h]; exact List.getElem_mem hk
/-- What slices.Index gives. -/
def IxPost (ls : List (Int × Int)) (x : Int × Int) (w : World) (e : Ending) (w' : World) : Prop := (∃ i : Int, e = .returned (.int .i64 i) ∧ decide (0 ≤ i) = ls.contains x) ∧ Below w.heap.size w w'

set_option maxRecDepth 100000 in
set_option maxHeartbeats 800000 in
theorem Index_any (ls : List (Int × Int)) (hm : ls.length ≤ 9223372036854775807) (x : Int × Int) (w : World) (A : Option Addr) (c : Nat) (B : Nat) (hBw : B ≤ w.heap.size) (h : LR w (· < B) A ls) :
    Calls Try.prog 50 #[.slice A ls.length c, .agg #[.int .i64 x.1, .int .i64 x.2]] w (IxPost ls x w) := by
  have hB := Lib.hid (bnew w (.cells #[.int .i64 x.1, .int .i64 x.2] 55))
  have hh := Lib.hid h
  clear h
  go_enter Try.func50, Try.ntmps50
  go_wp2_with fail
  go_loopw [5, 8] (fun _ i wr => ∃ k : Nat, k ≤ ls.length ∧ i = .int .i64 k ∧ Hid ((ls.take k).contains x = false) ∧ Below (w.heap.size + 1) (w.alloc (.cells #[.int .i64 x.1, .int .i64 x.2] 55)) wr) (fun _ i _ => ls.length - (intOf i).toNat)
  case atStart => exact ⟨0, Nat.zero_le _, rfl, rfl, Below.refl _ _⟩
  case round =>
    obtain ⟨k, hk, rfl, hno, hb⟩ := hrel
    by_cases hlt : k < ls.length
    · obtain ⟨b, off, rfl, hs, hc0, hc1, hI⟩ := ((hh.out.keep (Kept.below (hB.out.mono hBw))).keep (Kept.below (hb.mono (by omega)))).at_ hlt
      obtain ⟨y0, y1⟩ := box2 hb
      have hEq : ∀ n, (Op.equalIn 10000 55 (.agg #[.int .i64 x.1, .int .i64 x.2]) (.agg #[.int .i64 ls[k].1, .int .i64 ls[k].2])).run Try.prog (wr.drewN n) = .ok (decide (x = ls[k])) (wr.drewN n) := fun n => by
        rw [run_equalIn_two (wr.drewN n) 9998 55 3 Try.underlying55 Try.underlying3 Try.sizeOf3]
        congr 1
        rw [Bool.eq_iff_iff]
        simp [Prod.ext_iff]
      have hb' := Lib.hid hb
      by_cases he : x = ls[k]
      · have hv := Lib.hid (contains_yes hlt he.symm)
        simp only [decide_eq_true he] at hEq
        clear he hb hno
        go_wp2_with fail
        go_quiet (fail)
        go_wp2_with fail
        go_ret
        exact ⟨⟨_, rfl, by rw [hv.out]; simp⟩, dN (unbox hb'.out) _⟩
      · have hnx := Lib.hid (contains_take_no hno.out hlt (fun h => he h.symm))
        simp only [decide_eq_false he] at hEq
        clear he hb hno
        go_wp2_with fail
        go_quiet (fail)
        go_wp2_with fail
        go_roundw
        case rel => exact ⟨k + 1, by omega, by go_num, hnx.out, dN hb'.out _⟩
        case measure => simp [intOf]; omega
    · have hv := Lib.hid (show ls.contains x = false by have := hno.out; rwa [List.take_of_length_le (by omega)] at this)
      have hle : ¬ ((k : Int) < ls.length) := by omega
      have hb4 := Lib.hid (unbox hb)
      clear hlt hno hb
      go_wp2_with fail
      go_ret
      exact ⟨⟨_, rfl, by rw [hv.out]; rfl⟩, hb4.out⟩
set_option maxRecDepth 100000 in
set_option maxHeartbeats 800000 in
theorem Contains_any (ls : List (Int × Int)) (hm : ls.length ≤ 9223372036854775807) (x : Int × Int) (w : World) (A : Option Addr) (c : Nat) (B : Nat) (hBw : B ≤ w.heap.size) (h : LR w (· < B) A ls) :
    Calls Try.prog 40 #[.slice A ls.length c, .agg #[.int .i64 x.1, .int .i64 x.2]] w fun e w' => e = .returned (.bool (ls.contains x)) ∧ Below w.heap.size w w' := by
  have hB := Lib.hid (bnew w (.cells #[.int .i64 x.1, .int .i64 x.2] 55))
  have hI := Lib.hid (Index_any ls hm x (w.alloc (.cells #[.int .i64 x.1, .int .i64 x.2] 55)) A c B (by simp; omega) (h.keep (Kept.below (hB.out.mono hBw))))
  clear h
  go_enter Try.func40, Try.ntmps40
  go_wp2_with fail
  refine hI.out.mono ?_
  rintro e w1 ⟨⟨i, rfl, hi⟩, hb⟩
  have hi := Lib.hid hi
  have hb := Lib.hid (hB.out.trans (hb.mono (by simp)))
  clear hI
  go_wp2_with fail
  go_ret
  exact ⟨retB (by have := hi.out; simp_all), hb.out⟩
end Go.Proofs.Ytpmmahlmfcbbbaa
