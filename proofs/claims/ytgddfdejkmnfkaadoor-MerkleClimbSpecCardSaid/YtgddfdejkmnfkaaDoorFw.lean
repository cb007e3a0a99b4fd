/- The reference's Few: at most forty leaves, each of at most two hundred bytes. -/
import Derived.Test.YtgddfdejkmnfkaaDoorMo
namespace Go.Proofs.YtgddfdejkmnfkaaDoor
open Go.RowKit

def fewB (ls : List (List UInt8)) : Bool := decide (ls.length ≤ 40) && ls.all fun x => decide (x.length ≤ 200)
theorem fewB_iff {ls : List (List UInt8)} : fewB ls = true ↔ ls.length ≤ 40 ∧ ∀ x ∈ ls, x.length ≤ 200 := by
  unfold fewB
  rw [Bool.and_eq_true, decide_eq_true_eq, List.all_eq_true]
  simp only [decide_eq_true_eq]
set_option maxRecDepth 100000 in
set_option maxHeartbeats 2000000 in
theorem Few_any (ls : List (List UInt8)) (w : World) (A : Option Addr) (c : Nat) (hr : LL w w.heap.size ls A) (hlm : ls.length ≤ 9223372036854775807) :
    Calls Tryd.prog 11 #[.slice A ls.length c] w fun e w' => e = .returned (.bool (fewB ls)) ∧ Below w.heap.size w w' := by
  have hrH := Lib.hid hr
  clear hr
  go_enter Tryd.func11, Tryd.ntmps11
  go_wp2_with fail
  go_loopw [3] (fun x wr => ∃ k : Nat, k ≤ ls.length ∧ k ≤ 40 ∧ x = .int .i64 k ∧ Hid (∀ j (h : j < ls.length), j < k → ls[j].length ≤ 200) ∧ wr = w) (fun x _ => 40 - (intOf x).toNat)
  case atStart => exact ⟨0, Nat.zero_le _, Nat.zero_le _, rfl, (fun j _ h => absurd h (by omega)), rfl⟩
  case round =>
    obtain ⟨k, hk, hk40, rfl, hI, rfl⟩ := hrel
    by_cases hlt : k < ls.length
    · have hlt' : (k : Int) < (ls.length : Int) := by omega
      have hd1 : decide ((k : Int) < (ls.length : Int)) = true := decide_eq_true hlt'
      by_cases h40 : k < 40
      · have hd2 : decide ((k : Int) < 40) = true := decide_eq_true (by omega)
        have hw1 : IntKind.i64.wrap ((k : Int) + 1) = (k : Int) + 1 := IntWalk.i64_in _ (by omega)
        obtain ⟨b, off, a1, c1, rfl, hb, hc, -, -, hcc⟩ := hrH.out.at_ hlt
        obtain ⟨x, hx⟩ : ∃ x, ls[k] = x := ⟨_, rfl⟩
        rw [hx] at hc
        by_cases h200 : x.length ≤ 200
        · have hd3 : decide ((200 : Int) < (x.length : Int)) = false := by simp; omega
          go_wp2_with fail
          go_roundw
          case rel => exact ⟨k + 1, hlt, by omega, by go_num, Lib.hid (fun j h hj => by
            by_cases e : j = k
            · subst e; rw [hx]; exact h200
            · exact hI.out j h (by omega)), by first | rfl | trivial⟩
          case measure => simp [intOf]; omega
        · have hd3 : decide ((200 : Int) < (x.length : Int)) = true := by simp; omega
          have hf : fewB ls = false := by
            rw [Bool.eq_false_iff]
            intro h
            exact h200 (hx ▸ (fewB_iff.1 h).2 _ (List.getElem_mem hlt))
          have hB := Below.refl wr.heap.size wr
          go_wp2_with fail
          go_ret
          exact ⟨by rw [hf]; rfl, hB⟩
      · have hd2 : decide ((k : Int) < 40) = false := decide_eq_false (by omega)
        have hf : fewB ls = false := by
          rw [Bool.eq_false_iff]
          intro h
          have := (fewB_iff.1 h).1
          omega
        have hd4 : decide ((ls.length : Int) ≤ 40) = false := decide_eq_false (by omega)
        have hB := Below.refl wr.heap.size wr
        go_wp2_with fail
        go_ret
        exact ⟨by rw [hf]; rfl, hB⟩
    · have hd1 : decide ((k : Int) < (ls.length : Int)) = false := decide_eq_false (by omega)
      have hd4 : decide ((ls.length : Int) ≤ 40) = true := decide_eq_true (by omega)
      have hf : fewB ls = true := by
        rw [fewB_iff]
        refine ⟨by omega, fun x hx => ?_⟩
        obtain ⟨j, h, rfl⟩ := List.getElem_of_mem hx
        exact hI.out j h (by omega)
      have hB := Below.refl wr.heap.size wr
      go_wp2_with fail
      go_ret
      exact ⟨by rw [hf]; rfl, hB⟩
end Go.Proofs.YtgddfdejkmnfkaaDoor
