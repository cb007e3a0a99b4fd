/- double: the contract; Few, Same: contracts. -/
import Derived.Test.YtalkbccofiiojaaRr
import Derived.BigQuiet
import Derived.Deep.QuietTactic
import Derived.Lib.ConvBytes
namespace Go.Proofs.Ytalkbccofiiojaa
open Go.RowKit

def dbl (c : UInt8) : List UInt8 := (zero128.set 0 c).set 64 c
theorem dbl_length (c : UInt8) : (dbl c).length = 128 := by unfold dbl; simp [zero128]

set_option maxRecDepth 100000 in
set_option maxHeartbeats 800000 in
theorem double_any (c : UInt8) (w : World) : Calls Try.prog 27 #[.int .u8 (c.toNat : Int)] w fun e w' => e = .returned (.slice (some ⟨w.heap.size, 0, none⟩) 128 128) ∧ DB w' w.heap.size (dbl c) ∧ Below w.heap.size w w' := by
  have hmk := make128
  obtain ⟨Z, hZ⟩ : ∃ Z, Z = BV zero128 := ⟨_, rfl⟩
  rw [← hZ] at hmk
  have hZl : Z.length = 128 := by rw [hZ, BV_length]; rfl
  have hd := Lib.hid (show (Z.set 0 (.int .u8 (c.toNat : Int))).set 64 (.int .u8 (c.toNat : Int)) = BV (dbl c) by rw [hZ]; simp [BV, dbl, List.map_set])
  clear hZ
  go_enter Try.func27, Try.ntmps27
  go_wp2_with fail
  go_ret
  refine ⟨rfl, ?_, bnew w _⟩
  unfold DB
  rw [← hd.out]
  exact heap_alloc_new w _

def SomeBool (w : World) (e : Ending) (w' : World) : Prop := (∃ b, e = .returned (.bool b)) ∧ Below w.heap.size w w'

set_option maxRecDepth 100000 in
set_option maxHeartbeats 800000 in
theorem Few_any (d : Dk) (w : World) (A A' : Option Addr) (c c' : Nat) (hd : DR w (· < w.heap.size) A c A' c' d) :
    Calls Try.prog 11 #[.agg #[.slice A d.secs.length c, .slice A' d.pend.length c', .int .i64 d.left, .bool d.stop]] w (SomeBool w) := by
  have hB := Lib.hid (bnew w (.cells #[.slice A d.secs.length c, .slice A' d.pend.length c', .int .i64 d.left, .bool d.stop] 25))
  have hdh := Lib.hid hd
  have hm1 := hd.max
  have hm2 := hd.cap
  have hm3 := hd.max'
  have hm4 := hd.cap'
  unfold maxLen at hm1 hm3
  clear hd
  go_enter Try.func11, Try.ntmps11
  go_wp2_with fail
  go_loopw [3, 4] (fun n i wr => wr = w.alloc (.cells #[.slice A d.secs.length c, .slice A' d.pend.length c', .int .i64 d.left, .bool d.stop] 25) ∧ (∃ m : Int, n = .int .i64 m) ∧ ∃ k : Nat, k ≤ d.secs.length ∧ i = .int .i64 k) (fun _ i _ => d.secs.length - (intOf i).toNat)
  case atStart => exact ⟨rfl, ⟨0, rfl⟩, 0, Nat.zero_le _, rfl⟩
  case round =>
    obtain ⟨rfl, ⟨m, rfl⟩, k, hk, rfl⟩ := hrel
    by_cases hlt : k < d.secs.length
    · by_cases hmm : m ≤ 9000
      · obtain ⟨b, off, A1, c1, rfl, hs, hc, hl1, hl2, -⟩ := (hdh.out.secs.keep (Kept.below hB.out)).at_ hlt
        go_wp2_with fail
        go_roundw
        case rel => exact ⟨by trivial, ⟨_, rfl⟩, k + 1, by omega, by go_num⟩
        case measure => simp [intOf]; omega
      · have hmm' : (9000 : Int) < m := by omega
        go_wp2_with fail
        go_loopw [3, 5] (fun n i wr => wr = w.alloc (.cells #[.slice A d.secs.length c, .slice A' d.pend.length c', .int .i64 d.left, .bool d.stop] 25) ∧ (∃ m : Int, n = .int .i64 m) ∧ ∃ k : Nat, k ≤ d.pend.length ∧ i = .int .i64 k) (fun _ i _ => d.pend.length - (intOf i).toNat)
        case atStart => exact ⟨rfl, ⟨_, rfl⟩, 0, Nat.zero_le _, rfl⟩
        case round =>
          obtain ⟨rfl, ⟨m2, rfl⟩, q, hq, rfl⟩ := hrel
          by_cases hlt2 : q < d.pend.length
          · by_cases hm2 : m2 ≤ 9000
            · obtain ⟨b2, off2, A2, c2, rfl, hs2, hcc, hcd, hl3, hl4, -⟩ := (hdh.out.pend.keep (Kept.below hB.out)).at_ hlt2
              go_wp2_with fail
              go_roundw
              case rel => exact ⟨by trivial, ⟨_, rfl⟩, q + 1, by omega, by go_num⟩
              case measure => simp [intOf]; omega
            · have hmm2 : (9000 : Int) < m2 := by omega
              go_wp2_with fail
              go_ret
              exact ⟨⟨_, rfl⟩, hB.out⟩
          · have hle2 : ¬ ((q : Int) < d.pend.length) := by omega
            go_wp2_with fail
            go_ret
            exact ⟨⟨_, rfl⟩, hB.out⟩
    · have hle : ¬ ((k : Int) < d.secs.length) := by omega
      go_wp2_with fail
      go_loopw [3, 5] (fun n i wr => wr = w.alloc (.cells #[.slice A d.secs.length c, .slice A' d.pend.length c', .int .i64 d.left, .bool d.stop] 25) ∧ (∃ m : Int, n = .int .i64 m) ∧ ∃ k : Nat, k ≤ d.pend.length ∧ i = .int .i64 k) (fun _ i _ => d.pend.length - (intOf i).toNat)
      case atStart => exact ⟨rfl, ⟨_, rfl⟩, 0, Nat.zero_le _, rfl⟩
      case round =>
        obtain ⟨rfl, ⟨m2, rfl⟩, q, hq, rfl⟩ := hrel
        by_cases hlt2 : q < d.pend.length
        · by_cases hm2 : m2 ≤ 9000
          · obtain ⟨b2, off2, A2, c2, rfl, hs2, hcc, hcd, hl3, hl4, -⟩ := (hdh.out.pend.keep (Kept.below hB.out)).at_ hlt2
            go_wp2_with fail
            go_roundw
            case rel => exact ⟨by trivial, ⟨_, rfl⟩, q + 1, by omega, by go_num⟩
            case measure => simp [intOf]; omega
          · have hmm2 : (9000 : Int) < m2 := by omega
            go_wp2_with fail
            go_ret
            exact ⟨⟨_, rfl⟩, hB.out⟩
        · have hle2 : ¬ ((q : Int) < d.pend.length) := by omega
          go_wp2_with fail
          go_ret
          exact ⟨⟨_, rfl⟩, hB.out⟩
end Go.Proofs.Ytalkbccofiiojaa
