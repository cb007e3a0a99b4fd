/- holds: the contract. -/
import Derived.Test.YtalkbccofiiojaaLr
import Derived.Test.YtalkbccofiiojaaHp
namespace Go.Proofs.Ytalkbccofiiojaa
open Go.RowKit

theorem BV_at4 (a b c e : UInt8) {k : Nat} (h : k < 4) : (BV [a, b, c, e]).toArray[k]? = some (.int .u8 (([a, b, c, e].getD k 0).toNat : Int)) := by
  match k, h with
  | 0, _ => rfl
  | 1, _ => rfl
  | 2, _ => rfl
  | 3, _ => rfl

set_option maxRecDepth 100000 in
set_option maxHeartbeats 4000000 in
theorem holds_any (d : Dk) (w : World) (A A' : Option Addr) (c c' : Nat) (hd : DR w (· < w.heap.size) A c A' c' d) (p0 p1 p2 p3 q0 q1 q2 q3 : UInt8) (hr : HR d [p0, p1, p2, p3] [q0, q1, q2, q3]) :
    Calls Try.prog 28 #[.agg #[.slice A d.secs.length c, .slice A' d.pend.length c', .int .i64 d.left, .bool d.stop], .agg #[.int .u8 (p0.toNat : Int), .int .u8 (p1.toNat : Int), .int .u8 (p2.toNat : Int), .int .u8 (p3.toNat : Int)], .agg #[.int .u8 (q0.toNat : Int), .int .u8 (q1.toNat : Int), .int .u8 (q2.toNat : Int), .int .u8 (q3.toNat : Int)]] w fun e w' => e = .returned (.bool true) ∧ Below w.heap.size w w' := by
  have hdh := Lib.hid hd
  clear hd
  go_enter Try.func28, Try.ntmps28
  go_wp2_with fail
  obtain ⟨W0, hW0⟩ : ∃ W0, W0 = ((w.alloc (.cells #[.slice A d.secs.length c, .slice A' d.pend.length c', .int .i64 d.left, .bool d.stop] 25)).alloc (.cells #[.int .u8 (p0.toNat : Int), .int .u8 (p1.toNat : Int), .int .u8 (p2.toNat : Int), .int .u8 (p3.toNat : Int)] 44)).alloc (.cells #[.int .u8 (q0.toNat : Int), .int .u8 (q1.toNat : Int), .int .u8 (q2.toNat : Int), .int .u8 (q3.toNat : Int)] 44) := ⟨_, rfl⟩
  have hz : W0.heap.size = w.heap.size + 3 := by rw [hW0]; simp
  have hB := Lib.hid (show Below w.heap.size w W0 by rw [hW0]; exact (((Below.refl _ w).alloc (Nat.le_refl _) _).alloc (by simp) _).alloc (by simp; omega) _)
  have hk := Lib.hid (show KB W0 w.heap.size A c A' c' d by
    rw [hW0]; exact (Below.heap_alloc _ _ _ (by simp; omega)).trans ((Below.heap_alloc _ _ _ (by simp)).trans (heap_alloc_new w _)))
  have hf := Lib.hid (show W0.heap[w.heap.size + 1]? = some (.cells (BV [p0, p1, p2, p3]).toArray 44 (0, 0)) by
    rw [hW0]; exact (Below.heap_alloc _ _ _ (by simp)).trans (by have := heap_alloc_new (w.alloc (.cells #[.slice A d.secs.length c, .slice A' d.pend.length c', .int .i64 d.left, .bool d.stop] 25)) (.cells #[.int .u8 (p0.toNat : Int), .int .u8 (p1.toNat : Int), .int .u8 (p2.toNat : Int), .int .u8 (p3.toNat : Int)] 44); rwa [World.size_alloc] at this))
  have hs := Lib.hid (show W0.heap[w.heap.size + 2]? = some (.cells (BV [q0, q1, q2, q3]).toArray 44 (0, 0)) by
    rw [hW0]; have h9 := heap_alloc_new ((w.alloc (.cells #[.slice A d.secs.length c, .slice A' d.pend.length c', .int .i64 d.left, .bool d.stop] 25)).alloc (.cells #[.int .u8 (p0.toNat : Int), .int .u8 (p1.toNat : Int), .int .u8 (p2.toNat : Int), .int .u8 (p3.toNat : Int)] 44)) (.cells #[.int .u8 (q0.toNat : Int), .int .u8 (q1.toNat : Int), .int .u8 (q2.toNat : Int), .int .u8 (q3.toNat : Int)] 44); rw [World.size_alloc, World.size_alloc] at h9; exact h9)
  rw [← hW0]
  clear hW0
  go_loopw [7] (fun i wr => ∃ k : Nat, k ≤ 4 ∧ i = .int .i64 k ∧ Below W0.heap.size W0 wr) (fun i _ => 4 - (intOf i).toNat)
  case atStart => exact ⟨0, Nat.zero_le _, rfl, Below.refl _ _⟩
  case round =>
    obtain ⟨k, hk4, rfl, hb⟩ := hrel
    by_cases hlt : k < 4
    · have hb' := Lib.hid hb
      have hd2 := (hdh.out.keep (Kept.below (hB.out.trans (hb.mono hB.out.size)))).mono (S' := (· < wr.heap.size)) fun b h => Nat.lt_of_lt_of_le h (Nat.le_trans hB.out.size hb.size)
      obtain ⟨y0, y1, y2, y3⟩ := (hk.out.step hb).cells
      have f1 := (cell_of_row wr _ k _ _ _ ((hb.block _ (by omega)).trans hf.out)).trans (BV_at4 p0 p1 p2 p3 hlt)
      have s1 := (cell_of_row wr _ k _ _ _ ((hb.block _ (by omega)).trans hs.out)).trans (BV_at4 q0 q1 q2 q3 hlt)
      have hzr := hb.size
      have b1 : w.heap.size + 1 < wr.heap.size := by omega
      have b2 : w.heap.size + 2 < wr.heap.size := by omega
      have f1 := Lib.hid f1
      have s1 := Lib.hid s1
      clear hb
      have j0 : (k : Int) < 4 := by omega
      go_wp2_with fail
      clear y0 y1 y2 y3
      refine (Read_any d k wr A A' c c' hd2).mono ?_
      clear hd2
      intro e w1 hp
      obtain ⟨hh, hrl⟩ := hr.2 k hlt
      obtain ⟨g, rfl, -, hG, hb⟩ := hp.yes (hasM hr.1 hh) hrl
      have f1 := (hb.cell (p := ⟨w.heap.size + 1, k, none⟩) b1).trans f1.out
      have s1 := (hb.cell (p := ⟨w.heap.size + 2, k, none⟩) b2).trans s1.out
      have c0 := hG.cell (i := 0) (by rw [sect_length]; omega)
      have c64 := hG.cell (i := 64) (by rw [sect_length]; omega)
      have c1 := hG.cell (i := 1) (by rw [sect_length]; omega)
      have c127 := hG.cell (i := 127) (by rw [sect_length]; omega)
      rw [sect_0] at c0
      rw [sect_64] at c64
      rw [sect_1] at c1
      rw [sect_127] at c127
      have hb2 := Lib.hid (hb'.out.trans (hb.mono hb'.out.size))
      clear hp hG hb hrl hh hb'
      generalize [p0, p1, p2, p3].getD k 0 = fp at *
      generalize [q0, q1, q2, q3].getD k 0 = sp at *
      have e1 : ((fp.toNat : Int) != fp.toNat) = false := by simp
      have e2 : ((sp.toNat : Int) != sp.toNat) = false := by simp
      have j1 : (0 : Int) ≤ k := by omega
      have s1 : w1.cell? ⟨w.heap.size + 1 + 1, k, none⟩ = some (.int .u8 (sp.toNat : Int)) := s1
      go_wp2_with fail
      go_quiet (fail)
      go_wp2_with fail
      go_roundw
      case rel => exact ⟨k + 1, by omega, by go_num, dN hb2.out _⟩
      case measure => simp [intOf]; omega
    · have hle : ¬ ((k : Int) < 4) := by omega
      have hbf := Lib.hid (hB.out.trans (hb.mono hB.out.size))
      go_wp2_with fail
      go_ret
      exact ⟨rfl, hbf.out⟩
end Go.Proofs.Ytalkbccofiiojaa
