/- MerkleLength: the law. -/
import Derived.Test.YtfdoiamgbdjbjaaDoorMy
namespace Go.Proofs.YtfdoiamgbdjbjaaDoor
open Go.RowKit

theorem RBs.none {w : World} {B : Nat} {A : Option Addr} {l : List UInt8} (h : RBs w B A l) : A = none → l = [] := fun e => by
  subst e
  cases l with
  | nil => rfl
  | cons x r =>
    obtain ⟨b, o, h1, -⟩ := h (by simp)
    cases h1
theorem lone_iff {n i k : Nat} (h : i < n) : lone n i k = true ↔ rowN n k % 2 = 1 ∧ rowI i k = rowN n k - 1 := by
  have hlt := rowI_lt h k
  unfold lone oth
  rw [decide_eq_true_eq]
  split <;> omega
theorem used_next (n i k : Nat) : used n i (k + 1) = if lone n i k = true then used n i k else used n i k + 1 := by rw [used]

set_option maxRecDepth 100000 in
set_option maxHeartbeats 4000000 in
theorem length_any (n i : Int) (leaf : List UInt8) (p : List (List UInt8)) (w : World) (A Ap : Option Addr) (c cp : Nat) (hr : RBs w w.heap.size A leaf) (hR : RD w w.heap.size p Ap cp) (hK : KT w) (h0 : 0 < w.heap.size) :
    Calls Tryd.prog 9 #[.int .i64 n, .int .i64 i, .slice A leaf.length c, .slice Ap p.length cp] w fun e w' => e = .returned (.bool true) ∧ Below w.heap.size w w' := by
  have hKH := Lib.hid hK
  have hu := Lib.hid (show Tryd.prog.underlying 30 = some (.array 32 5) by kernel_rfl)
  have hi := Lib.hid (show (Tryd.prog.info? 30).map (·.size) = some 32 by kernel_rfl)
  have hS := Lib.hid (sane_any w hK h0)
  have hA := hr.none
  clear hK
  replace hr := Lib.hid hr
  replace hR := Lib.hid hR
  go_enter Tryd.func9, Tryd.ntmps9
  go_wp2_with fail
  refine hS.out.mono ?_
  rintro e w1 ⟨rfl, hb1⟩
  clear hS
  by_cases hl : leaf.length ≤ 200
  case neg =>
    have hd : decide ((200 : Int) < (leaf.length : Int)) = true := by simp; omega
    go_wp2_with fail
    go_ret
    exact ⟨rfl, hb1⟩
  by_cases hpl : p.length ≤ 40
  case neg =>
    have hd0 : decide ((200 : Int) < (leaf.length : Int)) = false := by simp; omega
    have hd : decide ((40 : Int) < (p.length : Int)) = true := by simp; omega
    go_wp2_with fail
    go_ret
    exact ⟨rfl, hb1⟩
  have hd0 : decide ((200 : Int) < (leaf.length : Int)) = false := by simp; omega
  have hd1 : decide ((40 : Int) < (p.length : Int)) = false := by simp; omega
  have hC := Lib.hid (Climb_any n i leaf (by omega) p w1 A Ap c cp (hr.out.lift hb1 hb1.size) hA (hR.out.under hb1 hb1.size) (hKH.out.below hb1 h0) (Nat.lt_of_lt_of_le h0 hb1.size))
  have hs := Lib.hid (DV_size (climbP_len n i leaf p))
  obtain ⟨cl, hcl⟩ : ∃ q, climbP n i leaf p = q := ⟨_, rfl⟩
  rw [hcl] at hC hs
  replace hcl := Lib.hid hcl
  replace hb1 := Lib.hid hb1
  go_wp2_with fail
  refine hC.out.mono ?_
  rintro e w2 ⟨rfl, hb2⟩
  clear hC
  replace hb1 := Lib.hid (hb1.out.trans (hb2.mono hb1.out.size))
  clear hb2
  go_upto_region 6 with (refine wpList_store_row rfl 30 _ _ rfl w2.heap.size _ rfl rfl 30 _ (heap_alloc_last w2 _) ?cj ?cl ?ck ?_
                         case cj => rw [hi.out, hs.out]
                         case cl => rw [hs.out]; rfl
                         case ck => exact BV_all _
                         rw [World.setRow_alloc_new])
  have hb := bel1 w2 (.cells (BV cl.1).toArray 30)
  have k1 : Hid (DB _ w2.heap.size 30 cl.1) := heap_alloc_new w2 (.cells (BV cl.1).toArray 30)
  replace hb1 := Lib.hid (hb1.out.trans (hb.mono hb1.out.size))
  clear hb
  generalize w2.alloc (.cells (BV cl.1).toArray 30) = V1 at hb1 k1 ⊢
  have eqz : Hid (∀ W, (Op.equalIn 10000 30 (.agg (BV zeroD).toArray) (.agg #[.int .u8 0, .int .u8 0, .int .u8 0, .int .u8 0, .int .u8 0, .int .u8 0, .int .u8 0, .int .u8 0, .int .u8 0, .int .u8 0, .int .u8 0, .int .u8 0, .int .u8 0, .int .u8 0, .int .u8 0, .int .u8 0, .int .u8 0, .int .u8 0, .int .u8 0, .int .u8 0, .int .u8 0, .int .u8 0, .int .u8 0, .int .u8 0, .int .u8 0, .int .u8 0, .int .u8 0, .int .u8 0, .int .u8 0, .int .u8 0, .int .u8 0, .int .u8 0])).run Tryd.prog W = .ok true W) := Lib.hid fun W => eq_digest zeroD zeroD rfl rfl W
  have hzl := Lib.hid (DV_size (show zeroD.length = 32 from rfl))
  by_cases hg : 1 ≤ n ∧ n ≤ 65536 ∧ 0 ≤ i ∧ i < n
  case neg =>
    have hbad : (decide (n < 1) || decide (65536 < n) || decide (i < 0) || decide (n ≤ i)) = true := by simp; omega
    have hpl0 : isPl n i = false := by unfold isPl; simp; omega
    obtain rfl : cl = (zeroD, 1) := by rw [← hcl.out]; unfold climbP; rw [if_pos hpl0]
    have eqz := eqz.out
    have k1 := k1.out
    dsimp only at k1
    go_wp2_with (refine wpList_load_guarded (by rfl) 30 _ (by rfl) w2.heap.size (by rfl) 30 _ (0, 0) _ k1 hu.out rfl (by rw [hi.out, hzl.out]) ?_)
    all_goals
      go_ret
      exact ⟨rfl, hb1.out⟩
  obtain ⟨g1, g2, g3, g4⟩ := hg
  obtain ⟨N, rfl⟩ : ∃ N : Nat, n = N := ⟨n.toNat, by omega⟩
  obtain ⟨I, rfl⟩ : ∃ I : Nat, i = I := ⟨i.toNat, by omega⟩
  have q1 : decide ((N : Int) < 1) = false := by simp; omega
  have q2 : decide ((65536 : Int) < (N : Int)) = false := by simp; omega
  have q3 : decide ((I : Int) < 0) = false := by simp
  have q4 : decide ((N : Int) ≤ (I : Int)) = false := by simp; omega
  have hIN : I < N := by omega
  have q5 : decide (N ≤ I) = false := by simp; omega
  go_wp2_with fail
  go_loopw [11, 12, 13] (fun x y z wr => ∃ k : Nat, k ≤ rows N ∧ x = .int .i64 (used N I k : Int) ∧ y = .int .i64 (rowN N k : Int) ∧ z = .int .i64 (rowI I k : Int) ∧ wr = V1) (fun _ y _ _ => (intOf y).toNat)
  case atStart => exact ⟨0, Nat.zero_le _, rfl, rfl, rfl, rfl⟩
  case round =>
    obtain ⟨k, hk, rfl, rfl, rfl, rfl⟩ := hrel
    have hlt := rowI_lt hIN k
    have hle := rowN_le N k
    have hul := used_le N I k
    have hr16 := rows_16 (show N ≤ 65536 by omega)
    by_cases hlt2 : k < rows N
    · have hgt := rowN_gt k _ hlt2
      have hN1 : rowN N (k + 1) = rowN N k - rowN N k / 2 := by rw [rowN]
      have hI1 : rowI I (k + 1) = rowI I k / 2 := by rw [rowI]
      have hU1 := used_next N I k
      have hlo := lone_iff (k := k) hIN
      have hk1 : k + 1 ≤ rows N := hlt2
      generalize rowN N k = m at *
      generalize rowI I k = j at *
      generalize used N I k = u at *
      have hd1 : decide ((1 : Int) < (m : Int)) = true := by simp; omega
      have hw1 : IntKind.i64.wrap ((m : Int) - 1) = (m : Int) - 1 := IntWalk.i64_in _ (by omega)
      have hw2 : IntKind.i64.wrap ((m : Int) + 1) = (m : Int) + 1 := IntWalk.i64_in _ (by omega)
      have hw3 : IntKind.i64.wrap ((u : Int) + 1) = (u : Int) + 1 := IntWalk.i64_in _ (by omega)
      by_cases hlone : lone N I k = true
      · obtain ⟨o1, o2⟩ := hlo.1 hlone
        rw [if_pos hlone] at hU1
        have c1 : ((m : Int) % 2 == 0) = false := beq_eq_false_iff_ne.2 (by omega)
        have c2 : ((j : Int) != (m : Int) - 1) = false := by rw [bne_eq_false_iff_eq]; omega
        clear o1 o2
        go_wp2_with fail
        go_roundw
        case rel => exact ⟨k + 1, hk1, by rw [hU1], congrArg (Value.int .i64) (by rw [hN1]; omega), congrArg (Value.int .i64) (by rw [hI1]; omega), by first | rfl | trivial⟩
        case measure => simp only [intOf]; omega
      · rw [if_neg hlone] at hU1
        have c1 : ((m : Int) % 2 == 0 || (j : Int) != (m : Int) - 1) = true := by
          by_cases h : (m : Int) % 2 = 0
          · simp [h]
          · have : (j : Int) ≠ (m : Int) - 1 := fun e => hlone (hlo.2 (by omega))
            simp [this]
        go_wp2_with fail
        all_goals
          go_roundw
          case rel => exact ⟨k + 1, hk1, congrArg (Value.int .i64) (by rw [hU1]; omega), congrArg (Value.int .i64) (by rw [hN1]; omega), congrArg (Value.int .i64) (by rw [hI1]; omega), by first | rfl | trivial⟩
          case measure => simp only [intOf]; omega
    · obtain rfl : k = rows N := by omega
      have hend := rowN_end N
      have hd1 : decide ((1 : Int) < (rowN N (rows N) : Int)) = false := by simp; omega
      have hpl1 : isPl (N : Int) (I : Int) = true := by rw [isPl_iff]; omega
      have hpn : used N I (rows N) = pathN N I := rfl
      rw [hpn] at hul ⊢
      by_cases hpp : p.length = pathN N I
      · obtain hc2 : cl.2 = 0 := by rw [← hcl.out]; unfold climbP; rw [if_neg (by rw [hpl1]; simp), if_neg (by simpa using hpp)]
        rw [hc2]
        rw [hpp]
        go_wp2_with fail
        all_goals
          go_ret
          exact ⟨rfl, hb1.out⟩
      · obtain rfl : cl = (zeroD, 70) := by rw [← hcl.out]; unfold climbP; rw [if_neg (by rw [hpl1]; simp), if_pos (by simpa using hpp)]
        have hne : ((p.length : Int) == (pathN N I : Int)) = false := beq_eq_false_iff_ne.2 (by omega)
        have eqz := eqz.out
        have k1 := k1.out
        dsimp only at k1
        go_wp2_with (refine wpList_load_guarded (by rfl) 30 _ (by rfl) w2.heap.size (by rfl) 30 _ (0, 0) _ k1 hu.out rfl (by rw [hi.out, hzl.out]) ?_)
        all_goals
          go_ret
          exact ⟨rfl, hb1.out⟩
end Go.Proofs.YtfdoiamgbdjbjaaDoor
