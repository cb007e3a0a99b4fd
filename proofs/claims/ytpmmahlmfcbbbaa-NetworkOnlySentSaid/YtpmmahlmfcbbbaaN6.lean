/- Same, of two readings of one net: the contract. -/
import Derived.Test.YtpmmahlmfcbbbaaN5
import Derived.Deep.QuietTactic
import Derived.BigQuiet
namespace Go.Proofs.Ytpmmahlmfcbbbaa
open Go.RowKit

set_option maxRecDepth 100000 in
set_option maxHeartbeats 4000000 in
theorem Same_any (n : Nt) (w : World) (A A' D D' : Option Addr) (c c' e e' : Nat) (hd : NR w (· < w.heap.size) A c A' c' n) (he : NR w (· < w.heap.size) D e D' e' n) :
    Calls Try.prog 15 #[.agg #[.slice A n.q.length c, .slice A' n.ap.length c'], .agg #[.slice D n.q.length e, .slice D' n.ap.length e']] w fun x w' => x = .returned (.bool true) ∧ Below w.heap.size w w' := by
  have hdh := Lib.hid hd
  have heh := Lib.hid he
  have hm1 := hd.max
  have hm2 := hd.cap
  have hm3 := hd.max'
  have hm4 := hd.cap'
  unfold maxLen at hm1 hm3
  clear hd he
  have kN := heap_alloc_new w (.cells #[.slice A n.q.length c, .slice A' n.ap.length c'] 25)
  have hbV1 := bnew w (.cells #[.slice A n.q.length c, .slice A' n.ap.length c'] 25)
  obtain ⟨V1, hV1⟩ : ∃ V, (w).alloc (.cells #[.slice A n.q.length c, .slice A' n.ap.length c'] 25) = V := ⟨_, rfl⟩
  have hsV1 : V1.heap.size = w.heap.size + 1 := by rw [← hV1]; simp
  rw [hV1] at kN hbV1
  have kM := heap_alloc_new V1 (.cells #[.slice D n.q.length e, .slice D' n.ap.length e'] 25)
  have hbV2 := bnew V1 (.cells #[.slice D n.q.length e, .slice D' n.ap.length e'] 25)
  obtain ⟨V2, hV2⟩ : ∃ V, (V1).alloc (.cells #[.slice D n.q.length e, .slice D' n.ap.length e'] 25) = V := ⟨_, rfl⟩
  have hsV2 : V2.heap.size = w.heap.size + 2 := by rw [← hV2]; simp; omega
  rw [hV2] at kM hbV2
  replace kN := blk_step kN hbV2
  rw [hsV1] at kM
  have hBV : Below w.heap.size w V2 := (hbV1).trans (hbV2.mono (by omega))
  clear hbV1 hbV2
  replace kN := Lib.hid kN
  replace kM := Lib.hid kM
  have z0 : V2.cell? ⟨w.heap.size, 0, none⟩ = _ := cell_of_row V2 _ 0 _ _ _ kN.out
  have z1 : V2.cell? ⟨w.heap.size, 1, none⟩ = _ := cell_of_row V2 _ 1 _ _ _ kN.out
  have z2 : V2.cell? ⟨w.heap.size + 1, 0, none⟩ = _ := cell_of_row V2 _ 0 _ _ _ kM.out
  have z3 : V2.cell? ⟨w.heap.size + 1, 1, none⟩ = _ := cell_of_row V2 _ 1 _ _ _ kM.out
  replace hBV := Lib.hid hBV
  replace hV1 := Lib.hid hV1
  replace hV2 := Lib.hid hV2
  replace hsV2 := Lib.hid hsV2
  clear hsV1
  go_enter Try.func15, Try.ntmps15
  go_wp2_with fail
  rw [hV1.out, hV2.out]
  clear z0 z1 z2 z3
  have hs2 := hsV2.out
  go_loopw [5] (fun i wr => ∃ k : Nat, k ≤ n.q.length ∧ i = .int .i64 k ∧ Below V2.heap.size V2 wr) (fun i _ => n.q.length - (intOf i).toNat)
  case atStart => exact ⟨0, Nat.zero_le _, rfl, Below.refl _ _⟩
  case round =>
    obtain ⟨k, hk, rfl, hb⟩ := hrel
    have hbw := Lib.hid (hBV.out.trans (hb.mono (by omega)))
    have kN2 := Lib.hid (blk_step kN.out hb)
    have kM2 := Lib.hid (blk_step kM.out hb)
    have y0 : wr.cell? ⟨w.heap.size, 0, none⟩ = _ := cell_of_row wr _ 0 _ _ _ kN2.out
    have y1 : wr.cell? ⟨w.heap.size, 1, none⟩ = _ := cell_of_row wr _ 1 _ _ _ kN2.out
    have y2 : wr.cell? ⟨w.heap.size + 1, 0, none⟩ = _ := cell_of_row wr _ 0 _ _ _ kM2.out
    have y3 : wr.cell? ⟨w.heap.size + 1, 1, none⟩ = _ := cell_of_row wr _ 1 _ _ _ kM2.out
    have hsb := hb.size
    by_cases hlt : k < n.q.length
    · obtain ⟨b1, off1, A1, c1, rfl, hs1, hc1, hd1, hg1, hl1, hl2, hr1, hI1⟩ := (hdh.out.q.keep (Kept.below hbw.out)).at_ hlt
      obtain ⟨b2, off2, A2, c2, rfl, hs2', hc2, hd2, hg2, hl3, hl4, hr2, -⟩ := (heh.out.q.keep (Kept.below hbw.out)).at_ hlt
      generalize n.q[k] = p at *
      have hlw := hbw.out.size
      have hN : Hid (∀ W, Below wr.heap.size wr W → W.cell? ⟨w.heap.size, 0, none⟩ = some (.slice (some ⟨b1, off1, none⟩) n.q.length c) ∧ W.cell? ⟨w.heap.size + 1, 0, none⟩ = some (.slice (some ⟨b2, off2, none⟩) n.q.length e)) := fun W hW =>
        ⟨cell_of_row W _ 0 _ _ _ (blk_step kN2.out hW), cell_of_row W _ 0 _ _ _ (blk_step kM2.out hW)⟩
      have hE : Hid (∀ W, Below wr.heap.size wr W → (W.cell? ⟨b1, off1 + k * 3, none⟩ = some (.int .i64 p.frm) ∧ W.cell? ⟨b1, off1 + k * 3 + 1, none⟩ = some (.int .i64 p.to) ∧ W.cell? ⟨b1, off1 + k * 3 + 2, none⟩ = some (.slice A1 p.data.length c1)) ∧ W.cell? ⟨b2, off2 + k * 3, none⟩ = some (.int .i64 p.frm) ∧ W.cell? ⟨b2, off2 + k * 3 + 1, none⟩ = some (.int .i64 p.to) ∧ W.cell? ⟨b2, off2 + k * 3 + 2, none⟩ = some (.slice A2 p.data.length c2)) := fun W hW =>
        ⟨⟨(hW.cell (Nat.lt_of_lt_of_le hs1 hlw)).trans hc1, (hW.cell (Nat.lt_of_lt_of_le hs1 hlw)).trans hd1, (hW.cell (Nat.lt_of_lt_of_le hs1 hlw)).trans hg1⟩, (hW.cell (Nat.lt_of_lt_of_le hs2' hlw)).trans hc2, (hW.cell (Nat.lt_of_lt_of_le hs2' hlw)).trans hd2, (hW.cell (Nat.lt_of_lt_of_le hs2' hlw)).trans hg2⟩
      have hsp : Hid (∀ W, Below wr.heap.size wr W → Calls Try.prog 22 #[.agg #[.int .i64 p.frm, .int .i64 p.to, .slice A1 p.data.length c1], .agg #[.int .i64 p.frm, .int .i64 p.to, .slice A2 p.data.length c2]] W fun x w' => x = .returned (.bool true) ∧ Below W.heap.size W w') := fun W hW => by
        have h := SamePacket_any p p W A1 A2 c1 c2 ((hr1.mono (fun g hg => Nat.lt_of_lt_of_le hg hlw)).keep (Kept.below hW) |>.mono (fun g hg => Nat.lt_of_lt_of_le hg hW.size)) ((hr2.mono (fun g hg => Nat.lt_of_lt_of_le hg hlw)).keep (Kept.below hW) |>.mono (fun g hg => Nat.lt_of_lt_of_le hg hW.size))
        rw [sameP_refl] at h
        exact h
      have hkl := Lib.hid hlt
      replace hb := Lib.hid hb
      clear hr1 hr2 hc1 hd1 hg1 hc2 hd2 hg2 y1 y3 hs1 hs2' hlw hsb
      go_wp2_with fail
      clear y0 y2
      refine wp_region_pre 12 0 (fun W => Below wr.heap.size wr W) (fun W W' => Below W.heap.size W W')
        (fun i v W => match i with
          | 0 => v = .pointer (some ⟨w.heap.size, 0, none⟩)
          | 1 => v = .slice (some ⟨b1, off1, none⟩) n.q.length c
          | 2 => v = .int .i64 (k : Int)
          | 3 => v = .pointer (some ⟨b1, off1 + k * 3, none⟩)
          | 4 => v = .agg #[.int .i64 p.frm, .int .i64 p.to, .slice A1 p.data.length c1]
          | 5 => v = .pointer (some ⟨w.heap.size + 1, 0, none⟩)
          | 6 => v = .slice (some ⟨b2, off2, none⟩) n.q.length e
          | 7 => v = .int .i64 (k : Int)
          | 8 => v = .pointer (some ⟨b2, off2 + k * 3, none⟩)
          | 9 => v = .agg #[.int .i64 p.frm, .int .i64 p.to, .slice A2 p.data.length c2]
          | 10 => v = .bool true
          | 11 => v = .bool false
          | _ => True) (fun _ => false)
        (by kernel_rfl) (by kernel_rfl) (by kernel_rfl) (by kernel_rfl) (by kernel_rfl) (by kernel_rfl) (by kernel_rfl) ?_ (fun _ _ h => h.size) (dN (Below.refl _ _) 1) ?_ ?_
      · intro i v W W' hb hF
        match i, hF with
        | 0, h => exact h
        | 1, h => exact h
        | 2, h => exact h
        | 3, h => exact h
        | 4, h => exact h
        | 5, h => exact h
        | 6, h => exact h
        | 7, h => exact h
        | 8, h => exact h
        | 9, h => exact h
        | 10, h => exact h
        | 11, h => exact h
        | _ + 12, _ => trivial
      · refine ⟨?_, ?_, ?_, ?_, ?_, ?_, ?_, ?_, ?_, ?_, ?_, ?_, trivial⟩
        · refine stepJ_any rfl fun ac W hAA hG hDD K hK => ?_
          have h2 := hAA.getD (t := 2) (by kernel_rfl)
          simp only [Array.getD_eq_getD_getElem?] at h2
          rw [if_pos (by rfl)]
          exact wp_val (v := .pointer (some ⟨w.heap.size, 0, none⟩)) (w' := W) (by simp [execOp, Act.eval, h2, go_sem]) (hK _ _ hG (Below.refl _ _) rfl (fun h => by cases h))
        · refine stepJ_any rfl fun ac W hAA hG hDD K hK => ?_
          have h30 := hDD.get 0 30 _ rfl rfl (by kernel_rfl)
          simp only [Array.getD_eq_getD_getElem?] at h30
          obtain ⟨k0, k1⟩ := hN.out W hG
          rw [if_pos (by rfl)]
          exact wp_val (v := .slice (some ⟨b1, off1, none⟩) n.q.length c) (w' := W) (by simp [execOp, Act.eval, h30, go_sem, k0]) (hK _ _ hG (Below.refl _ _) rfl (fun h => by cases h))
        · refine stepJ_any rfl fun ac W hAA hG hDD K hK => ?_
          have h5 := hAA.getD (t := 5) (by kernel_rfl)
          simp only [Array.getD_eq_getD_getElem?] at h5
          rw [if_pos (by rfl)]
          exact wp_val (v := .int .i64 (k : Int)) (w' := W) (by simp [execOp, Act.eval, h5, go_sem]) (hK _ _ hG (Below.refl _ _) rfl (fun h => by cases h))
        · refine stepJ_any rfl fun ac W hAA hG hDD K hK => ?_
          have h31 := hDD.get 1 31 _ rfl rfl (by kernel_rfl)
          have h32 := hDD.get 2 32 _ rfl rfl (by kernel_rfl)
          simp only [Array.getD_eq_getD_getElem?] at h31 h32
          have hkl := hkl.out
          rw [if_pos (by rfl)]
          exact wp_val (v := .pointer (some ⟨b1, off1 + k * 3, none⟩)) (w' := W) (by simp [execOp, Act.eval, h31, h32, go_sem, hkl]) (hK _ _ hG (Below.refl _ _) rfl (fun h => by cases h))
        · refine stepJ_any rfl fun ac W hAA hG hDD K hK => ?_
          have h33 := hDD.get 3 33 _ rfl rfl (by kernel_rfl)
          simp only [Array.getD_eq_getD_getElem?] at h33
          obtain ⟨⟨q0, q1, q2⟩, r0, r1, r2⟩ := hE.out W hG
          rw [if_pos (by rfl)]
          exact wp_val (v := .agg #[.int .i64 p.frm, .int .i64 p.to, .slice A1 p.data.length c1]) (w' := W) (by simp [execOp, Act.eval, h33, go_sem, q0, q1, q2]) (hK _ _ hG (Below.refl _ _) rfl (fun h => by cases h))
        · refine stepJ_any rfl fun ac W hAA hG hDD K hK => ?_
          have h3 := hAA.getD (t := 3) (by kernel_rfl)
          simp only [Array.getD_eq_getD_getElem?] at h3
          rw [if_pos (by rfl)]
          exact wp_val (v := .pointer (some ⟨w.heap.size + 1, 0, none⟩)) (w' := W) (by simp [execOp, Act.eval, h3, go_sem]) (hK _ _ hG (Below.refl _ _) rfl (fun h => by cases h))
        · refine stepJ_any rfl fun ac W hAA hG hDD K hK => ?_
          have h35 := hDD.get 5 35 _ rfl rfl (by kernel_rfl)
          simp only [Array.getD_eq_getD_getElem?] at h35
          obtain ⟨k0, k1⟩ := hN.out W hG
          rw [if_pos (by rfl)]
          exact wp_val (v := .slice (some ⟨b2, off2, none⟩) n.q.length e) (w' := W) (by simp [execOp, Act.eval, h35, go_sem, k1]) (hK _ _ hG (Below.refl _ _) rfl (fun h => by cases h))
        · refine stepJ_any rfl fun ac W hAA hG hDD K hK => ?_
          have h5 := hAA.getD (t := 5) (by kernel_rfl)
          simp only [Array.getD_eq_getD_getElem?] at h5
          rw [if_pos (by rfl)]
          exact wp_val (v := .int .i64 (k : Int)) (w' := W) (by simp [execOp, Act.eval, h5, go_sem]) (hK _ _ hG (Below.refl _ _) rfl (fun h => by cases h))
        · refine stepJ_any rfl fun ac W hAA hG hDD K hK => ?_
          have h36 := hDD.get 6 36 _ rfl rfl (by kernel_rfl)
          have h37 := hDD.get 7 37 _ rfl rfl (by kernel_rfl)
          simp only [Array.getD_eq_getD_getElem?] at h36 h37
          have hkl := hkl.out
          rw [if_pos (by rfl)]
          exact wp_val (v := .pointer (some ⟨b2, off2 + k * 3, none⟩)) (w' := W) (by simp [execOp, Act.eval, h36, h37, go_sem, hkl]) (hK _ _ hG (Below.refl _ _) rfl (fun h => by cases h))
        · refine stepJ_any rfl fun ac W hAA hG hDD K hK => ?_
          have h38 := hDD.get 8 38 _ rfl rfl (by kernel_rfl)
          simp only [Array.getD_eq_getD_getElem?] at h38
          obtain ⟨⟨q0, q1, q2⟩, r0, r1, r2⟩ := hE.out W hG
          rw [if_pos (by rfl)]
          exact wp_val (v := .agg #[.int .i64 p.frm, .int .i64 p.to, .slice A2 p.data.length c2]) (w' := W) (by simp [execOp, Act.eval, h38, go_sem, r0, r1, r2]) (hK _ _ hG (Below.refl _ _) rfl (fun h => by cases h))
        · refine stepJ_any rfl fun ac W hAA hG hDD K hK => ?_
          have h34 := hDD.get 4 34 _ rfl rfl (by kernel_rfl)
          have h39 := hDD.get 9 39 _ rfl rfl (by kernel_rfl)
          simp only [Array.getD_eq_getD_getElem?] at h34 h39
          rw [if_pos (by rfl)]
          refine wp_call (f := 22) (args := #[.agg #[.int .i64 p.frm, .int .i64 p.to, .slice A1 p.data.length c1], .agg #[.int .i64 p.frm, .int .i64 p.to, .slice A2 p.data.length c2]]) (by simp [execOp, Act.eval, h34, h39, go_sem]) ((hsp.out W hG).mono fun e W9 he => ?_)
          obtain ⟨rfl, hbw⟩ := he
          exact hK _ _ (hG.trans (hbw.mono hG.size)) hbw rfl (fun h => by cases h)
        · refine stepJ_any rfl fun ac W hAA hG hDD K hK => ?_
          have h40 := hDD.get 10 40 _ rfl rfl (by kernel_rfl)
          simp only [Array.getD_eq_getD_getElem?] at h40
          rw [if_pos (by rfl)]
          exact wp_val (v := .bool false) (w' := W) (by simp [execOp, Act.eval, h40, go_sem]) (hK _ _ hG (Below.refl _ _) rfl (fun h => by cases h))
      intro fu T w9 hG hF hne hltb
      have e30 : T 30 = .pointer (some ⟨w.heap.size, 0, none⟩) := hF 0 _ rfl (by omega)
      have e31 : T 31 = .slice (some ⟨b1, off1, none⟩) n.q.length c := hF 1 _ rfl (by omega)
      have e32 : T 32 = .int .i64 (k : Int) := hF 2 _ rfl (by omega)
      have e33 : T 33 = .pointer (some ⟨b1, off1 + k * 3, none⟩) := hF 3 _ rfl (by omega)
      have e34 : T 34 = .agg #[.int .i64 p.frm, .int .i64 p.to, .slice A1 p.data.length c1] := hF 4 _ rfl (by omega)
      have e35 : T 35 = .pointer (some ⟨w.heap.size + 1, 0, none⟩) := hF 5 _ rfl (by omega)
      have e36 : T 36 = .slice (some ⟨b2, off2, none⟩) n.q.length e := hF 6 _ rfl (by omega)
      have e37 : T 37 = .int .i64 (k : Int) := hF 7 _ rfl (by omega)
      have e38 : T 38 = .pointer (some ⟨b2, off2 + k * 3, none⟩) := hF 8 _ rfl (by omega)
      have e39 : T 39 = .agg #[.int .i64 p.frm, .int .i64 p.to, .slice A2 p.data.length c2] := hF 9 _ rfl (by omega)
      have e40 : T 40 = .bool true := hF 10 _ rfl (by omega)
      have e41 : T 41 = .bool false := hF 11 _ rfl (by omega)
      clear hF hne hltb
      simp only [List.take, fillT, List.setIfInBounds_toArray, List.set_cons_zero, List.set_cons_succ, e30, e31, e32, e33, e34, e35, e36, e37, e38, e39, e40, e41]
      clear e30 e31 e32 e33 e34 e35 e36 e37 e38 e39 e40 e41
      refine wpAny_done (by kernel_rfl) ?_ _
      replace hG := Lib.hid (hb.out.trans (hG.mono hb.out.size))
      go_wp2_with fail
      go_roundw
      case rel => exact ⟨k + 1, by omega, by go_num, hG.out⟩
      case measure => simp [intOf]; omega
    · have hle : ¬ ((k : Int) < n.q.length) := by omega
      have hb5 := Lib.hid hb
      clear hlt hb hsb
      go_wp2_with fail
      clear y0 y1 y2 y3
      go_loopw [6] (fun i wr => ∃ k : Nat, k ≤ n.ap.length ∧ i = .int .i64 k ∧ Below V2.heap.size V2 wr) (fun i _ => n.ap.length - (intOf i).toNat)
      case atStart => exact ⟨0, Nat.zero_le _, rfl, hb5.out⟩
      case round =>
        clear hbw kN2 kM2
        obtain ⟨q, hq, rfl, hb⟩ := hrel
        have hbw := Lib.hid (hBV.out.trans (hb.mono (by omega)))
        have kN2 := Lib.hid (blk_step kN.out hb)
        have kM2 := Lib.hid (blk_step kM.out hb)
        have y0 : wr.cell? ⟨w.heap.size, 0, none⟩ = _ := cell_of_row wr _ 0 _ _ _ kN2.out
        have y1 : wr.cell? ⟨w.heap.size, 1, none⟩ = _ := cell_of_row wr _ 1 _ _ _ kN2.out
        have y2 : wr.cell? ⟨w.heap.size + 1, 0, none⟩ = _ := cell_of_row wr _ 0 _ _ _ kM2.out
        have y3 : wr.cell? ⟨w.heap.size + 1, 1, none⟩ = _ := cell_of_row wr _ 1 _ _ _ kM2.out
        replace hb := Lib.hid hb
        by_cases hlt : q < n.ap.length
        · obtain ⟨b1, off1, rfl, hs1, hc1, hd1, hI1⟩ := (hdh.out.ap.keep (Kept.below hbw.out)).at_ hlt
          obtain ⟨b2, off2, rfl, hs2', hc2, hd2, hI2⟩ := (heh.out.ap.keep (Kept.below hbw.out)).at_ hlt
          generalize n.ap[q] = x at *
          have hEq : ∀ n, (Op.equalIn 10000 55 (.agg #[.int .i64 x.1, .int .i64 x.2]) (.agg #[.int .i64 x.1, .int .i64 x.2])).run Try.prog (wr.drewN n) = .ok true (wr.drewN n) := fun n => by
            rw [run_equalIn_two (wr.drewN n) 9998 55 3 Try.underlying55 Try.underlying3 Try.sizeOf3]
            congr 1
            simp
          go_wp2_with fail
          go_quiet (fail)
          go_wp2_with fail
          go_roundw
          case rel => exact ⟨q + 1, by omega, by go_num, dN hb.out _⟩
          case measure => simp [intOf]; omega
        · have hle : ¬ ((q : Int) < n.ap.length) := by omega
          clear hlt
          go_wp2_with fail
          go_ret
          exact ⟨rfl, hbw.out⟩
end Go.Proofs.Ytpmmahlmfcbbbaa
