/- add: the contract. -/
import Derived.Test.YtpmmahlmfcbbbaaNp
namespace Go.Proofs.Ytpmmahlmfcbbbaa
open Go.RowKit

def addN (n : Nt) (p : Pk) : Nt × Int := if n.q.length = 4096 then (zeroNt, 2) else (⟨n.q ++ [p], n.ap⟩, 0)

set_option maxRecDepth 100000 in
set_option maxHeartbeats 2000000 in
theorem add_any (n : Nt) (p : Pk) (hq : n.q.length ≤ 4096) (w : World) (A A' Ap : Option Addr) (c c' cp : Nat) (S : Nat → Prop) (hS : ∀ b, S b → b < w.heap.size) (hd : NR w S A c A' c' n) (hI : I64 p.frm ∧ I64 p.to) (hpl : p.data.length ≤ cp ∧ cp ≤ maxLen) (hp : RBs w S Ap p.data) :
    Calls Try.prog 30 #[.agg #[.slice A n.q.length c, .slice A' n.ap.length c'], .agg #[.int .i64 p.frm, .int .i64 p.to, .slice Ap p.data.length cp]] w (NtPost S (addN n p) w) := by
  have hdh := Lib.hid hd
  clear hd
  by_cases h4 : n.q.length = 4096
  · have h4' : ((n.q.length : Int) == 4096) = true := by rw [h4]; rfl
    have hv := Lib.hid (show addN n p = (zeroNt, 2) by unfold addN; rw [if_pos h4])
    clear h4
    go_enter Try.func30, Try.ntmps30
    go_wp2_with fail
    exact bodyPost_ret (v := .tuple #[.agg #[.slice none 0 0, .slice none 0 0], .int .i64 2]) (by simp [results, Try.results30, go_sem]) rfl (NtPost.fail hv.out (((bnew w _).alloc (by simp) _).alloc (by simp; omega) _) rfl)
  · have h4' : ((n.q.length : Int) == 4096) = false := by simp only [beq_eq_false_iff_ne, ne_eq]; omega
    have hv := Lib.hid (show addN n p = (⟨n.q ++ [p], n.ap⟩, 0) by unfold addN; rw [if_neg h4])
    clear h4
    obtain ⟨xs, hx1, hx2, hx3⟩ := hdh.out.q.vals
    have k0 := heap_alloc_new w (.cells #[.slice A n.q.length c, .slice A' n.ap.length c'] 25)
    have hb0 := bnew w (.cells #[.slice A n.q.length c, .slice A' n.ap.length c'] 25)
    obtain ⟨V1, hV1⟩ : ∃ V, w.alloc (.cells #[.slice A n.q.length c, .slice A' n.ap.length c'] 25) = V := ⟨_, rfl⟩
    have hs1 : V1.heap.size = w.heap.size + 1 := by rw [← hV1]; simp
    rw [hV1] at k0 hb0
    have hb1 := bnew V1 (.cells #[.int .i64 p.frm, .int .i64 p.to, .slice Ap p.data.length cp] 28)
    obtain ⟨V2, hV2⟩ : ∃ V, V1.alloc (.cells #[.int .i64 p.frm, .int .i64 p.to, .slice Ap p.data.length cp] 28) = V := ⟨_, rfl⟩
    have hs2 : V2.heap.size = w.heap.size + 2 := by rw [← hV2]; simp; omega
    rw [hV2] at hb1
    have hb2 := bnew V2 (.cells #[.slice none 0 0, .slice none 0 0] 25)
    have k2 := heap_alloc_new V2 (.cells #[.slice none 0 0, .slice none 0 0] 25)
    obtain ⟨V3, hV3⟩ : ∃ V, V2.alloc (.cells #[.slice none 0 0, .slice none 0 0] 25) = V := ⟨_, rfl⟩
    have hs3 : V3.heap.size = w.heap.size + 3 := by rw [← hV3]; simp; omega
    rw [hV3] at hb2 k2
    have hb3 := bnew V3 (.cells #[.int .i64 p.frm, .int .i64 p.to, .slice Ap p.data.length cp] 28)
    have k3 := heap_alloc_new V3 (.cells #[.int .i64 p.frm, .int .i64 p.to, .slice Ap p.data.length cp] 28)
    obtain ⟨V4, hV4⟩ : ∃ V, V3.alloc (.cells #[.int .i64 p.frm, .int .i64 p.to, .slice Ap p.data.length cp] 28) = V := ⟨_, rfl⟩
    have hs4 : V4.heap.size = w.heap.size + 4 := by rw [← hV4]; simp; omega
    rw [hV4] at hb3 k3
    have hb4 := bnew V4 (.cells #[.slice A n.q.length c, .slice (some ⟨w.heap.size + 1 + 1 + 1, 0, none⟩) 1 1] 22)
    have k4 := heap_alloc_new V4 (.cells #[.slice A n.q.length c, .slice (some ⟨w.heap.size + 1 + 1 + 1, 0, none⟩) 1 1] 22)
    obtain ⟨V5, hV5⟩ : ∃ V, V4.alloc (.cells #[.slice A n.q.length c, .slice (some ⟨w.heap.size + 1 + 1 + 1, 0, none⟩) 1 1] 22) = V := ⟨_, rfl⟩
    have hs5 : V5.heap.size = w.heap.size + 5 := by rw [← hV5]; simp; omega
    rw [hV5] at hb4 k4
    have hB5 : Below w.heap.size w V5 := (((hb0.trans (hb1.mono (by omega))).trans (hb2.mono (by omega))).trans (hb3.mono (by omega))).trans (hb4.mono (by omega))
    have kN := blk_step (blk_step (blk_step (blk_step k0 hb1) hb2) hb3) hb4
    have kX := blk_step (blk_step k2 hb3) hb4
    have kR := blk_step k3 hb4
    rw [hs2] at kX
    rw [hs3] at kR
    rw [hs4] at k4
    have hC := ConcatP_any n.q.length hq V5 (w.heap.size + 4) (w.heap.size + 3) A c xs [.int .i64 p.frm, .int .i64 p.to, .slice Ap p.data.length cp] hx1.1 rfl (cell_of_row V5 _ 0 _ _ _ k4) (cell_of_row V5 _ 1 _ _ _ k4)
      (fun h => by
        obtain ⟨ad, e, hc⟩ := hx2 h
        exact ⟨ad, e, fun j u hu => (hB5.cell (World.block_lt_of_cell? w _ (hc j u hu))).trans (hc j u hu)⟩)
      (fun j u hu => by
        rw [add_none, Nat.zero_add, cell_of_row V5 _ j _ _ _ kR]
        simpa using hu) hx3 (by simp [Value.oneCell'])
    have hC := Lib.hid hC
    have hx1 := Lib.hid hx1
    have kN := Lib.hid kN
    have kX := Lib.hid kX
    have hB5 := Lib.hid hB5
    have hpl := Lib.hid hpl
    have hp := Lib.hid hp
    have hI := Lib.hid hI
    clear hx2 hx3 k0 hb0 hb1 hb2 hb3 hb4 k2 k3 k4 kR
    replace hV1 := Lib.hid hV1
    replace hV2 := Lib.hid hV2
    replace hV3 := Lib.hid hV3
    replace hV4 := Lib.hid hV4
    replace hV5 := Lib.hid hV5
    replace hs5 := Lib.hid hs5
    clear hs1 hs2 hs3 hs4
    go_enter Try.func30, Try.ntmps30
    go_wp2_with fail
    rw [hV1.out, hV2.out, hV3.out, hV4.out, hV5.out]
    refine hC.out.mono ?_
    rintro e w1 ⟨v, rfl, ho, hb⟩
    have kN := blk_step kN.out hb
    have kX := blk_step kX.out hb
    have hB6 := hB5.out.trans (hb.mono hB5.out.size)
    have hsz := hb.size
    rw [hs5.out] at hsz
    obtain ⟨Aq, cq, rfl, hq1, hq2, hq3⟩ := QR.ofRow (ps := n.q ++ [p]) (by rw [List.length_append]; exact ho) ((hx1.out.keep (Kept.of hS hB6)).append (PkV.one p Ap cp hI.out hpl.out (hp.out.keep (Kept.of hS hB6))))
    have y0 : w1.cell? ⟨w.heap.size, 0, none⟩ = _ := cell_of_row w1 _ 0 _ _ _ kN
    have y1 : w1.cell? ⟨w.heap.size, 1, none⟩ = _ := cell_of_row w1 _ 1 _ _ _ kN
    have x0 : w1.cell? ⟨w.heap.size + 2, 0, none⟩ = _ := cell_of_row w1 _ 0 _ _ _ kX
    have x1 : w1.cell? ⟨w.heap.size + 2, 1, none⟩ = _ := cell_of_row w1 _ 1 _ _ _ kX
    have fN := fun i => frozen_of_row w1 _ i _ _ kN
    have fX := fun i => frozen_of_row w1 _ i _ _ kX
    have hB6 := Lib.hid hB6
    have hqs := Lib.hid (And.intro hq1 (And.intro hq2 hq3))
    clear ho hq1 hq2 hq3 kN kX hb hC hV1 hV2 hV3 hV4 hV5
    go_wp2_with fail
    have hF : Below w.heap.size w (((w1.setCell ⟨w.heap.size, 0, none⟩ (Value.slice Aq (n.q.length + 1) cq)).setCell ⟨w.heap.size + 1 + 1, 0, none⟩ (Value.slice Aq (n.q.length + 1) cq)).setCell ⟨w.heap.size + 1 + 1, 1, none⟩ (Value.slice A' n.ap.length c')) :=
      (((hB6.out.setCell (Nat.le_refl _) _).setCell (by simp; omega) _).setCell (by simp; omega) _)
    have hK : Kept (fun g => S g ∨ (V5.heap.size ≤ g ∧ g < w1.heap.size)) w1 (((w1.setCell ⟨w.heap.size, 0, none⟩ (Value.slice Aq (n.q.length + 1) cq)).setCell ⟨w.heap.size + 1 + 1, 0, none⟩ (Value.slice Aq (n.q.length + 1) cq)).setCell ⟨w.heap.size + 1 + 1, 1, none⟩ (Value.slice A' n.ap.length c')) := by
      have h5 := hs5.out
      have hne : ∀ b, S b ∨ (V5.heap.size ≤ b ∧ b < w1.heap.size) → b ≠ w.heap.size ∧ b ≠ w.heap.size + 1 + 1 := fun b hb => by
        rcases hb with hb | hb
        · have := hS b hb; omega
        · omega
      exact ((Kept.set fun b hb => (hne b hb).1).trans (Kept.set fun b hb => (hne b hb).2)).trans (Kept.set fun b hb => (hne b hb).2)
    have h5 := hs5.out
    refine bodyPost_ret (v := .tuple #[.agg #[.slice Aq (n.q.length + 1) cq, .slice A' n.ap.length c'], .int .i64 0]) (by simp [results, Try.results30, go_sem, x0, x1, fX]) rfl (NtPost.of hv.out hF Aq cq A' c' (by simp) ⟨hqs.out.1, hqs.out.2.1, hdh.out.cap', hdh.out.max', (hqs.out.2.2.keep hK).mono fun b hb => ?_, (hdh.out.ap.keep (Kept.of hS hF)).mono fun b hb => .inl hb⟩)
    rcases hb with hb | hb
    · exact .inl hb
    · exact .inr ⟨by omega, by simp; omega⟩
end Go.Proofs.Ytpmmahlmfcbbbaa
