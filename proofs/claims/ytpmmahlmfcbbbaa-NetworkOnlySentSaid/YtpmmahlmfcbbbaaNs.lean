/- Send: the contract. -/
import Derived.Test.YtpmmahlmfcbbbaaNa
import Derived.Test.YtpmmahlmfcbbbaaNk
import Derived.Deep.DeepCutAuto
namespace Go.Proofs.Ytpmmahlmfcbbbaa
open Go.RowKit

theorem sendN_bad {n : Nt} {p : Pk} (h : ntB n = false ∨ pkB p = false) : sendN n p = (zeroNt, 60) := by
  unfold sendN; rw [if_pos (by rcases h with h | h <;> rw [h] <;> simp)]
theorem sendN_ok {n : Nt} {p : Pk} (h : ntB n = true) (h2 : pkB p = true) : sendN n p = addN n p := by
  unfold sendN addN; rw [h, h2, if_neg (by decide)]
/-- Behind a call that hands back links: the box of the result is filled. -/
theorem NtPost.store {S S' : Nat → Prop} {x : Nt × Int} {w W w1 : World} {A A' : Option Addr} {c c' X : Nat} (hB : Below w.heap.size w w1) (hX : w.heap.size ≤ X) (hXW : X < W.heap.size) (hSX : ∀ b, S' b → b ≠ X ∧ (S b ∨ (w.heap.size ≤ b ∧ b < w1.heap.size))) (hd : NR w1 (Sn S' W w1) A c A' c' x.1) {v0 v1 : Value} :
    Below w.heap.size w ((w1.setCell ⟨X, 0, none⟩ v0).setCell ⟨X, 1, none⟩ v1) ∧ NR ((w1.setCell ⟨X, 0, none⟩ v0).setCell ⟨X, 1, none⟩ v1) (Sn S w ((w1.setCell ⟨X, 0, none⟩ v0).setCell ⟨X, 1, none⟩ v1)) A c A' c' x.1 := by
  refine ⟨(hB.setCell (p := ⟨X, 0, none⟩) hX _).setCell (p := ⟨X, 1, none⟩) hX _, (hd.keep ((Kept.set fun b hb => ?_).trans (Kept.set fun b hb => ?_))).mono fun b hb => ?_⟩
  · rcases hb with hb | hb
    · exact (hSX b hb).1
    · omega
  · rcases hb with hb | hb
    · exact (hSX b hb).1
    · omega
  · rcases hb with hb | hb
    · rcases (hSX b hb).2 with h | h
      · exact .inl h
      · exact .inr ⟨h.1, by simpa using h.2⟩
    · exact .inr ⟨by have := hb.1; omega, by simpa using hb.2⟩

set_option maxRecDepth 100000 in
set_option maxHeartbeats 2000000 in
theorem Send_any (n : Nt) (p : Pk) (w : World) (A A' Ap : Option Addr) (c c' cp : Nat) (S : Nat → Prop) (hS : ∀ b, S b → b < w.heap.size) (hd : NR w S A c A' c' n) (hI : I64 p.frm ∧ I64 p.to) (hpl : p.data.length ≤ cp ∧ cp ≤ maxLen) (hp : RBs w S Ap p.data) :
    Calls Try.prog 11 #[.agg #[.slice A n.q.length c, .slice A' n.ap.length c'], .agg #[.int .i64 p.frm, .int .i64 p.to, .slice Ap p.data.length cp]] w (NtPost S (sendN n p) w) := by
  have hdh := Lib.hid hd
  clear hd
  have kN := heap_alloc_new w (.cells #[.slice A n.q.length c, .slice A' n.ap.length c'] 25)
  have hbV1 := bnew w (.cells #[.slice A n.q.length c, .slice A' n.ap.length c'] 25)
  obtain ⟨V1, hV1⟩ : ∃ V, (w).alloc (.cells #[.slice A n.q.length c, .slice A' n.ap.length c'] 25) = V := ⟨_, rfl⟩
  have hsV1 : V1.heap.size = w.heap.size + 1 := by rw [← hV1]; simp
  rw [hV1] at kN hbV1
  have kP := heap_alloc_new V1 (.cells #[.int .i64 p.frm, .int .i64 p.to, .slice Ap p.data.length cp] 28)
  have hbV2 := bnew V1 (.cells #[.int .i64 p.frm, .int .i64 p.to, .slice Ap p.data.length cp] 28)
  obtain ⟨V2, hV2⟩ : ∃ V, (V1).alloc (.cells #[.int .i64 p.frm, .int .i64 p.to, .slice Ap p.data.length cp] 28) = V := ⟨_, rfl⟩
  have hsV2 : V2.heap.size = w.heap.size + 2 := by rw [← hV2]; simp; omega
  rw [hV2] at kP hbV2
  replace kN := blk_step kN hbV2
  have kX := heap_alloc_new V2 (.cells #[.slice none 0 0, .slice none 0 0] 25)
  have hbV3 := bnew V2 (.cells #[.slice none 0 0, .slice none 0 0] 25)
  obtain ⟨V3, hV3⟩ : ∃ V, (V2).alloc (.cells #[.slice none 0 0, .slice none 0 0] 25) = V := ⟨_, rfl⟩
  have hsV3 : V3.heap.size = w.heap.size + 3 := by rw [← hV3]; simp; omega
  rw [hV3] at kX hbV3
  replace kN := blk_step kN hbV3
  replace kP := blk_step kP hbV3
  rw [hsV1] at kP
  rw [hsV2] at kX
  have hBV : Below w.heap.size w V3 := ((hbV1).trans (hbV2.mono (by omega))).trans (hbV3.mono (by omega))
  clear hbV1 hbV2 hbV3
  have hC := Lib.hid (Check_any n V3 A A' c c' w.heap.size (by omega) ((hdh.out.mono hS).keep (Kept.below hBV)))
  have hP := Lib.hid (fun W => isPacket_any p W Ap cp)
  have hBV := Lib.hid hBV
  have hpl := Lib.hid hpl
  have hp := Lib.hid hp
  have hI := Lib.hid hI
  have kN := Lib.hid kN
  have kP := Lib.hid kP
  have kX := Lib.hid kX
  replace hV1 := Lib.hid hV1
  replace hV2 := Lib.hid hV2
  replace hV3 := Lib.hid hV3
  replace hsV3 := Lib.hid hsV3
  clear hsV1 hsV2
  go_enter Try.func11, Try.ntmps11
  go_wp2_with fail
  rw [hV1.out, hV2.out, hV3.out]
  refine hC.out.mono ?_
  rintro e w1 ⟨rfl, hb⟩
  have kN := Lib.hid (blk_step kN.out hb)
  have kP := Lib.hid (blk_step kP.out hb)
  have kX := Lib.hid (blk_step kX.out hb)
  have hB1 := Lib.hid (hBV.out.trans (hb.mono hBV.out.size))
  have hsz1 := hb.size
  rw [hsV3.out] at hsz1
  clear hb hC hV1 hV2 hV3
  rcases nchk_eq n with ⟨h1, h2⟩ | ⟨h1, h2⟩
  case inr =>
    rw [h2]
    have hv := Lib.hid (sendN_bad (p := p) (.inl h1))
    clear h1 h2
    have x0 : w1.cell? ⟨w.heap.size + 2, 0, none⟩ = _ := cell_of_row w1 _ 0 _ _ _ kX.out
    have x1 : w1.cell? ⟨w.heap.size + 2, 1, none⟩ = _ := cell_of_row w1 _ 1 _ _ _ kX.out
    have fX := fun i => frozen_of_row w1 _ i _ _ kX.out
    go_wp2_with fail
    exact bodyPost_ret (v := .tuple #[.agg #[.slice none 0 0, .slice none 0 0], .int .i64 60]) (by simp [results, Try.results11, go_sem, x0, x1, fX]) rfl (NtPost.fail hv.out ((hB1.out.setCell (by simp; omega) _).setCell (by simp; omega) _) rfl)
  case inl =>
  rw [h2]
  have hnt := Lib.hid h1
  clear h1 h2
  have p0 : w1.cell? ⟨w.heap.size + 1, 0, none⟩ = _ := cell_of_row w1 _ 0 _ _ _ kP.out
  have p1 : w1.cell? ⟨w.heap.size + 1, 1, none⟩ = _ := cell_of_row w1 _ 1 _ _ _ kP.out
  have p2 : w1.cell? ⟨w.heap.size + 1, 2, none⟩ = _ := cell_of_row w1 _ 2 _ _ _ kP.out
  go_wp2_with fail
  refine (hP.out _).mono ?_
  rintro e w2 ⟨rfl, hb⟩
  have kN := Lib.hid (blk_step kN.out hb)
  have kP := Lib.hid (blk_step kP.out hb)
  have kX := Lib.hid (blk_step kX.out hb)
  have hB2 := Lib.hid (hB1.out.trans (hb.mono hB1.out.size))
  have hsz2 := hb.size
  clear hb hP p0 p1 p2 hB1
  cases hpk : pkB p with
  | false =>
    have hv := Lib.hid (sendN_bad (n := n) (.inr hpk))
    clear hpk
    have x0 : w2.cell? ⟨w.heap.size + 2, 0, none⟩ = _ := cell_of_row w2 _ 0 _ _ _ kX.out
    have x1 : w2.cell? ⟨w.heap.size + 2, 1, none⟩ = _ := cell_of_row w2 _ 1 _ _ _ kX.out
    have fX := fun i => frozen_of_row w2 _ i _ _ kX.out
    go_wp2_with fail
    exact bodyPost_ret (v := .tuple #[.agg #[.slice none 0 0, .slice none 0 0], .int .i64 60]) (by simp [results, Try.results11, go_sem, x0, x1, fX]) rfl (NtPost.fail hv.out ((hB2.out.setCell (by simp; omega) _).setCell (by simp; omega) _) rfl)
  | true =>
    have hv := Lib.hid (sendN_ok hnt.out hpk)
    have hql := Lib.hid (ntB_iff.1 hnt.out).1
    have hdl := (pkB_iff.1 hpk).2
    have hCl := Lib.hid (Clone_any p.data (by omega) w2 Ap cp ((hp.out.mono hS).keep (Kept.below hB2.out) |>.mono fun b hb => by omega))
    clear hpk hdl
    have p2 : w2.cell? ⟨w.heap.size + 1, 2, none⟩ = _ := cell_of_row w2 _ 2 _ _ _ kP.out
    go_wp2_with fail
    refine hCl.out.mono ?_
    rintro e w3 ⟨v, rfl, ⟨A1, c1, rfl, hr1, hr2, hr3⟩, hb⟩
    replace kN := blk_step kN.out hb
    replace kP := blk_step kP.out hb
    replace kX := blk_step kX.out hb
    have hB3 := hB2.out.trans (hb.mono hB2.out.size)
    have hsz3 := hb.size
    clear hb hCl p2 hB2
    -- the box of the packet holds the copy
    have kP2 := heap_setCell_same w3 (w.heap.size + 1) 2 _ _ (.slice A1 p.data.length c1) kP
    have kN2 := (heap_setCell_other w3 ⟨w.heap.size + 1, 2, none⟩ w.heap.size (.slice A1 p.data.length c1) (by simp)).trans kN
    have kX2 := (heap_setCell_other w3 ⟨w.heap.size + 1, 2, none⟩ (w.heap.size + 2) (.slice A1 p.data.length c1) (by simp)).trans kX
    have hB4 := hB3.setCell (p := ⟨w.heap.size + 1, 2, none⟩) (by simp) (.slice A1 p.data.length c1)
    have hr4 : RBs (w3.setCell ⟨w.heap.size + 1, 2, none⟩ (.slice A1 p.data.length c1)) (fun g => w2.heap.size ≤ g ∧ g < w3.heap.size) A1 p.data := hr3.keep (Kept.set fun b hb => by omega)
    have hs4 : (w3.setCell ⟨w.heap.size + 1, 2, none⟩ (.slice A1 p.data.length c1)).heap.size = w3.heap.size := by simp
    have fP := fun i => frozen_of_row w3 _ i _ _ kP
    have p2 : w3.cell? ⟨w.heap.size + 1, 2, none⟩ = _ := cell_of_row w3 _ 2 _ _ _ kP
    obtain ⟨W, hW⟩ : ∃ W, w3.setCell ⟨w.heap.size + 1, 2, none⟩ (.slice A1 p.data.length c1) = W := ⟨_, rfl⟩
    rw [hW] at kP2 kN2 kX2 hB4 hr4 hs4
    have hadd := Lib.hid (add_any n p hql.out W A A' A1 c c' c1 (fun b => S b ∨ (w2.heap.size ≤ b ∧ b < w3.heap.size)) (fun b hb => by rcases hb with hb | hb; (have := hS b hb; omega); omega)
      ((hdh.out.keep (Kept.of hS hB4)).mono fun b hb => .inl hb) hI.out ⟨hr1, hr2⟩ (hr4.mono fun b hb => .inr hb))
    have n0 : W.cell? ⟨w.heap.size, 0, none⟩ = _ := cell_of_row W _ 0 _ _ _ kN2
    have n1 : W.cell? ⟨w.heap.size, 1, none⟩ = _ := cell_of_row W _ 1 _ _ _ kN2
    have q0 : W.cell? ⟨w.heap.size + 1, 0, none⟩ = some (.int .i64 p.frm) := (cell_of_row W _ 0 _ _ _ kP2).trans rfl
    have q1 : W.cell? ⟨w.heap.size + 1, 1, none⟩ = some (.int .i64 p.to) := (cell_of_row W _ 1 _ _ _ kP2).trans rfl
    have q2 : W.cell? ⟨w.heap.size + 1, 2, none⟩ = some (.slice A1 p.data.length c1) := (cell_of_row W _ 2 _ _ _ kP2).trans rfl
    have kX2 := Lib.hid kX2
    have hB4 := Lib.hid hB4
    have hr4 := Lib.hid hr4
    have hW := Lib.hid hW
    clear kN kP kX kN2 kP2 hB3 hr3 hs4
    go_upto_region 4 with fail
    go_wp2_with fail
    refine hadd.out.mono ?_
    intro e w4 hpost
    obtain ⟨A2, c2, A2', c2', rfl, hd4, hb⟩ := hpost.get
    have kX3 := blk_step kX2.out hb
    have x0 : w4.cell? ⟨w.heap.size + 2, 0, none⟩ = _ := cell_of_row w4 _ 0 _ _ _ kX3
    have x1 : w4.cell? ⟨w.heap.size + 2, 1, none⟩ = _ := cell_of_row w4 _ 1 _ _ _ kX3
    have fX := fun i => frozen_of_row w4 _ i _ _ kX3
    have hB5 := Lib.hid (hB4.out.trans (hb.mono hB4.out.size))
    have hd4 := Lib.hid hd4
    have hWs : W.heap.size = w3.heap.size := by rw [← hW.out]; simp
    have hsb := hb.size
    clear hb hpost n0 n1 q0 q1 q2 p2 fP hadd
    go_wp2_with fail
    have hst := NtPost.store (x := addN n p) (S := S) (X := w.heap.size + 2) (v0 := .slice A2 (addN n p).1.q.length c2) (v1 := .slice A2' (addN n p).1.ap.length c2') hB5.out (by omega) (by omega) (fun b hb => by rcases hb with hb | hb; (have := hS b hb; exact ⟨by omega, .inl hb⟩); exact ⟨by omega, .inr ⟨by omega, by omega⟩⟩) hd4.out
    refine bodyPost_ret (v := .tuple #[.agg #[.slice A2 (addN n p).1.q.length c2, .slice A2' (addN n p).1.ap.length c2'], .int .i64 (addN n p).2]) (by simp [results, Try.results11, go_sem, x0, x1, fX]) rfl (by rw [hv.out]; exact ⟨hst.1, A2, c2, A2', c2', rfl, hst.2⟩)
end Go.Proofs.Ytpmmahlmfcbbbaa
