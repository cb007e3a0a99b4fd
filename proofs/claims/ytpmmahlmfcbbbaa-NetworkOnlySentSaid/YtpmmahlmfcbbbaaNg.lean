/- The reference's Deliver: the contract. -/
import Derived.Test.YtpmmahlmfcbbbaaNj
namespace Go.Proofs.Ytpmmahlmfcbbbaa
open Go.RowKit

set_option maxRecDepth 100000 in
set_option maxHeartbeats 4000000 in
theorem rDeliver_any (n : Nt) (i : Int) (w : World) (A A' : Option Addr) (c c' : Nat) (S : Nat → Prop) (hS : ∀ b, S b → b < w.heap.size) (hd : NR w S A c A' c' n) :
    Calls Try.prog 21 #[.agg #[.slice A n.q.length c, .slice A' n.ap.length c'], .int .i64 i] w (DvPost S (delivN n i) (loseN n i).1 (loseN n i).2 w) := by
  have hdh := Lib.hid hd
  clear hd
  have kN := heap_alloc_new w (.cells #[.slice A n.q.length c, .slice A' n.ap.length c'] 25)
  have hbV1 := bnew w (.cells #[.slice A n.q.length c, .slice A' n.ap.length c'] 25)
  obtain ⟨V1, hV1⟩ : ∃ V, (w).alloc (.cells #[.slice A n.q.length c, .slice A' n.ap.length c'] 25) = V := ⟨_, rfl⟩
  have hsV1 : V1.heap.size = w.heap.size + 1 := by rw [← hV1]; simp
  rw [hV1] at kN hbV1
  have kP := heap_alloc_new V1 (.cells #[.int .i64 0, .int .i64 0, .slice none 0 0] 28)
  have hbV2 := bnew V1 (.cells #[.int .i64 0, .int .i64 0, .slice none 0 0] 28)
  obtain ⟨V2, hV2⟩ : ∃ V, (V1).alloc (.cells #[.int .i64 0, .int .i64 0, .slice none 0 0] 28) = V := ⟨_, rfl⟩
  have hsV2 : V2.heap.size = w.heap.size + 2 := by rw [← hV2]; simp; omega
  rw [hV2] at kP hbV2
  replace kN := blk_step kN hbV2
  have kX := heap_alloc_new V2 (.cells #[.slice none 0 0, .slice none 0 0] 25)
  have hbV3 := bnew V2 (.cells #[.slice none 0 0, .slice none 0 0] 25)
  obtain ⟨V3, hV3⟩ : ∃ V, (V2).alloc (.cells #[.slice none 0 0, .slice none 0 0] 25) = V := ⟨_, rfl⟩
  have hsV3 : V3.heap.size = w.heap.size + 3 := by rw [← hV3]; simp; omega
  rw [hV3] at kX hbV3
  replace kN := blk_step kN hbV3
  replace kP := blk_step kP hbV3
  rw [hsV1] at kP
  rw [hsV2] at kX
  have hBV : Below w.heap.size w V3 := ((hbV1).trans (hbV2.mono (by omega))).trans (hbV3.mono (by omega))
  clear hbV1 hbV2 hbV3
  have hL := Lib.hid (asked_any n i V3 A A' c c' w.heap.size (by omega) ((hdh.out.mono hS).keep (Kept.below hBV)))
  replace hBV := Lib.hid hBV
  replace kN := Lib.hid kN
  replace kP := Lib.hid kP
  replace kX := Lib.hid kX
  replace hV1 := Lib.hid hV1
  replace hV2 := Lib.hid hV2
  replace hV3 := Lib.hid hV3
  replace hsV3 := Lib.hid hsV3
  clear hsV1 hsV2
  go_enter Try.func21, Try.ntmps21
  go_wp2_with fail
  rw [hV1.out, hV2.out, hV3.out]
  refine hL.out.mono ?_
  rintro e w1 ⟨rfl, hb⟩
  replace kN := blk_step kN.out hb
  replace kP := blk_step kP.out hb
  replace kX := blk_step kX.out hb
  have hB := hBV.out.trans (hb.mono hBV.out.size)
  have hsz1 := hb.size
  rw [hsV3.out] at hsz1
  clear hb hL hV1 hV2 hV3
  rcases findN_cases n i with ⟨h1, hnt, k, rfl, hk⟩ | ⟨h1, h2⟩
  case inr =>
    have x0 : w1.cell? ⟨w.heap.size + 2, 0, none⟩ = _ := cell_of_row w1 _ 0 _ _ _ kX
    have x1 : w1.cell? ⟨w.heap.size + 2, 1, none⟩ = _ := cell_of_row w1 _ 1 _ _ _ kX
    have fX := fun i => frozen_of_row w1 _ i _ _ kX
    have p0 : w1.cell? ⟨w.heap.size + 1, 0, none⟩ = _ := cell_of_row w1 _ 0 _ _ _ kP
    have p1 : w1.cell? ⟨w.heap.size + 1, 1, none⟩ = _ := cell_of_row w1 _ 1 _ _ _ kP
    have p2 : w1.cell? ⟨w.heap.size + 1, 2, none⟩ = _ := cell_of_row w1 _ 2 _ _ _ kP
    have fP := fun i => frozen_of_row w1 _ i _ _ kP
    have hv := Lib.hid (loseN_bad h1)
    have hv2 := Lib.hid (delivN_bad h1)
    have hne : (findN n i != 0) = true := by simpa using h1
    clear h1 h2
    have kP_0 := heap_setCell_same (w1) (w.heap.size + 1) 0 _ _ (.int .i64 0) kP
    have kX_0 := (heap_setCell_other (w1) ⟨w.heap.size + 1, 0, none⟩ (w.heap.size + 2) (.int .i64 0) (by first | omega | (simp; done) | (simp <;> omega))).trans kX
    replace hB := hB.setCell (p := ⟨w.heap.size + 1, 0, none⟩) (by first | omega | (simp; done) | (simp <;> omega)) (.int .i64 0)
    have kP_1 := heap_setCell_same ((w1).setCell ⟨w.heap.size + 1, 0, none⟩ (.int .i64 0)) (w.heap.size + 1) 1 _ _ (.int .i64 0) kP_0
    have kX_1 := (heap_setCell_other ((w1).setCell ⟨w.heap.size + 1, 0, none⟩ (.int .i64 0)) ⟨w.heap.size + 1, 1, none⟩ (w.heap.size + 2) (.int .i64 0) (by first | omega | (simp; done) | (simp <;> omega))).trans kX_0
    replace hB := hB.setCell (p := ⟨w.heap.size + 1, 1, none⟩) (by first | omega | (simp; done) | (simp <;> omega)) (.int .i64 0)
    have kP_2 := heap_setCell_same (((w1).setCell ⟨w.heap.size + 1, 0, none⟩ (.int .i64 0)).setCell ⟨w.heap.size + 1, 1, none⟩ (.int .i64 0)) (w.heap.size + 1) 2 _ _ (.slice none 0 0) kP_1
    have kX_2 := (heap_setCell_other (((w1).setCell ⟨w.heap.size + 1, 0, none⟩ (.int .i64 0)).setCell ⟨w.heap.size + 1, 1, none⟩ (.int .i64 0)) ⟨w.heap.size + 1, 2, none⟩ (w.heap.size + 2) (.slice none 0 0) (by first | omega | (simp; done) | (simp <;> omega))).trans kX_1
    replace hB := hB.setCell (p := ⟨w.heap.size + 1, 2, none⟩) (by first | omega | (simp; done) | (simp <;> omega)) (.slice none 0 0)
    have kP_3 := (heap_setCell_other ((((w1).setCell ⟨w.heap.size + 1, 0, none⟩ (.int .i64 0)).setCell ⟨w.heap.size + 1, 1, none⟩ (.int .i64 0)).setCell ⟨w.heap.size + 1, 2, none⟩ (.slice none 0 0)) ⟨w.heap.size + 2, 0, none⟩ (w.heap.size + 1) (.slice none 0 0) (by first | omega | (simp; done) | (simp <;> omega))).trans kP_2
    have kX_3 := heap_setCell_same ((((w1).setCell ⟨w.heap.size + 1, 0, none⟩ (.int .i64 0)).setCell ⟨w.heap.size + 1, 1, none⟩ (.int .i64 0)).setCell ⟨w.heap.size + 1, 2, none⟩ (.slice none 0 0)) (w.heap.size + 2) 0 _ _ (.slice none 0 0) kX_2
    replace hB := hB.setCell (p := ⟨w.heap.size + 2, 0, none⟩) (by first | omega | (simp; done) | (simp <;> omega)) (.slice none 0 0)
    have kP_4 := (heap_setCell_other (((((w1).setCell ⟨w.heap.size + 1, 0, none⟩ (.int .i64 0)).setCell ⟨w.heap.size + 1, 1, none⟩ (.int .i64 0)).setCell ⟨w.heap.size + 1, 2, none⟩ (.slice none 0 0)).setCell ⟨w.heap.size + 2, 0, none⟩ (.slice none 0 0)) ⟨w.heap.size + 2, 1, none⟩ (w.heap.size + 1) (.slice none 0 0) (by first | omega | (simp; done) | (simp <;> omega))).trans kP_3
    have kX_4 := heap_setCell_same (((((w1).setCell ⟨w.heap.size + 1, 0, none⟩ (.int .i64 0)).setCell ⟨w.heap.size + 1, 1, none⟩ (.int .i64 0)).setCell ⟨w.heap.size + 1, 2, none⟩ (.slice none 0 0)).setCell ⟨w.heap.size + 2, 0, none⟩ (.slice none 0 0)) (w.heap.size + 2) 1 _ _ (.slice none 0 0) kX_3
    replace hB := hB.setCell (p := ⟨w.heap.size + 2, 1, none⟩) (by first | omega | (simp; done) | (simp <;> omega)) (.slice none 0 0)
    replace kP : ((((((w1).setCell ⟨w.heap.size + 1, 0, none⟩ (.int .i64 0)).setCell ⟨w.heap.size + 1, 1, none⟩ (.int .i64 0)).setCell ⟨w.heap.size + 1, 2, none⟩ (.slice none 0 0)).setCell ⟨w.heap.size + 2, 0, none⟩ (.slice none 0 0)).setCell ⟨w.heap.size + 2, 1, none⟩ (.slice none 0 0)).heap[w.heap.size + 1]? = some (.cells #[(.int .i64 0), (.int .i64 0), (.slice none 0 0)] 28 (0, 0)) := kP_4
    replace kX : ((((((w1).setCell ⟨w.heap.size + 1, 0, none⟩ (.int .i64 0)).setCell ⟨w.heap.size + 1, 1, none⟩ (.int .i64 0)).setCell ⟨w.heap.size + 1, 2, none⟩ (.slice none 0 0)).setCell ⟨w.heap.size + 2, 0, none⟩ (.slice none 0 0)).setCell ⟨w.heap.size + 2, 1, none⟩ (.slice none 0 0)).heap[w.heap.size + 2]? = some (.cells #[(.slice none 0 0), (.slice none 0 0)] 25 (0, 0)) := kX_4
    clear kP_0 kX_0 kP_1 kX_1 kP_2 kX_2 kP_3 kX_3 kP_4 kX_4
    replace hB := Lib.hid hB
    replace kP := Lib.hid kP
    replace kX := Lib.hid kX
    go_wp2_with fail
    clear x0 x1 fX p0 p1 p2 fP
    obtain ⟨V0, hV0⟩ : ∃ V0, (((((w1).setCell ⟨w.heap.size + 1, 0, none⟩ (.int .i64 0)).setCell ⟨w.heap.size + 1, 1, none⟩ (.int .i64 0)).setCell ⟨w.heap.size + 1, 2, none⟩ (.slice none 0 0)).setCell ⟨w.heap.size + 2, 0, none⟩ (.slice none 0 0)).setCell ⟨w.heap.size + 2, 1, none⟩ (.slice none 0 0) = V0 := ⟨_, rfl⟩
    have x0 := cell_of_row _ _ 0 _ _ _ kX.out
    have x1 := cell_of_row _ _ 1 _ _ _ kX.out
    have p0 := cell_of_row _ _ 0 _ _ _ kP.out
    have p1 := cell_of_row _ _ 1 _ _ _ kP.out
    have p2 := cell_of_row _ _ 2 _ _ _ kP.out
    replace hB := hB.out
    rw [hV0] at x0 x1 p0 p1 p2 hB ⊢
    replace hB := Lib.hid hB
    clear hV0
    exact bodyPost_ret (v := .tuple #[.agg #[.int .i64 0, .int .i64 0, .slice none 0 0], .agg #[.slice none 0 0, .slice none 0 0], .int .i64 (findN n i)]) (by simp [results, Try.results21, go_sem, x0, x1, p0, p1, p2]) rfl
      (by rw [hv.out, hv2.out]; exact ⟨hB.out, none, 0, none, 0, none, 0, rfl, ⟨Nat.le_refl _, Nat.zero_le _⟩, fun h => absurd h (by simp [zeroPk]), ⟨I64.zero, I64.zero⟩, NR.zero _ _⟩)
  case inl =>
    have hv2 := delivN_ok h1 hk
    have hql := (ntB_iff.1 hnt).1
    have hv := Lib.hid (show loseN n k = (cutQ n k, 0) from loseN_ok h1)
    rw [h1]
    obtain ⟨b, off, Ap, cp, rfl, hsb, hc0, hc1, hc2, hl1, hl2, hrp, hI⟩ := hdh.out.q.at_ hk
    obtain ⟨p, hp⟩ : ∃ p, n.q[k] = p := ⟨_, rfl⟩
    rw [hp] at hc0 hc1 hc2 hl1 hrp hI hv2
    replace hv2 := Lib.hid hv2
    have hbl := hS b hsb
    have hKp := Kept.of hS hB
    have hkl : ((k : Int) < n.q.length) := by omega
    have e0 := (hKp b (off + k * 3) hsb).trans hc0
    have e1 := (hKp b (off + k * 3 + 1) hsb).trans hc1
    have e2 := (hKp b (off + k * 3 + 2) hsb).trans hc2
    have y0 : w1.cell? ⟨w.heap.size, 0, none⟩ = _ := cell_of_row w1 _ 0 _ _ _ kN
    have y1 : w1.cell? ⟨w.heap.size, 1, none⟩ = _ := cell_of_row w1 _ 1 _ _ _ kN
    have hln := Lib.hid (cutQ_len n k hk)
    clear hp hnt h1 hc0 hc1 hc2
    -- the packet's box
    have kT := heap_alloc_new w1 (.cells #[.int .i64 p.frm, .int .i64 p.to, .slice Ap p.data.length cp] 28)
    have hbT := bnew w1 (.cells #[.int .i64 p.frm, .int .i64 p.to, .slice Ap p.data.length cp] 28)
    obtain ⟨U, hU⟩ : ∃ U, w1.alloc (.cells #[.int .i64 p.frm, .int .i64 p.to, .slice Ap p.data.length cp] 28) = U := ⟨_, rfl⟩
    have hUs : U.heap.size = w1.heap.size + 1 := by rw [← hU]; simp
    rw [hU] at kT hbT
    replace kN := blk_step kN hbT
    replace kP := blk_step kP hbT
    replace kX := blk_step kX hbT
    replace hB := hB.trans (hbT.mono (by omega))
    have hIC := Lib.hid (IsCut_any n p.frm p.to U (some ⟨b, off, none⟩) A' c c' w.heap.size hB.size ((hdh.out.mono hS).keep (Kept.below hB)))
    replace kN := Lib.hid kN
    replace kP := Lib.hid kP
    replace kX := Lib.hid kX
    replace kT := Lib.hid kT
    replace hB := Lib.hid hB
    replace hU := Lib.hid hU
    replace hUs := Lib.hid hUs
    clear hbT
    go_upto_region 5 with fail
    rw [hU.out]
    clear e0 e1 e2 y0 y1 hKp
    have y0 : U.cell? ⟨w.heap.size, 0, none⟩ = _ := cell_of_row U _ 0 _ _ _ kN.out
    have y1 : U.cell? ⟨w.heap.size, 1, none⟩ = _ := cell_of_row U _ 1 _ _ _ kN.out
    have t0 : U.cell? ⟨w1.heap.size, 0, none⟩ = _ := cell_of_row U _ 0 _ _ _ kT.out
    have t1 : U.cell? ⟨w1.heap.size, 1, none⟩ = _ := cell_of_row U _ 1 _ _ _ kT.out
    go_wp2_with fail
    refine hIC.out.mono ?_
    rintro e w2 ⟨rfl, hb⟩
    clear hU hIC y0 y1 t0 t1
    replace kN := blk_step kN.out hb
    replace kP := blk_step kP.out hb
    replace kX := blk_step kX.out hb
    replace kT := blk_step kT.out hb
    replace hB := hB.out.trans (hb.mono hB.out.size)
    have hsz2 := hb.size
    rw [hUs.out] at hsz2
    clear hb hUs
    cases hcut : cutB n p.frm p.to with
    | true =>
      have hv3 := Lib.hid (show delivN n k = zeroPk by rw [hv2.out, if_pos hcut])
      have t0 : w2.cell? ⟨w1.heap.size, 0, none⟩ = _ := cell_of_row w2 _ 0 _ _ _ kT
      have t1 : w2.cell? ⟨w1.heap.size, 1, none⟩ = _ := cell_of_row w2 _ 1 _ _ _ kT
      have t2 : w2.cell? ⟨w1.heap.size, 2, none⟩ = _ := cell_of_row w2 _ 2 _ _ _ kT
      have fT := fun i => frozen_of_row w2 _ i _ _ kT
      clear hcut
      have kN_0 := (heap_setCell_other (w2) ⟨w1.heap.size, 0, none⟩ (w.heap.size) (.int .i64 0) (by first | omega | (simp; done) | (simp <;> omega))).trans kN
      have kP_0 := (heap_setCell_other (w2) ⟨w1.heap.size, 0, none⟩ (w.heap.size + 1) (.int .i64 0) (by first | omega | (simp; done) | (simp <;> omega))).trans kP
      have kX_0 := (heap_setCell_other (w2) ⟨w1.heap.size, 0, none⟩ (w.heap.size + 2) (.int .i64 0) (by first | omega | (simp; done) | (simp <;> omega))).trans kX
      have kT_0 := heap_setCell_same (w2) (w1.heap.size) 0 _ _ (.int .i64 0) kT
      replace hB := hB.setCell (p := ⟨w1.heap.size, 0, none⟩) (by first | omega | (simp; done) | (simp <;> omega)) (.int .i64 0)
      have kN_1 := (heap_setCell_other ((w2).setCell ⟨w1.heap.size, 0, none⟩ (.int .i64 0)) ⟨w1.heap.size, 1, none⟩ (w.heap.size) (.int .i64 0) (by first | omega | (simp; done) | (simp <;> omega))).trans kN_0
      have kP_1 := (heap_setCell_other ((w2).setCell ⟨w1.heap.size, 0, none⟩ (.int .i64 0)) ⟨w1.heap.size, 1, none⟩ (w.heap.size + 1) (.int .i64 0) (by first | omega | (simp; done) | (simp <;> omega))).trans kP_0
      have kX_1 := (heap_setCell_other ((w2).setCell ⟨w1.heap.size, 0, none⟩ (.int .i64 0)) ⟨w1.heap.size, 1, none⟩ (w.heap.size + 2) (.int .i64 0) (by first | omega | (simp; done) | (simp <;> omega))).trans kX_0
      have kT_1 := heap_setCell_same ((w2).setCell ⟨w1.heap.size, 0, none⟩ (.int .i64 0)) (w1.heap.size) 1 _ _ (.int .i64 0) kT_0
      replace hB := hB.setCell (p := ⟨w1.heap.size, 1, none⟩) (by first | omega | (simp; done) | (simp <;> omega)) (.int .i64 0)
      have kN_2 := (heap_setCell_other (((w2).setCell ⟨w1.heap.size, 0, none⟩ (.int .i64 0)).setCell ⟨w1.heap.size, 1, none⟩ (.int .i64 0)) ⟨w1.heap.size, 2, none⟩ (w.heap.size) (.slice none 0 0) (by first | omega | (simp; done) | (simp <;> omega))).trans kN_1
      have kP_2 := (heap_setCell_other (((w2).setCell ⟨w1.heap.size, 0, none⟩ (.int .i64 0)).setCell ⟨w1.heap.size, 1, none⟩ (.int .i64 0)) ⟨w1.heap.size, 2, none⟩ (w.heap.size + 1) (.slice none 0 0) (by first | omega | (simp; done) | (simp <;> omega))).trans kP_1
      have kX_2 := (heap_setCell_other (((w2).setCell ⟨w1.heap.size, 0, none⟩ (.int .i64 0)).setCell ⟨w1.heap.size, 1, none⟩ (.int .i64 0)) ⟨w1.heap.size, 2, none⟩ (w.heap.size + 2) (.slice none 0 0) (by first | omega | (simp; done) | (simp <;> omega))).trans kX_1
      have kT_2 := heap_setCell_same (((w2).setCell ⟨w1.heap.size, 0, none⟩ (.int .i64 0)).setCell ⟨w1.heap.size, 1, none⟩ (.int .i64 0)) (w1.heap.size) 2 _ _ (.slice none 0 0) kT_1
      replace hB := hB.setCell (p := ⟨w1.heap.size, 2, none⟩) (by first | omega | (simp; done) | (simp <;> omega)) (.slice none 0 0)
      replace kN : ((((w2).setCell ⟨w1.heap.size, 0, none⟩ (.int .i64 0)).setCell ⟨w1.heap.size, 1, none⟩ (.int .i64 0)).setCell ⟨w1.heap.size, 2, none⟩ (.slice none 0 0)).heap[w.heap.size]? = some (.cells #[(.slice (some ⟨b, off, none⟩) n.q.length c), (.slice A' n.ap.length c')] 25 (0, 0)) := kN_2
      replace kP : ((((w2).setCell ⟨w1.heap.size, 0, none⟩ (.int .i64 0)).setCell ⟨w1.heap.size, 1, none⟩ (.int .i64 0)).setCell ⟨w1.heap.size, 2, none⟩ (.slice none 0 0)).heap[w.heap.size + 1]? = some (.cells #[(.int .i64 0), (.int .i64 0), (.slice none 0 0)] 28 (0, 0)) := kP_2
      replace kX : ((((w2).setCell ⟨w1.heap.size, 0, none⟩ (.int .i64 0)).setCell ⟨w1.heap.size, 1, none⟩ (.int .i64 0)).setCell ⟨w1.heap.size, 2, none⟩ (.slice none 0 0)).heap[w.heap.size + 2]? = some (.cells #[(.slice none 0 0), (.slice none 0 0)] 25 (0, 0)) := kX_2
      replace kT : ((((w2).setCell ⟨w1.heap.size, 0, none⟩ (.int .i64 0)).setCell ⟨w1.heap.size, 1, none⟩ (.int .i64 0)).setCell ⟨w1.heap.size, 2, none⟩ (.slice none 0 0)).heap[w1.heap.size]? = some (.cells #[(.int .i64 0), (.int .i64 0), (.slice none 0 0)] 28 (0, 0)) := kT_2
      clear kN_0 kP_0 kX_0 kT_0 kN_1 kP_1 kX_1 kT_1 kN_2 kP_2 kX_2 kT_2
      have hzV : ((((w2).setCell ⟨w1.heap.size, 0, none⟩ (.int .i64 0)).setCell ⟨w1.heap.size, 1, none⟩ (.int .i64 0)).setCell ⟨w1.heap.size, 2, none⟩ (.slice none 0 0)).heap.size = w2.heap.size := by simp
      obtain ⟨V, hV⟩ : ∃ V, (((w2).setCell ⟨w1.heap.size, 0, none⟩ (.int .i64 0)).setCell ⟨w1.heap.size, 1, none⟩ (.int .i64 0)).setCell ⟨w1.heap.size, 2, none⟩ (.slice none 0 0) = V := ⟨_, rfl⟩
      rw [hV] at kN kP kX kT hB hzV
      replace kN := Lib.hid kN
      replace kP := Lib.hid kP
      replace kX := Lib.hid kX
      replace kT := Lib.hid kT
      replace hB := Lib.hid hB
      replace hV := Lib.hid hV
      go_upto_region 7 with fail
      rw [hV.out]
      replace kN := kN.out
      replace kP := kP.out
      replace kX := kX.out
      replace kT := kT.out
      clear hV t0 t1 t2 fT
      have hs2V : w1.heap.size < V.heap.size := by omega
      have hlt : Hid (∀ g, S g → g < V.heap.size) := fun g hg => by have := hS g hg; omega
      have hE : Hid (∀ W, Below V.heap.size V W → W.cell? ⟨w1.heap.size, 0, none⟩ = some (.int .i64 0) ∧ W.cell? ⟨w1.heap.size, 1, none⟩ = some (.int .i64 0) ∧ W.cell? ⟨w1.heap.size, 2, none⟩ = some (.slice none 0 0)) := fun W hW =>
        have h := blk_step kT hW
        ⟨cell_of_row W _ 0 _ _ _ h, cell_of_row W _ 1 _ _ _ h, cell_of_row W _ 2 _ _ _ h⟩
      have hN : Hid (∀ W, Below V.heap.size V W → W.cell? ⟨w.heap.size, 0, none⟩ = some (.slice (some ⟨b, off, none⟩) n.q.length c) ∧ W.cell? ⟨w.heap.size, 1, none⟩ = some (.slice A' n.ap.length c')) := fun W hW =>
        have h := blk_step kN hW
        ⟨cell_of_row W _ 0 _ _ _ h, cell_of_row W _ 1 _ _ _ h⟩
      have hWo : Hid (∀ W, Below V.heap.size V W → Calls Try.prog 42 #[.agg #[.slice (some ⟨b, off, none⟩) n.q.length c, .slice A' n.ap.length c'], .int .i64 (k : Int)] W fun e w' => Below W.heap.size W w' ∧ ∃ A2 c2, e = .returned (.agg #[.slice A2 (k + (n.q.length - (k + 1))) c2, .slice A' n.ap.length c']) ∧ NR w' (Sn S W w') A2 c2 A' c' (cutQ n k)) := fun W hW =>
        have hBW := hB.out.trans (hW.mono hB.out.size)
        without_any n k hk hql W _ A' c c' S (fun g hg => Nat.lt_of_lt_of_le (hlt.out g hg) hW.size) (hdh.out.keep (Kept.of hS hBW))
      refine wp_region_pre 4 3 (fun W => Below V.heap.size V W) (fun W W' => Below W.heap.size W W')
        (fun i v W => match i with
          | 0 => v = .agg #[(.int .i64 0), (.int .i64 0), (.slice none 0 0)]
          | 1 => v = .agg #[.slice (some ⟨b, off, none⟩) n.q.length c, .slice A' n.ap.length c']
          | 2 => v = .int .i64 (k : Int)
          | 3 => V.heap.size ≤ W.heap.size ∧ ∃ A2 c2, v = .agg #[(.slice A2 (k + (n.q.length - (k + 1))) c2), (.slice A' n.ap.length c')] ∧ NR W (fun g => S g ∨ (V.heap.size ≤ g ∧ g < W.heap.size)) A2 c2 A' c' (cutQ n k)
          | _ => True) (fun _ => false)
        (by kernel_rfl) (by kernel_rfl) (by kernel_rfl) (by kernel_rfl) (by kernel_rfl) (by kernel_rfl) (by kernel_rfl) ?_ (fun _ _ h => h.size) (dN (Below.refl _ _) 1) ?_ ?_
      · intro i v W W' hb hF
        match i, hF with
        | 0, h => exact h
        | 1, h => exact h
        | 2, h => exact h
        | 3, ⟨h0, A2, c2, h1, h2⟩ => exact ⟨Nat.le_trans h0 hb.size, A2, c2, h1, (h2.keep (fun g o hg => hb.cell (p := ⟨g, o, none⟩) (show g < W.heap.size by rcases hg with hg | hg; (exact Nat.lt_of_lt_of_le (hlt.out g hg) h0); exact hg.2))).mono fun g hg => hg.imp id fun h => ⟨h.1, Nat.lt_of_lt_of_le h.2 hb.size⟩⟩
        | _ + 4, _ => trivial
      · refine ⟨?_, ?_, ?_, ?_, trivial⟩
        · refine stepJ_any rfl fun ac W hAA hG hDD K hK => ?_
          have h8 := hAA.getD (t := 8) (by kernel_rfl)
          simp only [Array.getD_eq_getD_getElem?] at h8
          obtain ⟨k0, k1, k2⟩ := hE.out W hG
          rw [if_pos (by rfl)]
          exact wp_val (v := .agg #[(.int .i64 0), (.int .i64 0), (.slice none 0 0)]) (w' := W) (by simp [execOp, Act.eval, h8, go_sem, k0, k1, k2]) (hK _ _ hG (Below.refl _ _) rfl (fun h => by cases h))
        · refine stepJ_any rfl fun ac W hAA hG hDD K hK => ?_
          have h2 := hAA.getD (t := 2) (by kernel_rfl)
          simp only [Array.getD_eq_getD_getElem?] at h2
          obtain ⟨k0, k1⟩ := hN.out W hG
          rw [if_pos (by rfl)]
          exact wp_val (v := .agg #[.slice (some ⟨b, off, none⟩) n.q.length c, .slice A' n.ap.length c']) (w' := W) (by simp [execOp, Act.eval, h2, go_sem, k0, k1]) (hK _ _ hG (Below.refl _ _) rfl (fun h => by cases h))
        · refine stepJ_any rfl fun ac W hAA hG hDD K hK => ?_
          have h1 := hAA.getD (t := 1) (by kernel_rfl)
          simp only [Array.getD_eq_getD_getElem?] at h1
          rw [if_pos (by rfl)]
          exact wp_val (v := .int .i64 (k : Int)) (w' := W) (by simp [execOp, Act.eval, h1, go_sem]) (hK _ _ hG (Below.refl _ _) rfl (fun h => by cases h))
        · refine stepJ_any rfl fun ac W hAA hG hDD K hK => ?_
          have h30 := hDD.get 1 30 _ rfl rfl (by kernel_rfl)
          have h31 := hDD.get 2 31 _ rfl rfl (by kernel_rfl)
          rw [if_pos (by rfl)]
          simp only [Array.getD_eq_getD_getElem?] at h30 h31
          refine wp_call (f := 42) (args := #[.agg #[.slice (some ⟨b, off, none⟩) n.q.length c, .slice A' n.ap.length c'], .int .i64 (k : Int)]) (by simp [execOp, Act.eval, h30, h31, go_sem]) ((hWo.out W hG).mono fun e W9 he => ?_)
          obtain ⟨hbw, A2, c2, rfl, hnr⟩ := he
          have hgz := hG.size
          exact hK _ _ (hG.trans (hbw.mono hG.size)) hbw ⟨Nat.le_trans hgz hbw.size, A2, c2, rfl, hnr.mono fun g hg => hg.imp id fun h => ⟨Nat.le_trans hgz h.1, h.2⟩⟩ (fun h => by cases h)
      intro fu T w3 hG hF hne hltb
      have e29 : T 29 = .agg #[(.int .i64 0), (.int .i64 0), (.slice none 0 0)] := hF 0 _ rfl (by omega)
      have e30 : T 30 = .agg #[.slice (some ⟨b, off, none⟩) n.q.length c, .slice A' n.ap.length c'] := hF 1 _ rfl (by omega)
      have e31 : T 31 = .int .i64 (k : Int) := hF 2 _ rfl (by omega)
      obtain ⟨hlw, A2, c2, e32, hnr⟩ := hF 3 _ rfl (by omega)
      replace e32 : T 32 = _ := e32
      clear hF hne hltb
      simp only [List.take, fillT, List.setIfInBounds_toArray, List.set_cons_zero, List.set_cons_succ, e29, e30, e31, e32]
      clear e29 e30 e31 e32
      replace kP := blk_step kP hG
      replace kX := blk_step kX hG
      replace hB := hB.out.trans (hG.mono hB.out.size)
      have hs3 := hG.size
      refine wpAny_ready (rs := [4]) (by kernel_rfl) (by simp) (AllReady.cons (o := ⟨none, (Op.store 28 (Operand.tmp 4) (Operand.tmp 29)), _, _, _, none⟩) rfl (fun K1 hK1 => ?_) AllReady.nil)
      rw [if_pos (by rfl)]
      refine wp_store_row 28 (.tmp 4) (.tmp 29) rfl (w.heap.size + 1) #[(.int .i64 0), (.int .i64 0), (.slice none 0 0)] rfl rfl 28 _ kP (by kernel_rfl) rfl (by simp [Value.oneCell']) ?_
      refine hK1 _ _ ?_
      clear hK1 K1
      have kP4 := setRow_heap w3 (w.heap.size + 1) _ #[(.int .i64 0), (.int .i64 0), (.slice none 0 0)] _ _ kP
      have kX4 := (setRow_other w3 (w.heap.size + 1) (w.heap.size + 2) #[(.int .i64 0), (.int .i64 0), (.slice none 0 0)] (by omega)).trans kX
      refine wpAny_ready (rs := [5]) (by kernel_rfl) (by simp) (AllReady.cons (o := ⟨none, (Op.store 25 (Operand.tmp 5) (Operand.tmp 32)), _, _, _, none⟩) rfl (fun K1 hK1 => ?_) AllReady.nil)
      rw [if_pos (by rfl)]
      refine wp_store_row 25 (.tmp 5) (.tmp 32) rfl (w.heap.size + 2) #[(.slice A2 (k + (n.q.length - (k + 1))) c2), (.slice A' n.ap.length c')] rfl rfl 25 _ kX4 (by kernel_rfl) rfl (by simp [Value.oneCell']) ?_
      refine hK1 _ _ ?_
      clear hK1 K1
      refine wpAny_ready (rs := [6]) (by kernel_rfl) (by simp) (AllReady.cons (o := ⟨(some 6), (Op.assign (Operand.const (Value.int IntKind.i64 0))), _, _, _, none⟩) rfl (fun K1 hK1 => ?_) AllReady.nil)
      rw [if_pos (by rfl)]
      refine wp_val (v := .int .i64 0) (w' := (w3.setRow (w.heap.size + 1) #[(.int .i64 0), (.int .i64 0), (.slice none 0 0)]).setRow (w.heap.size + 2) #[(.slice A2 (k + (n.q.length - (k + 1))) c2), (.slice A' n.ap.length c')]) (by simp [execOp, Act.eval, go_sem]) ?_
      refine hK1 _ _ ?_
      clear hK1 K1
      refine wpAny_done (by kernel_rfl) ?_ _
      simp only [Act.put, List.setIfInBounds_toArray, List.set_cons_zero, List.set_cons_succ]
      have kX5 := setRow_heap (w3.setRow (w.heap.size + 1) #[(.int .i64 0), (.int .i64 0), (.slice none 0 0)]) (w.heap.size + 2) _ #[(.slice A2 (k + (n.q.length - (k + 1))) c2), (.slice A' n.ap.length c')] _ _ kX4
      have kP5 := (setRow_other (w3.setRow (w.heap.size + 1) #[(.int .i64 0), (.int .i64 0), (.slice none 0 0)]) (w.heap.size + 2) (w.heap.size + 1) #[(.slice A2 (k + (n.q.length - (k + 1))) c2), (.slice A' n.ap.length c')] (by omega)).trans kP4
      have hB5 := (hB.grown (grownBy_setRow w3 (w.heap.size + 1) #[(.int .i64 0), (.int .i64 0), (.slice none 0 0)]) hB.size (fun k hk => by injection hk; omega)).grown (grownBy_setRow (w3.setRow (w.heap.size + 1) #[(.int .i64 0), (.int .i64 0), (.slice none 0 0)]) (w.heap.size + 2) #[(.slice A2 (k + (n.q.length - (k + 1))) c2), (.slice A' n.ap.length c')]) (by simpa using hB.size) (fun k hk => by injection hk; omega)
      have hK5 : Kept (fun g => g ≠ w.heap.size + 1 ∧ g ≠ w.heap.size + 2) w3 ((w3.setRow (w.heap.size + 1) #[(.int .i64 0), (.int .i64 0), (.slice none 0 0)]).setRow (w.heap.size + 2) #[(.slice A2 (k + (n.q.length - (k + 1))) c2), (.slice A' n.ap.length c')]) := fun g o hg =>
        (World.cell?_of_block (setRow_other (w3.setRow (w.heap.size + 1) #[(.int .i64 0), (.int .i64 0), (.slice none 0 0)]) (w.heap.size + 2) g #[(.slice A2 (k + (n.q.length - (k + 1))) c2), (.slice A' n.ap.length c')] hg.2)).trans (World.cell?_of_block (setRow_other w3 (w.heap.size + 1) g #[(.int .i64 0), (.int .i64 0), (.slice none 0 0)] hg.1))
      have hz5 : ((w3.setRow (w.heap.size + 1) #[(.int .i64 0), (.int .i64 0), (.slice none 0 0)]).setRow (w.heap.size + 2) #[(.slice A2 (k + (n.q.length - (k + 1))) c2), (.slice A' n.ap.length c')]).heap.size = w3.heap.size := by simp
      obtain ⟨w9, hw9⟩ : ∃ W, (w3.setRow (w.heap.size + 1) #[(.int .i64 0), (.int .i64 0), (.slice none 0 0)]).setRow (w.heap.size + 2) #[(.slice A2 (k + (n.q.length - (k + 1))) c2), (.slice A' n.ap.length c')] = W := ⟨_, rfl⟩
      rw [hw9] at kX5 kP5 hB5 hK5 hz5 ⊢
      clear hw9 kP4 kX4 kP kX hE hN hWo
      have x0 : w9.cell? ⟨w.heap.size + 2, 0, none⟩ = _ := cell_of_row w9 _ 0 _ _ _ kX5
      have x1 : w9.cell? ⟨w.heap.size + 2, 1, none⟩ = _ := cell_of_row w9 _ 1 _ _ _ kX5
      have p0 : w9.cell? ⟨w.heap.size + 1, 0, none⟩ = _ := cell_of_row w9 _ 0 _ _ _ kP5
      have p1 : w9.cell? ⟨w.heap.size + 1, 1, none⟩ = _ := cell_of_row w9 _ 1 _ _ _ kP5
      have p2 : w9.cell? ⟨w.heap.size + 1, 2, none⟩ = _ := cell_of_row w9 _ 2 _ _ _ kP5
      have hD9 : NR w9 (Sn S w w9) A2 c2 A' c' (cutQ n k) := by
        refine (hnr.keep fun g o hg => hK5 g o ?_).mono fun g hg => ?_
        · rcases hg with hg | hg
          · have := hS g hg; omega
          · omega
        · exact hg.imp id fun h => ⟨by omega, by omega⟩
      have hR9 : True := trivial
      replace hB5 := Lib.hid hB5
      replace hD9 := Lib.hid hD9
      replace hR9 := Lib.hid hR9
      replace hK5 := Lib.hid hK5
      go_wp2_with fail
      exact bodyPost_ret (v := .tuple #[.agg #[.int .i64 0, .int .i64 0, .slice none 0 0], .agg #[(.slice A2 (k + (n.q.length - (k + 1))) c2), (.slice A' n.ap.length c')], .int .i64 0]) (by simp [results, Try.results21, go_sem, x0, x1, p0, p1, p2]) rfl
        (by rw [hv.out, hv3.out]; exact ⟨hB5.out, none, 0, A2, c2, A', c', by rw [hln.out]; rfl, ⟨Nat.le_refl _, Nat.zero_le _⟩, fun h => absurd h (by simp [zeroPk]), ⟨I64.zero, I64.zero⟩, hD9.out⟩)
    | false =>
      have hv3 := Lib.hid (show delivN n k = p by rw [hv2.out, if_neg (by rw [hcut]; decide)])
      clear hcut
      obtain ⟨V, hV⟩ : ∃ V, w2 = V := ⟨_, rfl⟩
      have hzV : V.heap.size = w2.heap.size := by rw [hV]
      rw [hV] at kN kP kX kT hB
      replace hB := Lib.hid hB
      replace hV := Lib.hid hV
      go_upto_region 7 with fail
      rw [hV.out]
      have hs2V : w1.heap.size < V.heap.size := by omega
      have hlt : Hid (∀ g, S g → g < V.heap.size) := fun g hg => by have := hS g hg; omega
      have hE : Hid (∀ W, Below V.heap.size V W → W.cell? ⟨w1.heap.size, 0, none⟩ = some (.int .i64 p.frm) ∧ W.cell? ⟨w1.heap.size, 1, none⟩ = some (.int .i64 p.to) ∧ W.cell? ⟨w1.heap.size, 2, none⟩ = some (.slice Ap p.data.length cp)) := fun W hW =>
        have h := blk_step kT hW
        ⟨cell_of_row W _ 0 _ _ _ h, cell_of_row W _ 1 _ _ _ h, cell_of_row W _ 2 _ _ _ h⟩
      have hN : Hid (∀ W, Below V.heap.size V W → W.cell? ⟨w.heap.size, 0, none⟩ = some (.slice (some ⟨b, off, none⟩) n.q.length c) ∧ W.cell? ⟨w.heap.size, 1, none⟩ = some (.slice A' n.ap.length c')) := fun W hW =>
        have h := blk_step kN hW
        ⟨cell_of_row W _ 0 _ _ _ h, cell_of_row W _ 1 _ _ _ h⟩
      have hWo : Hid (∀ W, Below V.heap.size V W → Calls Try.prog 42 #[.agg #[.slice (some ⟨b, off, none⟩) n.q.length c, .slice A' n.ap.length c'], .int .i64 (k : Int)] W fun e w' => Below W.heap.size W w' ∧ ∃ A2 c2, e = .returned (.agg #[.slice A2 (k + (n.q.length - (k + 1))) c2, .slice A' n.ap.length c']) ∧ NR w' (Sn S W w') A2 c2 A' c' (cutQ n k)) := fun W hW =>
        have hBW := hB.out.trans (hW.mono hB.out.size)
        without_any n k hk hql W _ A' c c' S (fun g hg => Nat.lt_of_lt_of_le (hlt.out g hg) hW.size) (hdh.out.keep (Kept.of hS hBW))
      refine wp_region_pre 4 3 (fun W => Below V.heap.size V W) (fun W W' => Below W.heap.size W W')
        (fun i v W => match i with
          | 0 => v = .agg #[(.int .i64 p.frm), (.int .i64 p.to), (.slice Ap p.data.length cp)]
          | 1 => v = .agg #[.slice (some ⟨b, off, none⟩) n.q.length c, .slice A' n.ap.length c']
          | 2 => v = .int .i64 (k : Int)
          | 3 => V.heap.size ≤ W.heap.size ∧ ∃ A2 c2, v = .agg #[(.slice A2 (k + (n.q.length - (k + 1))) c2), (.slice A' n.ap.length c')] ∧ NR W (fun g => S g ∨ (V.heap.size ≤ g ∧ g < W.heap.size)) A2 c2 A' c' (cutQ n k)
          | _ => True) (fun _ => false)
        (by kernel_rfl) (by kernel_rfl) (by kernel_rfl) (by kernel_rfl) (by kernel_rfl) (by kernel_rfl) (by kernel_rfl) ?_ (fun _ _ h => h.size) (dN (Below.refl _ _) 1) ?_ ?_
      · intro i v W W' hb hF
        match i, hF with
        | 0, h => exact h
        | 1, h => exact h
        | 2, h => exact h
        | 3, ⟨h0, A2, c2, h1, h2⟩ => exact ⟨Nat.le_trans h0 hb.size, A2, c2, h1, (h2.keep (fun g o hg => hb.cell (p := ⟨g, o, none⟩) (show g < W.heap.size by rcases hg with hg | hg; (exact Nat.lt_of_lt_of_le (hlt.out g hg) h0); exact hg.2))).mono fun g hg => hg.imp id fun h => ⟨h.1, Nat.lt_of_lt_of_le h.2 hb.size⟩⟩
        | _ + 4, _ => trivial
      · refine ⟨?_, ?_, ?_, ?_, trivial⟩
        · refine stepJ_any rfl fun ac W hAA hG hDD K hK => ?_
          have h8 := hAA.getD (t := 8) (by kernel_rfl)
          simp only [Array.getD_eq_getD_getElem?] at h8
          obtain ⟨k0, k1, k2⟩ := hE.out W hG
          rw [if_pos (by rfl)]
          exact wp_val (v := .agg #[(.int .i64 p.frm), (.int .i64 p.to), (.slice Ap p.data.length cp)]) (w' := W) (by simp [execOp, Act.eval, h8, go_sem, k0, k1, k2]) (hK _ _ hG (Below.refl _ _) rfl (fun h => by cases h))
        · refine stepJ_any rfl fun ac W hAA hG hDD K hK => ?_
          have h2 := hAA.getD (t := 2) (by kernel_rfl)
          simp only [Array.getD_eq_getD_getElem?] at h2
          obtain ⟨k0, k1⟩ := hN.out W hG
          rw [if_pos (by rfl)]
          exact wp_val (v := .agg #[.slice (some ⟨b, off, none⟩) n.q.length c, .slice A' n.ap.length c']) (w' := W) (by simp [execOp, Act.eval, h2, go_sem, k0, k1]) (hK _ _ hG (Below.refl _ _) rfl (fun h => by cases h))
        · refine stepJ_any rfl fun ac W hAA hG hDD K hK => ?_
          have h1 := hAA.getD (t := 1) (by kernel_rfl)
          simp only [Array.getD_eq_getD_getElem?] at h1
          rw [if_pos (by rfl)]
          exact wp_val (v := .int .i64 (k : Int)) (w' := W) (by simp [execOp, Act.eval, h1, go_sem]) (hK _ _ hG (Below.refl _ _) rfl (fun h => by cases h))
        · refine stepJ_any rfl fun ac W hAA hG hDD K hK => ?_
          have h30 := hDD.get 1 30 _ rfl rfl (by kernel_rfl)
          have h31 := hDD.get 2 31 _ rfl rfl (by kernel_rfl)
          rw [if_pos (by rfl)]
          simp only [Array.getD_eq_getD_getElem?] at h30 h31
          refine wp_call (f := 42) (args := #[.agg #[.slice (some ⟨b, off, none⟩) n.q.length c, .slice A' n.ap.length c'], .int .i64 (k : Int)]) (by simp [execOp, Act.eval, h30, h31, go_sem]) ((hWo.out W hG).mono fun e W9 he => ?_)
          obtain ⟨hbw, A2, c2, rfl, hnr⟩ := he
          have hgz := hG.size
          exact hK _ _ (hG.trans (hbw.mono hG.size)) hbw ⟨Nat.le_trans hgz hbw.size, A2, c2, rfl, hnr.mono fun g hg => hg.imp id fun h => ⟨Nat.le_trans hgz h.1, h.2⟩⟩ (fun h => by cases h)
      intro fu T w3 hG hF hne hltb
      have e29 : T 29 = .agg #[(.int .i64 p.frm), (.int .i64 p.to), (.slice Ap p.data.length cp)] := hF 0 _ rfl (by omega)
      have e30 : T 30 = .agg #[.slice (some ⟨b, off, none⟩) n.q.length c, .slice A' n.ap.length c'] := hF 1 _ rfl (by omega)
      have e31 : T 31 = .int .i64 (k : Int) := hF 2 _ rfl (by omega)
      obtain ⟨hlw, A2, c2, e32, hnr⟩ := hF 3 _ rfl (by omega)
      replace e32 : T 32 = _ := e32
      clear hF hne hltb
      simp only [List.take, fillT, List.setIfInBounds_toArray, List.set_cons_zero, List.set_cons_succ, e29, e30, e31, e32]
      clear e29 e30 e31 e32
      replace kP := blk_step kP hG
      replace kX := blk_step kX hG
      replace hB := hB.out.trans (hG.mono hB.out.size)
      have hs3 := hG.size
      refine wpAny_ready (rs := [4]) (by kernel_rfl) (by simp) (AllReady.cons (o := ⟨none, (Op.store 28 (Operand.tmp 4) (Operand.tmp 29)), _, _, _, none⟩) rfl (fun K1 hK1 => ?_) AllReady.nil)
      rw [if_pos (by rfl)]
      refine wp_store_row 28 (.tmp 4) (.tmp 29) rfl (w.heap.size + 1) #[(.int .i64 p.frm), (.int .i64 p.to), (.slice Ap p.data.length cp)] rfl rfl 28 _ kP (by kernel_rfl) rfl (by simp [Value.oneCell']) ?_
      refine hK1 _ _ ?_
      clear hK1 K1
      have kP4 := setRow_heap w3 (w.heap.size + 1) _ #[(.int .i64 p.frm), (.int .i64 p.to), (.slice Ap p.data.length cp)] _ _ kP
      have kX4 := (setRow_other w3 (w.heap.size + 1) (w.heap.size + 2) #[(.int .i64 p.frm), (.int .i64 p.to), (.slice Ap p.data.length cp)] (by omega)).trans kX
      refine wpAny_ready (rs := [5]) (by kernel_rfl) (by simp) (AllReady.cons (o := ⟨none, (Op.store 25 (Operand.tmp 5) (Operand.tmp 32)), _, _, _, none⟩) rfl (fun K1 hK1 => ?_) AllReady.nil)
      rw [if_pos (by rfl)]
      refine wp_store_row 25 (.tmp 5) (.tmp 32) rfl (w.heap.size + 2) #[(.slice A2 (k + (n.q.length - (k + 1))) c2), (.slice A' n.ap.length c')] rfl rfl 25 _ kX4 (by kernel_rfl) rfl (by simp [Value.oneCell']) ?_
      refine hK1 _ _ ?_
      clear hK1 K1
      refine wpAny_ready (rs := [6]) (by kernel_rfl) (by simp) (AllReady.cons (o := ⟨(some 6), (Op.assign (Operand.const (Value.int IntKind.i64 0))), _, _, _, none⟩) rfl (fun K1 hK1 => ?_) AllReady.nil)
      rw [if_pos (by rfl)]
      refine wp_val (v := .int .i64 0) (w' := (w3.setRow (w.heap.size + 1) #[(.int .i64 p.frm), (.int .i64 p.to), (.slice Ap p.data.length cp)]).setRow (w.heap.size + 2) #[(.slice A2 (k + (n.q.length - (k + 1))) c2), (.slice A' n.ap.length c')]) (by simp [execOp, Act.eval, go_sem]) ?_
      refine hK1 _ _ ?_
      clear hK1 K1
      refine wpAny_done (by kernel_rfl) ?_ _
      simp only [Act.put, List.setIfInBounds_toArray, List.set_cons_zero, List.set_cons_succ]
      have kX5 := setRow_heap (w3.setRow (w.heap.size + 1) #[(.int .i64 p.frm), (.int .i64 p.to), (.slice Ap p.data.length cp)]) (w.heap.size + 2) _ #[(.slice A2 (k + (n.q.length - (k + 1))) c2), (.slice A' n.ap.length c')] _ _ kX4
      have kP5 := (setRow_other (w3.setRow (w.heap.size + 1) #[(.int .i64 p.frm), (.int .i64 p.to), (.slice Ap p.data.length cp)]) (w.heap.size + 2) (w.heap.size + 1) #[(.slice A2 (k + (n.q.length - (k + 1))) c2), (.slice A' n.ap.length c')] (by omega)).trans kP4
      have hB5 := (hB.grown (grownBy_setRow w3 (w.heap.size + 1) #[(.int .i64 p.frm), (.int .i64 p.to), (.slice Ap p.data.length cp)]) hB.size (fun k hk => by injection hk; omega)).grown (grownBy_setRow (w3.setRow (w.heap.size + 1) #[(.int .i64 p.frm), (.int .i64 p.to), (.slice Ap p.data.length cp)]) (w.heap.size + 2) #[(.slice A2 (k + (n.q.length - (k + 1))) c2), (.slice A' n.ap.length c')]) (by simpa using hB.size) (fun k hk => by injection hk; omega)
      have hK5 : Kept (fun g => g ≠ w.heap.size + 1 ∧ g ≠ w.heap.size + 2) w3 ((w3.setRow (w.heap.size + 1) #[(.int .i64 p.frm), (.int .i64 p.to), (.slice Ap p.data.length cp)]).setRow (w.heap.size + 2) #[(.slice A2 (k + (n.q.length - (k + 1))) c2), (.slice A' n.ap.length c')]) := fun g o hg =>
        (World.cell?_of_block (setRow_other (w3.setRow (w.heap.size + 1) #[(.int .i64 p.frm), (.int .i64 p.to), (.slice Ap p.data.length cp)]) (w.heap.size + 2) g #[(.slice A2 (k + (n.q.length - (k + 1))) c2), (.slice A' n.ap.length c')] hg.2)).trans (World.cell?_of_block (setRow_other w3 (w.heap.size + 1) g #[(.int .i64 p.frm), (.int .i64 p.to), (.slice Ap p.data.length cp)] hg.1))
      have hz5 : ((w3.setRow (w.heap.size + 1) #[(.int .i64 p.frm), (.int .i64 p.to), (.slice Ap p.data.length cp)]).setRow (w.heap.size + 2) #[(.slice A2 (k + (n.q.length - (k + 1))) c2), (.slice A' n.ap.length c')]).heap.size = w3.heap.size := by simp
      obtain ⟨w9, hw9⟩ : ∃ W, (w3.setRow (w.heap.size + 1) #[(.int .i64 p.frm), (.int .i64 p.to), (.slice Ap p.data.length cp)]).setRow (w.heap.size + 2) #[(.slice A2 (k + (n.q.length - (k + 1))) c2), (.slice A' n.ap.length c')] = W := ⟨_, rfl⟩
      rw [hw9] at kX5 kP5 hB5 hK5 hz5 ⊢
      clear hw9 kP4 kX4 kP kX hE hN hWo
      have x0 : w9.cell? ⟨w.heap.size + 2, 0, none⟩ = _ := cell_of_row w9 _ 0 _ _ _ kX5
      have x1 : w9.cell? ⟨w.heap.size + 2, 1, none⟩ = _ := cell_of_row w9 _ 1 _ _ _ kX5
      have p0 : w9.cell? ⟨w.heap.size + 1, 0, none⟩ = _ := cell_of_row w9 _ 0 _ _ _ kP5
      have p1 : w9.cell? ⟨w.heap.size + 1, 1, none⟩ = _ := cell_of_row w9 _ 1 _ _ _ kP5
      have p2 : w9.cell? ⟨w.heap.size + 1, 2, none⟩ = _ := cell_of_row w9 _ 2 _ _ _ kP5
      have hD9 : NR w9 (Sn S w w9) A2 c2 A' c' (cutQ n k) := by
        refine (hnr.keep fun g o hg => hK5 g o ?_).mono fun g hg => ?_
        · rcases hg with hg | hg
          · have := hS g hg; omega
          · omega
        · exact hg.imp id fun h => ⟨by omega, by omega⟩
      have hR9 : RBs w9 (Sn S w w9) Ap p.data := (hrp.keep (Kept.of hS hB5)).mono fun g hg => .inl hg
      replace hB5 := Lib.hid hB5
      replace hD9 := Lib.hid hD9
      replace hR9 := Lib.hid hR9
      replace hK5 := Lib.hid hK5
      go_wp2_with fail
      exact bodyPost_ret (v := .tuple #[.agg #[.int .i64 p.frm, .int .i64 p.to, .slice Ap p.data.length cp], .agg #[(.slice A2 (k + (n.q.length - (k + 1))) c2), (.slice A' n.ap.length c')], .int .i64 0]) (by simp [results, Try.results21, go_sem, x0, x1, p0, p1, p2]) rfl
        (by rw [hv.out, hv3.out]; exact ⟨hB5.out, Ap, cp, A2, c2, A', c', by rw [hln.out]; rfl, ⟨hl1, hl2⟩, hR9.out, hI, hD9.out⟩)
end Go.Proofs.Ytpmmahlmfcbbbaa
