/- Deliver: the contract. -/
import Derived.Test.YtpmmahlmfcbbbaaNm
namespace Go.Proofs.Ytpmmahlmfcbbbaa
open Go.RowKit

theorem setRow_setRow (w : World) (g : Nat) (cs : Array Value) : (w.setRow g cs).setRow g cs = w.setRow g cs := by
  unfold World.setRow
  congr 1
  apply Array.ext
  · simp
  · intro i h1 h2
    simp only [Array.getElem_modify]
    by_cases hg : g = i
    · simp only [hg, if_true]
      generalize w.heap[i]'_ = o
      cases o <;> rfl
    · simp only [hg, if_false]
/-- What Deliver gives. -/
def DvPost (S : Nat → Prop) (p : Pk) (x : Nt) (m : Int) (w : World) (e : Ending) (w' : World) : Prop :=
  Below w.heap.size w w' ∧ ∃ Ap cp A c A' c', e = .returned (.tuple #[.agg #[.int .i64 p.frm, .int .i64 p.to, .slice Ap p.data.length cp], .agg #[.slice A x.q.length c, .slice A' x.ap.length c'], .int .i64 m]) ∧
    (p.data.length ≤ cp ∧ cp ≤ maxLen) ∧ RBs w' (Sn S w w') Ap p.data ∧ (I64 p.frm ∧ I64 p.to) ∧ NR w' (Sn S w w') A c A' c' x
theorem delivN_bad {n : Nt} {i : Int} (h : findN n i ≠ 0) : delivN n i = zeroPk := by unfold delivN; rw [if_pos h]
theorem delivN_ok {n : Nt} {k : Nat} (h : findN n k = 0) (hk : k < n.q.length) : delivN n k = if cutB n n.q[k].frm n.q[k].to = true then zeroPk else n.q[k] := by
  unfold delivN atN; rw [if_neg (by rw [h]; decide)]; simp [List.getD, hk]
theorem I64.zero : I64 0 := by unfold I64; omega

set_option maxRecDepth 100000 in
set_option maxHeartbeats 4000000 in
theorem Deliver_any (n : Nt) (i : Int) (w : World) (A A' : Option Addr) (c c' : Nat) (S : Nat → Prop) (hS : ∀ b, S b → b < w.heap.size) (hd : NR w S A c A' c' n) :
    Calls Try.prog 20 #[.agg #[.slice A n.q.length c, .slice A' n.ap.length c'], .int .i64 i] w (DvPost S (delivN n i) (loseN n i).1 (loseN n i).2 w) := by
  have hdh := Lib.hid hd
  clear hd
  have kN := heap_alloc_new w (.cells #[.slice A n.q.length c, .slice A' n.ap.length c'] 25)
  have hbV1 := bnew w (.cells #[.slice A n.q.length c, .slice A' n.ap.length c'] 25)
  obtain ⟨V1, hV1⟩ : ∃ V, (w).alloc (.cells #[.slice A n.q.length c, .slice A' n.ap.length c'] 25) = V := ⟨_, rfl⟩
  have hsV1 : V1.heap.size = w.heap.size + 1 := by rw [← hV1]; simp
  rw [hV1] at kN hbV1
  have kP := heap_alloc_new V1 (.cells #[.int .i64 0, .int .i64 0, .slice none 0 0] 28)
  have hbV2 := bnew V1 (.cells #[.int .i64 0, .int .i64 0, .slice none 0 0] 28)
  obtain ⟨V2, hV2⟩ : ∃ V, (V1).alloc (.cells #[.int .i64 0, .int .i64 0, .slice none 0 0] 28) = V := ⟨_, rfl⟩
  have hsV2 : V2.heap.size = w.heap.size + 2 := by rw [← hV2]; simp; omega
  rw [hV2] at kP hbV2
  replace kN := blk_step kN hbV2
  have kX := heap_alloc_new V2 (.cells #[.slice none 0 0, .slice none 0 0] 25)
  have hbV3 := bnew V2 (.cells #[.slice none 0 0, .slice none 0 0] 25)
  obtain ⟨V3, hV3⟩ : ∃ V, (V2).alloc (.cells #[.slice none 0 0, .slice none 0 0] 25) = V := ⟨_, rfl⟩
  have hsV3 : V3.heap.size = w.heap.size + 3 := by rw [← hV3]; simp; omega
  rw [hV3] at kX hbV3
  replace kN := blk_step kN hbV3
  replace kP := blk_step kP hbV3
  rw [hsV1] at kP
  rw [hsV2] at kX
  have hBV : Below w.heap.size w V3 := ((hbV1).trans (hbV2.mono (by omega))).trans (hbV3.mono (by omega))
  clear hbV1 hbV2 hbV3
  have hL := Lib.hid (Lose_any n i V3 A A' c c' S (fun b hb => by have := hS b hb; omega) (hdh.out.keep (Kept.of hS hBV)))
  replace hBV := Lib.hid hBV
  replace kN := Lib.hid kN
  replace kP := Lib.hid kP
  replace kX := Lib.hid kX
  replace hV1 := Lib.hid hV1
  replace hV2 := Lib.hid hV2
  replace hV3 := Lib.hid hV3
  replace hsV3 := Lib.hid hsV3
  clear hsV1 hsV2
  go_enter Try.func20, Try.ntmps20
  go_wp2_with fail
  rw [hV1.out, hV2.out, hV3.out]
  refine hL.out.mono ?_
  intro e w1 hpost
  obtain ⟨A2, c2, A2', c2', rfl, hd2, hb⟩ := hpost.get
  replace kN := blk_step kN.out hb
  replace kP := blk_step kP.out hb
  replace kX := blk_step kX.out hb
  have hB := hBV.out.trans (hb.mono hBV.out.size)
  have hsz1 := hb.size
  rw [hsV3.out] at hsz1
  clear hb hL hpost hV1 hV2 hV3
  have x0 : w1.cell? ⟨w.heap.size + 2, 0, none⟩ = _ := cell_of_row w1 _ 0 _ _ _ kX
  have x1 : w1.cell? ⟨w.heap.size + 2, 1, none⟩ = _ := cell_of_row w1 _ 1 _ _ _ kX
  have fX := fun i => frozen_of_row w1 _ i _ _ kX
  have p0 : w1.cell? ⟨w.heap.size + 1, 0, none⟩ = _ := cell_of_row w1 _ 0 _ _ _ kP
  have p1 : w1.cell? ⟨w.heap.size + 1, 1, none⟩ = _ := cell_of_row w1 _ 1 _ _ _ kP
  have p2 : w1.cell? ⟨w.heap.size + 1, 2, none⟩ = _ := cell_of_row w1 _ 2 _ _ _ kP
  have fP := fun i => frozen_of_row w1 _ i _ _ kP
  rcases findN_cases n i with ⟨h1, hnt, k, rfl, hk⟩ | ⟨h1, h2⟩
  case inr =>
    have hv := Lib.hid (loseN_bad h1)
    have hv2 := Lib.hid (delivN_bad h1)
    rw [hv.out] at hd2 ⊢
    have hne : (findN n i != 0) = true := by simpa using h1
    clear h1 h2 hd2
    have kP_0 := (heap_setCell_other (w1) ⟨w.heap.size + 2, 0, none⟩ (w.heap.size + 1) (.slice A2 zeroNt.q.length c2) (by first | omega | (simp; done) | (simp <;> omega))).trans kP
    have kX_0 := heap_setCell_same (w1) (w.heap.size + 2) 0 _ _ (.slice A2 zeroNt.q.length c2) kX
    replace hB := hB.setCell (p := ⟨w.heap.size + 2, 0, none⟩) (by first | omega | (simp; done) | (simp <;> omega)) (.slice A2 zeroNt.q.length c2)
    have kP_1 := (heap_setCell_other ((w1).setCell ⟨w.heap.size + 2, 0, none⟩ (.slice A2 zeroNt.q.length c2)) ⟨w.heap.size + 2, 1, none⟩ (w.heap.size + 1) (.slice A2' zeroNt.ap.length c2') (by first | omega | (simp; done) | (simp <;> omega))).trans kP_0
    have kX_1 := heap_setCell_same ((w1).setCell ⟨w.heap.size + 2, 0, none⟩ (.slice A2 zeroNt.q.length c2)) (w.heap.size + 2) 1 _ _ (.slice A2' zeroNt.ap.length c2') kX_0
    replace hB := hB.setCell (p := ⟨w.heap.size + 2, 1, none⟩) (by first | omega | (simp; done) | (simp <;> omega)) (.slice A2' zeroNt.ap.length c2')
    have kP_2 := heap_setCell_same (((w1).setCell ⟨w.heap.size + 2, 0, none⟩ (.slice A2 zeroNt.q.length c2)).setCell ⟨w.heap.size + 2, 1, none⟩ (.slice A2' zeroNt.ap.length c2')) (w.heap.size + 1) 0 _ _ (.int .i64 0) kP_1
    have kX_2 := (heap_setCell_other (((w1).setCell ⟨w.heap.size + 2, 0, none⟩ (.slice A2 zeroNt.q.length c2)).setCell ⟨w.heap.size + 2, 1, none⟩ (.slice A2' zeroNt.ap.length c2')) ⟨w.heap.size + 1, 0, none⟩ (w.heap.size + 2) (.int .i64 0) (by first | omega | (simp; done) | (simp <;> omega))).trans kX_1
    replace hB := hB.setCell (p := ⟨w.heap.size + 1, 0, none⟩) (by first | omega | (simp; done) | (simp <;> omega)) (.int .i64 0)
    have kP_3 := heap_setCell_same ((((w1).setCell ⟨w.heap.size + 2, 0, none⟩ (.slice A2 zeroNt.q.length c2)).setCell ⟨w.heap.size + 2, 1, none⟩ (.slice A2' zeroNt.ap.length c2')).setCell ⟨w.heap.size + 1, 0, none⟩ (.int .i64 0)) (w.heap.size + 1) 1 _ _ (.int .i64 0) kP_2
    have kX_3 := (heap_setCell_other ((((w1).setCell ⟨w.heap.size + 2, 0, none⟩ (.slice A2 zeroNt.q.length c2)).setCell ⟨w.heap.size + 2, 1, none⟩ (.slice A2' zeroNt.ap.length c2')).setCell ⟨w.heap.size + 1, 0, none⟩ (.int .i64 0)) ⟨w.heap.size + 1, 1, none⟩ (w.heap.size + 2) (.int .i64 0) (by first | omega | (simp; done) | (simp <;> omega))).trans kX_2
    replace hB := hB.setCell (p := ⟨w.heap.size + 1, 1, none⟩) (by first | omega | (simp; done) | (simp <;> omega)) (.int .i64 0)
    have kP_4 := heap_setCell_same (((((w1).setCell ⟨w.heap.size + 2, 0, none⟩ (.slice A2 zeroNt.q.length c2)).setCell ⟨w.heap.size + 2, 1, none⟩ (.slice A2' zeroNt.ap.length c2')).setCell ⟨w.heap.size + 1, 0, none⟩ (.int .i64 0)).setCell ⟨w.heap.size + 1, 1, none⟩ (.int .i64 0)) (w.heap.size + 1) 2 _ _ (.slice none 0 0) kP_3
    have kX_4 := (heap_setCell_other (((((w1).setCell ⟨w.heap.size + 2, 0, none⟩ (.slice A2 zeroNt.q.length c2)).setCell ⟨w.heap.size + 2, 1, none⟩ (.slice A2' zeroNt.ap.length c2')).setCell ⟨w.heap.size + 1, 0, none⟩ (.int .i64 0)).setCell ⟨w.heap.size + 1, 1, none⟩ (.int .i64 0)) ⟨w.heap.size + 1, 2, none⟩ (w.heap.size + 2) (.slice none 0 0) (by first | omega | (simp; done) | (simp <;> omega))).trans kX_3
    replace hB := hB.setCell (p := ⟨w.heap.size + 1, 2, none⟩) (by first | omega | (simp; done) | (simp <;> omega)) (.slice none 0 0)
    have kP_5 := (heap_setCell_other ((((((w1).setCell ⟨w.heap.size + 2, 0, none⟩ (.slice A2 zeroNt.q.length c2)).setCell ⟨w.heap.size + 2, 1, none⟩ (.slice A2' zeroNt.ap.length c2')).setCell ⟨w.heap.size + 1, 0, none⟩ (.int .i64 0)).setCell ⟨w.heap.size + 1, 1, none⟩ (.int .i64 0)).setCell ⟨w.heap.size + 1, 2, none⟩ (.slice none 0 0)) ⟨w.heap.size + 2, 0, none⟩ (w.heap.size + 1) (.slice none 0 0) (by first | omega | (simp; done) | (simp <;> omega))).trans kP_4
    have kX_5 := heap_setCell_same ((((((w1).setCell ⟨w.heap.size + 2, 0, none⟩ (.slice A2 zeroNt.q.length c2)).setCell ⟨w.heap.size + 2, 1, none⟩ (.slice A2' zeroNt.ap.length c2')).setCell ⟨w.heap.size + 1, 0, none⟩ (.int .i64 0)).setCell ⟨w.heap.size + 1, 1, none⟩ (.int .i64 0)).setCell ⟨w.heap.size + 1, 2, none⟩ (.slice none 0 0)) (w.heap.size + 2) 0 _ _ (.slice none 0 0) kX_4
    replace hB := hB.setCell (p := ⟨w.heap.size + 2, 0, none⟩) (by first | omega | (simp; done) | (simp <;> omega)) (.slice none 0 0)
    have kP_6 := (heap_setCell_other (((((((w1).setCell ⟨w.heap.size + 2, 0, none⟩ (.slice A2 zeroNt.q.length c2)).setCell ⟨w.heap.size + 2, 1, none⟩ (.slice A2' zeroNt.ap.length c2')).setCell ⟨w.heap.size + 1, 0, none⟩ (.int .i64 0)).setCell ⟨w.heap.size + 1, 1, none⟩ (.int .i64 0)).setCell ⟨w.heap.size + 1, 2, none⟩ (.slice none 0 0)).setCell ⟨w.heap.size + 2, 0, none⟩ (.slice none 0 0)) ⟨w.heap.size + 2, 1, none⟩ (w.heap.size + 1) (.slice none 0 0) (by first | omega | (simp; done) | (simp <;> omega))).trans kP_5
    have kX_6 := heap_setCell_same (((((((w1).setCell ⟨w.heap.size + 2, 0, none⟩ (.slice A2 zeroNt.q.length c2)).setCell ⟨w.heap.size + 2, 1, none⟩ (.slice A2' zeroNt.ap.length c2')).setCell ⟨w.heap.size + 1, 0, none⟩ (.int .i64 0)).setCell ⟨w.heap.size + 1, 1, none⟩ (.int .i64 0)).setCell ⟨w.heap.size + 1, 2, none⟩ (.slice none 0 0)).setCell ⟨w.heap.size + 2, 0, none⟩ (.slice none 0 0)) (w.heap.size + 2) 1 _ _ (.slice none 0 0) kX_5
    replace hB := hB.setCell (p := ⟨w.heap.size + 2, 1, none⟩) (by first | omega | (simp; done) | (simp <;> omega)) (.slice none 0 0)
    replace kP : ((((((((w1).setCell ⟨w.heap.size + 2, 0, none⟩ (.slice A2 zeroNt.q.length c2)).setCell ⟨w.heap.size + 2, 1, none⟩ (.slice A2' zeroNt.ap.length c2')).setCell ⟨w.heap.size + 1, 0, none⟩ (.int .i64 0)).setCell ⟨w.heap.size + 1, 1, none⟩ (.int .i64 0)).setCell ⟨w.heap.size + 1, 2, none⟩ (.slice none 0 0)).setCell ⟨w.heap.size + 2, 0, none⟩ (.slice none 0 0)).setCell ⟨w.heap.size + 2, 1, none⟩ (.slice none 0 0)).heap[w.heap.size + 1]? = some (.cells #[(.int .i64 0), (.int .i64 0), (.slice none 0 0)] 28 (0, 0)) := kP_6
    replace kX : ((((((((w1).setCell ⟨w.heap.size + 2, 0, none⟩ (.slice A2 zeroNt.q.length c2)).setCell ⟨w.heap.size + 2, 1, none⟩ (.slice A2' zeroNt.ap.length c2')).setCell ⟨w.heap.size + 1, 0, none⟩ (.int .i64 0)).setCell ⟨w.heap.size + 1, 1, none⟩ (.int .i64 0)).setCell ⟨w.heap.size + 1, 2, none⟩ (.slice none 0 0)).setCell ⟨w.heap.size + 2, 0, none⟩ (.slice none 0 0)).setCell ⟨w.heap.size + 2, 1, none⟩ (.slice none 0 0)).heap[w.heap.size + 2]? = some (.cells #[(.slice none 0 0), (.slice none 0 0)] 25 (0, 0)) := kX_6
    clear kP_0 kX_0 kP_1 kX_1 kP_2 kX_2 kP_3 kX_3 kP_4 kX_4 kP_5 kX_5 kP_6 kX_6
    replace hB := Lib.hid hB
    replace kP := Lib.hid kP
    replace kX := Lib.hid kX
    go_wp2_with fail
    clear x0 x1 fX p0 p1 p2 fP
    obtain ⟨V0, hV0⟩ : ∃ V0, (((((((w1).setCell ⟨w.heap.size + 2, 0, none⟩ (.slice A2 zeroNt.q.length c2)).setCell ⟨w.heap.size + 2, 1, none⟩ (.slice A2' zeroNt.ap.length c2')).setCell ⟨w.heap.size + 1, 0, none⟩ (.int .i64 0)).setCell ⟨w.heap.size + 1, 1, none⟩ (.int .i64 0)).setCell ⟨w.heap.size + 1, 2, none⟩ (.slice none 0 0)).setCell ⟨w.heap.size + 2, 0, none⟩ (.slice none 0 0)).setCell ⟨w.heap.size + 2, 1, none⟩ (.slice none 0 0) = V0 := ⟨_, rfl⟩
    have x0 := cell_of_row _ _ 0 _ _ _ kX.out
    have x1 := cell_of_row _ _ 1 _ _ _ kX.out
    have p0 := cell_of_row _ _ 0 _ _ _ kP.out
    have p1 := cell_of_row _ _ 1 _ _ _ kP.out
    have p2 := cell_of_row _ _ 2 _ _ _ kP.out
    replace hB := hB.out
    rw [hV0] at x0 x1 p0 p1 p2 hB ⊢
    replace hB := Lib.hid hB
    clear hV0
    exact bodyPost_ret (v := .tuple #[.agg #[.int .i64 0, .int .i64 0, .slice none 0 0], .agg #[.slice none 0 0, .slice none 0 0], .int .i64 (findN n i)]) (by simp [results, Try.results20, go_sem, x0, x1, p0, p1, p2]) rfl
      (by rw [hv.out, hv2.out]; exact ⟨hB.out, none, 0, none, 0, none, 0, rfl, ⟨Nat.le_refl _, Nat.zero_le _⟩, fun h => absurd h (by simp [zeroPk]), ⟨I64.zero, I64.zero⟩, NR.zero _ _⟩)
  case inl =>
    have hv2 := delivN_ok h1 hk
    have hpk := List.all_eq_true.1 (ntB_iff.1 hnt).2.2 _ (List.getElem_mem hk)
    have hv := Lib.hid (loseN_ok h1)
    rw [hv.out] at hd2 ⊢
    obtain ⟨Y, hY⟩ : ∃ Y, (⟨n.q.take k ++ n.q.drop (k + 1), n.ap⟩ : Nt) = Y := ⟨_, rfl⟩
    rw [hY] at hd2 hv ⊢
    obtain ⟨b, off, Ap, cp, rfl, hsb, hc0, hc1, hc2, hl1, hl2, hrp, hI⟩ := hdh.out.q.at_ hk
    obtain ⟨p, hp⟩ : ∃ p, n.q[k] = p := ⟨_, rfl⟩
    rw [hp] at hpk hc0 hc1 hc2 hl1 hrp hI hv2
    replace hv2 := Lib.hid hv2
    have hbl := hS b hsb
    have hpl := (pkB_iff.1 hpk).2
    have hKp := Kept.of hS hB
    have hkl : ((k : Int) < n.q.length) := by omega
    have e0 := (hKp b (off + k * 3) hsb).trans hc0
    have e1 := (hKp b (off + k * 3 + 1) hsb).trans hc1
    have e2 := (hKp b (off + k * 3 + 2) hsb).trans hc2
    have y0 : w1.cell? ⟨w.heap.size, 0, none⟩ = _ := cell_of_row w1 _ 0 _ _ _ kN
    clear hp hY hnt h1 hc0 hc1 hc2 hpk
    have kN_0 := (heap_setCell_other (w1) ⟨w.heap.size + 2, 0, none⟩ (w.heap.size) (.slice A2 Y.q.length c2) (by first | omega | (simp; done) | (simp <;> omega))).trans kN
    have kP_0 := (heap_setCell_other (w1) ⟨w.heap.size + 2, 0, none⟩ (w.heap.size + 1) (.slice A2 Y.q.length c2) (by first | omega | (simp; done) | (simp <;> omega))).trans kP
    have kX_0 := heap_setCell_same (w1) (w.heap.size + 2) 0 _ _ (.slice A2 Y.q.length c2) kX
    replace hB := hB.setCell (p := ⟨w.heap.size + 2, 0, none⟩) (by first | omega | (simp; done) | (simp <;> omega)) (.slice A2 Y.q.length c2)
    have kN_1 := (heap_setCell_other ((w1).setCell ⟨w.heap.size + 2, 0, none⟩ (.slice A2 Y.q.length c2)) ⟨w.heap.size + 2, 1, none⟩ (w.heap.size) (.slice A2' Y.ap.length c2') (by first | omega | (simp; done) | (simp <;> omega))).trans kN_0
    have kP_1 := (heap_setCell_other ((w1).setCell ⟨w.heap.size + 2, 0, none⟩ (.slice A2 Y.q.length c2)) ⟨w.heap.size + 2, 1, none⟩ (w.heap.size + 1) (.slice A2' Y.ap.length c2') (by first | omega | (simp; done) | (simp <;> omega))).trans kP_0
    have kX_1 := heap_setCell_same ((w1).setCell ⟨w.heap.size + 2, 0, none⟩ (.slice A2 Y.q.length c2)) (w.heap.size + 2) 1 _ _ (.slice A2' Y.ap.length c2') kX_0
    replace hB := hB.setCell (p := ⟨w.heap.size + 2, 1, none⟩) (by first | omega | (simp; done) | (simp <;> omega)) (.slice A2' Y.ap.length c2')
    have kN_2 := (heap_setCell_other (((w1).setCell ⟨w.heap.size + 2, 0, none⟩ (.slice A2 Y.q.length c2)).setCell ⟨w.heap.size + 2, 1, none⟩ (.slice A2' Y.ap.length c2')) ⟨w.heap.size + 1, 0, none⟩ (w.heap.size) (.int .i64 p.frm) (by first | omega | (simp; done) | (simp <;> omega))).trans kN_1
    have kP_2 := heap_setCell_same (((w1).setCell ⟨w.heap.size + 2, 0, none⟩ (.slice A2 Y.q.length c2)).setCell ⟨w.heap.size + 2, 1, none⟩ (.slice A2' Y.ap.length c2')) (w.heap.size + 1) 0 _ _ (.int .i64 p.frm) kP_1
    have kX_2 := (heap_setCell_other (((w1).setCell ⟨w.heap.size + 2, 0, none⟩ (.slice A2 Y.q.length c2)).setCell ⟨w.heap.size + 2, 1, none⟩ (.slice A2' Y.ap.length c2')) ⟨w.heap.size + 1, 0, none⟩ (w.heap.size + 2) (.int .i64 p.frm) (by first | omega | (simp; done) | (simp <;> omega))).trans kX_1
    replace hB := hB.setCell (p := ⟨w.heap.size + 1, 0, none⟩) (by first | omega | (simp; done) | (simp <;> omega)) (.int .i64 p.frm)
    have kN_3 := (heap_setCell_other ((((w1).setCell ⟨w.heap.size + 2, 0, none⟩ (.slice A2 Y.q.length c2)).setCell ⟨w.heap.size + 2, 1, none⟩ (.slice A2' Y.ap.length c2')).setCell ⟨w.heap.size + 1, 0, none⟩ (.int .i64 p.frm)) ⟨w.heap.size + 1, 1, none⟩ (w.heap.size) (.int .i64 p.to) (by first | omega | (simp; done) | (simp <;> omega))).trans kN_2
    have kP_3 := heap_setCell_same ((((w1).setCell ⟨w.heap.size + 2, 0, none⟩ (.slice A2 Y.q.length c2)).setCell ⟨w.heap.size + 2, 1, none⟩ (.slice A2' Y.ap.length c2')).setCell ⟨w.heap.size + 1, 0, none⟩ (.int .i64 p.frm)) (w.heap.size + 1) 1 _ _ (.int .i64 p.to) kP_2
    have kX_3 := (heap_setCell_other ((((w1).setCell ⟨w.heap.size + 2, 0, none⟩ (.slice A2 Y.q.length c2)).setCell ⟨w.heap.size + 2, 1, none⟩ (.slice A2' Y.ap.length c2')).setCell ⟨w.heap.size + 1, 0, none⟩ (.int .i64 p.frm)) ⟨w.heap.size + 1, 1, none⟩ (w.heap.size + 2) (.int .i64 p.to) (by first | omega | (simp; done) | (simp <;> omega))).trans kX_2
    replace hB := hB.setCell (p := ⟨w.heap.size + 1, 1, none⟩) (by first | omega | (simp; done) | (simp <;> omega)) (.int .i64 p.to)
    have kN_4 := (heap_setCell_other (((((w1).setCell ⟨w.heap.size + 2, 0, none⟩ (.slice A2 Y.q.length c2)).setCell ⟨w.heap.size + 2, 1, none⟩ (.slice A2' Y.ap.length c2')).setCell ⟨w.heap.size + 1, 0, none⟩ (.int .i64 p.frm)).setCell ⟨w.heap.size + 1, 1, none⟩ (.int .i64 p.to)) ⟨w.heap.size + 1, 2, none⟩ (w.heap.size) (.slice Ap p.data.length cp) (by first | omega | (simp; done) | (simp <;> omega))).trans kN_3
    have kP_4 := heap_setCell_same (((((w1).setCell ⟨w.heap.size + 2, 0, none⟩ (.slice A2 Y.q.length c2)).setCell ⟨w.heap.size + 2, 1, none⟩ (.slice A2' Y.ap.length c2')).setCell ⟨w.heap.size + 1, 0, none⟩ (.int .i64 p.frm)).setCell ⟨w.heap.size + 1, 1, none⟩ (.int .i64 p.to)) (w.heap.size + 1) 2 _ _ (.slice Ap p.data.length cp) kP_3
    have kX_4 := (heap_setCell_other (((((w1).setCell ⟨w.heap.size + 2, 0, none⟩ (.slice A2 Y.q.length c2)).setCell ⟨w.heap.size + 2, 1, none⟩ (.slice A2' Y.ap.length c2')).setCell ⟨w.heap.size + 1, 0, none⟩ (.int .i64 p.frm)).setCell ⟨w.heap.size + 1, 1, none⟩ (.int .i64 p.to)) ⟨w.heap.size + 1, 2, none⟩ (w.heap.size + 2) (.slice Ap p.data.length cp) (by first | omega | (simp; done) | (simp <;> omega))).trans kX_3
    replace hB := hB.setCell (p := ⟨w.heap.size + 1, 2, none⟩) (by first | omega | (simp; done) | (simp <;> omega)) (.slice Ap p.data.length cp)
    replace kN : ((((((w1).setCell ⟨w.heap.size + 2, 0, none⟩ (.slice A2 Y.q.length c2)).setCell ⟨w.heap.size + 2, 1, none⟩ (.slice A2' Y.ap.length c2')).setCell ⟨w.heap.size + 1, 0, none⟩ (.int .i64 p.frm)).setCell ⟨w.heap.size + 1, 1, none⟩ (.int .i64 p.to)).setCell ⟨w.heap.size + 1, 2, none⟩ (.slice Ap p.data.length cp)).heap[w.heap.size]? = some (.cells #[(.slice (some ⟨b, off, none⟩) n.q.length c), (.slice A' n.ap.length c')] 25 (0, 0)) := kN_4
    replace kP : ((((((w1).setCell ⟨w.heap.size + 2, 0, none⟩ (.slice A2 Y.q.length c2)).setCell ⟨w.heap.size + 2, 1, none⟩ (.slice A2' Y.ap.length c2')).setCell ⟨w.heap.size + 1, 0, none⟩ (.int .i64 p.frm)).setCell ⟨w.heap.size + 1, 1, none⟩ (.int .i64 p.to)).setCell ⟨w.heap.size + 1, 2, none⟩ (.slice Ap p.data.length cp)).heap[w.heap.size + 1]? = some (.cells #[(.int .i64 p.frm), (.int .i64 p.to), (.slice Ap p.data.length cp)] 28 (0, 0)) := kP_4
    replace kX : ((((((w1).setCell ⟨w.heap.size + 2, 0, none⟩ (.slice A2 Y.q.length c2)).setCell ⟨w.heap.size + 2, 1, none⟩ (.slice A2' Y.ap.length c2')).setCell ⟨w.heap.size + 1, 0, none⟩ (.int .i64 p.frm)).setCell ⟨w.heap.size + 1, 1, none⟩ (.int .i64 p.to)).setCell ⟨w.heap.size + 1, 2, none⟩ (.slice Ap p.data.length cp)).heap[w.heap.size + 2]? = some (.cells #[(.slice A2 Y.q.length c2), (.slice A2' Y.ap.length c2')] 25 (0, 0)) := kX_4
    clear kN_0 kP_0 kX_0 kN_1 kP_1 kX_1 kN_2 kP_2 kX_2 kN_3 kP_3 kX_3 kN_4 kP_4 kX_4
    replace hd2 : NR ((((((w1).setCell ⟨w.heap.size + 2, 0, none⟩ (.slice A2 Y.q.length c2)).setCell ⟨w.heap.size + 2, 1, none⟩ (.slice A2' Y.ap.length c2')).setCell ⟨w.heap.size + 1, 0, none⟩ (.int .i64 p.frm)).setCell ⟨w.heap.size + 1, 1, none⟩ (.int .i64 p.to)).setCell ⟨w.heap.size + 1, 2, none⟩ (.slice Ap p.data.length cp)) (Sn S V3 w1) A2 c2 A2' c2' Y := hd2.keep (((((Kept.set fun g hg => by rcases hg with hg | hg; (have := hS g hg; omega); (have := hsV3.out; omega)).trans (Kept.set fun g hg => by rcases hg with hg | hg; (have := hS g hg; omega); (have := hsV3.out; omega))).trans (Kept.set fun g hg => by rcases hg with hg | hg; (have := hS g hg; omega); (have := hsV3.out; omega))).trans (Kept.set fun g hg => by rcases hg with hg | hg; (have := hS g hg; omega); (have := hsV3.out; omega))).trans (Kept.set fun g hg => by rcases hg with hg | hg; (have := hS g hg; omega); (have := hsV3.out; omega)))
    have hzV : ((((((w1).setCell ⟨w.heap.size + 2, 0, none⟩ (.slice A2 Y.q.length c2)).setCell ⟨w.heap.size + 2, 1, none⟩ (.slice A2' Y.ap.length c2')).setCell ⟨w.heap.size + 1, 0, none⟩ (.int .i64 p.frm)).setCell ⟨w.heap.size + 1, 1, none⟩ (.int .i64 p.to)).setCell ⟨w.heap.size + 1, 2, none⟩ (.slice Ap p.data.length cp)).heap.size = w1.heap.size := by simp
    obtain ⟨V, hV⟩ : ∃ V, (((((w1).setCell ⟨w.heap.size + 2, 0, none⟩ (.slice A2 Y.q.length c2)).setCell ⟨w.heap.size + 2, 1, none⟩ (.slice A2' Y.ap.length c2')).setCell ⟨w.heap.size + 1, 0, none⟩ (.int .i64 p.frm)).setCell ⟨w.heap.size + 1, 1, none⟩ (.int .i64 p.to)).setCell ⟨w.heap.size + 1, 2, none⟩ (.slice Ap p.data.length cp) = V := ⟨_, rfl⟩
    rw [hV] at kN kP kX hB hd2 hzV
    replace kN := Lib.hid kN
    replace kP := Lib.hid kP
    replace kX := Lib.hid kX
    replace hB := Lib.hid hB
    replace hd2 := Lib.hid hd2
    replace hV := Lib.hid hV
    go_upto_region 5 with fail
    rw [hV.out]
    clear hV e0 e1 e2 y0 x0 x1 fX p0 p1 p2 fP hKp
    have hN : Hid (∀ W, Below V.heap.size V W → W.cell? ⟨w.heap.size, 1, none⟩ = some (.slice A' n.ap.length c') ∧ W.cell? ⟨w.heap.size + 1, 0, none⟩ = some (.int .i64 p.frm) ∧ W.cell? ⟨w.heap.size + 1, 1, none⟩ = some (.int .i64 p.to)) := fun W hW =>
      have h := blk_step kN.out hW
      have h2 := blk_step kP.out hW
      ⟨cell_of_row W _ 1 _ _ _ h, cell_of_row W _ 0 _ _ _ h2, cell_of_row W _ 1 _ _ _ h2⟩
    have hCo : Hid (∀ W, Below V.heap.size V W → Calls Try.prog 40 #[.slice A' n.ap.length c', .agg #[.int .i64 (linkP p.frm p.to).1, .int .i64 (linkP p.frm p.to).2]] W fun e w' => e = .returned (.bool (cutB n p.frm p.to)) ∧ Below W.heap.size W w') := fun W hW => by
      have hBW := hB.out.trans (hW.mono hB.out.size)
      have h5 := hdh.out.cap'
      have h6 := hdh.out.max'
      unfold maxLen at h6
      exact Contains_any n.ap (by omega) (linkP p.frm p.to) W A' c' w.heap.size hBW.size ((hdh.out.ap.keep (Kept.of hS hBW)).mono hS)
    have hhV := hsV3.out
    refine wp_region_pre 8 0 (fun W => Below V.heap.size V W) (fun W W' => Below W.heap.size W W')
      (fun i v W => match i with
        | 0 => v = .pointer (some ⟨w.heap.size, 1, none⟩)
        | 1 => v = .slice A' n.ap.length c'
        | 2 => v = .pointer (some ⟨w.heap.size + 1, 0, none⟩)
        | 3 => v = .int .i64 p.frm
        | 4 => v = .pointer (some ⟨w.heap.size + 1, 1, none⟩)
        | 5 => v = .int .i64 p.to
        | 6 => v = .agg #[.int .i64 (linkP p.frm p.to).1, .int .i64 (linkP p.frm p.to).2]
        | 7 => v = .bool (cutB n p.frm p.to)
        | _ => True) (fun _ => false)
      (by kernel_rfl) (by kernel_rfl) (by kernel_rfl) (by kernel_rfl) (by kernel_rfl) (by kernel_rfl) (by kernel_rfl) ?_ (fun _ _ h => h.size) (dN (Below.refl _ _) 1) ?_ ?_
    · intro i v W W' hb hF
      match i, hF with
      | 0, h => exact h
      | 1, h => exact h
      | 2, h => exact h
      | 3, h => exact h
      | 4, h => exact h
      | 5, h => exact h
      | 6, h => exact h
      | 7, h => exact h
      | _ + 8, _ => trivial
    · refine ⟨?_, ?_, ?_, ?_, ?_, ?_, ?_, ?_, trivial⟩
      · refine stepJ_any rfl fun ac W hAA hG hDD K hK => ?_
        have h2 := hAA.getD (t := 2) (by kernel_rfl)
        simp only [Array.getD_eq_getD_getElem?] at h2
        rw [if_pos (by rfl)]
        exact wp_val (v := .pointer (some ⟨w.heap.size, 1, none⟩)) (w' := W) (by simp [execOp, Act.eval, h2, go_sem]) (hK _ _ hG (Below.refl _ _) rfl (fun h => by cases h))
      · refine stepJ_any rfl fun ac W hAA hG hDD K hK => ?_
        have h23 := hDD.get 0 23 _ rfl rfl (by kernel_rfl)
        simp only [Array.getD_eq_getD_getElem?] at h23
        obtain ⟨k0, k1, k2⟩ := hN.out W hG
        rw [if_pos (by rfl)]
        exact wp_val (v := .slice A' n.ap.length c') (w' := W) (by simp [execOp, Act.eval, h23, go_sem, k0]) (hK _ _ hG (Below.refl _ _) rfl (fun h => by cases h))
      · refine stepJ_any rfl fun ac W hAA hG hDD K hK => ?_
        have h4 := hAA.getD (t := 4) (by kernel_rfl)
        simp only [Array.getD_eq_getD_getElem?] at h4
        rw [if_pos (by rfl)]
        exact wp_val (v := .pointer (some ⟨w.heap.size + 1, 0, none⟩)) (w' := W) (by simp [execOp, Act.eval, h4, go_sem]) (hK _ _ hG (Below.refl _ _) rfl (fun h => by cases h))
      · refine stepJ_any rfl fun ac W hAA hG hDD K hK => ?_
        have h25 := hDD.get 2 25 _ rfl rfl (by kernel_rfl)
        simp only [Array.getD_eq_getD_getElem?] at h25
        obtain ⟨k0, k1, k2⟩ := hN.out W hG
        rw [if_pos (by rfl)]
        exact wp_val (v := .int .i64 p.frm) (w' := W) (by simp [execOp, Act.eval, h25, go_sem, k1]) (hK _ _ hG (Below.refl _ _) rfl (fun h => by cases h))
      · refine stepJ_any rfl fun ac W hAA hG hDD K hK => ?_
        have h4 := hAA.getD (t := 4) (by kernel_rfl)
        simp only [Array.getD_eq_getD_getElem?] at h4
        rw [if_pos (by rfl)]
        exact wp_val (v := .pointer (some ⟨w.heap.size + 1, 1, none⟩)) (w' := W) (by simp [execOp, Act.eval, h4, go_sem]) (hK _ _ hG (Below.refl _ _) rfl (fun h => by cases h))
      · refine stepJ_any rfl fun ac W hAA hG hDD K hK => ?_
        have h27 := hDD.get 4 27 _ rfl rfl (by kernel_rfl)
        simp only [Array.getD_eq_getD_getElem?] at h27
        obtain ⟨k0, k1, k2⟩ := hN.out W hG
        rw [if_pos (by rfl)]
        exact wp_val (v := .int .i64 p.to) (w' := W) (by simp [execOp, Act.eval, h27, go_sem, k2]) (hK _ _ hG (Below.refl _ _) rfl (fun h => by cases h))
      · refine stepJ_any rfl fun ac W hAA hG hDD K hK => ?_
        have h26 := hDD.get 3 26 _ rfl rfl (by kernel_rfl)
        have h28 := hDD.get 5 28 _ rfl rfl (by kernel_rfl)
        simp only [Array.getD_eq_getD_getElem?] at h26 h28
        rw [if_pos (by rfl)]
        refine wp_call (f := 35) (args := #[.int .i64 p.frm, .int .i64 p.to]) (by simp [execOp, Act.eval, h26, h28, go_sem]) ((pair_any p.frm p.to W).mono fun e W9 he => ?_)
        obtain ⟨rfl, hbw⟩ := he
        exact hK _ _ (hG.trans (hbw.mono hG.size)) hbw rfl (fun h => by cases h)
      · refine stepJ_any rfl fun ac W hAA hG hDD K hK => ?_
        have h24 := hDD.get 1 24 _ rfl rfl (by kernel_rfl)
        have h29 := hDD.get 6 29 _ rfl rfl (by kernel_rfl)
        simp only [Array.getD_eq_getD_getElem?] at h24 h29
        rw [if_pos (by rfl)]
        refine wp_call (f := 40) (args := #[.slice A' n.ap.length c', .agg #[.int .i64 (linkP p.frm p.to).1, .int .i64 (linkP p.frm p.to).2]]) (by simp [execOp, Act.eval, h24, h29, go_sem]) ((hCo.out W hG).mono fun e W9 he => ?_)
        obtain ⟨rfl, hbw⟩ := he
        exact hK _ _ (hG.trans (hbw.mono hG.size)) hbw rfl (fun h => by cases h)
    intro fu T w2 hG hF hne hltb
    have e23 : T 23 = .pointer (some ⟨w.heap.size, 1, none⟩) := hF 0 _ rfl (by omega)
    have e24 : T 24 = .slice A' n.ap.length c' := hF 1 _ rfl (by omega)
    have e25 : T 25 = .pointer (some ⟨w.heap.size + 1, 0, none⟩) := hF 2 _ rfl (by omega)
    have e26 : T 26 = .int .i64 p.frm := hF 3 _ rfl (by omega)
    have e27 : T 27 = .pointer (some ⟨w.heap.size + 1, 1, none⟩) := hF 4 _ rfl (by omega)
    have e28 : T 28 = .int .i64 p.to := hF 5 _ rfl (by omega)
    have e29 : T 29 = .agg #[.int .i64 (linkP p.frm p.to).1, .int .i64 (linkP p.frm p.to).2] := hF 6 _ rfl (by omega)
    have e30 : T 30 = .bool (cutB n p.frm p.to) := hF 7 _ rfl (by omega)
    clear hF hne hltb
    simp only [List.take, fillT, List.setIfInBounds_toArray, List.set_cons_zero, List.set_cons_succ, e23, e24, e25, e26, e27, e28, e29, e30]
    clear e23 e24 e25 e26 e27 e28 e29 e30
    refine wpAny_done (by kernel_rfl) ?_ _
    replace kP := blk_step kP.out hG
    replace kX := blk_step kX.out hG
    replace hB := hB.out.trans (hG.mono hB.out.size)
    replace hd2 := hd2.out.keep (w' := w2) (fun g o hg => hG.cell (p := ⟨g, o, none⟩) (show g < V.heap.size by rcases hg with hg | hg; (have := hS g hg; omega); omega))
    have hs2 := hG.size
    clear hN hCo hG kN
    cases hcut : cutB n p.frm p.to with
    | true =>
      replace hd2 := Lib.hid hd2
      have hv3 := Lib.hid (show delivN n k = zeroPk by rw [hv2.out, if_pos hcut])
      clear hcut
      go_wp2_with fail
      have kVx := kX
      have kVp := kP
      have hV1k := setRow_heap w2.drew (w.heap.size + 1) _ #[(.int .i64 0), (.int .i64 0), (.slice none 0 0)] _ _ kVp
      have hV1x : (w2.drew.setRow (w.heap.size + 1) #[(.int .i64 0), (.int .i64 0), (.slice none 0 0)]).heap[w.heap.size + 2]? = some (.cells #[(.slice A2 Y.q.length c2), (.slice A2' Y.ap.length c2')] 25 (0, 0)) := (setRow_other w2.drew (w.heap.size + 1) (w.heap.size + 2) _ (by omega)).trans kVx
      have hVs : (w2.drew.setRow (w.heap.size + 1) #[(.int .i64 0), (.int .i64 0), (.slice none 0 0)]).heap.size = w2.heap.size := by simp
      obtain ⟨V1, hV1⟩ : ∃ V1, w2.drew.setRow (w.heap.size + 1) #[(.int .i64 0), (.int .i64 0), (.slice none 0 0)] = V1 := ⟨_, rfl⟩
      have hVi : V1.setRow (w.heap.size + 1) #[(.int .i64 0), (.int .i64 0), (.slice none 0 0)] = V1 := by rw [← hV1]; exact setRow_setRow _ _ _
      rw [hV1] at hV1k hV1x hVs
      have hV1 := Lib.hid hV1
      refine wp_region_pre 3 2 (fun W => W = w2.drew ∨ W = V1) (fun W W' => W' = W ∨ (W' = V1 ∧ W.heap.size ≤ W'.heap.size)) (fun i v W => match i with | 0 => v = .agg #[(.int .i64 0), (.int .i64 0), (.slice none 0 0)] | 1 => v = .agg #[(.slice A2 Y.q.length c2), (.slice A2' Y.ap.length c2')] | 2 => W = V1 | _ => True) (fun _ => false)
        (by kernel_rfl) (by kernel_rfl) (by kernel_rfl) (by kernel_rfl) (by kernel_rfl) (by kernel_rfl) (by kernel_rfl) ?_ (fun _ _ h => by rcases h with rfl | ⟨rfl, h⟩; exact Nat.le_refl _; exact h) (.inl rfl) ?_ ?_
      · intro i v W W' hb hF
        match i, hF with
        | 0, h => exact h
        | 1, h => exact h
        | 2, h => rcases hb with rfl | ⟨rfl, -⟩; exact h; exact rfl
        | _ + 3, _ => trivial
      · refine ⟨?_, ?_, ?_, trivial⟩
        · refine stepJ_any rfl fun ac W hAA hG hDD K hK => ?_
          rw [if_pos (by rfl)]
          exact wp_val (v := .agg #[(.int .i64 0), (.int .i64 0), (.slice none 0 0)]) (w' := W) (by simp [execOp, Act.eval, go_sem]) (hK _ _ hG (.inl rfl) rfl (fun h => by cases h))
        · refine stepJ_any rfl fun ac W hAA hG hDD K hK => ?_
          have h5 := hAA.getD (t := 5) (by kernel_rfl)
          simp only [Array.getD_eq_getD_getElem?] at h5
          have hkx : W.heap[w.heap.size + 2]? = some (.cells #[(.slice A2 Y.q.length c2), (.slice A2' Y.ap.length c2')] 25 (0, 0)) := by rcases hG with rfl | rfl; exact kVx; exact hV1x
          have x0 := cell_of_row W _ 0 _ _ _ hkx
          have x1 := cell_of_row W _ 1 _ _ _ hkx
          rw [if_pos (by rfl)]
          exact wp_val (v := .agg #[(.slice A2 Y.q.length c2), (.slice A2' Y.ap.length c2')]) (w' := W) (by simp [execOp, Act.eval, h5, go_sem, x0, x1]) (hK _ _ hG (.inl rfl) rfl (fun h => by cases h))
        · intro ac W hAA hG hDD K hK
          have h4 := hAA.getD (t := 4) (by kernel_rfl)
          have hv0 := hDD.get 0 31 _ rfl rfl (by kernel_rfl)
          rw [if_pos (by rfl)]
          have hkp : ∃ cs : Array Value, cs.size = 3 ∧ W.heap[w.heap.size + 1]? = some (.cells cs 28 (0, 0)) := by rcases hG with rfl | rfl; exact ⟨_, rfl, kVp⟩; exact ⟨_, rfl, hV1k⟩
          obtain ⟨cs, hcs, hkp⟩ := hkp
          refine wp_store_row 28 (.tmp 4) (.tmp 31) rfl (w.heap.size + 1) #[(.int .i64 0), (.int .i64 0), (.slice none 0 0)] h4 hv0 28 _ hkp (by kernel_rfl) (by rw [hcs]; rfl) (by simp [Value.oneCell']) ?_
          have hW1 : W.setRow (w.heap.size + 1) #[(.int .i64 0), (.int .i64 0), (.slice none 0 0)] = V1 := by rcases hG with rfl | rfl; exact hV1.out; exact hVi
          rw [hW1]
          exact hK undef V1 (fun _ => rfl) (.inr rfl) (.inr ⟨rfl, by rcases hG with rfl | rfl; rw [hVs]; exact Nat.le_refl _; exact Nat.le_refl _⟩) rfl (fun h => by cases h)
      intro fu T W9 hG hF hne hltb
      have e0 : T 31 = .agg #[(.int .i64 0), (.int .i64 0), (.slice none 0 0)] := hF 0 _ rfl (by omega)
      have e1 : T 32 = .agg #[(.slice A2 Y.q.length c2), (.slice A2' Y.ap.length c2')] := hF 1 _ rfl (by omega)
      have e2 : W9 = V1 := hF 2 _ rfl (by omega)
      clear hF hne hltb hG
      subst e2
      simp only [List.take, fillT, List.setIfInBounds_toArray, List.set_cons_zero, List.set_cons_succ, e0, e1]
      clear e0 e1
      refine wpAny_ready (rs := [3]) (by kernel_rfl) (by simp) (AllReady.cons (o := ⟨none, (Op.store 25 (Operand.tmp 5) (Operand.tmp 32)), _, _, _, none⟩) rfl (fun K1 hK1 => ?_) AllReady.nil)
      rw [if_pos (by rfl)]
      refine wp_store_row 25 (.tmp 5) (.tmp 32) rfl (w.heap.size + 2) #[(.slice A2 Y.q.length c2), (.slice A2' Y.ap.length c2')] rfl rfl 25 _ hV1x (by kernel_rfl) rfl (by simp [Value.oneCell']) ?_
      refine hK1 _ _ ?_
      clear hK1 K1
      refine wpAny_ready (rs := [4]) (by kernel_rfl) (by simp) (AllReady.cons (o := ⟨(some 6), (Op.assign (Operand.const (Value.int IntKind.i64 0))), _, _, _, none⟩) rfl (fun K1 hK1 => ?_) AllReady.nil)
      rw [if_pos (by rfl)]
      refine wp_val (v := .int .i64 0) (w' := W9.setRow (w.heap.size + 2) #[(.slice A2 Y.q.length c2), (.slice A2' Y.ap.length c2')]) (by simp [execOp, Act.eval, go_sem]) ?_
      refine hK1 _ _ ?_
      clear hK1 K1
      refine wpAny_done (by kernel_rfl) ?_ _
      simp only [Act.put, List.setIfInBounds_toArray, List.set_cons_zero, List.set_cons_succ]
      have kX9 := setRow_heap W9 (w.heap.size + 2) _ #[(.slice A2 Y.q.length c2), (.slice A2' Y.ap.length c2')] _ _ hV1x
      have kP9 := (setRow_other W9 (w.heap.size + 2) (w.heap.size + 1) #[(.slice A2 Y.q.length c2), (.slice A2' Y.ap.length c2')] (by omega)).trans hV1k
      have hb9 : Below w.heap.size w2 W9 := by rw [← hV1.out]; exact unD ((Below.refl w.heap.size w2.drew).grown (grownBy_setRow w2.drew (w.heap.size + 1) #[(.int .i64 0), (.int .i64 0), (.slice none 0 0)]) (by simp; omega) (fun k hk => by injection hk; omega))
      have hB9 := hB.trans (hb9.grown (grownBy_setRow W9 (w.heap.size + 2) #[(.slice A2 Y.q.length c2), (.slice A2' Y.ap.length c2')]) (by rw [hVs]; omega) (fun k hk => by injection hk; omega))
      have hK9 : Kept (fun g => g ≠ w.heap.size + 1 ∧ g ≠ w.heap.size + 2) w2 (W9.setRow (w.heap.size + 2) #[(.slice A2 Y.q.length c2), (.slice A2' Y.ap.length c2')]) := fun g o hg => by
        refine (World.cell?_of_block (setRow_other W9 (w.heap.size + 2) g #[(.slice A2 Y.q.length c2), (.slice A2' Y.ap.length c2')] hg.2)).trans ?_
        rw [← hV1.out]
        exact (World.cell?_of_block (setRow_other w2.drew (w.heap.size + 1) g #[(.int .i64 0), (.int .i64 0), (.slice none 0 0)] hg.1))
      have hz9 : (W9.setRow (w.heap.size + 2) #[(.slice A2 Y.q.length c2), (.slice A2' Y.ap.length c2')]).heap.size = w2.heap.size := by simp [hVs]
      obtain ⟨w9, hw9⟩ : ∃ W, W9.setRow (w.heap.size + 2) #[(.slice A2 Y.q.length c2), (.slice A2' Y.ap.length c2')] = W := ⟨_, rfl⟩
      rw [hw9] at kX9 kP9 hB9 hK9 hz9 ⊢
      clear hw9 hV1k hV1x hVi hb9 hVs kVx kVp
      have x0 : w9.cell? ⟨w.heap.size + 2, 0, none⟩ = _ := cell_of_row w9 _ 0 _ _ _ kX9
      have x1 : w9.cell? ⟨w.heap.size + 2, 1, none⟩ = _ := cell_of_row w9 _ 1 _ _ _ kX9
      have p0 : w9.cell? ⟨w.heap.size + 1, 0, none⟩ = _ := cell_of_row w9 _ 0 _ _ _ kP9
      have p1 : w9.cell? ⟨w.heap.size + 1, 1, none⟩ = _ := cell_of_row w9 _ 1 _ _ _ kP9
      have p2 : w9.cell? ⟨w.heap.size + 1, 2, none⟩ = _ := cell_of_row w9 _ 2 _ _ _ kP9
      replace hB9 := Lib.hid hB9
      replace hK9 := Lib.hid hK9
      go_wp2_with fail
      have hD9 : NR w9 (Sn S w w9) A2 c2 A2' c2' Y := by
        refine (hd2.out.keep fun g o hg => hK9.out g o ?_).mono fun g hg => ?_
        · rcases hg with hg | hg
          · have := hS g hg; omega
          · omega
        · exact hg.imp id fun h => ⟨by omega, by omega⟩
      exact bodyPost_ret (v := .tuple #[.agg #[.int .i64 0, .int .i64 0, .slice none 0 0], .agg #[.slice A2 Y.q.length c2, .slice A2' Y.ap.length c2'], .int .i64 0]) (by simp [results, Try.results20, go_sem, x0, x1, p0, p1, p2]) rfl
        (by rw [hv.out, hv3.out]; exact ⟨hB9.out, none, 0, A2, c2, A2', c2', rfl, ⟨Nat.le_refl _, Nat.zero_le _⟩, fun h => absurd h (by simp [zeroPk]), ⟨I64.zero, I64.zero⟩, hD9⟩)
    | false =>
      have hCl := Lib.hid (Clone_any p.data (by omega) w2 Ap cp ((hrp.keep (Kept.of hS hB)).mono fun g hg => by have := hS g hg; omega))
      have p2 : w2.cell? ⟨w.heap.size + 1, 2, none⟩ = _ := cell_of_row w2 _ 2 _ _ _ kP
      replace hB := Lib.hid hB
      replace hd2 := Lib.hid hd2
      have hv3 := Lib.hid (show delivN n k = p by rw [hv2.out, if_neg (by rw [hcut]; decide)])
      clear hcut
      go_wp2_with fail
      refine hCl.out.mono ?_
      rintro e w3 ⟨v, rfl, ⟨Ac, cc, rfl, hr1, hr2, hr3⟩, hb⟩
      replace kP := blk_step kP hb
      replace kX := blk_step kX hb
      replace hB := hB.out.trans (hb.mono hB.out.size)
      replace hd2 := hd2.out.keep (w' := w3) (fun g o hg => hb.cell (p := ⟨g, o, none⟩) (show g < w2.heap.size by rcases hg with hg | hg; (have := hS g hg; omega); omega))
      have hs3 := hb.size
      clear hb hCl p2
      have p2 : w3.cell? ⟨w.heap.size + 1, 2, none⟩ = _ := cell_of_row w3 _ 2 _ _ _ kP
      have fP := fun i => frozen_of_row w3 _ i _ _ kP
      have kP_0 := heap_setCell_same (w3) (w.heap.size + 1) 2 _ _ (.slice Ac p.data.length cc) kP
      have kX_0 := (heap_setCell_other (w3) ⟨w.heap.size + 1, 2, none⟩ (w.heap.size + 2) (.slice Ac p.data.length cc) (by first | omega | (simp; done) | (simp <;> omega))).trans kX
      replace hB := hB.setCell (p := ⟨w.heap.size + 1, 2, none⟩) (by first | omega | (simp; done) | (simp <;> omega)) (.slice Ac p.data.length cc)
      replace kP : ((w3).setCell ⟨w.heap.size + 1, 2, none⟩ (.slice Ac p.data.length cc)).heap[w.heap.size + 1]? = some (.cells #[(.int .i64 p.frm), (.int .i64 p.to), (.slice Ac p.data.length cc)] 28 (0, 0)) := kP_0
      replace kX : ((w3).setCell ⟨w.heap.size + 1, 2, none⟩ (.slice Ac p.data.length cc)).heap[w.heap.size + 2]? = some (.cells #[(.slice A2 Y.q.length c2), (.slice A2' Y.ap.length c2')] 25 (0, 0)) := kX_0
      clear kP_0 kX_0
      replace hd2 : NR ((w3).setCell ⟨w.heap.size + 1, 2, none⟩ (.slice Ac p.data.length cc)) (Sn S V3 w1) A2 c2 A2' c2' Y := hd2.keep (Kept.set fun g hg => by rcases hg with hg | hg; (have := hS g hg; omega); omega)
      replace hr3 : RBs ((w3).setCell ⟨w.heap.size + 1, 2, none⟩ (.slice Ac p.data.length cc)) (fun g => w2.heap.size ≤ g ∧ g < w3.heap.size) Ac p.data := hr3.keep (Kept.set fun g hg => by omega)
      have hz4 : ((w3).setCell ⟨w.heap.size + 1, 2, none⟩ (.slice Ac p.data.length cc)).heap.size = w3.heap.size := by simp
      obtain ⟨w4, hw4⟩ : ∃ W, (w3).setCell ⟨w.heap.size + 1, 2, none⟩ (.slice Ac p.data.length cc) = W := ⟨_, rfl⟩
      rw [hw4] at kP kX hB hd2 hr3 hz4
      replace hw4 := Lib.hid hw4
      replace hd2 := Lib.hid hd2
      replace hr3 := Lib.hid hr3
      replace kP := Lib.hid kP
      replace kX := Lib.hid kX
      replace hB := Lib.hid hB
      go_upto_region 8 with fail
      rw [hw4.out]
      replace kP := kP.out
      replace kX := kX.out
      replace hB := hB.out
      clear hw4 p2 fP
      have kVx := kX
      have kVp := kP
      have hV1k := setRow_heap w4.drew (w.heap.size + 1) _ #[(.int .i64 p.frm), (.int .i64 p.to), (.slice Ac p.data.length cc)] _ _ kVp
      have hV1x : (w4.drew.setRow (w.heap.size + 1) #[(.int .i64 p.frm), (.int .i64 p.to), (.slice Ac p.data.length cc)]).heap[w.heap.size + 2]? = some (.cells #[(.slice A2 Y.q.length c2), (.slice A2' Y.ap.length c2')] 25 (0, 0)) := (setRow_other w4.drew (w.heap.size + 1) (w.heap.size + 2) _ (by omega)).trans kVx
      have hVs : (w4.drew.setRow (w.heap.size + 1) #[(.int .i64 p.frm), (.int .i64 p.to), (.slice Ac p.data.length cc)]).heap.size = w4.heap.size := by simp
      obtain ⟨V1, hV1⟩ : ∃ V1, w4.drew.setRow (w.heap.size + 1) #[(.int .i64 p.frm), (.int .i64 p.to), (.slice Ac p.data.length cc)] = V1 := ⟨_, rfl⟩
      have hVi : V1.setRow (w.heap.size + 1) #[(.int .i64 p.frm), (.int .i64 p.to), (.slice Ac p.data.length cc)] = V1 := by rw [← hV1]; exact setRow_setRow _ _ _
      rw [hV1] at hV1k hV1x hVs
      have hV1 := Lib.hid hV1
      refine wp_region_pre 3 2 (fun W => W = w4.drew ∨ W = V1) (fun W W' => W' = W ∨ (W' = V1 ∧ W.heap.size ≤ W'.heap.size)) (fun i v W => match i with | 0 => v = .agg #[(.int .i64 p.frm), (.int .i64 p.to), (.slice Ac p.data.length cc)] | 1 => v = .agg #[(.slice A2 Y.q.length c2), (.slice A2' Y.ap.length c2')] | 2 => W = V1 | _ => True) (fun _ => false)
        (by kernel_rfl) (by kernel_rfl) (by kernel_rfl) (by kernel_rfl) (by kernel_rfl) (by kernel_rfl) (by kernel_rfl) ?_ (fun _ _ h => by rcases h with rfl | ⟨rfl, h⟩; exact Nat.le_refl _; exact h) (.inl rfl) ?_ ?_
      · intro i v W W' hb hF
        match i, hF with
        | 0, h => exact h
        | 1, h => exact h
        | 2, h => rcases hb with rfl | ⟨rfl, -⟩; exact h; exact rfl
        | _ + 3, _ => trivial
      · refine ⟨?_, ?_, ?_, trivial⟩
        · refine stepJ_any rfl fun ac W hAA hG hDD K hK => ?_
          have h4 := hAA.getD (t := 4) (by kernel_rfl)
          simp only [Array.getD_eq_getD_getElem?] at h4
          have hkp : W.heap[w.heap.size + 1]? = some (.cells #[(.int .i64 p.frm), (.int .i64 p.to), (.slice Ac p.data.length cc)] 28 (0, 0)) := by rcases hG with rfl | rfl; exact kVp; exact hV1k
          have x0 := cell_of_row W _ 0 _ _ _ hkp
          have x1 := cell_of_row W _ 1 _ _ _ hkp
          have x2 := cell_of_row W _ 2 _ _ _ hkp
          rw [if_pos (by rfl)]
          exact wp_val (v := .agg #[(.int .i64 p.frm), (.int .i64 p.to), (.slice Ac p.data.length cc)]) (w' := W) (by simp [execOp, Act.eval, h4, go_sem, x0, x1, x2]) (hK _ _ hG (.inl rfl) rfl (fun h => by cases h))
        · refine stepJ_any rfl fun ac W hAA hG hDD K hK => ?_
          have h5 := hAA.getD (t := 5) (by kernel_rfl)
          simp only [Array.getD_eq_getD_getElem?] at h5
          have hkx : W.heap[w.heap.size + 2]? = some (.cells #[(.slice A2 Y.q.length c2), (.slice A2' Y.ap.length c2')] 25 (0, 0)) := by rcases hG with rfl | rfl; exact kVx; exact hV1x
          have x0 := cell_of_row W _ 0 _ _ _ hkx
          have x1 := cell_of_row W _ 1 _ _ _ hkx
          rw [if_pos (by rfl)]
          exact wp_val (v := .agg #[(.slice A2 Y.q.length c2), (.slice A2' Y.ap.length c2')]) (w' := W) (by simp [execOp, Act.eval, h5, go_sem, x0, x1]) (hK _ _ hG (.inl rfl) rfl (fun h => by cases h))
        · intro ac W hAA hG hDD K hK
          have h4 := hAA.getD (t := 4) (by kernel_rfl)
          have hv0 := hDD.get 0 37 _ rfl rfl (by kernel_rfl)
          rw [if_pos (by rfl)]
          have hkp : ∃ cs : Array Value, cs.size = 3 ∧ W.heap[w.heap.size + 1]? = some (.cells cs 28 (0, 0)) := by rcases hG with rfl | rfl; exact ⟨_, rfl, kVp⟩; exact ⟨_, rfl, hV1k⟩
          obtain ⟨cs, hcs, hkp⟩ := hkp
          refine wp_store_row 28 (.tmp 4) (.tmp 37) rfl (w.heap.size + 1) #[(.int .i64 p.frm), (.int .i64 p.to), (.slice Ac p.data.length cc)] h4 hv0 28 _ hkp (by kernel_rfl) (by rw [hcs]; rfl) (by simp [Value.oneCell']) ?_
          have hW1 : W.setRow (w.heap.size + 1) #[(.int .i64 p.frm), (.int .i64 p.to), (.slice Ac p.data.length cc)] = V1 := by rcases hG with rfl | rfl; exact hV1.out; exact hVi
          rw [hW1]
          exact hK undef V1 (fun _ => rfl) (.inr rfl) (.inr ⟨rfl, by rcases hG with rfl | rfl; rw [hVs]; exact Nat.le_refl _; exact Nat.le_refl _⟩) rfl (fun h => by cases h)
      intro fu T W9 hG hF hne hltb
      have e0 : T 37 = .agg #[(.int .i64 p.frm), (.int .i64 p.to), (.slice Ac p.data.length cc)] := hF 0 _ rfl (by omega)
      have e1 : T 38 = .agg #[(.slice A2 Y.q.length c2), (.slice A2' Y.ap.length c2')] := hF 1 _ rfl (by omega)
      have e2 : W9 = V1 := hF 2 _ rfl (by omega)
      clear hF hne hltb hG
      subst e2
      simp only [List.take, fillT, List.setIfInBounds_toArray, List.set_cons_zero, List.set_cons_succ, e0, e1]
      clear e0 e1
      refine wpAny_ready (rs := [3]) (by kernel_rfl) (by simp) (AllReady.cons (o := ⟨none, (Op.store 25 (Operand.tmp 5) (Operand.tmp 38)), _, _, _, none⟩) rfl (fun K1 hK1 => ?_) AllReady.nil)
      rw [if_pos (by rfl)]
      refine wp_store_row 25 (.tmp 5) (.tmp 38) rfl (w.heap.size + 2) #[(.slice A2 Y.q.length c2), (.slice A2' Y.ap.length c2')] rfl rfl 25 _ hV1x (by kernel_rfl) rfl (by simp [Value.oneCell']) ?_
      refine hK1 _ _ ?_
      clear hK1 K1
      refine wpAny_ready (rs := [4]) (by kernel_rfl) (by simp) (AllReady.cons (o := ⟨(some 6), (Op.assign (Operand.const (Value.int IntKind.i64 0))), _, _, _, none⟩) rfl (fun K1 hK1 => ?_) AllReady.nil)
      rw [if_pos (by rfl)]
      refine wp_val (v := .int .i64 0) (w' := W9.setRow (w.heap.size + 2) #[(.slice A2 Y.q.length c2), (.slice A2' Y.ap.length c2')]) (by simp [execOp, Act.eval, go_sem]) ?_
      refine hK1 _ _ ?_
      clear hK1 K1
      refine wpAny_done (by kernel_rfl) ?_ _
      simp only [Act.put, List.setIfInBounds_toArray, List.set_cons_zero, List.set_cons_succ]
      have kX9 := setRow_heap W9 (w.heap.size + 2) _ #[(.slice A2 Y.q.length c2), (.slice A2' Y.ap.length c2')] _ _ hV1x
      have kP9 := (setRow_other W9 (w.heap.size + 2) (w.heap.size + 1) #[(.slice A2 Y.q.length c2), (.slice A2' Y.ap.length c2')] (by omega)).trans hV1k
      have hb9 : Below w.heap.size w4 W9 := by rw [← hV1.out]; exact unD ((Below.refl w.heap.size w4.drew).grown (grownBy_setRow w4.drew (w.heap.size + 1) #[(.int .i64 p.frm), (.int .i64 p.to), (.slice Ac p.data.length cc)]) (by simp; omega) (fun k hk => by injection hk; omega))
      have hB9 := hB.trans (hb9.grown (grownBy_setRow W9 (w.heap.size + 2) #[(.slice A2 Y.q.length c2), (.slice A2' Y.ap.length c2')]) (by rw [hVs]; omega) (fun k hk => by injection hk; omega))
      have hK9 : Kept (fun g => g ≠ w.heap.size + 1 ∧ g ≠ w.heap.size + 2) w4 (W9.setRow (w.heap.size + 2) #[(.slice A2 Y.q.length c2), (.slice A2' Y.ap.length c2')]) := fun g o hg => by
        refine (World.cell?_of_block (setRow_other W9 (w.heap.size + 2) g #[(.slice A2 Y.q.length c2), (.slice A2' Y.ap.length c2')] hg.2)).trans ?_
        rw [← hV1.out]
        exact (World.cell?_of_block (setRow_other w4.drew (w.heap.size + 1) g #[(.int .i64 p.frm), (.int .i64 p.to), (.slice Ac p.data.length cc)] hg.1))
      have hz9 : (W9.setRow (w.heap.size + 2) #[(.slice A2 Y.q.length c2), (.slice A2' Y.ap.length c2')]).heap.size = w4.heap.size := by simp [hVs]
      obtain ⟨w9, hw9⟩ : ∃ W, W9.setRow (w.heap.size + 2) #[(.slice A2 Y.q.length c2), (.slice A2' Y.ap.length c2')] = W := ⟨_, rfl⟩
      rw [hw9] at kX9 kP9 hB9 hK9 hz9 ⊢
      clear hw9 hV1k hV1x hVi hb9 hVs kVx kVp
      have x0 : w9.cell? ⟨w.heap.size + 2, 0, none⟩ = _ := cell_of_row w9 _ 0 _ _ _ kX9
      have x1 : w9.cell? ⟨w.heap.size + 2, 1, none⟩ = _ := cell_of_row w9 _ 1 _ _ _ kX9
      have p0 : w9.cell? ⟨w.heap.size + 1, 0, none⟩ = _ := cell_of_row w9 _ 0 _ _ _ kP9
      have p1 : w9.cell? ⟨w.heap.size + 1, 1, none⟩ = _ := cell_of_row w9 _ 1 _ _ _ kP9
      have p2 : w9.cell? ⟨w.heap.size + 1, 2, none⟩ = _ := cell_of_row w9 _ 2 _ _ _ kP9
      replace hB9 := Lib.hid hB9
      replace hK9 := Lib.hid hK9
      go_wp2_with fail
      have hD9 : NR w9 (Sn S w w9) A2 c2 A2' c2' Y := by
        refine (hd2.out.keep fun g o hg => hK9.out g o ?_).mono fun g hg => ?_
        · rcases hg with hg | hg
          · have := hS g hg; omega
          · omega
        · exact hg.imp id fun h => ⟨by omega, by omega⟩
      have hR9 : RBs w9 (Sn S w w9) Ac p.data := by
        refine (hr3.out.keep fun g o hg => hK9.out g o ?_).mono fun g hg => ?_
        · omega
        · exact .inr ⟨by omega, by omega⟩
      exact bodyPost_ret (v := .tuple #[.agg #[.int .i64 p.frm, .int .i64 p.to, .slice Ac p.data.length cc], .agg #[.slice A2 Y.q.length c2, .slice A2' Y.ap.length c2'], .int .i64 0]) (by simp [results, Try.results20, go_sem, x0, x1, p0, p1, p2]) rfl
        (by rw [hv.out, hv3.out]; exact ⟨hB9.out, Ac, cc, A2, c2, A2', c2', rfl, ⟨hr1, hr2⟩, hR9, hI, hD9⟩)
end Go.Proofs.Ytpmmahlmfcbbbaa
