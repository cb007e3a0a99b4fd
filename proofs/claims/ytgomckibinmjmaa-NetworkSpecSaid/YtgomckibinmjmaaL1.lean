/- NetworkSpec: the contract. -/
import Derived.Test.YtgomckibinmjmaaN8
namespace Go.Proofs.Ytgomckibinmjmaa
open Go.RowKit

set_option maxRecDepth 100000 in
set_option maxHeartbeats 8000000 in
theorem nspec_any (n : Nt) (p : Pk) (w : World) (A A' Ap : Option Addr) (c c' cp : Nat) (hd : NR w (· < w.heap.size) A c A' c' n) (hI : I64 p.frm ∧ I64 p.to) (hpl : p.data.length ≤ cp ∧ cp ≤ maxLen) (hp : RBs w (· < w.heap.size) Ap p.data) :
    Calls Try.prog 3 #[.agg #[.slice A n.q.length c, .slice A' n.ap.length c'], .agg #[.int .i64 p.frm, .int .i64 p.to, .slice Ap p.data.length cp]] w fun e w' => e = .returned (.bool true) ∧ Below w.heap.size w w' := by
  have hB := Lib.hid (Below.refl w.heap.size w)
  have hbx := bnew w (.cells #[.slice A n.q.length c, .slice A' n.ap.length c'] 25)
  have kn := (NB.new hd)
  obtain ⟨V1, hV1⟩ : ∃ V, (w).alloc (.cells #[.slice A n.q.length c, .slice A' n.ap.length c'] 25) = V := ⟨_, rfl⟩
  have sV1 : V1.heap.size = w.heap.size + 1 := by rw [← hV1]; simp
  rw [hV1] at kn
  rw [hV1] at hbx
  replace hV1 := Lib.hid hV1
  have hB := Lib.hid (hB.out.trans (hbx.mono hB.out.size))
  have kn := Lib.hid kn
  clear hbx
  replace hp := hp.step (show Below w.heap.size w V1 from hV1.out ▸ bnew w _)
  have hbx := bnew V1 (.cells #[.int .i64 p.frm, .int .i64 p.to, .slice Ap p.data.length cp] 28)
  have kp := (show KB _ (w.heap.size + 1) _ _ _ from sV1 ▸ KB.new hpl hp hI)
  obtain ⟨V2, hV2⟩ : ∃ V, (V1).alloc (.cells #[.int .i64 p.frm, .int .i64 p.to, .slice Ap p.data.length cp] 28) = V := ⟨_, rfl⟩
  have sV2 : V2.heap.size = w.heap.size + 2 := by rw [← hV2]; simp <;> omega
  rw [hV2] at kp
  rw [hV2] at hbx
  replace hV2 := Lib.hid hV2
  have hB := Lib.hid (hB.out.trans (hbx.mono hB.out.size))
  have kp := Lib.hid kp
  have kn := Lib.hid (kn.out.step hbx)
  clear hbx
  clear hd hp hpl hI
  obtain ⟨Y, m, hX⟩ : ∃ Y m, sendN n p = (Y, m) := ⟨_, _, rfl⟩
  replace hX := Lib.hid hX
  obtain ⟨f, hf⟩ : ∃ f, (decide (n.q.length ≤ 40) && decide (n.ap.length ≤ 40)) = f := ⟨_, rfl⟩
  replace hf := Lib.hid hf
  go_enter Try.func3, Try.ntmps3
  go_wp2_with fail
  rw [hV1.out, hV2.out]
  have hcon := sane_any V2
  refine hcon.mono ?_
  rintro e w1 ⟨rfl, hb⟩
  clear hcon
  have hB := Lib.hid (hB.out.trans (hb.mono hB.out.size))
  have kn := Lib.hid (kn.out.step hb)
  have kp := Lib.hid (kp.out.step hb)
  clear hb
  have y0 : w1.cell? ⟨w.heap.size, 0, none⟩ = some _ := kn.out.cells.1
  have y1 : w1.cell? ⟨w.heap.size, 1, none⟩ = some _ := kn.out.cells.2
  go_wp2_with fail
  have hcon := Few_any n w1 A A' c c'
  rw [hf.out] at hcon
  refine hcon.mono ?_
  rintro e w2 ⟨rfl, hb⟩
  clear y0 y1
  clear hcon hf
  have hB := Lib.hid (hB.out.trans (hb.mono hB.out.size))
  have kn := Lib.hid (kn.out.step hb)
  have kp := Lib.hid (kp.out.step hb)
  clear hb
  cases f with
  | false =>
    go_wp2_with fail
    go_ret
    exact ⟨rfl, hB.out⟩
  | true =>
    have y0 : w2.cell? ⟨w.heap.size, 0, none⟩ = some _ := kn.out.cells.1
    have y1 : w2.cell? ⟨w.heap.size, 1, none⟩ = some _ := kn.out.cells.2
    have z0 : w2.cell? ⟨w.heap.size + 1, 0, none⟩ = some _ := kp.out.cells.1
    have z1 : w2.cell? ⟨w.heap.size + 1, 1, none⟩ = some _ := kp.out.cells.2.1
    have z2 : w2.cell? ⟨w.heap.size + 1, 2, none⟩ = some _ := kp.out.cells.2.2
    go_wp2_with fail
    have hcon := Send_any n p w2 A A' Ap c c' cp (· < w2.heap.size) (fun _ h => h) kn.out.net kp.out.num kp.out.cap kp.out.dat
    refine hcon.mono ?_
    intro e w3 hp
    clear y0 y1 z0 z1 z2
    clear hcon
    obtain ⟨A3, c3, A3', c3', rfl, hd, hb⟩ := hp.got hX.out
    clear hp
    have hB := Lib.hid (hB.out.trans (hb.mono hB.out.size))
    have kn := Lib.hid (kn.out.step hb)
    have kp := Lib.hid (kp.out.step hb)
    clear hb
    have hbx := bnew w3 (.cells #[.slice A3 Y.q.length c3, .slice A3' Y.ap.length c3'] 25)
    have ka := (NB.new hd)
    obtain ⟨V3, hV3⟩ : ∃ V, (w3).alloc (.cells #[.slice A3 Y.q.length c3, .slice A3' Y.ap.length c3'] 25) = V := ⟨_, rfl⟩
    have sV3 : V3.heap.size = w3.heap.size + 1 := by rw [← hV3]; simp
    rw [hV3] at ka
    rw [hV3] at hbx
    replace hV3 := Lib.hid hV3
    have hB := Lib.hid (hB.out.trans (hbx.mono hB.out.size))
    have ka := Lib.hid ka
    have kn := Lib.hid (kn.out.step hbx)
    have kp := Lib.hid (kp.out.step hbx)
    clear hbx
    clear hd
    have y0 : ((w3).alloc (.cells #[.slice A3 Y.q.length c3, .slice A3' Y.ap.length c3'] 25)).cell? ⟨w.heap.size, 0, none⟩ = some _ := (congrArg (fun W => W.cell? ⟨w.heap.size, 0, none⟩) (show (w3).alloc (.cells #[.slice A3 Y.q.length c3, .slice A3' Y.ap.length c3'] 25) = V3 from by rw [hV3.out])).trans kn.out.cells.1
    have y1 : ((w3).alloc (.cells #[.slice A3 Y.q.length c3, .slice A3' Y.ap.length c3'] 25)).cell? ⟨w.heap.size, 1, none⟩ = some _ := (congrArg (fun W => W.cell? ⟨w.heap.size, 1, none⟩) (show (w3).alloc (.cells #[.slice A3 Y.q.length c3, .slice A3' Y.ap.length c3'] 25) = V3 from by rw [hV3.out])).trans kn.out.cells.2
    have z0 : ((w3).alloc (.cells #[.slice A3 Y.q.length c3, .slice A3' Y.ap.length c3'] 25)).cell? ⟨w.heap.size + 1, 0, none⟩ = some _ := (congrArg (fun W => W.cell? ⟨w.heap.size + 1, 0, none⟩) (show (w3).alloc (.cells #[.slice A3 Y.q.length c3, .slice A3' Y.ap.length c3'] 25) = V3 from by rw [hV3.out])).trans kp.out.cells.1
    have z1 : ((w3).alloc (.cells #[.slice A3 Y.q.length c3, .slice A3' Y.ap.length c3'] 25)).cell? ⟨w.heap.size + 1, 1, none⟩ = some _ := (congrArg (fun W => W.cell? ⟨w.heap.size + 1, 1, none⟩) (show (w3).alloc (.cells #[.slice A3 Y.q.length c3, .slice A3' Y.ap.length c3'] 25) = V3 from by rw [hV3.out])).trans kp.out.cells.2.1
    have z2 : ((w3).alloc (.cells #[.slice A3 Y.q.length c3, .slice A3' Y.ap.length c3'] 25)).cell? ⟨w.heap.size + 1, 2, none⟩ = some _ := (congrArg (fun W => W.cell? ⟨w.heap.size + 1, 2, none⟩) (show (w3).alloc (.cells #[.slice A3 Y.q.length c3, .slice A3' Y.ap.length c3'] 25) = V3 from by rw [hV3.out])).trans kp.out.cells.2.2
    go_wp2_with fail
    rw [hV3.out]
    have hcon := rSend_any n p V3 A A' Ap c c' cp (· < V3.heap.size) (fun _ h => h) kn.out.net kp.out.num kp.out.cap kp.out.dat
    refine hcon.mono ?_
    intro e w4 hp
    clear y0 y1 z0 z1 z2
    clear hcon
    obtain ⟨A4, c4, A4', c4', rfl, hd, hb⟩ := hp.got hX.out
    clear hp
    have hB := Lib.hid (hB.out.trans (hb.mono hB.out.size))
    have kn := Lib.hid (kn.out.step hb)
    have kp := Lib.hid (kp.out.step hb)
    have ka := Lib.hid (ka.out.step hb)
    clear hb
    have hbx := bnew w4 (.cells #[.slice A4 Y.q.length c4, .slice A4' Y.ap.length c4'] 25)
    have kb := (NB.new hd)
    obtain ⟨V4, hV4⟩ : ∃ V, (w4).alloc (.cells #[.slice A4 Y.q.length c4, .slice A4' Y.ap.length c4'] 25) = V := ⟨_, rfl⟩
    have sV4 : V4.heap.size = w4.heap.size + 1 := by rw [← hV4]; simp
    rw [hV4] at kb
    rw [hV4] at hbx
    replace hV4 := Lib.hid hV4
    have hB := Lib.hid (hB.out.trans (hbx.mono hB.out.size))
    have kb := Lib.hid kb
    have kn := Lib.hid (kn.out.step hbx)
    have kp := Lib.hid (kp.out.step hbx)
    have ka := Lib.hid (ka.out.step hbx)
    clear hbx
    clear hd
    go_wp2_with fail
    rw [hV4.out]
    have hN : Hid (∀ W, Below V4.heap.size V4 W → (W.cell? ⟨w.heap.size, 0, none⟩ = some (.slice A n.q.length c) ∧ W.cell? ⟨w.heap.size, 1, none⟩ = some (.slice A' n.ap.length c')) ∧ (W.cell? ⟨w3.heap.size, 0, none⟩ = some (.slice A3 Y.q.length c3) ∧ W.cell? ⟨w3.heap.size, 1, none⟩ = some (.slice A3' Y.ap.length c3')) ∧ W.cell? ⟨w4.heap.size, 0, none⟩ = some (.slice A4 Y.q.length c4) ∧ W.cell? ⟨w4.heap.size, 1, none⟩ = some (.slice A4' Y.ap.length c4')) := fun W hW => ⟨(kn.out.step hW).cells, (ka.out.step hW).cells, (kb.out.step hW).cells⟩
    have hC1 : Hid (∀ W, Below V4.heap.size V4 W → Calls Try.prog 13 #[.agg #[.slice A n.q.length c, .slice A' n.ap.length c']] W fun e w' => e = .returned (.int .i64 (nchk n)) ∧ Below W.heap.size W w') := fun W hW => Check_any n W A A' c c' W.heap.size (Nat.le_refl _) (kn.out.step hW).net
    have hC2 : Hid (∀ W, Below V4.heap.size V4 W → Calls Try.prog 14 #[.agg #[.slice A n.q.length c, .slice A' n.ap.length c']] W fun e w' => e = .returned (.int .i64 (nchk n)) ∧ Below W.heap.size W w') := fun W hW => rCheck_any n W A A' c c' W.heap.size (Nat.le_refl _) (kn.out.step hW).net
    have hC3 : Hid (∀ W, Below V4.heap.size V4 W → Calls Try.prog 15 #[.agg #[.slice A3 Y.q.length c3, .slice A3' Y.ap.length c3'], .agg #[.slice A4 Y.q.length c4, .slice A4' Y.ap.length c4']] W fun e w' => e = .returned (.bool true) ∧ Below W.heap.size W w') := fun W hW => Same_any Y W A3 A3' A4 A4' c3 c3' c4 c4' (ka.out.step hW).net (kb.out.step hW).net
    have hC4 : Hid (∀ W, Below V4.heap.size V4 W → Calls Try.prog 15 #[.agg #[.slice none 0 0, .slice none 0 0], .agg #[.slice none 0 0, .slice none 0 0]] W fun e w' => e = .returned (.bool true) ∧ Below W.heap.size W w') := fun W hW => Same_any zeroNt W none none none none 0 0 0 0 (NR.zero W _) (NR.zero W _)
    refine wp_region_pre 21 0 (fun W => Below V4.heap.size V4 W) (fun W W' => Below W.heap.size W W')
      (fun i v W => match i with
        | 0 => v = .agg #[.slice A n.q.length c, .slice A' n.ap.length c']
        | 1 => v = .int .i64 (nchk n)
        | 2 => v = .agg #[.slice A n.q.length c, .slice A' n.ap.length c']
        | 3 => v = .int .i64 (nchk n)
        | 4 => v = .bool true
        | 5 => v = .bool true
        | 6 => v = .agg #[.slice A3 Y.q.length c3, .slice A3' Y.ap.length c3']
        | 7 => v = .agg #[.slice A4 Y.q.length c4, .slice A4' Y.ap.length c4']
        | 8 => v = .bool true
        | 9 => v = .bool true
        | 10 => v = .bool true
        | 11 => v = .int .i64 m
        | 12 => v = .int .i64 m
        | 13 => v = .bool true
        | 14 => v = .bool true
        | 15 => v = .bool true
        | 16 => v = .agg #[.slice none 0 0, .slice none 0 0]
        | 17 => v = .agg #[.slice none 0 0, .slice none 0 0]
        | 18 => v = .bool true
        | 19 => v = .bool true
        | 20 => v = .bool true
        | _ => True) (fun _ => false)
      (by kernel_rfl) (by kernel_rfl) (by kernel_rfl) (by kernel_rfl) (by kernel_rfl) (by kernel_rfl) (by kernel_rfl) ?_ (fun _ _ h => h.size) (dN (Below.refl _ _) 1) ?_ ?_
    · intro i v W W' hb hF
      match i, hF with
      | 0, h => exact h
      | 1, h => exact h
      | 2, h => exact h
      | 3, h => exact h
      | 4, h => exact h
      | 5, h => exact h
      | 6, h => exact h
      | 7, h => exact h
      | 8, h => exact h
      | 9, h => exact h
      | 10, h => exact h
      | 11, h => exact h
      | 12, h => exact h
      | 13, h => exact h
      | 14, h => exact h
      | 15, h => exact h
      | 16, h => exact h
      | 17, h => exact h
      | 18, h => exact h
      | 19, h => exact h
      | 20, h => exact h
      | _ + 21, _ => trivial
    · refine ⟨?_, ?_, ?_, ?_, ?_, ?_, ?_, ?_, ?_, ?_, ?_, ?_, ?_, ?_, ?_, ?_, ?_, ?_, ?_, ?_, ?_, trivial⟩
      · refine stepJ_any rfl fun ac W hAA hG hDD K hK => ?_
        have h2 := hAA.getD (t := 2) (by kernel_rfl)
        simp only [Array.getD_eq_getD_getElem?] at h2
        obtain ⟨⟨k0, k1⟩, -, -⟩ := hN.out W hG
        rw [if_pos (by rfl)]
        exact wp_val (v := .agg #[.slice A n.q.length c, .slice A' n.ap.length c']) (w' := W) (by simp [execOp, Act.eval, h2, go_sem, k0, k1]) (hK _ _ hG (Below.refl _ _) rfl (fun h => by cases h))
      · refine stepJ_any rfl fun ac W hAA hG hDD K hK => ?_
        have h26 := hDD.get 0 26 _ rfl rfl (by kernel_rfl)
        simp only [Array.getD_eq_getD_getElem?] at h26
        rw [if_pos (by rfl)]
        refine wp_call (f := 13) (args := #[.agg #[.slice A n.q.length c, .slice A' n.ap.length c']]) (by simp [execOp, Act.eval, h26, go_sem]) ((hC1.out W hG).mono fun e W9 he => ?_)
        obtain ⟨rfl, hbw⟩ := he
        exact hK _ _ (hG.trans (hbw.mono hG.size)) hbw rfl (fun h => by cases h)
      · refine stepJ_any rfl fun ac W hAA hG hDD K hK => ?_
        have h2 := hAA.getD (t := 2) (by kernel_rfl)
        simp only [Array.getD_eq_getD_getElem?] at h2
        obtain ⟨⟨k0, k1⟩, -, -⟩ := hN.out W hG
        rw [if_pos (by rfl)]
        exact wp_val (v := .agg #[.slice A n.q.length c, .slice A' n.ap.length c']) (w' := W) (by simp [execOp, Act.eval, h2, go_sem, k0, k1]) (hK _ _ hG (Below.refl _ _) rfl (fun h => by cases h))
      · refine stepJ_any rfl fun ac W hAA hG hDD K hK => ?_
        have h28 := hDD.get 2 28 _ rfl rfl (by kernel_rfl)
        simp only [Array.getD_eq_getD_getElem?] at h28
        rw [if_pos (by rfl)]
        refine wp_call (f := 14) (args := #[.agg #[.slice A n.q.length c, .slice A' n.ap.length c']]) (by simp [execOp, Act.eval, h28, go_sem]) ((hC2.out W hG).mono fun e W9 he => ?_)
        obtain ⟨rfl, hbw⟩ := he
        exact hK _ _ (hG.trans (hbw.mono hG.size)) hbw rfl (fun h => by cases h)
      · refine stepJ_any rfl fun ac W hAA hG hDD K hK => ?_
        have h27 := hDD.get 1 27 _ rfl rfl (by kernel_rfl)
        have h29 := hDD.get 3 29 _ rfl rfl (by kernel_rfl)
        simp only [Array.getD_eq_getD_getElem?] at h27 h29
        rw [if_pos (by rfl)]
        exact wp_val (v := .bool true) (w' := W) (by simp [execOp, Act.eval, h27, h29, go_sem]) (hK _ _ hG (Below.refl _ _) rfl (fun h => by cases h))
      · refine stepJ_any rfl fun ac W hAA hG hDD K hK => ?_
        have h30 := hDD.get 4 30 _ rfl rfl (by kernel_rfl)
        simp only [Array.getD_eq_getD_getElem?] at h30
        rw [if_pos (by rfl)]
        exact wp_val (v := .bool true) (w' := W) (by simp [execOp, Act.eval, h30, go_sem]) (hK _ _ hG (Below.refl _ _) rfl (fun h => by cases h))
      · refine stepJ_any rfl fun ac W hAA hG hDD K hK => ?_
        have h5 := hAA.getD (t := 5) (by kernel_rfl)
        have hgd := hDD.get 5 31 _ rfl rfl (by kernel_rfl)
        have hgd := slot_bool hgd
        simp only [Array.getD_eq_getD_getElem?] at h5
        obtain ⟨-, ⟨k0, k1⟩, -⟩ := hN.out W hG
        rw [if_pos (by simp [Region.wanted, yielded, hgd])]
        exact wp_val (v := .agg #[.slice A3 Y.q.length c3, .slice A3' Y.ap.length c3']) (w' := W) (by simp [execOp, Act.eval, h5, go_sem, k0, k1]) (hK _ _ hG (Below.refl _ _) rfl (fun h => by cases h))
      · refine stepJ_any rfl fun ac W hAA hG hDD K hK => ?_
        have h7 := hAA.getD (t := 7) (by kernel_rfl)
        have hgd := hDD.get 5 31 _ rfl rfl (by kernel_rfl)
        have hgd := slot_bool hgd
        simp only [Array.getD_eq_getD_getElem?] at h7
        obtain ⟨-, -, k0, k1⟩ := hN.out W hG
        rw [if_pos (by simp [Region.wanted, yielded, hgd])]
        exact wp_val (v := .agg #[.slice A4 Y.q.length c4, .slice A4' Y.ap.length c4']) (w' := W) (by simp [execOp, Act.eval, h7, go_sem, k0, k1]) (hK _ _ hG (Below.refl _ _) rfl (fun h => by cases h))
      · refine stepJ_any rfl fun ac W hAA hG hDD K hK => ?_
        have h32 := hDD.get 6 32 _ rfl rfl (by kernel_rfl)
        have h33 := hDD.get 7 33 _ rfl rfl (by kernel_rfl)
        have hgd := hDD.get 5 31 _ rfl rfl (by kernel_rfl)
        have hgd := slot_bool hgd
        simp only [Array.getD_eq_getD_getElem?] at h32 h33
        rw [if_pos (by simp [Region.wanted, yielded, hgd])]
        refine wp_call (f := 15) (args := #[.agg #[.slice A3 Y.q.length c3, .slice A3' Y.ap.length c3'], .agg #[.slice A4 Y.q.length c4, .slice A4' Y.ap.length c4']]) (by simp [execOp, Act.eval, h32, h33, go_sem]) ((hC3.out W hG).mono fun e W9 he => ?_)
        obtain ⟨rfl, hbw⟩ := he
        exact hK _ _ (hG.trans (hbw.mono hG.size)) hbw rfl (fun h => by cases h)
      · refine stepJ_any rfl fun ac W hAA hG hDD K hK => ?_
        have h31 := hDD.get 5 31 _ rfl rfl (by kernel_rfl)
        have h34 := hDD.get 8 34 _ rfl rfl (by kernel_rfl)
        simp only [Array.getD_eq_getD_getElem?] at h31 h34
        rw [if_pos (by rfl)]
        exact wp_val (v := .bool true) (w' := W) (by simp [execOp, Act.eval, h31, h34, go_sem]) (hK _ _ hG (Below.refl _ _) rfl (fun h => by cases h))
      · refine stepJ_any rfl fun ac W hAA hG hDD K hK => ?_
        have h35 := hDD.get 9 35 _ rfl rfl (by kernel_rfl)
        simp only [Array.getD_eq_getD_getElem?] at h35
        rw [if_pos (by rfl)]
        exact wp_val (v := .bool true) (w' := W) (by simp [execOp, Act.eval, h35, go_sem]) (hK _ _ hG (Below.refl _ _) rfl (fun h => by cases h))
      · refine stepJ_any rfl fun ac W hAA hG hDD K hK => ?_
        have h6 := hAA.getD (t := 6) (by kernel_rfl)
        have hgd := hDD.get 10 36 _ rfl rfl (by kernel_rfl)
        have hgd := slot_bool hgd
        simp only [Array.getD_eq_getD_getElem?] at h6
        rw [if_pos (by simp [Region.wanted, yielded, hgd])]
        exact wp_val (v := .int .i64 m) (w' := W) (by simp [execOp, Act.eval, h6, go_sem]) (hK _ _ hG (Below.refl _ _) rfl (fun h => by cases h))
      · refine stepJ_any rfl fun ac W hAA hG hDD K hK => ?_
        have h8 := hAA.getD (t := 8) (by kernel_rfl)
        have hgd := hDD.get 10 36 _ rfl rfl (by kernel_rfl)
        have hgd := slot_bool hgd
        simp only [Array.getD_eq_getD_getElem?] at h8
        rw [if_pos (by simp [Region.wanted, yielded, hgd])]
        exact wp_val (v := .int .i64 m) (w' := W) (by simp [execOp, Act.eval, h8, go_sem]) (hK _ _ hG (Below.refl _ _) rfl (fun h => by cases h))
      · refine stepJ_any rfl fun ac W hAA hG hDD K hK => ?_
        have h37 := hDD.get 11 37 _ rfl rfl (by kernel_rfl)
        have h38 := hDD.get 12 38 _ rfl rfl (by kernel_rfl)
        have hgd := hDD.get 10 36 _ rfl rfl (by kernel_rfl)
        have hgd := slot_bool hgd
        simp only [Array.getD_eq_getD_getElem?] at h37 h38
        rw [if_pos (by simp [Region.wanted, yielded, hgd])]
        exact wp_val (v := .bool true) (w' := W) (by simp [execOp, Act.eval, h37, h38, go_sem]) (hK _ _ hG (Below.refl _ _) rfl (fun h => by cases h))
      · refine stepJ_any rfl fun ac W hAA hG hDD K hK => ?_
        have h36 := hDD.get 10 36 _ rfl rfl (by kernel_rfl)
        have h39 := hDD.get 13 39 _ rfl rfl (by kernel_rfl)
        simp only [Array.getD_eq_getD_getElem?] at h36 h39
        rw [if_pos (by rfl)]
        exact wp_val (v := .bool true) (w' := W) (by simp [execOp, Act.eval, h36, h39, go_sem]) (hK _ _ hG (Below.refl _ _) rfl (fun h => by cases h))
      · refine stepJ_any rfl fun ac W hAA hG hDD K hK => ?_
        have h40 := hDD.get 14 40 _ rfl rfl (by kernel_rfl)
        simp only [Array.getD_eq_getD_getElem?] at h40
        rw [if_pos (by rfl)]
        exact wp_val (v := .bool true) (w' := W) (by simp [execOp, Act.eval, h40, go_sem]) (hK _ _ hG (Below.refl _ _) rfl (fun h => by cases h))
      · refine stepJ_any rfl fun ac W hAA hG hDD K hK => ?_
        have hgd := hDD.get 15 41 _ rfl rfl (by kernel_rfl)
        have hgd := slot_bool hgd
        rw [if_pos (by simp [Region.wanted, yielded, hgd])]
        refine wp_call (f := 16) (args := #[]) (by simp [execOp, Act.eval, go_sem]) ((New_any W).mono fun e W9 he => ?_)
        obtain ⟨rfl, hbw⟩ := he
        exact hK _ _ (hG.trans (hbw.mono hG.size)) hbw rfl (fun h => by cases h)
      · refine stepJ_any rfl fun ac W hAA hG hDD K hK => ?_
        have hgd := hDD.get 15 41 _ rfl rfl (by kernel_rfl)
        have hgd := slot_bool hgd
        rw [if_pos (by simp [Region.wanted, yielded, hgd])]
        refine wp_call (f := 17) (args := #[]) (by simp [execOp, Act.eval, go_sem]) ((rNew_any W).mono fun e W9 he => ?_)
        obtain ⟨rfl, hbw⟩ := he
        exact hK _ _ (hG.trans (hbw.mono hG.size)) hbw rfl (fun h => by cases h)
      · refine stepJ_any rfl fun ac W hAA hG hDD K hK => ?_
        have h42 := hDD.get 16 42 _ rfl rfl (by kernel_rfl)
        have h43 := hDD.get 17 43 _ rfl rfl (by kernel_rfl)
        have hgd := hDD.get 15 41 _ rfl rfl (by kernel_rfl)
        have hgd := slot_bool hgd
        simp only [Array.getD_eq_getD_getElem?] at h42 h43
        rw [if_pos (by simp [Region.wanted, yielded, hgd])]
        refine wp_call (f := 15) (args := #[.agg #[.slice none 0 0, .slice none 0 0], .agg #[.slice none 0 0, .slice none 0 0]]) (by simp [execOp, Act.eval, h42, h43, go_sem]) ((hC4.out W hG).mono fun e W9 he => ?_)
        obtain ⟨rfl, hbw⟩ := he
        exact hK _ _ (hG.trans (hbw.mono hG.size)) hbw rfl (fun h => by cases h)
      · refine stepJ_any rfl fun ac W hAA hG hDD K hK => ?_
        have h41 := hDD.get 15 41 _ rfl rfl (by kernel_rfl)
        have h44 := hDD.get 18 44 _ rfl rfl (by kernel_rfl)
        simp only [Array.getD_eq_getD_getElem?] at h41 h44
        rw [if_pos (by rfl)]
        exact wp_val (v := .bool true) (w' := W) (by simp [execOp, Act.eval, h41, h44, go_sem]) (hK _ _ hG (Below.refl _ _) rfl (fun h => by cases h))
      · refine stepJ_any rfl fun ac W hAA hG hDD K hK => ?_
        have h45 := hDD.get 19 45 _ rfl rfl (by kernel_rfl)
        simp only [Array.getD_eq_getD_getElem?] at h45
        rw [if_pos (by rfl)]
        exact wp_val (v := .bool true) (w' := W) (by simp [execOp, Act.eval, h45, go_sem]) (hK _ _ hG (Below.refl _ _) rfl (fun h => by cases h))
    intro fu T w9 hG hF hne hltb
    have e26 : T 26 = .agg #[.slice A n.q.length c, .slice A' n.ap.length c'] := hF 0 _ rfl (by omega)
    have e27 : T 27 = .int .i64 (nchk n) := hF 1 _ rfl (by omega)
    have e28 : T 28 = .agg #[.slice A n.q.length c, .slice A' n.ap.length c'] := hF 2 _ rfl (by omega)
    have e29 : T 29 = .int .i64 (nchk n) := hF 3 _ rfl (by omega)
    have e30 : T 30 = .bool true := hF 4 _ rfl (by omega)
    have e31 : T 31 = .bool true := hF 5 _ rfl (by omega)
    have e32 : T 32 = .agg #[.slice A3 Y.q.length c3, .slice A3' Y.ap.length c3'] := hF 6 _ rfl (by omega)
    have e33 : T 33 = .agg #[.slice A4 Y.q.length c4, .slice A4' Y.ap.length c4'] := hF 7 _ rfl (by omega)
    have e34 : T 34 = .bool true := hF 8 _ rfl (by omega)
    have e35 : T 35 = .bool true := hF 9 _ rfl (by omega)
    have e36 : T 36 = .bool true := hF 10 _ rfl (by omega)
    have e37 : T 37 = .int .i64 m := hF 11 _ rfl (by omega)
    have e38 : T 38 = .int .i64 m := hF 12 _ rfl (by omega)
    have e39 : T 39 = .bool true := hF 13 _ rfl (by omega)
    have e40 : T 40 = .bool true := hF 14 _ rfl (by omega)
    have e41 : T 41 = .bool true := hF 15 _ rfl (by omega)
    have e42 : T 42 = .agg #[.slice none 0 0, .slice none 0 0] := hF 16 _ rfl (by omega)
    have e43 : T 43 = .agg #[.slice none 0 0, .slice none 0 0] := hF 17 _ rfl (by omega)
    have e44 : T 44 = .bool true := hF 18 _ rfl (by omega)
    have e45 : T 45 = .bool true := hF 19 _ rfl (by omega)
    have e4 : T 4 = .bool true := hF 20 _ rfl (by omega)
    clear hF hne hltb
    simp only [List.take, fillT, List.setIfInBounds_toArray, List.set_cons_zero, List.set_cons_succ, e26, e27, e28, e29, e30, e31, e32, e33, e34, e35, e36, e37, e38, e39, e40, e41, e42, e43, e44, e45, e4]
    clear e26 e27 e28 e29 e30 e31 e32 e33 e34 e35 e36 e37 e38 e39 e40 e41 e42 e43 e44 e45 e4
    refine wpAny_done (by kernel_rfl) ?_ _
    replace hB := Lib.hid (hB.out.trans (hG.mono hB.out.size))
    go_wp2_with fail
    go_ret
    exact ⟨rfl, hB.out⟩
end Go.Proofs.Ytgomckibinmjmaa
