/- Repeat, both: contracts. -/
import Derived.Test.YtpmmahlmfcbbbaaNu
namespace Go.Proofs.Ytpmmahlmfcbbbaa
open Go.RowKit

theorem repN_bad {n : Nt} {i : Int} (h : findN n i ≠ 0) : repN n i = (zeroNt, findN n i) := by unfold repN; rw [if_pos h]
theorem repN_ok {n : Nt} {k : Nat} (h : findN n k = 0) (hk : k < n.q.length) : repN n k = addN n n.q[k] := by
  unfold repN addN atN; rw [if_neg (by rw [h]; decide)]; simp [List.getD, hk]
set_option maxRecDepth 100000 in
set_option maxHeartbeats 2000000 in
theorem Repeat_any (n : Nt) (i : Int) (w : World) (A A' : Option Addr) (c c' : Nat) (S : Nat → Prop) (hS : ∀ b, S b → b < w.heap.size) (hd : NR w S A c A' c' n) :
    Calls Try.prog 25 #[.agg #[.slice A n.q.length c, .slice A' n.ap.length c'], .int .i64 i] w (NtPost S (repN n i) w) := by
  have hdh := Lib.hid hd
  clear hd
  have kN := heap_alloc_new w (.cells #[.slice A n.q.length c, .slice A' n.ap.length c'] 25)
  have hbV1 := bnew w (.cells #[.slice A n.q.length c, .slice A' n.ap.length c'] 25)
  obtain ⟨V1, hV1⟩ : ∃ V, (w).alloc (.cells #[.slice A n.q.length c, .slice A' n.ap.length c'] 25) = V := ⟨_, rfl⟩
  have hsV1 : V1.heap.size = w.heap.size + 1 := by rw [← hV1]; simp
  rw [hV1] at kN hbV1
  have kX := heap_alloc_new V1 (.cells #[.slice none 0 0, .slice none 0 0] 25)
  have hbV2 := bnew V1 (.cells #[.slice none 0 0, .slice none 0 0] 25)
  obtain ⟨V2, hV2⟩ : ∃ V, (V1).alloc (.cells #[.slice none 0 0, .slice none 0 0] 25) = V := ⟨_, rfl⟩
  have hsV2 : V2.heap.size = w.heap.size + 2 := by rw [← hV2]; simp; omega
  rw [hV2] at kX hbV2
  replace kN := blk_step kN hbV2
  rw [hsV1] at kX
  have hBV : Below w.heap.size w V2 := (hbV1).trans (hbV2.mono (by omega))
  clear hbV1 hbV2
  have hF := Lib.hid (finds_any n i V2 A A' c c' w.heap.size (by omega) ((hdh.out.mono hS).keep (Kept.below hBV)))
  replace hBV := Lib.hid hBV
  replace kN := Lib.hid kN
  replace kX := Lib.hid kX
  replace hV1 := Lib.hid hV1
  replace hV2 := Lib.hid hV2
  replace hsV2 := Lib.hid hsV2
  clear hsV1
  go_enter Try.func25, Try.ntmps25
  go_wp2_with fail
  rw [hV1.out, hV2.out]
  refine hF.out.mono ?_
  rintro e w1 ⟨rfl, hb⟩
  replace kN := Lib.hid (blk_step kN.out hb)
  replace kX := Lib.hid (blk_step kX.out hb)
  have hB1 := Lib.hid (hBV.out.trans (hb.mono hBV.out.size))
  have hsz1 := hb.size
  rw [hsV2.out] at hsz1
  clear hb hF hV1 hV2
  rcases findN_cases n i with ⟨h1, hnt, k, rfl, hk⟩ | ⟨h1, h2⟩
  case inr =>
    have hv := Lib.hid (repN_bad h1)
    have x0 : w1.cell? ⟨w.heap.size + 1, 0, none⟩ = _ := cell_of_row w1 _ 0 _ _ _ kX.out
    have x1 : w1.cell? ⟨w.heap.size + 1, 1, none⟩ = _ := cell_of_row w1 _ 1 _ _ _ kX.out
    have fX := fun i => frozen_of_row w1 _ i _ _ kX.out
    have hne : (findN n i != 0) = true := by simpa using h1
    clear h1 h2
    go_wp2_with fail
    exact bodyPost_ret (v := .tuple #[.agg #[.slice none 0 0, .slice none 0 0], .int .i64 (findN n i)]) (by simp [results, Try.results25, go_sem, x0, x1, fX]) rfl (NtPost.fail hv.out ((hB1.out.setCell (by simp) _).setCell (by simp) _) rfl)
  case inl =>
    obtain ⟨X, hX⟩ : ∃ X, X = addN n n.q[k] := ⟨_, rfl⟩
    have hv := Lib.hid (show repN n k = X by rw [hX]; exact repN_ok h1 hk)
    rw [h1]
    have hql := (ntB_iff.1 hnt).1
    have hpk := List.all_eq_true.1 (ntB_iff.1 hnt).2.2 _ (List.getElem_mem hk)
    obtain ⟨b, off, Ap, cp, rfl, hsb, hc0, hc1, hc2, hl1, hl2, hrp, hI⟩ := hdh.out.q.at_ hk
    obtain ⟨p, hp⟩ : ∃ p, p = n.q[k] := ⟨_, rfl⟩
    rw [← hp] at hX hpk hc0 hc1 hc2 hl1 hrp hI
    clear hp
    have hkl := Lib.hid (show ((0 : Int) ≤ k) ∧ ((k : Int) < n.q.length) ∧ k < n.q.length from ⟨by omega, by omega, hk⟩)
    have hlt : Hid (∀ g, S g → g < w1.heap.size) := fun g hg => by have := hS g hg; omega
    have hE : Hid (∀ W, Below w1.heap.size w1 W → W.cell? ⟨b, off + k * 3, none⟩ = some (.int .i64 p.frm) ∧ W.cell? ⟨b, off + k * 3 + 1, none⟩ = some (.int .i64 p.to) ∧ W.cell? ⟨b, off + k * 3 + 2, none⟩ = some (.slice Ap p.data.length cp)) := fun W hW =>
      have hKp := Kept.of hS (hB1.out.trans (hW.mono hB1.out.size))
      ⟨(hKp b _ hsb).trans hc0, (hKp b _ hsb).trans hc1, (hKp b _ hsb).trans hc2⟩
    have hN : Hid (∀ W, Below w1.heap.size w1 W → W.cell? ⟨w.heap.size, 0, none⟩ = some (.slice (some ⟨b, off, none⟩) n.q.length c) ∧ W.cell? ⟨w.heap.size, 1, none⟩ = some (.slice A' n.ap.length c')) := fun W hW =>
      have h := blk_step kN.out hW
      ⟨cell_of_row W _ 0 _ _ _ h, cell_of_row W _ 1 _ _ _ h⟩
    have hsub : Hid (∀ W, Below w1.heap.size w1 W → Calls Try.prog 30 #[.agg #[.slice (some ⟨b, off, none⟩) n.q.length c, .slice A' n.ap.length c'], .agg #[.int .i64 p.frm, .int .i64 p.to, .slice Ap p.data.length cp]] W (NtPost S X W)) := fun W hW => by
      have hKp := Kept.of hS (hB1.out.trans (hW.mono hB1.out.size))
      have h := add_any n p hql W _ A' Ap c c' cp S (fun g hg => Nat.lt_of_lt_of_le (hlt.out g hg) hW.size) (hdh.out.keep hKp) hI ⟨hl1, hl2⟩ (hrp.keep hKp)
      rw [← hX] at h
      exact h
    replace hdh := Lib.hid hdh.out
    clear h1 hnt hc0 hc1 hc2 hrp hpk
    go_wp2_with fail
    refine wp_region_pre 9 2 (fun W => Below w1.heap.size w1 W) (fun W W' => Below W.heap.size W W')
      (fun i v W => match i with
        | 0 => v = .agg #[.slice (some ⟨b, off, none⟩) n.q.length c, .slice A' n.ap.length c']
        | 1 => v = .pointer (some ⟨w.heap.size, 0, none⟩)
        | 2 => v = .slice (some ⟨b, off, none⟩) n.q.length c
        | 3 => v = .int .i64 (k : Int)
        | 4 => v = .pointer (some ⟨b, off + k * 3, none⟩)
        | 5 => v = .agg #[.int .i64 p.frm, .int .i64 p.to, .slice Ap p.data.length cp]
        | 6 => w1.heap.size ≤ W.heap.size ∧ ∃ A2 c2 A2' c2', v = .tuple #[.agg #[.slice A2 X.1.q.length c2, .slice A2' X.1.ap.length c2'], .int .i64 X.2] ∧ NR W (fun g => S g ∨ (w1.heap.size ≤ g ∧ g < W.heap.size)) A2 c2 A2' c2' X.1
        | 7 => w1.heap.size ≤ W.heap.size ∧ ∃ A2 c2 A2' c2', v = .agg #[.slice A2 X.1.q.length c2, .slice A2' X.1.ap.length c2'] ∧ NR W (fun g => S g ∨ (w1.heap.size ≤ g ∧ g < W.heap.size)) A2 c2 A2' c2' X.1
        | 8 => v = .int .i64 X.2
        | _ => True) (fun _ => false)
      (by kernel_rfl) (by kernel_rfl) (by kernel_rfl) (by kernel_rfl) (by kernel_rfl) (by kernel_rfl) (by kernel_rfl) ?_ (fun _ _ h => h.size) (dN (Below.refl _ _) 1) ?_ ?_
    · intro i v W W' hb hF
      match i, hF with
      | 0, h => exact h
      | 1, h => exact h
      | 2, h => exact h
      | 3, h => exact h
      | 4, h => exact h
      | 5, h => exact h
      | 6, ⟨h0, A2, c2, A2', c2', h1, h2⟩ => exact ⟨Nat.le_trans h0 hb.size, A2, c2, A2', c2', h1, (h2.keep (fun g o hg => hb.cell (p := ⟨g, o, none⟩) (by rcases hg with hg | hg; (exact Nat.lt_of_lt_of_le (hlt.out g hg) h0); exact hg.2))).mono fun g hg => hg.imp id fun h => ⟨h.1, Nat.lt_of_lt_of_le h.2 hb.size⟩⟩
      | 7, ⟨h0, A2, c2, A2', c2', h1, h2⟩ => exact ⟨Nat.le_trans h0 hb.size, A2, c2, A2', c2', h1, (h2.keep (fun g o hg => hb.cell (p := ⟨g, o, none⟩) (by rcases hg with hg | hg; (exact Nat.lt_of_lt_of_le (hlt.out g hg) h0); exact hg.2))).mono fun g hg => hg.imp id fun h => ⟨h.1, Nat.lt_of_lt_of_le h.2 hb.size⟩⟩
      | 8, h => exact h
      | _ + 9, _ => trivial
    · refine ⟨?_, ?_, ?_, ?_, ?_, ?_, ?_, ?_, ?_, trivial⟩
      · refine stepJ_any rfl fun ac W hAA hG hDD K hK => ?_
        have h2 := hAA.getD (t := 2) (by kernel_rfl)
        simp only [Array.getD_eq_getD_getElem?] at h2
        obtain ⟨k0, k1⟩ := hN.out W hG
        rw [if_pos (by rfl)]
        exact wp_val (v := .agg #[.slice (some ⟨b, off, none⟩) n.q.length c, .slice A' n.ap.length c']) (w' := W) (by simp [execOp, Act.eval, h2, go_sem, k0, k1]) (hK _ _ hG (Below.refl _ _) rfl (fun h => by cases h))
      · refine stepJ_any rfl fun ac W hAA hG hDD K hK => ?_
        have h2 := hAA.getD (t := 2) (by kernel_rfl)
        simp only [Array.getD_eq_getD_getElem?] at h2
        rw [if_pos (by rfl)]
        exact wp_val (v := .pointer (some ⟨w.heap.size, 0, none⟩)) (w' := W) (by simp [execOp, Act.eval, h2, go_sem]) (hK _ _ hG (Below.refl _ _) rfl (fun h => by cases h))
      · refine stepJ_any rfl fun ac W hAA hG hDD K hK => ?_
        have h15 := hDD.get 1 15 _ rfl rfl (by kernel_rfl)
        simp only [Array.getD_eq_getD_getElem?] at h15
        obtain ⟨k0, k1⟩ := hN.out W hG
        rw [if_pos (by rfl)]
        exact wp_val (v := .slice (some ⟨b, off, none⟩) n.q.length c) (w' := W) (by simp [execOp, Act.eval, h15, go_sem, k0]) (hK _ _ hG (Below.refl _ _) rfl (fun h => by cases h))
      · refine stepJ_any rfl fun ac W hAA hG hDD K hK => ?_
        have h1 := hAA.getD (t := 1) (by kernel_rfl)
        simp only [Array.getD_eq_getD_getElem?] at h1
        rw [if_pos (by rfl)]
        exact wp_val (v := .int .i64 (k : Int)) (w' := W) (by simp [execOp, Act.eval, h1, go_sem]) (hK _ _ hG (Below.refl _ _) rfl (fun h => by cases h))
      · refine stepJ_any rfl fun ac W hAA hG hDD K hK => ?_
        have h16 := hDD.get 2 16 _ rfl rfl (by kernel_rfl)
        have h17 := hDD.get 3 17 _ rfl rfl (by kernel_rfl)
        simp only [Array.getD_eq_getD_getElem?] at h16 h17
        have hkl := hkl.out
        rw [if_pos (by rfl)]
        exact wp_val (v := .pointer (some ⟨b, off + k * 3, none⟩)) (w' := W) (by simp [execOp, Act.eval, h16, h17, go_sem, hkl]) (hK _ _ hG (Below.refl _ _) rfl (fun h => by cases h))
      · refine stepJ_any rfl fun ac W hAA hG hDD K hK => ?_
        have h18 := hDD.get 4 18 _ rfl rfl (by kernel_rfl)
        simp only [Array.getD_eq_getD_getElem?] at h18
        obtain ⟨q0, q1, q2⟩ := hE.out W hG
        rw [if_pos (by rfl)]
        exact wp_val (v := .agg #[.int .i64 p.frm, .int .i64 p.to, .slice Ap p.data.length cp]) (w' := W) (by simp [execOp, Act.eval, h18, go_sem, q0, q1, q2]) (hK _ _ hG (Below.refl _ _) rfl (fun h => by cases h))
      · refine stepJ_any rfl fun ac W hAA hG hDD K hK => ?_
        have h14 := hDD.get 0 14 _ rfl rfl (by kernel_rfl)
        have h19 := hDD.get 5 19 _ rfl rfl (by kernel_rfl)
        rw [if_pos (by rfl)]
        simp only [Array.getD_eq_getD_getElem?] at h14 h19
        refine wp_call (f := 30) (args := #[.agg #[.slice (some ⟨b, off, none⟩) n.q.length c, .slice A' n.ap.length c'], .agg #[.int .i64 p.frm, .int .i64 p.to, .slice Ap p.data.length cp]]) (by simp [execOp, Act.eval, h14, h19, go_sem]) ((hsub.out W hG).mono fun e W9 he => ?_)
        obtain ⟨A2, c2, A2', c2', rfl, hnr, hbw⟩ := he.get
        have hgz := hG.size
        exact hK _ _ (hG.trans (hbw.mono hG.size)) hbw ⟨Nat.le_trans hgz hbw.size, A2, c2, A2', c2', rfl, hnr.mono fun g hg => hg.imp id fun h => ⟨Nat.le_trans hgz h.1, h.2⟩⟩ (fun h => by cases h)
      · refine stepJ_any rfl fun ac W hAA hG hDD K hK => ?_
        obtain ⟨hlw, A2, c2, A2', c2', h20, hnr⟩ := hDD.get 6 20 _ rfl rfl (by kernel_rfl)
        rw [if_pos (by rfl)]
        simp only [Array.getD_eq_getD_getElem?] at h20
        exact wp_val (v := .agg #[.slice A2 X.1.q.length c2, .slice A2' X.1.ap.length c2']) (w' := W) (by simp [execOp, Act.eval, h20, go_sem]) (hK _ _ hG (Below.refl _ _) ⟨hlw, A2, c2, A2', c2', rfl, hnr⟩ (fun h => by cases h))
      · refine stepJ_any rfl fun ac W hAA hG hDD K hK => ?_
        obtain ⟨hlw, A2, c2, A2', c2', h20, hnr⟩ := hDD.get 6 20 _ rfl rfl (by kernel_rfl)
        simp only [Array.getD_eq_getD_getElem?] at h20
        rw [if_pos (by rfl)]
        exact wp_val (v := .int .i64 X.2) (w' := W) (by simp [execOp, Act.eval, h20, go_sem]) (hK _ _ hG (Below.refl _ _) rfl (fun h => by cases h))
    intro fu T w2 hG hF hne hltb
    have e14 : T 14 = .agg #[.slice (some ⟨b, off, none⟩) n.q.length c, .slice A' n.ap.length c'] := hF 0 _ rfl (by omega)
    have e15 : T 15 = .pointer (some ⟨w.heap.size, 0, none⟩) := hF 1 _ rfl (by omega)
    have e16 : T 16 = .slice (some ⟨b, off, none⟩) n.q.length c := hF 2 _ rfl (by omega)
    have e17 : T 17 = .int .i64 (k : Int) := hF 3 _ rfl (by omega)
    have e18 : T 18 = .pointer (some ⟨b, off + k * 3, none⟩) := hF 4 _ rfl (by omega)
    have e19 : T 19 = .agg #[.int .i64 p.frm, .int .i64 p.to, .slice Ap p.data.length cp] := hF 5 _ rfl (by omega)
    obtain ⟨-, A3, c3, A3', c3', e20, -⟩ := hF 6 _ rfl (by omega)
    replace e20 : T 20 = _ := e20
    obtain ⟨-, A2, c2, A2', c2', e21, hnr⟩ := hF 7 _ rfl (by omega)
    replace e21 : T 21 = _ := e21
    have e22 : T 22 = .int .i64 X.2 := hF 8 _ rfl (by omega)
    clear hF hne hltb
    simp only [List.take, fillT, List.setIfInBounds_toArray, List.set_cons_zero, List.set_cons_succ, e14, e15, e16, e17, e18, e19, e20, e21, e22]
    clear e14 e15 e16 e17 e18 e19 e20 e21 e22
    have kX2 := blk_step kX.out hG
    have hB2 := hB1.out.trans (hG.mono hB1.out.size)
    have hs2 := hG.size
    refine wpAny_ready (rs := [9]) (by kernel_rfl) (by simp) (AllReady.cons (o := ⟨none, (Op.store 25 (Operand.tmp 4) (Operand.tmp 21)), _, _, _, none⟩) rfl (fun K1 hK1 => ?_) AllReady.nil)
    rw [if_pos (by rfl)]
    refine wp_store_row 25 (.tmp 4) (.tmp 21) rfl (w.heap.size + 1) #[.slice A2 X.1.q.length c2, .slice A2' X.1.ap.length c2'] rfl rfl 25 _ kX2 (by kernel_rfl) rfl (by simp [Value.oneCell']) ?_
    refine hK1 _ _ ?_
    clear hK1 K1
    refine wpAny_ready (rs := [10]) (by kernel_rfl) (by simp) (AllReady.cons (o := ⟨(some 5), (Op.assign (Operand.tmp 22)), _, _, _, none⟩) rfl (fun K1 hK1 => ?_) AllReady.nil)
    rw [if_pos (by rfl)]
    refine wp_val (v := .int .i64 X.2) (w' := w2.setRow (w.heap.size + 1) #[.slice A2 X.1.q.length c2, .slice A2' X.1.ap.length c2']) (by simp [execOp, Act.eval, go_sem]) ?_
    refine hK1 _ _ ?_
    clear hK1 K1
    refine wpAny_done (by kernel_rfl) ?_ _
    simp only [Act.put, List.setIfInBounds_toArray, List.set_cons_zero, List.set_cons_succ]
    have kX3 := setRow_heap w2 (w.heap.size + 1) _ #[.slice A2 X.1.q.length c2, .slice A2' X.1.ap.length c2'] _ _ kX2
    have hB3 := hB2.grown (grownBy_setRow w2 (w.heap.size + 1) #[.slice A2 X.1.q.length c2, .slice A2' X.1.ap.length c2']) hB2.size (fun k hk => by injection hk; omega)
    have hnr3 : NR (w2.setRow (w.heap.size + 1) #[.slice A2 X.1.q.length c2, .slice A2' X.1.ap.length c2']) (Sn S w (w2.setRow (w.heap.size + 1) #[.slice A2 X.1.q.length c2, .slice A2' X.1.ap.length c2'])) A2 c2 A2' c2' X.1 :=
      (hnr.keep (fun g o hg => World.cell?_of_block (setRow_other w2 (w.heap.size + 1) g _ (by rcases hg with hg | hg; (have := hS g hg; omega); omega)))).mono fun g hg => hg.imp id fun h => ⟨by omega, by simpa using h.2⟩
    obtain ⟨w3, hw3⟩ : ∃ W, w2.setRow (w.heap.size + 1) #[.slice A2 X.1.q.length c2, .slice A2' X.1.ap.length c2'] = W := ⟨_, rfl⟩
    rw [hw3] at kX3 hB3 hnr3 ⊢
    clear hw3 kX2 hnr hsub hE hN
    have x0 : w3.cell? ⟨w.heap.size + 1, 0, none⟩ = _ := cell_of_row w3 _ 0 _ _ _ kX3
    have x1 : w3.cell? ⟨w.heap.size + 1, 1, none⟩ = _ := cell_of_row w3 _ 1 _ _ _ kX3
    replace hB3 := Lib.hid hB3
    replace hnr3 := Lib.hid hnr3
    go_wp2_with fail
    exact bodyPost_ret (v := .tuple #[.agg #[.slice A2 X.1.q.length c2, .slice A2' X.1.ap.length c2'], .int .i64 X.2]) (by simp [results, Try.results25, go_sem, x0, x1]) rfl (by rw [hv.out]; exact ⟨hB3.out, A2, c2, A2', c2', rfl, hnr3.out⟩)
set_option maxRecDepth 100000 in
set_option maxHeartbeats 2000000 in
theorem rRepeat_any (n : Nt) (i : Int) (w : World) (A A' : Option Addr) (c c' : Nat) (S : Nat → Prop) (hS : ∀ b, S b → b < w.heap.size) (hd : NR w S A c A' c' n) :
    Calls Try.prog 26 #[.agg #[.slice A n.q.length c, .slice A' n.ap.length c'], .int .i64 i] w (NtPost S (repN n i) w) := by
  have hdh := Lib.hid hd
  clear hd
  have kN := heap_alloc_new w (.cells #[.slice A n.q.length c, .slice A' n.ap.length c'] 25)
  have hbV1 := bnew w (.cells #[.slice A n.q.length c, .slice A' n.ap.length c'] 25)
  obtain ⟨V1, hV1⟩ : ∃ V, (w).alloc (.cells #[.slice A n.q.length c, .slice A' n.ap.length c'] 25) = V := ⟨_, rfl⟩
  have hsV1 : V1.heap.size = w.heap.size + 1 := by rw [← hV1]; simp
  rw [hV1] at kN hbV1
  have kX := heap_alloc_new V1 (.cells #[.slice none 0 0, .slice none 0 0] 25)
  have hbV2 := bnew V1 (.cells #[.slice none 0 0, .slice none 0 0] 25)
  obtain ⟨V2, hV2⟩ : ∃ V, (V1).alloc (.cells #[.slice none 0 0, .slice none 0 0] 25) = V := ⟨_, rfl⟩
  have hsV2 : V2.heap.size = w.heap.size + 2 := by rw [← hV2]; simp; omega
  rw [hV2] at kX hbV2
  replace kN := blk_step kN hbV2
  rw [hsV1] at kX
  have hBV : Below w.heap.size w V2 := (hbV1).trans (hbV2.mono (by omega))
  clear hbV1 hbV2
  have hF := Lib.hid (asked_any n i V2 A A' c c' w.heap.size (by omega) ((hdh.out.mono hS).keep (Kept.below hBV)))
  replace hBV := Lib.hid hBV
  replace kN := Lib.hid kN
  replace kX := Lib.hid kX
  replace hV1 := Lib.hid hV1
  replace hV2 := Lib.hid hV2
  replace hsV2 := Lib.hid hsV2
  clear hsV1
  go_enter Try.func26, Try.ntmps26
  go_wp2_with fail
  rw [hV1.out, hV2.out]
  refine hF.out.mono ?_
  rintro e w1 ⟨rfl, hb⟩
  replace kN := Lib.hid (blk_step kN.out hb)
  replace kX := Lib.hid (blk_step kX.out hb)
  have hB1 := Lib.hid (hBV.out.trans (hb.mono hBV.out.size))
  have hsz1 := hb.size
  rw [hsV2.out] at hsz1
  clear hb hF hV1 hV2
  rcases findN_cases n i with ⟨h1, hnt, k, rfl, hk⟩ | ⟨h1, h2⟩
  case inr =>
    have hv := Lib.hid (repN_bad h1)
    have x0 : w1.cell? ⟨w.heap.size + 1, 0, none⟩ = _ := cell_of_row w1 _ 0 _ _ _ kX.out
    have x1 : w1.cell? ⟨w.heap.size + 1, 1, none⟩ = _ := cell_of_row w1 _ 1 _ _ _ kX.out
    have fX := fun i => frozen_of_row w1 _ i _ _ kX.out
    have hne : (findN n i != 0) = true := by simpa using h1
    clear h1 h2
    go_wp2_with fail
    exact bodyPost_ret (v := .tuple #[.agg #[.slice none 0 0, .slice none 0 0], .int .i64 (findN n i)]) (by simp [results, Try.results26, go_sem, x0, x1, fX]) rfl (NtPost.fail hv.out ((hB1.out.setCell (by simp) _).setCell (by simp) _) rfl)
  case inl =>
    obtain ⟨X, hX⟩ : ∃ X, X = addN n n.q[k] := ⟨_, rfl⟩
    have hv := Lib.hid (show repN n k = X by rw [hX]; exact repN_ok h1 hk)
    rw [h1]
    have hql := (ntB_iff.1 hnt).1
    have hpk := List.all_eq_true.1 (ntB_iff.1 hnt).2.2 _ (List.getElem_mem hk)
    obtain ⟨b, off, Ap, cp, rfl, hsb, hc0, hc1, hc2, hl1, hl2, hrp, hI⟩ := hdh.out.q.at_ hk
    obtain ⟨p, hp⟩ : ∃ p, p = n.q[k] := ⟨_, rfl⟩
    rw [← hp] at hX hpk hc0 hc1 hc2 hl1 hrp hI
    clear hp
    have hkl := Lib.hid (show ((0 : Int) ≤ k) ∧ ((k : Int) < n.q.length) ∧ k < n.q.length from ⟨by omega, by omega, hk⟩)
    have hlt : Hid (∀ g, S g → g < w1.heap.size) := fun g hg => by have := hS g hg; omega
    have hE : Hid (∀ W, Below w1.heap.size w1 W → W.cell? ⟨b, off + k * 3, none⟩ = some (.int .i64 p.frm) ∧ W.cell? ⟨b, off + k * 3 + 1, none⟩ = some (.int .i64 p.to) ∧ W.cell? ⟨b, off + k * 3 + 2, none⟩ = some (.slice Ap p.data.length cp)) := fun W hW =>
      have hKp := Kept.of hS (hB1.out.trans (hW.mono hB1.out.size))
      ⟨(hKp b _ hsb).trans hc0, (hKp b _ hsb).trans hc1, (hKp b _ hsb).trans hc2⟩
    have hN : Hid (∀ W, Below w1.heap.size w1 W → W.cell? ⟨w.heap.size, 0, none⟩ = some (.slice (some ⟨b, off, none⟩) n.q.length c) ∧ W.cell? ⟨w.heap.size, 1, none⟩ = some (.slice A' n.ap.length c')) := fun W hW =>
      have h := blk_step kN.out hW
      ⟨cell_of_row W _ 0 _ _ _ h, cell_of_row W _ 1 _ _ _ h⟩
    have hsub : Hid (∀ W, Below w1.heap.size w1 W → Calls Try.prog 12 #[.agg #[.slice (some ⟨b, off, none⟩) n.q.length c, .slice A' n.ap.length c'], .agg #[.int .i64 p.frm, .int .i64 p.to, .slice Ap p.data.length cp]] W (NtPost S X W)) := fun W hW => by
      have hKp := Kept.of hS (hB1.out.trans (hW.mono hB1.out.size))
      have h := rSend_any n p W _ A' Ap c c' cp S (fun g hg => Nat.lt_of_lt_of_le (hlt.out g hg) hW.size) (hdh.out.keep hKp) hI ⟨hl1, hl2⟩ (hrp.keep hKp)
      rw [sendN_ok hnt hpk, ← hX] at h
      exact h
    replace hdh := Lib.hid hdh.out
    clear h1 hnt hc0 hc1 hc2 hrp hpk
    go_wp2_with fail
    refine wp_region_pre 9 2 (fun W => Below w1.heap.size w1 W) (fun W W' => Below W.heap.size W W')
      (fun i v W => match i with
        | 0 => v = .agg #[.slice (some ⟨b, off, none⟩) n.q.length c, .slice A' n.ap.length c']
        | 1 => v = .pointer (some ⟨w.heap.size, 0, none⟩)
        | 2 => v = .slice (some ⟨b, off, none⟩) n.q.length c
        | 3 => v = .int .i64 (k : Int)
        | 4 => v = .pointer (some ⟨b, off + k * 3, none⟩)
        | 5 => v = .agg #[.int .i64 p.frm, .int .i64 p.to, .slice Ap p.data.length cp]
        | 6 => w1.heap.size ≤ W.heap.size ∧ ∃ A2 c2 A2' c2', v = .tuple #[.agg #[.slice A2 X.1.q.length c2, .slice A2' X.1.ap.length c2'], .int .i64 X.2] ∧ NR W (fun g => S g ∨ (w1.heap.size ≤ g ∧ g < W.heap.size)) A2 c2 A2' c2' X.1
        | 7 => w1.heap.size ≤ W.heap.size ∧ ∃ A2 c2 A2' c2', v = .agg #[.slice A2 X.1.q.length c2, .slice A2' X.1.ap.length c2'] ∧ NR W (fun g => S g ∨ (w1.heap.size ≤ g ∧ g < W.heap.size)) A2 c2 A2' c2' X.1
        | 8 => v = .int .i64 X.2
        | _ => True) (fun _ => false)
      (by kernel_rfl) (by kernel_rfl) (by kernel_rfl) (by kernel_rfl) (by kernel_rfl) (by kernel_rfl) (by kernel_rfl) ?_ (fun _ _ h => h.size) (dN (Below.refl _ _) 1) ?_ ?_
    · intro i v W W' hb hF
      match i, hF with
      | 0, h => exact h
      | 1, h => exact h
      | 2, h => exact h
      | 3, h => exact h
      | 4, h => exact h
      | 5, h => exact h
      | 6, ⟨h0, A2, c2, A2', c2', h1, h2⟩ => exact ⟨Nat.le_trans h0 hb.size, A2, c2, A2', c2', h1, (h2.keep (fun g o hg => hb.cell (p := ⟨g, o, none⟩) (by rcases hg with hg | hg; (exact Nat.lt_of_lt_of_le (hlt.out g hg) h0); exact hg.2))).mono fun g hg => hg.imp id fun h => ⟨h.1, Nat.lt_of_lt_of_le h.2 hb.size⟩⟩
      | 7, ⟨h0, A2, c2, A2', c2', h1, h2⟩ => exact ⟨Nat.le_trans h0 hb.size, A2, c2, A2', c2', h1, (h2.keep (fun g o hg => hb.cell (p := ⟨g, o, none⟩) (by rcases hg with hg | hg; (exact Nat.lt_of_lt_of_le (hlt.out g hg) h0); exact hg.2))).mono fun g hg => hg.imp id fun h => ⟨h.1, Nat.lt_of_lt_of_le h.2 hb.size⟩⟩
      | 8, h => exact h
      | _ + 9, _ => trivial
    · refine ⟨?_, ?_, ?_, ?_, ?_, ?_, ?_, ?_, ?_, trivial⟩
      · refine stepJ_any rfl fun ac W hAA hG hDD K hK => ?_
        have h2 := hAA.getD (t := 2) (by kernel_rfl)
        simp only [Array.getD_eq_getD_getElem?] at h2
        obtain ⟨k0, k1⟩ := hN.out W hG
        rw [if_pos (by rfl)]
        exact wp_val (v := .agg #[.slice (some ⟨b, off, none⟩) n.q.length c, .slice A' n.ap.length c']) (w' := W) (by simp [execOp, Act.eval, h2, go_sem, k0, k1]) (hK _ _ hG (Below.refl _ _) rfl (fun h => by cases h))
      · refine stepJ_any rfl fun ac W hAA hG hDD K hK => ?_
        have h2 := hAA.getD (t := 2) (by kernel_rfl)
        simp only [Array.getD_eq_getD_getElem?] at h2
        rw [if_pos (by rfl)]
        exact wp_val (v := .pointer (some ⟨w.heap.size, 0, none⟩)) (w' := W) (by simp [execOp, Act.eval, h2, go_sem]) (hK _ _ hG (Below.refl _ _) rfl (fun h => by cases h))
      · refine stepJ_any rfl fun ac W hAA hG hDD K hK => ?_
        have h15 := hDD.get 1 15 _ rfl rfl (by kernel_rfl)
        simp only [Array.getD_eq_getD_getElem?] at h15
        obtain ⟨k0, k1⟩ := hN.out W hG
        rw [if_pos (by rfl)]
        exact wp_val (v := .slice (some ⟨b, off, none⟩) n.q.length c) (w' := W) (by simp [execOp, Act.eval, h15, go_sem, k0]) (hK _ _ hG (Below.refl _ _) rfl (fun h => by cases h))
      · refine stepJ_any rfl fun ac W hAA hG hDD K hK => ?_
        have h1 := hAA.getD (t := 1) (by kernel_rfl)
        simp only [Array.getD_eq_getD_getElem?] at h1
        rw [if_pos (by rfl)]
        exact wp_val (v := .int .i64 (k : Int)) (w' := W) (by simp [execOp, Act.eval, h1, go_sem]) (hK _ _ hG (Below.refl _ _) rfl (fun h => by cases h))
      · refine stepJ_any rfl fun ac W hAA hG hDD K hK => ?_
        have h16 := hDD.get 2 16 _ rfl rfl (by kernel_rfl)
        have h17 := hDD.get 3 17 _ rfl rfl (by kernel_rfl)
        simp only [Array.getD_eq_getD_getElem?] at h16 h17
        have hkl := hkl.out
        rw [if_pos (by rfl)]
        exact wp_val (v := .pointer (some ⟨b, off + k * 3, none⟩)) (w' := W) (by simp [execOp, Act.eval, h16, h17, go_sem, hkl]) (hK _ _ hG (Below.refl _ _) rfl (fun h => by cases h))
      · refine stepJ_any rfl fun ac W hAA hG hDD K hK => ?_
        have h18 := hDD.get 4 18 _ rfl rfl (by kernel_rfl)
        simp only [Array.getD_eq_getD_getElem?] at h18
        obtain ⟨q0, q1, q2⟩ := hE.out W hG
        rw [if_pos (by rfl)]
        exact wp_val (v := .agg #[.int .i64 p.frm, .int .i64 p.to, .slice Ap p.data.length cp]) (w' := W) (by simp [execOp, Act.eval, h18, go_sem, q0, q1, q2]) (hK _ _ hG (Below.refl _ _) rfl (fun h => by cases h))
      · refine stepJ_any rfl fun ac W hAA hG hDD K hK => ?_
        have h14 := hDD.get 0 14 _ rfl rfl (by kernel_rfl)
        have h19 := hDD.get 5 19 _ rfl rfl (by kernel_rfl)
        rw [if_pos (by rfl)]
        simp only [Array.getD_eq_getD_getElem?] at h14 h19
        refine wp_call (f := 12) (args := #[.agg #[.slice (some ⟨b, off, none⟩) n.q.length c, .slice A' n.ap.length c'], .agg #[.int .i64 p.frm, .int .i64 p.to, .slice Ap p.data.length cp]]) (by simp [execOp, Act.eval, h14, h19, go_sem]) ((hsub.out W hG).mono fun e W9 he => ?_)
        obtain ⟨A2, c2, A2', c2', rfl, hnr, hbw⟩ := he.get
        have hgz := hG.size
        exact hK _ _ (hG.trans (hbw.mono hG.size)) hbw ⟨Nat.le_trans hgz hbw.size, A2, c2, A2', c2', rfl, hnr.mono fun g hg => hg.imp id fun h => ⟨Nat.le_trans hgz h.1, h.2⟩⟩ (fun h => by cases h)
      · refine stepJ_any rfl fun ac W hAA hG hDD K hK => ?_
        obtain ⟨hlw, A2, c2, A2', c2', h20, hnr⟩ := hDD.get 6 20 _ rfl rfl (by kernel_rfl)
        rw [if_pos (by rfl)]
        simp only [Array.getD_eq_getD_getElem?] at h20
        exact wp_val (v := .agg #[.slice A2 X.1.q.length c2, .slice A2' X.1.ap.length c2']) (w' := W) (by simp [execOp, Act.eval, h20, go_sem]) (hK _ _ hG (Below.refl _ _) ⟨hlw, A2, c2, A2', c2', rfl, hnr⟩ (fun h => by cases h))
      · refine stepJ_any rfl fun ac W hAA hG hDD K hK => ?_
        obtain ⟨hlw, A2, c2, A2', c2', h20, hnr⟩ := hDD.get 6 20 _ rfl rfl (by kernel_rfl)
        simp only [Array.getD_eq_getD_getElem?] at h20
        rw [if_pos (by rfl)]
        exact wp_val (v := .int .i64 X.2) (w' := W) (by simp [execOp, Act.eval, h20, go_sem]) (hK _ _ hG (Below.refl _ _) rfl (fun h => by cases h))
    intro fu T w2 hG hF hne hltb
    have e14 : T 14 = .agg #[.slice (some ⟨b, off, none⟩) n.q.length c, .slice A' n.ap.length c'] := hF 0 _ rfl (by omega)
    have e15 : T 15 = .pointer (some ⟨w.heap.size, 0, none⟩) := hF 1 _ rfl (by omega)
    have e16 : T 16 = .slice (some ⟨b, off, none⟩) n.q.length c := hF 2 _ rfl (by omega)
    have e17 : T 17 = .int .i64 (k : Int) := hF 3 _ rfl (by omega)
    have e18 : T 18 = .pointer (some ⟨b, off + k * 3, none⟩) := hF 4 _ rfl (by omega)
    have e19 : T 19 = .agg #[.int .i64 p.frm, .int .i64 p.to, .slice Ap p.data.length cp] := hF 5 _ rfl (by omega)
    obtain ⟨-, A3, c3, A3', c3', e20, -⟩ := hF 6 _ rfl (by omega)
    replace e20 : T 20 = _ := e20
    obtain ⟨-, A2, c2, A2', c2', e21, hnr⟩ := hF 7 _ rfl (by omega)
    replace e21 : T 21 = _ := e21
    have e22 : T 22 = .int .i64 X.2 := hF 8 _ rfl (by omega)
    clear hF hne hltb
    simp only [List.take, fillT, List.setIfInBounds_toArray, List.set_cons_zero, List.set_cons_succ, e14, e15, e16, e17, e18, e19, e20, e21, e22]
    clear e14 e15 e16 e17 e18 e19 e20 e21 e22
    have kX2 := blk_step kX.out hG
    have hB2 := hB1.out.trans (hG.mono hB1.out.size)
    have hs2 := hG.size
    refine wpAny_ready (rs := [9]) (by kernel_rfl) (by simp) (AllReady.cons (o := ⟨none, (Op.store 25 (Operand.tmp 4) (Operand.tmp 21)), _, _, _, none⟩) rfl (fun K1 hK1 => ?_) AllReady.nil)
    rw [if_pos (by rfl)]
    refine wp_store_row 25 (.tmp 4) (.tmp 21) rfl (w.heap.size + 1) #[.slice A2 X.1.q.length c2, .slice A2' X.1.ap.length c2'] rfl rfl 25 _ kX2 (by kernel_rfl) rfl (by simp [Value.oneCell']) ?_
    refine hK1 _ _ ?_
    clear hK1 K1
    refine wpAny_ready (rs := [10]) (by kernel_rfl) (by simp) (AllReady.cons (o := ⟨(some 5), (Op.assign (Operand.tmp 22)), _, _, _, none⟩) rfl (fun K1 hK1 => ?_) AllReady.nil)
    rw [if_pos (by rfl)]
    refine wp_val (v := .int .i64 X.2) (w' := w2.setRow (w.heap.size + 1) #[.slice A2 X.1.q.length c2, .slice A2' X.1.ap.length c2']) (by simp [execOp, Act.eval, go_sem]) ?_
    refine hK1 _ _ ?_
    clear hK1 K1
    refine wpAny_done (by kernel_rfl) ?_ _
    simp only [Act.put, List.setIfInBounds_toArray, List.set_cons_zero, List.set_cons_succ]
    have kX3 := setRow_heap w2 (w.heap.size + 1) _ #[.slice A2 X.1.q.length c2, .slice A2' X.1.ap.length c2'] _ _ kX2
    have hB3 := hB2.grown (grownBy_setRow w2 (w.heap.size + 1) #[.slice A2 X.1.q.length c2, .slice A2' X.1.ap.length c2']) hB2.size (fun k hk => by injection hk; omega)
    have hnr3 : NR (w2.setRow (w.heap.size + 1) #[.slice A2 X.1.q.length c2, .slice A2' X.1.ap.length c2']) (Sn S w (w2.setRow (w.heap.size + 1) #[.slice A2 X.1.q.length c2, .slice A2' X.1.ap.length c2'])) A2 c2 A2' c2' X.1 :=
      (hnr.keep (fun g o hg => World.cell?_of_block (setRow_other w2 (w.heap.size + 1) g _ (by rcases hg with hg | hg; (have := hS g hg; omega); omega)))).mono fun g hg => hg.imp id fun h => ⟨by omega, by simpa using h.2⟩
    obtain ⟨w3, hw3⟩ : ∃ W, w2.setRow (w.heap.size + 1) #[.slice A2 X.1.q.length c2, .slice A2' X.1.ap.length c2'] = W := ⟨_, rfl⟩
    rw [hw3] at kX3 hB3 hnr3 ⊢
    clear hw3 kX2 hnr hsub hE hN
    have x0 : w3.cell? ⟨w.heap.size + 1, 0, none⟩ = _ := cell_of_row w3 _ 0 _ _ _ kX3
    have x1 : w3.cell? ⟨w.heap.size + 1, 1, none⟩ = _ := cell_of_row w3 _ 1 _ _ _ kX3
    replace hB3 := Lib.hid hB3
    replace hnr3 := Lib.hid hnr3
    go_wp2_with fail
    exact bodyPost_ret (v := .tuple #[.agg #[.slice A2 X.1.q.length c2, .slice A2' X.1.ap.length c2'], .int .i64 X.2]) (by simp [results, Try.results26, go_sem, x0, x1]) rfl (by rw [hv.out]; exact ⟨hB3.out, A2, c2, A2', c2', rfl, hnr3.out⟩)
end Go.Proofs.Ytpmmahlmfcbbbaa
