/- The reference's Send: the contract. -/
import Derived.Test.YtpmmahlmfcbbbaaNz
import Derived.Test.YtpmmahlmfcbbbaaNs
import Derived.Test.YtpmmahlmfcbbbaaNt
namespace Go.Proofs.Ytpmmahlmfcbbbaa
open Go.RowKit

set_option maxRecDepth 100000 in
set_option maxHeartbeats 2000000 in
theorem rSend_any (n : Nt) (p : Pk) (w : World) (A A' Ap : Option Addr) (c c' cp : Nat) (S : Nat → Prop) (hS : ∀ b, S b → b < w.heap.size) (hd : NR w S A c A' c' n) (hI : I64 p.frm ∧ I64 p.to) (hpl : p.data.length ≤ cp ∧ cp ≤ maxLen) (hp : RBs w S Ap p.data) :
    Calls Try.prog 12 #[.agg #[.slice A n.q.length c, .slice A' n.ap.length c'], .agg #[.int .i64 p.frm, .int .i64 p.to, .slice Ap p.data.length cp]] w (NtPost S (sendN n p) w) := by
  have hdh := Lib.hid hd
  clear hd
  have kN := heap_alloc_new w (.cells #[.slice A n.q.length c, .slice A' n.ap.length c'] 25)
  have hbV1 := bnew w (.cells #[.slice A n.q.length c, .slice A' n.ap.length c'] 25)
  obtain ⟨V1, hV1⟩ : ∃ V, (w).alloc (.cells #[.slice A n.q.length c, .slice A' n.ap.length c'] 25) = V := ⟨_, rfl⟩
  have hsV1 : V1.heap.size = w.heap.size + 1 := by rw [← hV1]; simp
  rw [hV1] at kN hbV1
  have kP := heap_alloc_new V1 (.cells #[.int .i64 p.frm, .int .i64 p.to, .slice Ap p.data.length cp] 28)
  have hbV2 := bnew V1 (.cells #[.int .i64 p.frm, .int .i64 p.to, .slice Ap p.data.length cp] 28)
  obtain ⟨V2, hV2⟩ : ∃ V, (V1).alloc (.cells #[.int .i64 p.frm, .int .i64 p.to, .slice Ap p.data.length cp] 28) = V := ⟨_, rfl⟩
  have hsV2 : V2.heap.size = w.heap.size + 2 := by rw [← hV2]; simp; omega
  rw [hV2] at kP hbV2
  replace kN := blk_step kN hbV2
  have kX := heap_alloc_new V2 (.cells #[.slice none 0 0, .slice none 0 0] 25)
  have hbV3 := bnew V2 (.cells #[.slice none 0 0, .slice none 0 0] 25)
  obtain ⟨V3, hV3⟩ : ∃ V, (V2).alloc (.cells #[.slice none 0 0, .slice none 0 0] 25) = V := ⟨_, rfl⟩
  have hsV3 : V3.heap.size = w.heap.size + 3 := by rw [← hV3]; simp; omega
  rw [hV3] at kX hbV3
  replace kN := blk_step kN hbV3
  replace kP := blk_step kP hbV3
  rw [hsV1] at kP
  rw [hsV2] at kX
  have hBV : Below w.heap.size w V3 := ((hbV1).trans (hbV2.mono (by omega))).trans (hbV3.mono (by omega))
  clear hbV1 hbV2 hbV3
  have hC := Lib.hid (rCheck_any n V3 A A' c c' w.heap.size (by omega) ((hdh.out.mono hS).keep (Kept.below hBV)))
  have hP := Lib.hid (fun W => rPacket_any p W Ap cp)
  replace hBV := Lib.hid hBV
  replace hpl := Lib.hid hpl
  replace hp := Lib.hid hp
  replace hI := Lib.hid hI
  replace kN := Lib.hid kN
  replace kP := Lib.hid kP
  replace kX := Lib.hid kX
  replace hV1 := Lib.hid hV1
  replace hV2 := Lib.hid hV2
  replace hV3 := Lib.hid hV3
  replace hsV3 := Lib.hid hsV3
  clear hsV1 hsV2
  go_enter Try.func12, Try.ntmps12
  go_wp2_with fail
  rw [hV1.out, hV2.out, hV3.out]
  refine hC.out.mono ?_
  rintro e w1 ⟨rfl, hb⟩
  replace kN := Lib.hid (blk_step kN.out hb)
  replace kP := Lib.hid (blk_step kP.out hb)
  replace kX := Lib.hid (blk_step kX.out hb)
  have hB1 := Lib.hid (hBV.out.trans (hb.mono hBV.out.size))
  have hsz1 := hb.size
  rw [hsV3.out] at hsz1
  clear hb hC hV1 hV2 hV3
  rcases nchk_eq n with ⟨h1, h2⟩ | ⟨h1, h2⟩
  case inr =>
    rw [h2]
    have hv := Lib.hid (sendN_bad (p := p) (.inl h1))
    clear h1 h2
    have x0 : w1.cell? ⟨w.heap.size + 2, 0, none⟩ = _ := cell_of_row w1 _ 0 _ _ _ kX.out
    have x1 : w1.cell? ⟨w.heap.size + 2, 1, none⟩ = _ := cell_of_row w1 _ 1 _ _ _ kX.out
    have fX := fun i => frozen_of_row w1 _ i _ _ kX.out
    go_wp2_with fail
    exact bodyPost_ret (v := .tuple #[.agg #[.slice none 0 0, .slice none 0 0], .int .i64 60]) (by simp [results, Try.results12, go_sem, x0, x1, fX]) rfl (NtPost.fail hv.out ((hB1.out.setCell (by simp; omega) _).setCell (by simp; omega) _) rfl)
  case inl =>
  rw [h2]
  have hnt := Lib.hid h1
  clear h1 h2
  have p0 : w1.cell? ⟨w.heap.size + 1, 0, none⟩ = _ := cell_of_row w1 _ 0 _ _ _ kP.out
  have p1 : w1.cell? ⟨w.heap.size + 1, 1, none⟩ = _ := cell_of_row w1 _ 1 _ _ _ kP.out
  have p2 : w1.cell? ⟨w.heap.size + 1, 2, none⟩ = _ := cell_of_row w1 _ 2 _ _ _ kP.out
  go_wp2_with fail
  refine (hP.out _).mono ?_
  rintro e w2 ⟨rfl, hb⟩
  replace kN := Lib.hid (blk_step kN.out hb)
  replace kP := Lib.hid (blk_step kP.out hb)
  replace kX := Lib.hid (blk_step kX.out hb)
  have hB2 := Lib.hid (hB1.out.trans (hb.mono hB1.out.size))
  have hsz2 := hb.size
  clear hb hP p0 p1 p2 hB1
  have x0 : w2.cell? ⟨w.heap.size + 2, 0, none⟩ = _ := cell_of_row w2 _ 0 _ _ _ kX.out
  have x1 : w2.cell? ⟨w.heap.size + 2, 1, none⟩ = _ := cell_of_row w2 _ 1 _ _ _ kX.out
  have fX := fun i => frozen_of_row w2 _ i _ _ kX.out
  cases hpk : pkB p with
  | false =>
    have hv := Lib.hid (sendN_bad (n := n) (.inr hpk))
    clear hpk
    go_wp2_with fail
    exact bodyPost_ret (v := .tuple #[.agg #[.slice none 0 0, .slice none 0 0], .int .i64 60]) (by simp [results, Try.results12, go_sem, x0, x1, fX]) rfl (NtPost.fail hv.out ((hB2.out.setCell (by simp; omega) _).setCell (by simp; omega) _) rfl)
  | true =>
    have hv0 := sendN_ok hnt.out hpk
    have hql := (ntB_iff.1 hnt.out).1
    have y0 : w2.cell? ⟨w.heap.size, 0, none⟩ = _ := cell_of_row w2 _ 0 _ _ _ kN.out
    clear hpk
    by_cases h4 : n.q.length = 4096
    · have h4' : ((n.q.length : Int) == 4096) = true := by rw [h4]; rfl
      have hv := Lib.hid (show sendN n p = (zeroNt, 2) by rw [hv0]; unfold addN; rw [if_pos h4])
      clear h4 hv0
      go_wp2_with fail
      exact bodyPost_ret (v := .tuple #[.agg #[.slice none 0 0, .slice none 0 0], .int .i64 2]) (by simp [results, Try.results12, go_sem, x0, x1, fX]) rfl (NtPost.fail hv.out ((hB2.out.setCell (by simp; omega) _).setCell (by simp; omega) _) rfl)
    · have h4' : ((n.q.length : Int) == 4096) = false := by simp only [beq_eq_false_iff_ne, ne_eq]; omega
      have hv := Lib.hid (show sendN n p = (⟨n.q ++ [p], n.ap⟩, 0) by rw [hv0]; unfold addN; rw [if_neg h4])
      have hq6 := Lib.hid (show n.q.length ≤ 1000000 by omega)
      clear h4 hv0
      obtain ⟨xs, hx1, hx2, hx3⟩ := hdh.out.q.vals
      have hxs : Hid (xs.length = n.q.length * 3 ∧ (∀ u ∈ xs, u.oneCell' = true) ∧ ∀ W, Below w2.heap.size w2 W → 0 < xs.length → ∃ ad, A = some ad ∧ ∀ j u, xs[j]? = some u → W.cell? (ad.add j) = some u) := ⟨hx1.1, hx3, fun W hW h => by
        obtain ⟨ad, e, hc⟩ := hx2 h
        exact ⟨ad, e, fun j u hu => ((hB2.out.trans (hW.mono hB2.out.size)).cell (World.block_lt_of_cell? w _ (hc j u hu))).trans (hc j u hu)⟩⟩
      have hN : Hid (∀ W, Below w2.heap.size w2 W → (W.cell? ⟨w.heap.size, 0, none⟩ = some (.slice A n.q.length c) ∧ W.cell? ⟨w.heap.size, 1, none⟩ = some (.slice A' n.ap.length c')) ∧ W.cell? ⟨w.heap.size + 1, 0, none⟩ = some (.int .i64 p.frm) ∧ W.cell? ⟨w.heap.size + 1, 1, none⟩ = some (.int .i64 p.to) ∧ W.cell? ⟨w.heap.size + 1, 2, none⟩ = some (.slice Ap p.data.length cp)) := fun W hW =>
        have h := blk_step kN.out hW
        have h2 := blk_step kP.out hW
        ⟨⟨cell_of_row W _ 0 _ _ _ h, cell_of_row W _ 1 _ _ _ h⟩, cell_of_row W _ 0 _ _ _ h2, cell_of_row W _ 1 _ _ _ h2, cell_of_row W _ 2 _ _ _ h2⟩
      replace hx1 := Lib.hid hx1
      clear hx2 hx3 x0 x1 fX
      go_wp2_with fail
      clear y0 h4'
      refine wp_region_pre 6 3 (fun W => Below w2.heap.size w2 W) (fun W W' => Below W.heap.size W W')
        (fun i v W => match i with
          | 0 => ∃ g, v = .slice (some ⟨g, 0, none⟩) 0 0 ∧ W.ownsRow w2.heap.size 28 3 (.slice (some ⟨g, 0, none⟩) 0 0) 0 []
          | 1 => v = .pointer (some ⟨w.heap.size, 0, none⟩)
          | 2 => v = .slice A n.q.length c
          | 3 => ∃ u, v = u ∧ Own0 w2.heap.size n.q.length xs u W
          | 4 => v = .agg #[.int .i64 p.frm, .int .i64 p.to, .slice Ap p.data.length cp]
          | 5 => ∃ g, v = .slice (some ⟨g, 0, none⟩) 1 1 ∧ W.heap[g]? = some (.cells #[.int .i64 p.frm, .int .i64 p.to, .slice Ap p.data.length cp] 28 (0, 0))
          | _ => True) (fun _ => false)
        (by kernel_rfl) (by kernel_rfl) (by kernel_rfl) (by kernel_rfl) (by kernel_rfl) (by kernel_rfl) (by kernel_rfl) ?_ (fun _ _ h => h.size) (dN (Below.refl _ _) 1) ?_ ?_
      · intro i v W W' hb hF
        match i, hF with
        | 0, ⟨g, h1, h2⟩ => exact ⟨g, h1, ownsRow_below h2 hb⟩
        | 1, h => exact h
        | 2, h => exact h
        | 3, ⟨u, h1, h2⟩ => exact ⟨u, h1, ⟨ownsRow_below h2.1 hb, h2.2⟩⟩
        | 4, h => exact h
        | 5, ⟨g, h1, h2⟩ => exact ⟨g, h1, blk_step h2 hb⟩
        | _ + 6, _ => trivial
      · refine ⟨?_, ?_, ?_, ?_, ?_, ?_, trivial⟩
        · refine stepJ_any rfl fun ac W hAA hG hDD K hK => ?_
          rw [if_pos (by rfl)]
          exact wp_val (v := .slice (some ⟨W.heap.size, 0, none⟩) 0 0) (w' := W.alloc (.cells #[] 28)) (by simp [execOp, Act.eval, go_sem]) (hK _ _ (hG.alloc hG.size _) (bnew W _) ⟨_, rfl, own_zero (heap_alloc_new W _) hG.size⟩ (fun h => by cases h))
        · refine stepJ_any rfl fun ac W hAA hG hDD K hK => ?_
          have h2 := hAA.getD (t := 2) (by kernel_rfl)
          simp only [Array.getD_eq_getD_getElem?] at h2
          rw [if_pos (by rfl)]
          exact wp_val (v := .pointer (some ⟨w.heap.size, 0, none⟩)) (w' := W) (by simp [execOp, Act.eval, h2, go_sem]) (hK _ _ hG (Below.refl _ _) rfl (fun h => by cases h))
        · refine stepJ_any rfl fun ac W hAA hG hDD K hK => ?_
          have h21 := hDD.get 1 21 _ rfl rfl (by kernel_rfl)
          simp only [Array.getD_eq_getD_getElem?] at h21
          obtain ⟨⟨k0, k1⟩, k2⟩ := hN.out W hG
          rw [if_pos (by rfl)]
          exact wp_val (v := .slice A n.q.length c) (w' := W) (by simp [execOp, Act.eval, h21, go_sem, k0]) (hK _ _ hG (Below.refl _ _) rfl (fun h => by cases h))
        · refine stepJ_any rfl fun ac W hAA hG hDD K hK => ?_
          obtain ⟨g0, h20, ho0⟩ := hDD.get 0 20 _ rfl rfl (by kernel_rfl)
          have h22 := hDD.get 2 22 _ rfl rfl (by kernel_rfl)
          rw [if_pos (by rfl)]
          obtain ⟨v3, W3, hr3, ho3, hb3⟩ := append_empty W w2.heap.size 22 g0 ho0 A n.q.length c xs hxs.out.1 (hxs.out.2.2 W hG) hxs.out.2.1 hq6.out hG.size
          exact Lib.wp_append_run W (.tmp 20) (.tmp 22) 22 22 rfl _ _ h20 h22 _ W3 hr3 (hK _ _ (hG.trans (hb3.mono hG.size)) hb3 ⟨_, rfl, ho3⟩ (fun h => by cases h))
        · refine stepJ_any rfl fun ac W hAA hG hDD K hK => ?_
          have h3 := hAA.getD (t := 3) (by kernel_rfl)
          simp only [Array.getD_eq_getD_getElem?] at h3
          obtain ⟨⟨k0, k1⟩, k2, k3, k4⟩ := hN.out W hG
          rw [if_pos (by rfl)]
          exact wp_val (v := .agg #[.int .i64 p.frm, .int .i64 p.to, .slice Ap p.data.length cp]) (w' := W) (by simp [execOp, Act.eval, h3, go_sem, k2, k3, k4]) (hK _ _ hG (Below.refl _ _) rfl (fun h => by cases h))
        · refine stepJ_any rfl fun ac W hAA hG hDD K hK => ?_
          have h24 := hDD.get 4 24 _ rfl rfl (by kernel_rfl)
          rw [if_pos (by rfl)]
          simp only [Array.getD_eq_getD_getElem?] at h24
          exact wp_val (v := .slice (some ⟨W.heap.size, 0, none⟩) 1 1) (w' := W.alloc (.cells #[.int .i64 p.frm, .int .i64 p.to, .slice Ap p.data.length cp] 28)) (by simp [execOp, Act.eval, h24, go_sem]) (hK _ _ (hG.alloc hG.size _) (bnew W _) ⟨_, rfl, heap_alloc_new W _⟩ (fun h => by cases h))
      intro fu T w3 hG hF hne hltb
      obtain ⟨g0, e20, -⟩ := hF 0 _ rfl (by omega)
      replace e20 : T 20 = _ := e20
      have e21 : T 21 = .pointer (some ⟨w.heap.size, 0, none⟩) := hF 1 _ rfl (by omega)
      have e22 : T 22 = .slice A n.q.length c := hF 2 _ rfl (by omega)
      obtain ⟨u3, e23, ho3⟩ := hF 3 _ rfl (by omega)
      replace e23 : T 23 = _ := e23
      have e24 : T 24 = .agg #[.int .i64 p.frm, .int .i64 p.to, .slice Ap p.data.length cp] := hF 4 _ rfl (by omega)
      obtain ⟨g5, e25, hk5⟩ := hF 5 _ rfl (by omega)
      replace e25 : T 25 = _ := e25
      clear hF hne hltb
      simp only [List.take, fillT, List.setIfInBounds_toArray, List.set_cons_zero, List.set_cons_succ, e20, e21, e22, e23, e24, e25]
      clear e20 e21 e22 e23 e24 e25
      refine wpAny_ready (rs := [6]) (by kernel_rfl) (by simp) (AllReady.cons (o := ⟨(some 26), (Op.call { callee := (Callee.builtin Builtin.append), args := #[(Operand.tmp 23), (Operand.tmp 25)], argTypes := #[22, 22] }), _, _, _, none⟩) rfl (fun K1 hK1 => ?_) AllReady.nil)
      rw [if_pos (by rfl)]
      obtain ⟨v4, w4, hr, ho, -, hb4⟩ := append_behind w3 w2.heap.size 22 u3 n.q.length xs ho3 (some ⟨g5, 0, none⟩) 1 1 [.int .i64 p.frm, .int .i64 p.to, .slice Ap p.data.length cp] rfl (fun _ => ⟨_, rfl, fun j u hu => by rw [add_none, Nat.zero_add, cell_of_row w3 _ j _ _ _ hk5]; simpa using hu⟩) (by simp [Value.oneCell']) (by have := hq6.out; omega) hG.size
      refine Lib.wp_append_run w3 (.tmp 23) (.tmp 25) 22 22 rfl _ _ rfl rfl _ w4 hr ?_
      refine hK1 _ _ ?_
      clear hK1 K1
      refine wpAny_ready (rs := [7]) (by kernel_rfl) (by simp) (AllReady.cons (o := ⟨(some 27), (Op.fieldAddr 25 (Operand.tmp 2) 0), _, _, _, none⟩) rfl (fun K1 hK1 => ?_) AllReady.nil)
      rw [if_pos (by rfl)]
      refine wp_val (v := .pointer (some ⟨w.heap.size, 0, none⟩)) (w' := w4) (by simp [execOp, Act.eval, go_sem]) ?_
      refine hK1 _ _ ?_
      clear hK1 K1
      have hG4 := hG.trans hb4
      have hB4 := hB2.out.trans (hG4.mono hB2.out.size)
      have hs4 := hG4.size
      have kN4 := blk_step kN.out hG4
      have kX4 := blk_step kX.out hG4
      have y0 : w4.cell? ⟨w.heap.size, 0, none⟩ = some (.slice A n.q.length c) := cell_of_row w4 _ 0 _ _ _ kN4
      have fN := fun i => frozen_of_row w4 _ i _ _ kN4
      obtain ⟨A2, c2, hv4, hc1, hc2, hqr⟩ := QR.ofRow (ps := n.q ++ [p]) (by rw [List.length_append]; exact ho) ((hx1.out.keep (Kept.of hS hB4)).append (PkV.one p Ap cp hI.out hpl.out (hp.out.keep (Kept.of hS hB4))))
      simp only [List.length_append, List.length_cons, List.length_nil, Nat.zero_add] at hv4 hc1
      subst hv4
      refine wpAny_ready (rs := [8]) (by kernel_rfl) (by simp) (AllReady.cons (o := ⟨none, (Op.store 22 (Operand.tmp 27) (Operand.tmp 26)), _, _, _, none⟩) rfl (fun K1 hK1 => ?_) AllReady.nil)
      rw [if_pos (by rfl)]
      refine wp_store_one 22 (.tmp 27) (.tmp 26) rfl w.heap.size 0 rfl (.slice A2 (n.q.length + 1) c2) rfl rfl rfl Try.sizeOf22 _ y0 (fN 0) ?_
      refine hK1 _ _ ?_
      clear hK1 K1
      refine wpAny_done (by kernel_rfl) ?_ _
      simp only [Act.put, List.setIfInBounds_toArray, List.set_cons_zero, List.set_cons_succ]
      have kN5 := heap_setCell_same w4 w.heap.size 0 _ _ (.slice A2 (n.q.length + 1) c2) kN4
      have kX5 := (heap_setCell_other w4 ⟨w.heap.size, 0, none⟩ (w.heap.size + 2) (.slice A2 (n.q.length + 1) c2) (by simp)).trans kX4
      have hB5 := hB4.setCell (p := ⟨w.heap.size, 0, none⟩) (Nat.le_refl _) (.slice A2 (n.q.length + 1) c2)
      have hq5 : QR ((w4).setCell ⟨w.heap.size, 0, none⟩ (.slice A2 (n.q.length + 1) c2)) (fun g => S g ∨ (w2.heap.size ≤ g ∧ g < (w4).heap.size)) A2 (n.q ++ [p]) :=
        hqr.keep (Kept.set fun g hg => by rcases hg with hg | hg; (have := hS g hg; omega); omega)
      have hz5 : ((w4).setCell ⟨w.heap.size, 0, none⟩ (.slice A2 (n.q.length + 1) c2)).heap.size = (w4).heap.size := by simp
      obtain ⟨w5, hw5⟩ : ∃ W, (w4).setCell ⟨w.heap.size, 0, none⟩ (.slice A2 (n.q.length + 1) c2) = W := ⟨_, rfl⟩
      rw [hw5] at kN5 kX5 hB5 hq5 hz5 ⊢
      clear hw5 y0 fN hr hqr kN4 kX4 hN
      have n0 : w5.cell? ⟨w.heap.size, 0, none⟩ = some (.slice A2 (n.q.length + 1) c2) := (cell_of_row w5 _ 0 _ _ _ kN5).trans rfl
      have n1 : w5.cell? ⟨w.heap.size, 1, none⟩ = some (.slice A' n.ap.length c') := (cell_of_row w5 _ 1 _ _ _ kN5).trans rfl
      have x0 : w5.cell? ⟨w.heap.size + 2, 0, none⟩ = _ := cell_of_row w5 _ 0 _ _ _ kX5
      have x1 : w5.cell? ⟨w.heap.size + 2, 1, none⟩ = _ := cell_of_row w5 _ 1 _ _ _ kX5
      have fX := fun i => frozen_of_row w5 _ i _ _ kX5
      replace hB5 := Lib.hid hB5
      replace hq5 := Lib.hid hq5
      go_wp2_with fail
      have hF := (hB5.out.setCell (p := ⟨w.heap.size + 2, 0, none⟩) (by simp <;> omega) (.slice A2 (n.q.length + 1) c2)).setCell (p := ⟨w.heap.size + 2, 1, none⟩) (by simp <;> omega) (.slice A' n.ap.length c')
      refine bodyPost_ret (v := .tuple #[.agg #[.slice A2 (n.q.length + 1) c2, .slice A' n.ap.length c'], .int .i64 0]) (by simp [results, Try.results12, go_sem, x0, x1, fX]) rfl
        (NtPost.of hv.out hF A2 c2 A' c' (by simp) ⟨by simpa using hc1, hc2, hdh.out.cap', hdh.out.max', (hq5.out.keep ((Kept.set fun g hg => ?_).trans (Kept.set fun g hg => ?_))).mono fun g hg => ?_, (hdh.out.ap.keep (Kept.of hS hF)).mono fun g hg => .inl hg⟩)
      · rcases hg with hg | hg
        · have := hS g hg; omega
        · omega
      · rcases hg with hg | hg
        · have := hS g hg; omega
        · omega
      · rcases hg with hg | hg
        · exact .inl hg
        · exact .inr ⟨by omega, by simp; omega⟩
end Go.Proofs.Ytpmmahlmfcbbbaa
