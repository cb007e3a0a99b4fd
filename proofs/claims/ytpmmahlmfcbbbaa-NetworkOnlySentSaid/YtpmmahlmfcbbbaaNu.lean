/- The reference's without and Lose: contracts. -/
import Derived.Test.YtpmmahlmfcbbbaaNq
import Derived.Test.YtpmmahlmfcbbbaaNl
namespace Go.Proofs.Ytpmmahlmfcbbbaa
open Go.RowKit

def cutQ (n : Nt) (k : Nat) : Nt := ⟨n.q.take k ++ n.q.drop (k + 1), n.ap⟩
theorem cutQ_len (n : Nt) (k : Nat) (hk : k < n.q.length) : (cutQ n k).q.length = k + (n.q.length - (k + 1)) := by unfold cutQ; simp; omega

set_option maxRecDepth 100000 in
set_option maxHeartbeats 2000000 in
theorem without_any (n : Nt) (k : Nat) (hk : k < n.q.length) (hql : n.q.length ≤ 4096) (w : World) (A A' : Option Addr) (c c' : Nat) (S : Nat → Prop) (hS : ∀ b, S b → b < w.heap.size) (hd : NR w S A c A' c' n) :
    Calls Try.prog 42 #[.agg #[.slice A n.q.length c, .slice A' n.ap.length c'], .int .i64 (k : Int)] w fun e w' => Below w.heap.size w w' ∧ ∃ A2 c2, e = .returned (.agg #[.slice A2 (k + (n.q.length - (k + 1))) c2, .slice A' n.ap.length c']) ∧ NR w' (Sn S w w') A2 c2 A' c' (cutQ n k) := by
  obtain ⟨b, off, rfl, hsb, -⟩ := hd.q (by omega)
  have hdh := Lib.hid hd
  have hcap := hd.cap
  have hmax := hd.max
  unfold maxLen at hmax
  clear hd
  have kN := heap_alloc_new w (.cells #[.slice (some ⟨b, off, none⟩) n.q.length c, .slice A' n.ap.length c'] 25)
  have hbV1 := bnew w (.cells #[.slice (some ⟨b, off, none⟩) n.q.length c, .slice A' n.ap.length c'] 25)
  obtain ⟨V1, hV1⟩ : ∃ V, (w).alloc (.cells #[.slice (some ⟨b, off, none⟩) n.q.length c, .slice A' n.ap.length c'] 25) = V := ⟨_, rfl⟩
  have hsV1 : V1.heap.size = w.heap.size + 1 := by rw [← hV1]; simp
  rw [hV1] at kN hbV1
  have kX := heap_alloc_new V1 (.cells #[.slice none 0 0, .slice none 0 0] 25)
  have hbV2 := bnew V1 (.cells #[.slice none 0 0, .slice none 0 0] 25)
  obtain ⟨V2, hV2⟩ : ∃ V, (V1).alloc (.cells #[.slice none 0 0, .slice none 0 0] 25) = V := ⟨_, rfl⟩
  have hsV2 : V2.heap.size = w.heap.size + 2 := by rw [← hV2]; simp; omega
  rw [hV2] at kX hbV2
  replace kN := blk_step kN hbV2
  rw [hsV1] at kX
  have hBV : Below w.heap.size w V2 := (hbV1).trans (hbV2.mono (by omega))
  clear hbV1 hbV2
  obtain ⟨D, hD⟩ : ∃ D, (if c = k + 1 then some (⟨b, off, none⟩ : Addr) else some ⟨b, off + (k + 1) * 3, none⟩) = D := ⟨_, rfl⟩
  have hqd : QR w S D (n.q.drop (k + 1)) := by
    rw [← hD]
    by_cases hc : c = k + 1
    · rw [List.drop_eq_nil_of_le (by omega)]; exact QR.nil _ _ _
    · rw [if_neg hc]; exact hdh.out.q.drop (k + 1)
  have hqt := hdh.out.q.take k
  obtain ⟨xs, hx1, hx2, hx3⟩ := hqt.vals
  obtain ⟨ys, hz1, hz2, hz3⟩ := hqd.vals
  have hxl : xs.length = k * 3 := by rw [hx1.1, List.length_take]; omega
  have hyl : ys.length = (n.q.length - (k + 1)) * 3 := by rw [hz1.1, List.length_drop]
  have hq4 := Lib.hid (show k ≤ c by omega)
  have hk1 := Lib.hid (show IntKind.i64.wrap ((k : Int) + 1) = (k : Int) + 1 from IntWalk.i64_in _ (by omega))
  have hq9 := Lib.hid (show ((0 : Int) ≤ (k : Int) + 1) ∧ ((k : Int) + 1 ≤ (n.q.length : Int)) ∧ (if c = k + 1 then some (⟨b, off, none⟩ : Addr) else some ⟨b, off + (k + 1) * 3, none⟩) = D from ⟨by omega, by omega, hD⟩)
  have hq6 := Lib.hid (show k ≤ 1000000 by omega)
  have hN : Hid (∀ W, Below V2.heap.size V2 W → W.cell? ⟨w.heap.size, 0, none⟩ = some (.slice (some ⟨b, off, none⟩) n.q.length c) ∧ W.cell? ⟨w.heap.size, 1, none⟩ = some (.slice A' n.ap.length c')) := fun W hW =>
    have h := blk_step kN hW
    ⟨cell_of_row W _ 0 _ _ _ h, cell_of_row W _ 1 _ _ _ h⟩
  have hxs : Hid (xs.length = k * 3 ∧ (∀ u ∈ xs, u.oneCell' = true) ∧ ∀ W, Below V2.heap.size V2 W → 0 < xs.length → ∃ ad, (some (⟨b, off, none⟩ : Addr)) = some ad ∧ ∀ j u, xs[j]? = some u → W.cell? (ad.add j) = some u) := ⟨hxl, hx3, fun W hW h => by
    obtain ⟨ad, e, hc⟩ := hx2 h
    exact ⟨ad, e, fun j u hu => ((hBV.trans (hW.mono hBV.size)).cell (World.block_lt_of_cell? w _ (hc j u hu))).trans (hc j u hu)⟩⟩
  have hys : Hid (∀ W, Below V2.heap.size V2 W → 0 < ys.length → ∃ ad, D = some ad ∧ ∀ j u, ys[j]? = some u → W.cell? (ad.add j) = some u) := fun W hW h => by
    obtain ⟨ad, e, hc⟩ := hz2 h
    exact ⟨ad, e, fun j u hu => ((hBV.trans (hW.mono hBV.size)).cell (World.block_lt_of_cell? w _ (hc j u hu))).trans (hc j u hu)⟩
  have hlen := hsV2
  replace hx1 := Lib.hid hx1
  replace hz1 := Lib.hid hz1
  replace hz3 := Lib.hid hz3
  replace hyl := Lib.hid hyl
  replace hBV := Lib.hid hBV
  replace kN := Lib.hid kN
  replace kX := Lib.hid kX
  replace hV1 := Lib.hid hV1
  replace hV2 := Lib.hid hV2
  replace hsV2 := Lib.hid hsV2
  clear hsV1
  replace hlen := Lib.hid hlen
  clear hD hqd hqt hx2 hx3 hz2 hxl
  go_enter Try.func42, Try.ntmps42
  go_upto_region 1 with fail
  rw [hV1.out, hV2.out]
  clear hV1 hV2
  refine wp_region_pre 11 3 (fun W => Below V2.heap.size V2 W) (fun W W' => Below W.heap.size W W')
    (fun i v W => match i with
      | 0 => ∃ g, v = .slice (some ⟨g, 0, none⟩) 0 0 ∧ W.ownsRow V2.heap.size 28 3 (.slice (some ⟨g, 0, none⟩) 0 0) 0 []
      | 1 => v = .pointer (some ⟨w.heap.size, 0, none⟩)
      | 2 => v = .slice (some ⟨b, off, none⟩) n.q.length c
      | 3 => v = .int .i64 (k : Int)
      | 4 => v = .slice (some ⟨b, off, none⟩) k c
      | 5 => ∃ u, v = u ∧ Own0 V2.heap.size k xs u W
      | 6 => v = .pointer (some ⟨w.heap.size, 0, none⟩)
      | 7 => v = .slice (some ⟨b, off, none⟩) n.q.length c
      | 8 => v = .int .i64 (k : Int)
      | 9 => v = .int .i64 ((k : Int) + 1)
      | 10 => v = .slice D (n.q.length - (k + 1)) (c - (k + 1))
      | _ => True) (fun _ => false)
    (by kernel_rfl) (by kernel_rfl) (by kernel_rfl) (by kernel_rfl) (by kernel_rfl) (by kernel_rfl) (by kernel_rfl) ?_ (fun _ _ h => h.size) (dN (Below.refl _ _) 1) ?_ ?_
  · intro i v W W' hb hF
    match i, hF with
    | 0, ⟨g, h1, h2⟩ => exact ⟨g, h1, ownsRow_below h2 hb⟩
    | 1, h => exact h
    | 2, h => exact h
    | 3, h => exact h
    | 4, h => exact h
    | 5, ⟨u, h1, h2⟩ => exact ⟨u, h1, ⟨ownsRow_below h2.1 hb, h2.2⟩⟩
    | 6, h => exact h
    | 7, h => exact h
    | 8, h => exact h
    | 9, h => exact h
    | 10, h => exact h
    | _ + 11, _ => trivial
  · refine ⟨?_, ?_, ?_, ?_, ?_, ?_, ?_, ?_, ?_, ?_, ?_, trivial⟩
    · refine stepJ_any rfl fun ac W hAA hG hDD K hK => ?_
      rw [if_pos (by rfl)]
      exact wp_val (v := .slice (some ⟨W.heap.size, 0, none⟩) 0 0) (w' := W.alloc (.cells #[] 28)) (by simp [execOp, Act.eval, go_sem]) (hK _ _ (hG.alloc hG.size _) (bnew W _) ⟨_, rfl, own_zero (heap_alloc_new W _) hG.size⟩ (fun h => by cases h))
    · refine stepJ_any rfl fun ac W hAA hG hDD K hK => ?_
      have h2 := hAA.getD (t := 2) (by kernel_rfl)
      simp only [Array.getD_eq_getD_getElem?] at h2
      rw [if_pos (by rfl)]
      exact wp_val (v := .pointer (some ⟨w.heap.size, 0, none⟩)) (w' := W) (by simp [execOp, Act.eval, h2, go_sem]) (hK _ _ hG (Below.refl _ _) rfl (fun h => by cases h))
    · refine stepJ_any rfl fun ac W hAA hG hDD K hK => ?_
      have h6 := hDD.get 1 6 _ rfl rfl (by kernel_rfl)
      simp only [Array.getD_eq_getD_getElem?] at h6
      obtain ⟨k0, k1⟩ := hN.out W hG
      rw [if_pos (by rfl)]
      exact wp_val (v := .slice (some ⟨b, off, none⟩) n.q.length c) (w' := W) (by simp [execOp, Act.eval, h6, go_sem, k0]) (hK _ _ hG (Below.refl _ _) rfl (fun h => by cases h))
    · refine stepJ_any rfl fun ac W hAA hG hDD K hK => ?_
      have h1 := hAA.getD (t := 1) (by kernel_rfl)
      simp only [Array.getD_eq_getD_getElem?] at h1
      rw [if_pos (by rfl)]
      exact wp_val (v := .int .i64 (k : Int)) (w' := W) (by simp [execOp, Act.eval, h1, go_sem]) (hK _ _ hG (Below.refl _ _) rfl (fun h => by cases h))
    · refine stepJ_any rfl fun ac W hAA hG hDD K hK => ?_
      have h7 := hDD.get 2 7 _ rfl rfl (by kernel_rfl)
      have h8 := hDD.get 3 8 _ rfl rfl (by kernel_rfl)
      simp only [Array.getD_eq_getD_getElem?] at h7 h8
      have hq4 := hq4.out
      rw [if_pos (by rfl)]
      exact wp_val (v := .slice (some ⟨b, off, none⟩) k c) (w' := W) (by simp [execOp, Act.eval, h7, h8, go_sem, hq4]) (hK _ _ hG (Below.refl _ _) rfl (fun h => by cases h))
    · refine stepJ_any rfl fun ac W hAA hG hDD K hK => ?_
      obtain ⟨g0, h5, ho0⟩ := hDD.get 0 5 _ rfl rfl (by kernel_rfl)
      have h9 := hDD.get 4 9 _ rfl rfl (by kernel_rfl)
      rw [if_pos (by rfl)]
      obtain ⟨v3, W3, hr3, ho3, hb3⟩ := append_empty W V2.heap.size 22 g0 ho0 (some ⟨b, off, none⟩) k c xs hxs.out.1 (hxs.out.2.2 W hG) hxs.out.2.1 hq6.out hG.size
      exact Lib.wp_append_run W (.tmp 5) (.tmp 9) 22 22 rfl _ _ h5 h9 _ W3 hr3 (hK _ _ (hG.trans (hb3.mono hG.size)) hb3 ⟨_, rfl, ho3⟩ (fun h => by cases h))
    · refine stepJ_any rfl fun ac W hAA hG hDD K hK => ?_
      have h2 := hAA.getD (t := 2) (by kernel_rfl)
      simp only [Array.getD_eq_getD_getElem?] at h2
      rw [if_pos (by rfl)]
      exact wp_val (v := .pointer (some ⟨w.heap.size, 0, none⟩)) (w' := W) (by simp [execOp, Act.eval, h2, go_sem]) (hK _ _ hG (Below.refl _ _) rfl (fun h => by cases h))
    · refine stepJ_any rfl fun ac W hAA hG hDD K hK => ?_
      have h11 := hDD.get 6 11 _ rfl rfl (by kernel_rfl)
      simp only [Array.getD_eq_getD_getElem?] at h11
      obtain ⟨k0, k1⟩ := hN.out W hG
      rw [if_pos (by rfl)]
      exact wp_val (v := .slice (some ⟨b, off, none⟩) n.q.length c) (w' := W) (by simp [execOp, Act.eval, h11, go_sem, k0]) (hK _ _ hG (Below.refl _ _) rfl (fun h => by cases h))
    · refine stepJ_any rfl fun ac W hAA hG hDD K hK => ?_
      have h1 := hAA.getD (t := 1) (by kernel_rfl)
      simp only [Array.getD_eq_getD_getElem?] at h1
      rw [if_pos (by rfl)]
      exact wp_val (v := .int .i64 (k : Int)) (w' := W) (by simp [execOp, Act.eval, h1, go_sem]) (hK _ _ hG (Below.refl _ _) rfl (fun h => by cases h))
    · refine stepJ_any rfl fun ac W hAA hG hDD K hK => ?_
      have h13 := hDD.get 8 13 _ rfl rfl (by kernel_rfl)
      simp only [Array.getD_eq_getD_getElem?] at h13
      have hk1 := hk1.out
      rw [if_pos (by rfl)]
      exact wp_val (v := .int .i64 ((k : Int) + 1)) (w' := W) (by simp [execOp, Act.eval, h13, go_sem, hk1]) (hK _ _ hG (Below.refl _ _) rfl (fun h => by cases h))
    · refine stepJ_any rfl fun ac W hAA hG hDD K hK => ?_
      have h12 := hDD.get 7 12 _ rfl rfl (by kernel_rfl)
      have h14 := hDD.get 9 14 _ rfl rfl (by kernel_rfl)
      simp only [Array.getD_eq_getD_getElem?] at h12 h14
      have hq9 := hq9.out
      rw [if_pos (by rfl)]
      exact wp_val (v := .slice D (n.q.length - (k + 1)) (c - (k + 1))) (w' := W) (by simp [execOp, Act.eval, h12, h14, go_sem, hq9]) (hK _ _ hG (Below.refl _ _) rfl (fun h => by cases h))
  intro fu T w3 hG hF hne hltb
  obtain ⟨g0, e5, -⟩ := hF 0 _ rfl (by omega)
  replace e5 : T 5 = _ := e5
  have e6 : T 6 = .pointer (some ⟨w.heap.size, 0, none⟩) := hF 1 _ rfl (by omega)
  have e7 : T 7 = .slice (some ⟨b, off, none⟩) n.q.length c := hF 2 _ rfl (by omega)
  have e8 : T 8 = .int .i64 (k : Int) := hF 3 _ rfl (by omega)
  have e9 : T 9 = .slice (some ⟨b, off, none⟩) k c := hF 4 _ rfl (by omega)
  obtain ⟨u3, e10, ho3⟩ := hF 5 _ rfl (by omega)
  replace e10 : T 10 = _ := e10
  have e11 : T 11 = .pointer (some ⟨w.heap.size, 0, none⟩) := hF 6 _ rfl (by omega)
  have e12 : T 12 = .slice (some ⟨b, off, none⟩) n.q.length c := hF 7 _ rfl (by omega)
  have e13 : T 13 = .int .i64 (k : Int) := hF 8 _ rfl (by omega)
  have e14 : T 14 = .int .i64 ((k : Int) + 1) := hF 9 _ rfl (by omega)
  have e15 : T 15 = .slice D (n.q.length - (k + 1)) (c - (k + 1)) := hF 10 _ rfl (by omega)
  clear hF hne hltb
  simp only [List.take, fillT, List.setIfInBounds_toArray, List.set_cons_zero, List.set_cons_succ, e5, e6, e7, e8, e9, e10, e11, e12, e13, e14, e15]
  clear e5 e6 e7 e8 e9 e10 e11 e12 e13 e14 e15
  refine wpAny_ready (rs := [11]) (by kernel_rfl) (by simp) (AllReady.cons (o := ⟨(some 16), (Op.call { callee := (Callee.builtin Builtin.append), args := #[(Operand.tmp 10), (Operand.tmp 15)], argTypes := #[22, 22] }), _, _, _, none⟩) rfl (fun K1 hK1 => ?_) AllReady.nil)
  rw [if_pos (by rfl)]
  obtain ⟨v4, w4, hr, ho, -, hb4⟩ := append_behind w3 V2.heap.size 22 u3 k xs ho3 D (n.q.length - (k + 1)) (c - (k + 1)) ys hyl.out (hys.out w3 hG) hz3.out (by omega) hG.size
  refine Lib.wp_append_run w3 (.tmp 10) (.tmp 15) 22 22 rfl _ _ rfl rfl _ w4 hr ?_
  refine hK1 _ _ ?_
  clear hK1 K1
  refine wpAny_ready (rs := [12]) (by kernel_rfl) (by simp) (AllReady.cons (o := ⟨(some 17), (Op.fieldAddr 25 (Operand.tmp 2) 0), _, _, _, none⟩) rfl (fun K1 hK1 => ?_) AllReady.nil)
  rw [if_pos (by rfl)]
  refine wp_val (v := .pointer (some ⟨w.heap.size, 0, none⟩)) (w' := w4) (by simp [execOp, Act.eval, go_sem]) ?_
  refine hK1 _ _ ?_
  clear hK1 K1
  have hG4 := hG.trans hb4
  have hB4 := hBV.out.trans (hG4.mono hBV.out.size)
  have hs4 := hG4.size
  rw [hlen.out] at hs4
  have hsV := hlen.out
  have kN4 := blk_step kN.out hG4
  have kX4 := blk_step kX.out hG4
  have y0 : w4.cell? ⟨w.heap.size, 0, none⟩ = some (.slice (some ⟨b, off, none⟩) n.q.length c) := cell_of_row w4 _ 0 _ _ _ kN4
  have fN := fun i => frozen_of_row w4 _ i _ _ kN4
  have hln : (n.q.take k ++ n.q.drop (k + 1)).length = k + (n.q.length - (k + 1)) := by simp; omega
  obtain ⟨A2, c2, hv4, hc1, hc2, hqr⟩ := QR.ofRow (ps := n.q.take k ++ n.q.drop (k + 1)) (by rw [hln]; exact ho) ((hx1.out.keep (Kept.of hS hB4)).append (hz1.out.keep (Kept.of hS hB4)))
  rw [hln] at hv4 hc1
  subst hv4
  refine wpAny_ready (rs := [13]) (by kernel_rfl) (by simp) (AllReady.cons (o := ⟨none, (Op.store 22 (Operand.tmp 17) (Operand.tmp 16)), _, _, _, none⟩) rfl (fun K1 hK1 => ?_) AllReady.nil)
  rw [if_pos (by rfl)]
  refine wp_store_one 22 (.tmp 17) (.tmp 16) rfl w.heap.size 0 rfl (.slice A2 (k + (n.q.length - (k + 1))) c2) rfl rfl rfl Try.sizeOf22 _ y0 (fN 0) ?_
  refine hK1 _ _ ?_
  clear hK1 K1
  refine wpAny_done (by kernel_rfl) ?_ _
  simp only [Act.put, List.setIfInBounds_toArray, List.set_cons_zero, List.set_cons_succ]
  have kN5 := heap_setCell_same w4 w.heap.size 0 _ _ (.slice A2 (k + (n.q.length - (k + 1))) c2) kN4
  have kX5 := (heap_setCell_other w4 ⟨w.heap.size, 0, none⟩ (w.heap.size + 1) (.slice A2 (k + (n.q.length - (k + 1))) c2) (by simp)).trans kX4
  have hB5 := hB4.setCell (p := ⟨w.heap.size, 0, none⟩) (Nat.le_refl _) (.slice A2 (k + (n.q.length - (k + 1))) c2)
  have hq5 : QR ((w4).setCell ⟨w.heap.size, 0, none⟩ (.slice A2 (k + (n.q.length - (k + 1))) c2)) (fun g => S g ∨ (V2.heap.size ≤ g ∧ g < (w4).heap.size)) A2 (n.q.take k ++ n.q.drop (k + 1)) :=
    hqr.keep (Kept.set fun g hg => by rcases hg with hg | hg; (have := hS g hg; omega); omega)
  have hz5 : ((w4).setCell ⟨w.heap.size, 0, none⟩ (.slice A2 (k + (n.q.length - (k + 1))) c2)).heap.size = (w4).heap.size := by simp
  obtain ⟨w5, hw5⟩ : ∃ W, (w4).setCell ⟨w.heap.size, 0, none⟩ (.slice A2 (k + (n.q.length - (k + 1))) c2) = W := ⟨_, rfl⟩
  rw [hw5] at kN5 kX5 hB5 hq5 hz5 ⊢
  clear hw5 y0 fN hr hqr kN4 kX4 hN
  have n0 : w5.cell? ⟨w.heap.size, 0, none⟩ = some (.slice A2 (k + (n.q.length - (k + 1))) c2) := (cell_of_row w5 _ 0 _ _ _ kN5).trans rfl
  have n1 : w5.cell? ⟨w.heap.size, 1, none⟩ = some (.slice A' n.ap.length c') := (cell_of_row w5 _ 1 _ _ _ kN5).trans rfl
  have x0 : w5.cell? ⟨w.heap.size + 1, 0, none⟩ = _ := cell_of_row w5 _ 0 _ _ _ kX5
  have x1 : w5.cell? ⟨w.heap.size + 1, 1, none⟩ = _ := cell_of_row w5 _ 1 _ _ _ kX5
  have fX := fun i => frozen_of_row w5 _ i _ _ kX5
  replace hB5 := Lib.hid hB5
  replace hq5 := Lib.hid hq5
  go_wp2_with fail
  have hF := (hB5.out.setCell (p := ⟨w.heap.size + 1, 0, none⟩) (by simp <;> omega) (.slice A2 (k + (n.q.length - (k + 1))) c2)).setCell (p := ⟨w.heap.size + 1, 1, none⟩) (by simp <;> omega) (.slice A' n.ap.length c')
  refine bodyPost_ret (v := .agg #[.slice A2 (k + (n.q.length - (k + 1))) c2, .slice A' n.ap.length c']) (by simp [results, Try.results42, go_sem, x0, x1, fX]) rfl
    ⟨hF, A2, c2, rfl, ⟨by rw [cutQ_len n k hk]; exact hc1, hc2, hdh.out.cap', hdh.out.max', (hq5.out.keep ((Kept.set fun g hg => ?_).trans (Kept.set fun g hg => ?_))).mono fun g hg => ?_, (hdh.out.ap.keep (Kept.of hS hF)).mono fun g hg => .inl hg⟩⟩
  · rcases hg with hg | hg
    · have := hS g hg; omega
    · omega
  · rcases hg with hg | hg
    · have := hS g hg; omega
    · omega
  · rcases hg with hg | hg
    · exact .inl hg
    · exact .inr ⟨by omega, by simp; omega⟩

set_option maxRecDepth 100000 in
set_option maxHeartbeats 2000000 in
theorem rLose_any (n : Nt) (i : Int) (w : World) (A A' : Option Addr) (c c' : Nat) (S : Nat → Prop) (hS : ∀ b, S b → b < w.heap.size) (hd : NR w S A c A' c' n) :
    Calls Try.prog 24 #[.agg #[.slice A n.q.length c, .slice A' n.ap.length c'], .int .i64 i] w (NtPost S (loseN n i) w) := by
  have hdh := Lib.hid hd
  clear hd
  have kN := heap_alloc_new w (.cells #[.slice A n.q.length c, .slice A' n.ap.length c'] 25)
  have hbV1 := bnew w (.cells #[.slice A n.q.length c, .slice A' n.ap.length c'] 25)
  obtain ⟨V1, hV1⟩ : ∃ V, (w).alloc (.cells #[.slice A n.q.length c, .slice A' n.ap.length c'] 25) = V := ⟨_, rfl⟩
  have hsV1 : V1.heap.size = w.heap.size + 1 := by rw [← hV1]; simp
  rw [hV1] at kN hbV1
  have kX := heap_alloc_new V1 (.cells #[.slice none 0 0, .slice none 0 0] 25)
  have hbV2 := bnew V1 (.cells #[.slice none 0 0, .slice none 0 0] 25)
  obtain ⟨V2, hV2⟩ : ∃ V, (V1).alloc (.cells #[.slice none 0 0, .slice none 0 0] 25) = V := ⟨_, rfl⟩
  have hsV2 : V2.heap.size = w.heap.size + 2 := by rw [← hV2]; simp; omega
  rw [hV2] at kX hbV2
  replace kN := blk_step kN hbV2
  rw [hsV1] at kX
  have hBV : Below w.heap.size w V2 := (hbV1).trans (hbV2.mono (by omega))
  clear hbV1 hbV2
  have hF := Lib.hid (asked_any n i V2 A A' c c' w.heap.size (by omega) ((hdh.out.mono hS).keep (Kept.below hBV)))
  replace hBV := Lib.hid hBV
  replace kN := Lib.hid kN
  replace kX := Lib.hid kX
  replace hV1 := Lib.hid hV1
  replace hV2 := Lib.hid hV2
  replace hsV2 := Lib.hid hsV2
  clear hsV1
  go_enter Try.func24, Try.ntmps24
  go_wp2_with fail
  rw [hV1.out, hV2.out]
  refine hF.out.mono ?_
  rintro e w1 ⟨rfl, hb⟩
  replace kN := Lib.hid (blk_step kN.out hb)
  replace kX := Lib.hid (blk_step kX.out hb)
  have hB1 := Lib.hid (hBV.out.trans (hb.mono hBV.out.size))
  have hsz1 := hb.size
  rw [hsV2.out] at hsz1
  clear hb hF hV1 hV2
  rcases findN_cases n i with ⟨h1, hnt, k, rfl, hk⟩ | ⟨h1, h2⟩
  case inr =>
    have hv := Lib.hid (loseN_bad h1)
    have x0 : w1.cell? ⟨w.heap.size + 1, 0, none⟩ = _ := cell_of_row w1 _ 0 _ _ _ kX.out
    have x1 : w1.cell? ⟨w.heap.size + 1, 1, none⟩ = _ := cell_of_row w1 _ 1 _ _ _ kX.out
    have fX := fun i => frozen_of_row w1 _ i _ _ kX.out
    have hne : (findN n i != 0) = true := by simpa using h1
    clear h1 h2
    go_wp2_with fail
    exact bodyPost_ret (v := .tuple #[.agg #[.slice none 0 0, .slice none 0 0], .int .i64 (findN n i)]) (by simp [results, Try.results24, go_sem, x0, x1, fX]) rfl (NtPost.fail hv.out ((hB1.out.setCell (by simp) _).setCell (by simp) _) rfl)
  case inl =>
    have hv := Lib.hid (loseN_ok h1)
    rw [h1]
    have hW := Lib.hid (without_any n k hk (ntB_iff.1 hnt).1 w1 A A' c c' S (fun b hb => by have := hS b hb; omega) (hdh.out.keep (Kept.of hS hB1.out)))
    have n0 : w1.cell? ⟨w.heap.size, 0, none⟩ = _ := cell_of_row w1 _ 0 _ _ _ kN.out
    have n1 : w1.cell? ⟨w.heap.size, 1, none⟩ = _ := cell_of_row w1 _ 1 _ _ _ kN.out
    clear h1 hnt
    go_wp2_with fail
    refine hW.out.mono ?_
    rintro e w2 ⟨hb, A2, c2, rfl, hd2⟩
    have kX2 := blk_step kX.out hb
    have hB2 := Lib.hid (hB1.out.trans (hb.mono hB1.out.size))
    have hsb := hb.size
    have x0 : w2.cell? ⟨w.heap.size + 1, 0, none⟩ = _ := cell_of_row w2 _ 0 _ _ _ kX2
    have x1 : w2.cell? ⟨w.heap.size + 1, 1, none⟩ = _ := cell_of_row w2 _ 1 _ _ _ kX2
    have fX := fun i => frozen_of_row w2 _ i _ _ kX2
    replace hd2 := Lib.hid hd2
    clear hb hW n0 n1
    go_wp2_with fail
    have hst := NtPost.store (x := (cutQ n k, 0)) (S := S) (X := w.heap.size + 1) (v0 := .slice A2 (k + (n.q.length - (k + 1))) c2) (v1 := .slice A' n.ap.length c') hB2.out (by omega) (by omega) (fun b hb => (have := hS b hb; ⟨by omega, .inl hb⟩)) hd2.out
    exact bodyPost_ret (v := .tuple #[.agg #[.slice A2 (k + (n.q.length - (k + 1))) c2, .slice A' n.ap.length c'], .int .i64 0]) (by simp [results, Try.results24, go_sem, x0, x1, fX]) rfl (NtPost.of hv.out hst.1 A2 c2 A' c' (by rw [show (n.q.take k ++ n.q.drop (k + 1)).length = k + (n.q.length - (k + 1)) by simp; omega]) hst.2)
end Go.Proofs.Ytpmmahlmfcbbbaa
