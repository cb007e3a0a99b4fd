/- sane: the chapter's examples. -/
import Derived.Test.YtalkbccofiiojaaSp
namespace Go.Proofs.Ytalkbccofiiojaa
open Go.RowKit

theorem field_left (x : Value) (W : World) : (Instr.field 25 (.agg #[x, .slice none 0 0, .int .i64 (-1), .bool false]) 2).run Try.prog W = .ok (.int .i64 (-1)) W := by kernel_rfl

set_option maxRecDepth 100000 in
set_option maxHeartbeats 8000000 in
theorem sane_any (w : World) : Calls Try.prog 10 #[] w fun e w' => e = .returned (.bool true) ∧ Below w.heap.size w w' := by
  go_enter Try.func10, Try.ntmps10
  go_wp2_with fail
  refine (New_any 0 w).mono ?_
  intro e w1 hp
  obtain ⟨A0, c0, A0', c0', rfl, -, hb1⟩ := hp.get p0
  have hB1 := Lib.hid hb1
  clear hb1 hp
  go_wp2_with fail
  refine (New_any 2 _).mono ?_
  intro e w2 hp
  obtain ⟨A1, c1, A1', c1', rfl, hd2, hb2⟩ := hp.get p1
  have hB := Lib.hid (bgo hB1.out hB1.out.size _ hb2)
  have hdA := Lib.hid (hd2.mono fun b h => Sn.lt (S := fun _ => False) (fun _ h => h.elim) hb2 b h)
  clear hb2 hp hB1 hd2
  go_wp2_with fail
  have hkA := KB.new w2 A1 A1' c1 c1' kA
  obtain ⟨V2, hV2⟩ : ∃ V2, w2.alloc (.cells #[.slice A1 kA.secs.length c1, .slice A1' kA.pend.length c1', .int .i64 kA.left, .bool kA.stop] 25) = V2 := ⟨_, rfl⟩
  have hV2s : V2.heap.size = w2.heap.size + 1 := by rw [← hV2]; simp
  have hB := hB.out.alloc hB.out.size (.cells #[.slice A1 kA.secs.length c1, .slice A1' kA.pend.length c1', .int .i64 kA.left, .bool kA.stop] 25)
  have hdA := hdA.out.step (bnew w2 (.cells #[.slice A1 kA.secs.length c1, .slice A1' kA.pend.length c1', .int .i64 kA.left, .bool kA.stop] 25))
  rw [hV2] at hkA hB hdA ⊢
  have hdA := Lib.hid hdA
  have hkA := Lib.hid hkA
  have hB := Lib.hid hB
  clear hV2
  have h7 : RBs (V2.alloc (.cells #[.int .u8 7] 5)) (· < (V2.alloc (.cells #[.int .u8 7] 5)).heap.size) (some ⟨V2.heap.size, 0, none⟩) [7] := fun _ => ⟨V2.heap.size, 0, rfl, by simp, fun j hj => by
    match j, hj with
    | 0, _ => exact cell_of_row _ V2.heap.size 0 _ _ _ (heap_alloc_new V2 _)⟩
  have hW := Lib.hid (Write_any kA 1 (by unfold I64; omega) [7] (by decide) (V2.alloc (.cells #[.int .u8 7] 5)) A1 A1' (some ⟨w2.heap.size + 1, 0, none⟩) c1 c1' 1 (· < V2.heap.size) (fun b h => by simp; omega) (hdA.out.keep (Kept.below (bnew V2 _))) (hV2s ▸ h7))
  clear h7
  obtain ⟨y0, y1, y2, y3⟩ := hkA.out.cells
  go_wp2_with fail
  refine hW.out.mono ?_
  intro e w3 hp
  obtain ⟨A2, c2, A2', c2', rfl, hd, hb⟩ := hp.get p2
  clear y0 y1 y2 y3 hW hp
  have hdB := Lib.hid (hd.mono (S' := (· < w3.heap.size)) fun b h => Sn.lt (fun b (h : b < V2.heap.size) => by simp; omega) hb b h)
  have hb := bon (w1 := V2) _ hb
  have hB := Lib.hid (hB.out.trans (hb.mono hB.out.size))
  have hdA := Lib.hid (hdA.out.step hb)
  have hkA := Lib.hid (hkA.out.step hb)
  clear hb hd
  go_wp2_with fail
  have hkB := KB.new w3 A2 A2' c2 c2' kB
  obtain ⟨V3, hV3⟩ : ∃ V3, w3.alloc (.cells #[.slice A2 kB.secs.length c2, .slice A2' kB.pend.length c2', .int .i64 kB.left, .bool kB.stop] 25) = V3 := ⟨_, rfl⟩
  have hV3s : V3.heap.size = w3.heap.size + 1 := by rw [← hV3]; simp
  have hB := hB.out.alloc hB.out.size (.cells #[.slice A2 kB.secs.length c2, .slice A2' kB.pend.length c2', .int .i64 kB.left, .bool kB.stop] 25)
  have hdA := hdA.out.step (bnew w3 (.cells #[.slice A2 kB.secs.length c2, .slice A2' kB.pend.length c2', .int .i64 kB.left, .bool kB.stop] 25))
  have hkA := hkA.out.step (bnew w3 (.cells #[.slice A2 kB.secs.length c2, .slice A2' kB.pend.length c2', .int .i64 kB.left, .bool kB.stop] 25))
  have hdB := hdB.out.step (bnew w3 (.cells #[.slice A2 kB.secs.length c2, .slice A2' kB.pend.length c2', .int .i64 kB.left, .bool kB.stop] 25))
  rw [hV3] at hkB hB hdA hkA hdB ⊢
  have hdA := Lib.hid hdA
  have hkA := Lib.hid hkA
  have hdB := Lib.hid hdB
  have hkB := Lib.hid hkB
  have hB := Lib.hid hB
  clear hV3
  obtain ⟨y0, y1, y2, y3⟩ := hkB.out.cells
  go_wp2_with fail
  refine (Read_any kB 1 _ A2 A2' c2 c2' hdB.out).mono ?_
  intro e w4 hp
  obtain ⟨gb, rfl, hgb, hdb, hb⟩ := hp.yes p3 p3'
  clear y0 y1 y2 y3 hp hgb
  have hB := Lib.hid (hB.out.trans (hb.mono hB.out.size))
  have hDb := Lib.hid hdb
  have hdA := Lib.hid (hdA.out.step hb)
  have hkA := Lib.hid (hkA.out.step hb)
  have hdB := Lib.hid (hdB.out.step hb)
  have hkB := Lib.hid (hkB.out.step hb)
  clear hb hdb
  obtain ⟨y0, y1, y2, y3⟩ := hkA.out.cells
  go_wp2_with fail
  refine (Read_any kA 2 _ A1 A1' c1 c1' hdA.out).mono ?_
  intro e w5 hp
  obtain ⟨rfl, hb⟩ := hp.no p4
  clear y0 y1 y2 y3 hp
  have hB := Lib.hid (hB.out.trans (hb.mono hB.out.size))
  have hdA := Lib.hid (hdA.out.step hb)
  have hkA := Lib.hid (hkA.out.step hb)
  have hdB := Lib.hid (hdB.out.step hb)
  have hkB := Lib.hid (hkB.out.step hb)
  have hDb := Lib.hid (hDb.out.step hb)
  clear hb
  go_wp2_with fail
  refine wp_region_preA 8 1 (fun W => Below w5.heap.size w5 W) (fun W W' => W.heap.size ≤ W'.heap.size ∧ ∀ b, b < W.heap.size → W'.heap[b]? = W.heap[b]? ∨ (IsBox W b ∧ IsBox W' b))
    (fun i a v W => match i with
      | 0 => v = .agg #[.slice A1 kA.secs.length c1, .slice A1' kA.pend.length c1', .int .i64 kA.left, .bool kA.stop]
      | 1 => ∃ g, v = .slice (some ⟨g, 0, none⟩) 129 129 ∧ DB W g (List.replicate 129 0)
      | 2 => ∃ A c A' c', v = .tuple #[.agg #[.slice A zeroDk.secs.length c, .slice A' zeroDk.pend.length c', .int .i64 zeroDk.left, .bool zeroDk.stop], .int .i64 1]
      | 3 => ∃ A c A' c', v = .tuple #[.agg #[.slice A zeroDk.secs.length c, .slice A' zeroDk.pend.length c', .int .i64 zeroDk.left, .bool zeroDk.stop], .int .i64 1]
      | 4 => ∃ A c A' c', v = .agg #[.slice A zeroDk.secs.length c, .slice A' zeroDk.pend.length c', .int .i64 zeroDk.left, .bool zeroDk.stop]
      | 5 => v = .int .i64 1
      | 6 => ∃ g, v = .pointer (some ⟨g, 0, none⟩) ∧ w5.heap.size ≤ g ∧ IsBox W g
      | _ => True) (fun _ => false)
    (by kernel_rfl) (by kernel_rfl) (by kernel_rfl) (by kernel_rfl) (by kernel_rfl) (by kernel_rfl) (by kernel_rfl) ?_ (fun _ _ h => h.1) (dN (Below.refl _ _) 1) ?_ ?_
  · intro i v a a' W W' hs hb hF
    match i, hs, hF with
    | 0, _, h => exact h
    | 1, _, ⟨g, h1, h2⟩ => exact ⟨g, h1, h2.unboxed hb.2⟩
    | 2, _, h => exact h
    | 3, _, h => exact h
    | 4, _, h => exact h
    | 5, _, h => exact h
    | 6, _, ⟨g, h1, h2, h3⟩ => exact ⟨g, h1, h2, h3.keep hb.2⟩
    | _ + 7, _, _ => trivial
  · refine ⟨?_, ?_, ?_, ?_, ?_, ?_, ?_, ?_, trivial⟩
    · refine stepA_any rfl fun ac W hA hG hD K hK => ?_
      have h3 := hA.getD (t := 3) (by kernel_rfl)
      simp only [Array.getD_eq_getD_getElem?] at h3
      obtain ⟨k0, k1, k2, k3⟩ := (hkA.out.step hG).cells
      rw [if_pos (by rfl)]
      exact wp_val (v := .agg #[.slice A1 kA.secs.length c1, .slice A1' kA.pend.length c1', .int .i64 kA.left, .bool kA.stop]) (w' := W) (by simp [execOp, Act.eval, h3, go_sem, k0, k1, k2, k3]) (hK _ _ hG ⟨Nat.le_refl _, fun _ _ => .inl rfl⟩ rfl (fun h => by cases h))
    · refine stepA_any rfl fun ac W hA hG hD K hK => ?_
      have hm := make129 W
      rw [if_pos (by rfl)]
      exact wp_val (v := .slice (some ⟨W.heap.size, 0, none⟩) 129 129) (w' := W.alloc (.cells (BV (List.replicate 129 0)).toArray 5)) (by simp [execOp, Act.eval, go_sem, hm]) (hK _ _ (hG.alloc hG.size _) ⟨by simp, fun b hb => .inl (Below.heap_alloc W _ b hb)⟩ ⟨_, rfl, heap_alloc_new W _⟩ (fun h => by cases h))
    · refine stepA_any rfl fun ac W hA hG hD K hK => ?_
      have h49 := hD.get 0 49 _ rfl rfl (by kernel_rfl)
      obtain ⟨g, h50, hdb⟩ := hD.get 1 50 _ rfl rfl (by kernel_rfl)
      simp only [Array.getD_eq_getD_getElem?] at h49 h50
      rw [if_pos (by rfl)]
      refine wp_call (f := 19) (args := #[.agg #[.slice A1 kA.secs.length c1, .slice A1' kA.pend.length c1', .int .i64 kA.left, .bool kA.stop], .int .i64 0, .slice (some ⟨g, 0, none⟩) 129 129]) (by simp [execOp, Act.eval, h49, h50, go_sem]) ((Write_any kA 0 (by unfold I64; omega) (List.replicate 129 0) (by decide) W A1 A1' (some ⟨g, 0, none⟩) c1 c1' 129 (· < W.heap.size) (fun _ h => h) (hdA.out.step hG) hdb.reads).mono fun e W' he => ?_)
      obtain ⟨A, c, A', c', rfl, -, hbw⟩ := he.get p5
      exact hK _ _ (hG.trans (hbw.mono hG.size)) ⟨hbw.size, fun b hb => .inl (hbw.block b hb)⟩ ⟨A, c, A', c', rfl⟩ (fun h => by cases h)
    · refine stepA_any rfl fun ac W hA hG hD K hK => ?_
      obtain ⟨A, c, A', c', h51⟩ := hD.get 2 51 _ rfl rfl (by kernel_rfl)
      simp only [Array.getD_eq_getD_getElem?] at h51
      rw [if_pos (by rfl)]
      exact wp_val (v := .tuple #[.agg #[.slice A zeroDk.secs.length c, .slice A' zeroDk.pend.length c', .int .i64 zeroDk.left, .bool zeroDk.stop], .int .i64 1]) (w' := W) (by simp [execOp, Act.eval, h51, go_sem]) (hK _ _ hG ⟨Nat.le_refl _, fun _ _ => .inl rfl⟩ ⟨A, c, A', c', rfl⟩ (fun h => by cases h))
    · refine stepA_any rfl fun ac W hA hG hD K hK => ?_
      obtain ⟨A, c, A', c', h48⟩ := hD.get 3 48 _ rfl rfl (by kernel_rfl)
      simp only [Array.getD_eq_getD_getElem?] at h48
      rw [if_pos (by rfl)]
      exact wp_val (v := .agg #[.slice A zeroDk.secs.length c, .slice A' zeroDk.pend.length c', .int .i64 zeroDk.left, .bool zeroDk.stop]) (w' := W) (by simp [execOp, Act.eval, h48, go_sem]) (hK _ _ hG ⟨Nat.le_refl _, fun _ _ => .inl rfl⟩ ⟨A, c, A', c', rfl⟩ (fun h => by cases h))
    · refine stepA_any rfl fun ac W hA hG hD K hK => ?_
      obtain ⟨A, c, A', c', h48⟩ := hD.get 3 48 _ rfl rfl (by kernel_rfl)
      simp only [Array.getD_eq_getD_getElem?] at h48
      rw [if_pos (by rfl)]
      exact wp_val (v := .int .i64 1) (w' := W) (by simp [execOp, Act.eval, h48, go_sem]) (hK _ _ hG ⟨Nat.le_refl _, fun _ _ => .inl rfl⟩ rfl (fun h => by cases h))
    · refine stepA_any rfl fun ac W hA hG hD K hK => ?_
      rw [if_pos (by rfl)]
      exact wp_val (v := .pointer (some ⟨W.heap.size, 0, none⟩)) (w' := W.alloc (.cells #[.slice none 0 0, .slice none 0 0, .int .i64 0, .bool false] 25)) (by simp [execOp, go_sem]) (hK _ _ (hG.alloc hG.size _) ⟨by simp, fun b hb => .inl (Below.heap_alloc W _ b hb)⟩ ⟨_, rfl, hG.size, _, _, _, _, heap_alloc_new W _⟩ (fun h => by cases h))
    · refine stepA_store rfl rfl fun ac W hA hG hD K hK => ?_
      obtain ⟨g, h11, hg, x0, x1, x2, x3, hbx⟩ := hD.get 6 11 _ rfl rfl (by kernel_rfl)
      obtain ⟨A, c, A', c', h52⟩ := hD.get 4 52 _ rfl rfl (by kernel_rfl)
      rw [if_pos (by rfl)]
      have hrow := setRow_heap W g _ #[.slice A zeroDk.secs.length c, .slice A' zeroDk.pend.length c', .int .i64 zeroDk.left, .bool zeroDk.stop] _ _ hbx
      refine wp_store_row 25 (.tmp 11) (.tmp 52) rfl g #[.slice A zeroDk.secs.length c, .slice A' zeroDk.pend.length c', .int .i64 zeroDk.left, .bool zeroDk.stop] h11 h52 25 _ hbx (by kernel_rfl) rfl (by simp [Value.oneCell']) ?_
      refine hK _ (below_setRow hG hg _) ⟨by rw [size_setRow]; exact Nat.le_refl _, fun b hb => ?_⟩ trivial
      by_cases hbg : b = g
      · subst hbg; exact .inr ⟨⟨_, _, _, _, hbx⟩, _, _, _, _, hrow⟩
      · exact .inl (setRow_other W g b _ hbg)
  · intro fu T w6 hG hF hne hltb
    have e49 : T 49 = .agg #[.slice A1 kA.secs.length c1, .slice A1' kA.pend.length c1', .int .i64 kA.left, .bool kA.stop] := hF 0 _ rfl (by omega)
    obtain ⟨g50, e50, -⟩ := hF 1 _ rfl (by omega)
    obtain ⟨_, _, _, _, e51⟩ := hF 2 _ rfl (by omega)
    obtain ⟨_, _, _, _, e48⟩ := hF 3 _ rfl (by omega)
    obtain ⟨_, _, _, _, e52⟩ := hF 4 _ rfl (by omega)
    have e53 : T 53 = .int .i64 1 := hF 5 _ rfl (by omega)
    obtain ⟨g11, e11, -⟩ := hF 6 _ rfl (by omega)
    have e50 : T 50 = _ := e50
    have e51 : T 51 = _ := e51
    have e48 : T 48 = _ := e48
    have e52 : T 52 = _ := e52
    have e11 : T 11 = _ := e11
    clear hF hne hltb
    simp only [List.take, fillT, List.setIfInBounds_toArray, List.set_cons_zero, List.set_cons_succ, e49, e50, e51, e48, e52, e53, e11]
    clear e49 e50 e51 e48 e52 e53 e11
    refine wpAny_ready (rs := [8]) (by kernel_rfl) (by simp) (AllReady.cons (o := ⟨some 12, .assign (.tmp 53), _, _, _, none⟩) rfl (fun K1 hK1 => ?_) AllReady.nil)
    rw [if_pos (by rfl)]
    refine wp_val (v := .int .i64 1) (w' := w6) (by simp [execOp, Act.eval, go_sem]) ?_
    refine hK1 _ _ ?_
    clear hK1 K1
    refine wpAny_done (by kernel_rfl) ?_ _
    simp only [Act.put, List.setIfInBounds_toArray, List.set_cons_zero, List.set_cons_succ]
    have hB := Lib.hid (hB.out.trans (hG.mono hB.out.size))
    have hdA := Lib.hid (hdA.out.step hG)
    have hkA := Lib.hid (hkA.out.step hG)
    have hdB := Lib.hid (hdB.out.step hG)
    have hkB := Lib.hid (hkB.out.step hG)
    have hDb := Lib.hid (hDb.out.step hG)
    clear hG
    obtain ⟨y0, y1, y2, y3⟩ := hkB.out.cells
    go_wp2_with fail
    refine (Stop_any kB 1 (by unfold I64; omega) w6 A2 A2' c2 c2' (· < w6.heap.size) (fun _ h => h) hdB.out).mono ?_
    intro e w7 hp
    obtain ⟨A3, c3, A3', c3', rfl, hd, hb⟩ := hp.get p6
    clear y0 y1 y2 y3 hp
    have hdC0 := hd.mono (S' := (· < w7.heap.size)) fun b h => Sn.lt (fun _ h => h) hb b h
    have hB := Lib.hid (hB.out.trans (hb.mono hB.out.size))
    have hdA := Lib.hid (hdA.out.step hb)
    have hkA := Lib.hid (hkA.out.step hb)
    have hdB := Lib.hid (hdB.out.step hb)
    have hkB := Lib.hid (hkB.out.step hb)
    have hDb := Lib.hid (hDb.out.step hb)
    have hdB7 := hdB.out
    have hgb7 := hDb.out.lt
    have hkB7 := hkB.out.lt
    have hw7 := hB.out.size
    clear hb hd
    go_wp2_with fail
    have hdB7 := Lib.hid (hdB7.keep (Kept.below (bnew w7 (.cells #[.slice A3 kC.secs.length c3, .slice A3' kC.pend.length c3', .int .i64 kC.left, .bool kC.stop] 25))))
    have hdC := Lib.hid (hdC0.keep (Kept.below (bnew w7 (.cells #[.slice A3 kC.secs.length c3, .slice A3' kC.pend.length c3', .int .i64 kC.left, .bool kC.stop] 25))))
    clear hdC0
    have hkC := KB.new w7 A3 A3' c3 c3' kC
    obtain ⟨V7, hV7⟩ : ∃ V7, w7.alloc (.cells #[.slice A3 kC.secs.length c3, .slice A3' kC.pend.length c3', .int .i64 kC.left, .bool kC.stop] 25) = V7 := ⟨_, rfl⟩
    have hV7s : V7.heap.size = w7.heap.size + 1 := by rw [← hV7]; simp
    have hB := hB.out.alloc hB.out.size (.cells #[.slice A3 kC.secs.length c3, .slice A3' kC.pend.length c3', .int .i64 kC.left, .bool kC.stop] 25)
    have hdA := hdA.out.step (bnew w7 (.cells #[.slice A3 kC.secs.length c3, .slice A3' kC.pend.length c3', .int .i64 kC.left, .bool kC.stop] 25))
    have hkA := hkA.out.step (bnew w7 (.cells #[.slice A3 kC.secs.length c3, .slice A3' kC.pend.length c3', .int .i64 kC.left, .bool kC.stop] 25))
    have hdB := hdB.out.step (bnew w7 (.cells #[.slice A3 kC.secs.length c3, .slice A3' kC.pend.length c3', .int .i64 kC.left, .bool kC.stop] 25))
    have hkB := hkB.out.step (bnew w7 (.cells #[.slice A3 kC.secs.length c3, .slice A3' kC.pend.length c3', .int .i64 kC.left, .bool kC.stop] 25))
    have hDb := hDb.out.step (bnew w7 (.cells #[.slice A3 kC.secs.length c3, .slice A3' kC.pend.length c3', .int .i64 kC.left, .bool kC.stop] 25))
    have hdC := hdC.out
    have hdB7 := hdB7.out
    rw [hV7] at hkC hB hdC hdB7 hdA hkA hdB hkB hDb ⊢
    have hdA := Lib.hid hdA
    have hkA := Lib.hid hkA
    have hdB := Lib.hid hdB
    have hkB := Lib.hid hkB
    have hDb := Lib.hid hDb
    have hkC := Lib.hid hkC
    have hdC := Lib.hid hdC
    have hB := Lib.hid hB
    have hdB7 := Lib.hid hdB7
    clear hV7
    have hs7 : w7.heap.size < V7.heap.size := by omega
    have hD8 : Hid (∀ W, Calls Try.prog 27 #[.int .u8 8] W fun e W' => e = .returned (.slice (some ⟨W.heap.size, 0, none⟩) 128 128) ∧ DB W' W.heap.size (dbl 8) ∧ Below W.heap.size W W') := fun W => double_any 8 W
    have hW8 : Hid (∀ W g, Below V7.heap.size V7 W → DB W g (dbl 8) → Calls Try.prog 19 #[.agg #[.slice A3 kC.secs.length c3, .slice A3' kC.pend.length c3', .int .i64 kC.left, .bool kC.stop], .int .i64 0, .slice (some ⟨g, 0, none⟩) 128 128] W (DkPost (· < w7.heap.size) (writeD kC 0 (dbl 8)) W)) := fun W g hW hg => by
      have h := Write_any kC 0 (by unfold I64; omega) (dbl 8) (by rw [dbl_length]; unfold maxLen; omega) W A3 A3' (some ⟨g, 0, none⟩) c3 c3' 128 (· < w7.heap.size) (fun b hb => by have := hW.size; omega) (hdC.out.keep (Kept.of (fun b hb => by omega) hW)) hg.reads
      rwa [dbl_length] at h
    go_wp2_with fail
    refine wp_region_pre 3 5 (fun W => Below V7.heap.size V7 W) (fun W W' => Below W.heap.size W W')
      (fun i v W => match i with
        | 0 => v = .agg #[.slice A3 kC.secs.length c3, .slice A3' kC.pend.length c3', .int .i64 kC.left, .bool kC.stop]
        | 1 => ∃ g, v = .slice (some ⟨g, 0, none⟩) 128 128 ∧ DB W g (dbl 8)
        | 2 => ∃ A c A' c', v = .tuple #[.agg #[.slice A kE.secs.length c, .slice A' kE.pend.length c', .int .i64 kE.left, .bool kE.stop], .int .i64 0] ∧ DR W (fun b => (b < w7.heap.size ∨ V7.heap.size ≤ b) ∧ b < W.heap.size) A c A' c' kE
        | _ => True) (fun _ => false)
      (by kernel_rfl) (by kernel_rfl) (by kernel_rfl) (by kernel_rfl) (by kernel_rfl) (by kernel_rfl) (by kernel_rfl) ?_ (fun _ _ h => h.size) (dN (Below.refl _ _) 1) ?_ ?_
    · intro i v W W' hb hF
      match i, hF with
      | 0, h => exact h
      | 1, ⟨g, h1, h2⟩ => exact ⟨g, h1, h2.step hb⟩
      | 2, ⟨A, c, A', c', h1, h2⟩ => exact ⟨A, c, A', c', h1, (h2.keep fun b o hS => hb.cell (p := ⟨b, o, none⟩) hS.2).mono fun b hS => ⟨hS.1, Nat.lt_of_lt_of_le hS.2 hb.size⟩⟩
      | _ + 3, _ => trivial
    · refine ⟨?_, ?_, ?_, trivial⟩
      · refine stepJ_val' (fun _ _ => Below.refl _ _) rfl rfl rfl fun ac W hA hG hD => ⟨_, ?_, rfl⟩
        have h13 := hA.getD (t := 13) (by kernel_rfl)
        simp only [Array.getD_eq_getD_getElem?] at h13
        obtain ⟨k0, k1, k2, k3⟩ := (hkC.out.step hG).cells
        simp [execOp, Act.eval, h13, go_sem, k0, k1, k2, k3]
      · refine stepJ_any rfl fun ac W hA hG hD K hK => ?_
        rw [if_pos (by rfl)]
        refine wp_call (f := 27) (args := #[.int .u8 8]) (by simp [execOp, Act.eval, go_sem]) ((hD8.out W).mono fun e W' he => ?_)
        obtain ⟨rfl, ho, hbw⟩ := he
        exact hK _ _ (hG.trans (hbw.mono hG.size)) hbw ⟨_, rfl, ho⟩ (fun h => by cases h)
      · refine stepJ_any rfl fun ac W hA hG hD K hK => ?_
        have h60 := hD.get 0 60 _ rfl rfl (by kernel_rfl)
        obtain ⟨g, h61, hdb⟩ := hD.get 1 61 _ rfl rfl (by kernel_rfl)
        simp only [Array.getD_eq_getD_getElem?] at h60 h61
        rw [if_pos (by rfl)]
        refine wp_call (f := 19) (args := #[.agg #[.slice A3 kC.secs.length c3, .slice A3' kC.pend.length c3', .int .i64 kC.left, .bool kC.stop], .int .i64 0, .slice (some ⟨g, 0, none⟩) 128 128]) (by simp [execOp, Act.eval, h60, h61, go_sem]) ((hW8.out W g hG hdb).mono fun e W' he => ?_)
        obtain ⟨A, c, A', c', rfl, hd, hbw⟩ := he.get p7
        exact hK _ _ (hG.trans (hbw.mono hG.size)) hbw ⟨A, c, A', c', rfl, hd.mono fun b hb => hb.elim (fun h => ⟨.inl h, by have := hG.size; have := hbw.size; omega⟩) (fun h => ⟨.inr (Nat.le_trans hG.size h.1), h.2⟩)⟩ (fun h => by cases h)
    · intro fu T W hG hF hne hltb
      have e60 : T 60 = .agg #[.slice A3 kC.secs.length c3, .slice A3' kC.pend.length c3', .int .i64 kC.left, .bool kC.stop] := hF 0 _ rfl (by omega)
      obtain ⟨g61, e61, -⟩ := hF 1 _ rfl (by omega)
      have e61 : T 61 = _ := e61
      obtain ⟨A4, c4, A4', c4', e62, hdE⟩ := hF 2 _ rfl (by omega)
      have e62 : T 62 = _ := e62
      clear hF hne hltb
      simp only [List.take, fillT, List.setIfInBounds_toArray, List.set_cons_zero, List.set_cons_succ, e60, e61, e62]
      clear e60 e61 e62
      have hbx := hkC.out.step hG
      refine wpAny_ready (rs := [3]) (by kernel_rfl) (by simp) (AllReady.cons (o := ⟨some 59, .move (.tmp 62), _, _, _, none⟩) rfl (fun K1 hK1 => ?_) AllReady.nil)
      rw [if_pos (by rfl)]
      refine wp_val (v := .tuple #[.agg #[.slice A4 kE.secs.length c4, .slice A4' kE.pend.length c4', .int .i64 kE.left, .bool kE.stop], .int .i64 0]) (w' := W) (by simp [execOp, Act.eval, Act.put, go_sem]) ?_
      refine hK1 _ _ ?_
      clear hK1 K1
      simp only [Act.put, List.setIfInBounds_toArray, List.set_cons_zero, List.set_cons_succ]
      refine wpAny_ready (rs := [4, 5]) (by kernel_rfl) (by simp) (AllReady.cons (o := ⟨some 63, .extract (.tmp 59) 0, _, _, _, none⟩) rfl (fun K1 hK1 => ?_) (AllReady.cons (o := ⟨some 64, .extract (.tmp 59) 1, _, _, _, none⟩) rfl (fun K1 hK1 => ?_) AllReady.nil))
      rotate_left
      rw [if_pos (by rfl)]
      refine wp_val (v := .int .i64 0) (w' := W) (by simp [execOp, Act.eval, Act.put, go_sem]) ?_
      refine hK1 _ _ ?_
      clear hK1 K1
      simp only [Act.put, List.setIfInBounds_toArray, List.set_cons_zero, List.set_cons_succ]
      refine wpAny_ready (rs := [4]) (by kernel_rfl) (by simp) (AllReady.cons (o := ⟨some 63, .extract (.tmp 59) 0, _, _, _, none⟩) rfl (fun K1 hK1 => ?_) AllReady.nil)
      rw [if_pos (by rfl)]
      refine wp_val (v := .agg #[.slice A4 kE.secs.length c4, .slice A4' kE.pend.length c4', .int .i64 kE.left, .bool kE.stop]) (w' := W) (by simp [execOp, Act.eval, Act.put, go_sem]) ?_
      refine hK1 _ _ ?_
      clear hK1 K1
      simp only [Act.put, List.setIfInBounds_toArray, List.set_cons_zero, List.set_cons_succ]
      refine wpAny_ready (rs := [6]) (by kernel_rfl) (by simp) (AllReady.cons (o := ⟨none, .store 25 (.tmp 13) (.tmp 63), _, _, _, none⟩) rfl (fun K1 hK1 => ?_) AllReady.nil)
      rw [if_pos (by rfl)]
      refine wp_store_row 25 (.tmp 13) (.tmp 63) rfl w7.heap.size #[.slice A4 kE.secs.length c4, .slice A4' kE.pend.length c4', .int .i64 kE.left, .bool kE.stop] rfl rfl 25 _ hbx (by kernel_rfl) rfl (by simp [Value.oneCell']) ?_
      refine hK1 _ _ ?_
      clear hK1 K1
      simp only [Act.put, List.setIfInBounds_toArray, List.set_cons_zero, List.set_cons_succ]
      refine wpAny_ready (rs := [7]) (by kernel_rfl) (by simp) (AllReady.cons (o := ⟨some 15, .assign (.tmp 64), _, _, _, none⟩) rfl (fun K1 hK1 => ?_) AllReady.nil)
      rw [if_pos (by rfl)]
      refine wp_val (v := .int .i64 0) (w' := W.setRow w7.heap.size #[.slice A4 kE.secs.length c4, .slice A4' kE.pend.length c4', .int .i64 kE.left, .bool kE.stop]) (by simp [execOp, Act.eval, Act.put, go_sem]) ?_
      refine hK1 _ _ ?_
      clear hK1 K1
      simp only [Act.put, List.setIfInBounds_toArray, List.set_cons_zero, List.set_cons_succ]
      refine wpAny_done (by kernel_rfl) ?_ _
      rotate_left
      rw [if_pos (by rfl)]
      refine wp_val (v := .agg #[.slice A4 kE.secs.length c4, .slice A4' kE.pend.length c4', .int .i64 kE.left, .bool kE.stop]) (w' := W) (by simp [execOp, Act.eval, Act.put, go_sem]) ?_
      refine hK1 _ _ ?_
      clear hK1 K1
      simp only [Act.put, List.setIfInBounds_toArray, List.set_cons_zero, List.set_cons_succ]
      refine wpAny_ready (rs := [5, 6]) (by kernel_rfl) (by simp) (AllReady.cons (o := ⟨some 64, .extract (.tmp 59) 1, _, _, _, none⟩) rfl (fun K1 hK1 => ?_) (AllReady.cons (o := ⟨none, .store 25 (.tmp 13) (.tmp 63), _, _, _, none⟩) rfl (fun K1 hK1 => ?_) AllReady.nil))
      rotate_left
      rw [if_pos (by rfl)]
      refine wp_store_row 25 (.tmp 13) (.tmp 63) rfl w7.heap.size #[.slice A4 kE.secs.length c4, .slice A4' kE.pend.length c4', .int .i64 kE.left, .bool kE.stop] rfl rfl 25 _ hbx (by kernel_rfl) rfl (by simp [Value.oneCell']) ?_
      refine hK1 _ _ ?_
      clear hK1 K1
      simp only [Act.put, List.setIfInBounds_toArray, List.set_cons_zero, List.set_cons_succ]
      refine wpAny_ready (rs := [5]) (by kernel_rfl) (by simp) (AllReady.cons (o := ⟨some 64, .extract (.tmp 59) 1, _, _, _, none⟩) rfl (fun K1 hK1 => ?_) AllReady.nil)
      rw [if_pos (by rfl)]
      refine wp_val (v := .int .i64 0) (w' := W.setRow w7.heap.size #[.slice A4 kE.secs.length c4, .slice A4' kE.pend.length c4', .int .i64 kE.left, .bool kE.stop]) (by simp [execOp, Act.eval, Act.put, go_sem]) ?_
      refine hK1 _ _ ?_
      clear hK1 K1
      simp only [Act.put, List.setIfInBounds_toArray, List.set_cons_zero, List.set_cons_succ]
      refine wpAny_ready (rs := [7]) (by kernel_rfl) (by simp) (AllReady.cons (o := ⟨some 15, .assign (.tmp 64), _, _, _, none⟩) rfl (fun K1 hK1 => ?_) AllReady.nil)
      rw [if_pos (by rfl)]
      refine wp_val (v := .int .i64 0) (w' := W.setRow w7.heap.size #[.slice A4 kE.secs.length c4, .slice A4' kE.pend.length c4', .int .i64 kE.left, .bool kE.stop]) (by simp [execOp, Act.eval, Act.put, go_sem]) ?_
      refine hK1 _ _ ?_
      clear hK1 K1
      simp only [Act.put, List.setIfInBounds_toArray, List.set_cons_zero, List.set_cons_succ]
      refine wpAny_done (by kernel_rfl) ?_ _
      rotate_left
      rotate_left
      rw [if_pos (by rfl)]
      refine wp_val (v := .int .i64 0) (w' := W) (by simp [execOp, Act.eval, Act.put, go_sem]) ?_
      refine hK1 _ _ ?_
      clear hK1 K1
      simp only [Act.put, List.setIfInBounds_toArray, List.set_cons_zero, List.set_cons_succ]
      refine wpAny_ready (rs := [6]) (by kernel_rfl) (by simp) (AllReady.cons (o := ⟨none, .store 25 (.tmp 13) (.tmp 63), _, _, _, none⟩) rfl (fun K1 hK1 => ?_) AllReady.nil)
      rw [if_pos (by rfl)]
      refine wp_store_row 25 (.tmp 13) (.tmp 63) rfl w7.heap.size #[.slice A4 kE.secs.length c4, .slice A4' kE.pend.length c4', .int .i64 kE.left, .bool kE.stop] rfl rfl 25 _ hbx (by kernel_rfl) rfl (by simp [Value.oneCell']) ?_
      refine hK1 _ _ ?_
      clear hK1 K1
      simp only [Act.put, List.setIfInBounds_toArray, List.set_cons_zero, List.set_cons_succ]
      refine wpAny_ready (rs := [7]) (by kernel_rfl) (by simp) (AllReady.cons (o := ⟨some 15, .assign (.tmp 64), _, _, _, none⟩) rfl (fun K1 hK1 => ?_) AllReady.nil)
      rw [if_pos (by rfl)]
      refine wp_val (v := .int .i64 0) (w' := W.setRow w7.heap.size #[.slice A4 kE.secs.length c4, .slice A4' kE.pend.length c4', .int .i64 kE.left, .bool kE.stop]) (by simp [execOp, Act.eval, Act.put, go_sem]) ?_
      refine hK1 _ _ ?_
      clear hK1 K1
      simp only [Act.put, List.setIfInBounds_toArray, List.set_cons_zero, List.set_cons_succ]
      refine wpAny_done (by kernel_rfl) ?_ _
      all_goals
        have hB := Lib.hid (below_setRow (hB.out.trans (hG.mono hB.out.size)) hw7 #[.slice A4 kE.secs.length c4, .slice A4' kE.pend.length c4', .int .i64 kE.left, .bool kE.stop])
        have hDb := Lib.hid ((hDb.out.step hG).other (grownBy_setRow W w7.heap.size #[.slice A4 kE.secs.length c4, .slice A4' kE.pend.length c4', .int .i64 kE.left, .bool kE.stop]) (by omega))
        have hkB := Lib.hid ((hkB.out.step hG).other (grownBy_setRow W w7.heap.size #[.slice A4 kE.secs.length c4, .slice A4' kE.pend.length c4', .int .i64 kE.left, .bool kE.stop]) (by omega))
        have hkE : Hid (KB (W.setRow w7.heap.size #[.slice A4 kE.secs.length c4, .slice A4' kE.pend.length c4', .int .i64 kE.left, .bool kE.stop]) w7.heap.size A4 c4 A4' c4' kE) := setRow_heap W w7.heap.size _ #[.slice A4 kE.secs.length c4, .slice A4' kE.pend.length c4', .int .i64 kE.left, .bool kE.stop] _ _ hbx
        have hdE := Lib.hid ((hdE.keep (w' := (W.setRow w7.heap.size #[.slice A4 kE.secs.length c4, .slice A4' kE.pend.length c4', .int .i64 kE.left, .bool kE.stop])) fun b o hS => cell_setRow_other W w7.heap.size #[.slice A4 kE.secs.length c4, .slice A4' kE.pend.length c4', .int .i64 kE.left, .bool kE.stop] ⟨b, o, none⟩ (hS.1.elim (fun h => Nat.ne_of_lt h) (fun h => by show b ≠ w7.heap.size; omega))).mono (S' := (· < (W.setRow w7.heap.size #[.slice A4 kE.secs.length c4, .slice A4' kE.pend.length c4', .int .i64 kE.left, .bool kE.stop]).heap.size)) fun b hS => by rw [size_setRow]; exact hS.2)
        have hdB := Lib.hid (((hdB7.out.keep (Kept.of (fun b hb => Nat.lt_trans hb hs7) hG)).keep (w' := (W.setRow w7.heap.size #[.slice A4 kE.secs.length c4, .slice A4' kE.pend.length c4', .int .i64 kE.left, .bool kE.stop])) fun b o hS => cell_setRow_other W w7.heap.size #[.slice A4 kE.secs.length c4, .slice A4' kE.pend.length c4', .int .i64 kE.left, .bool kE.stop] ⟨b, o, none⟩ (Nat.ne_of_lt hS)).mono (S' := (· < (W.setRow w7.heap.size #[.slice A4 kE.secs.length c4, .slice A4' kE.pend.length c4', .int .i64 kE.left, .bool kE.stop]).heap.size)) fun b hS => by rw [size_setRow]; exact Nat.lt_of_lt_of_le hS (Nat.le_trans (Nat.le_of_lt hs7) hG.size))
        clear hdB7 hdC hkC hdA hkA hG hbx
        generalize (W.setRow w7.heap.size #[.slice A4 kE.secs.length c4, .slice A4' kE.pend.length c4', .int .i64 kE.left, .bool kE.stop]) = w9 at *
        obtain ⟨y0, y1, y2, y3⟩ := hkE.out.cells
        go_wp2_with fail
        refine (Sync_any kE w9 A4 A4' c4 c4' (· < w9.heap.size) (fun _ h => h) hdE.out).mono ?_
        intro e w10 hp
        obtain ⟨A5, c5, A5', c5', rfl, hd, hb⟩ := hp.get p8
        clear y0 y1 y2 y3 hp hkE
        have hdX0 := hd.mono (S' := (· < w10.heap.size)) fun b h => Sn.lt (fun _ h => h) hb b h
        have hB := Lib.hid (hB.out.trans (hb.mono hB.out.size))
        have hDb := Lib.hid (hDb.out.step hb)
        have hkB := Lib.hid (hkB.out.step hb)
        have hdB0 := hdB.out.step hb
        have hgb10 := hDb.out.lt
        have hkB10 := hkB.out.lt
        have hw10 := hB.out.size
        clear hdE hdB hd hb
        go_wp2_with fail
        have hdX := hdX0.keep (Kept.below (bnew w10 (.cells #[.slice A5 kX.secs.length c5, .slice A5' kX.pend.length c5', .int .i64 kX.left, .bool kX.stop] 25)))
        have hdB := hdB0.keep (Kept.below (bnew w10 (.cells #[.slice A5 kX.secs.length c5, .slice A5' kX.pend.length c5', .int .i64 kX.left, .bool kX.stop] 25)))
        have hkX := KB.new w10 A5 A5' c5 c5' kX
        have hB := hB.out.alloc hB.out.size (.cells #[.slice A5 kX.secs.length c5, .slice A5' kX.pend.length c5', .int .i64 kX.left, .bool kX.stop] 25)
        have hDb := hDb.out.step (bnew w10 (.cells #[.slice A5 kX.secs.length c5, .slice A5' kX.pend.length c5', .int .i64 kX.left, .bool kX.stop] 25))
        have hkB := hkB.out.step (bnew w10 (.cells #[.slice A5 kX.secs.length c5, .slice A5' kX.pend.length c5', .int .i64 kX.left, .bool kX.stop] 25))
        have hV10s : (w10.alloc (.cells #[.slice A5 kX.secs.length c5, .slice A5' kX.pend.length c5', .int .i64 kX.left, .bool kX.stop] 25)).heap.size = w10.heap.size + 1 := by simp
        clear hdX0 hdB0
        generalize w10.alloc (.cells #[.slice A5 kX.secs.length c5, .slice A5' kX.pend.length c5', .int .i64 kX.left, .bool kX.stop] 25) = V10 at *
        obtain ⟨y0, y1, y2, y3⟩ := hkX.cells
        have hst : kX.stop = true := rfl
        have hB := Lib.hid hB
        have hDb := Lib.hid hDb
        have hkB := Lib.hid hkB
        have hdB := Lib.hid hdB
        have hdX := Lib.hid hdX
        have hkX := Lib.hid hkX
        go_wp2_with fail
        refine (Restart_any kX V10 A5 A5' c5 c5').mono ?_
        rintro e w11 ⟨rfl, hb⟩
        clear y0 y1 y2 y3 hst
        have hkX := hkX.out.step hb
        have hkB := hkB.out.step hb
        have hDb := hDb.out.step hb
        have hB := hB.out.trans (hb.mono hB.out.size)
        have hz11 := hb.size
        have hdX := hdX.out.keep (Kept.of (fun b hb => by omega) hb)
        have hdB := hdB.out.keep (Kept.of (fun b hb => by omega) hb)
        obtain ⟨y0, y1, y2, y3⟩ := hkX.cells
        have yf := hkX.fz
        have hkY : KB ((((w11.setCell ⟨w10.heap.size, 0, none⟩ (.slice A5 kX.secs.length c5)).setCell ⟨w10.heap.size, 1, none⟩ (.slice none 0 0)).setCell ⟨w10.heap.size, 2, none⟩ (.int .i64 (-1))).setCell ⟨w10.heap.size, 3, none⟩ (.bool false)) w10.heap.size A5 c5 none 0 (restD kX) := set4_same w11 w10.heap.size hkX
        have hB := Lib.hid ((((hB.setCell (p := ⟨w10.heap.size, 0, none⟩) hw10 (.slice A5 kX.secs.length c5)).setCell (p := ⟨w10.heap.size, 1, none⟩) hw10 (.slice none 0 0)).setCell (p := ⟨w10.heap.size, 2, none⟩) hw10 (.int .i64 (-1))).setCell (p := ⟨w10.heap.size, 3, none⟩) hw10 (.bool false))
        have o4 : ∀ b o, b ≠ w10.heap.size → ((((w11.setCell ⟨w10.heap.size, 0, none⟩ (.slice A5 kX.secs.length c5)).setCell ⟨w10.heap.size, 1, none⟩ (.slice none 0 0)).setCell ⟨w10.heap.size, 2, none⟩ (.int .i64 (-1))).setCell ⟨w10.heap.size, 3, none⟩ (.bool false)).cell? ⟨b, o, none⟩ = w11.cell? ⟨b, o, none⟩ := fun b o h => set4_other w11 w10.heap.size _ _ _ _ b o h
        have g4 : w11.grownBy ((((w11.setCell ⟨w10.heap.size, 0, none⟩ (.slice A5 kX.secs.length c5)).setCell ⟨w10.heap.size, 1, none⟩ (.slice none 0 0)).setCell ⟨w10.heap.size, 2, none⟩ (.int .i64 (-1))).setCell ⟨w10.heap.size, 3, none⟩ (.bool false)) (some w10.heap.size) := grown4 w11 w10.heap.size _ _ _ _
        have hkY := Lib.hid hkY
        have hkB := Lib.hid (hkB.other g4 (by omega))
        have hDb := Lib.hid (hDb.other g4 (by omega))
        have hdY := Lib.hid ((hdX.keep fun b o (h : b < w10.heap.size) => o4 b o (Nat.ne_of_lt h)).rest)
        have hdB := Lib.hid (hdB.keep fun b o (h : b < w10.heap.size) => o4 b o (Nat.ne_of_lt h))
        have hz12 := g4.size
        clear hb hkX o4 g4 hdX
        go_wp2_with fail
        clear y0 y1 y2 y3 yf
        generalize (((w11.setCell ⟨w10.heap.size, 0, none⟩ (.slice A5 kX.secs.length c5)).setCell ⟨w10.heap.size, 1, none⟩ (.slice none 0 0)).setCell ⟨w10.heap.size, 2, none⟩ (.int .i64 (-1))).setCell ⟨w10.heap.size, 3, none⟩ (.bool false) = w12 at *
        have hl12 : w10.heap.size ≤ w12.heap.size := by omega
        have hdY := Lib.hid (hdY.out.mono (S' := (· < w12.heap.size)) fun b h => Nat.lt_of_lt_of_le h hl12)
        have hdB := Lib.hid (hdB.out.mono (S' := (· < w12.heap.size)) fun b h => Nat.lt_of_lt_of_le h hl12)
        obtain ⟨y0, y1, y2, y3⟩ := hkY.out.cells
        go_wp2_with fail
        refine (Read_any (restD kX) 1 w12 A5 none c5 0 hdY.out).mono ?_
        intro e w13 hp
        obtain ⟨g1, rfl, -, hd1, hb⟩ := hp.yes p9 p9'
        clear y0 y1 y2 y3 hp
        have hkY := Lib.hid (hkY.out.step hb)
        have hkB := Lib.hid (hkB.out.step hb)
        have hDb := Lib.hid (hDb.out.step hb)
        have hdY := Lib.hid (hdY.out.step hb)
        have hdB := Lib.hid (hdB.out.step hb)
        have hB := Lib.hid (hB.out.trans (hb.mono hB.out.size))
        have hD1 := Lib.hid hd1
        clear hb hd1
        obtain ⟨y0, y1, y2, y3⟩ := hkY.out.cells
        go_wp2_with fail
        refine (Read_any (restD kX) 0 w13 A5 none c5 0 hdY.out).mono ?_
        intro e w14 hp
        obtain ⟨g2, rfl, -, hd2, hb⟩ := hp.yes p10 p10'
        clear y0 y1 y2 y3 hp
        have hkB := Lib.hid (hkB.out.step hb)
        have hDb := Lib.hid (hDb.out.step hb)
        have hD1 := Lib.hid (hD1.out.step hb)
        have hdB := Lib.hid (hdB.out.step hb)
        have hB := Lib.hid (hB.out.trans (hb.mono hB.out.size))
        have hD2 := Lib.hid hd2
        clear hb hd2 hkY hdY
        obtain ⟨y0, y1, y2, y3⟩ := hkB.out.cells
        go_wp2_with fail
        refine (Restart_any kB w14 A2 A2' c2 c2').mono ?_
        rintro e w15 ⟨rfl, hb⟩
        clear y0 y1 y2 y3
        have hDb := Lib.hid (hDb.out.step hb)
        have hD1 := Lib.hid (hD1.out.step hb)
        have hD2 := Lib.hid (hD2.out.step hb)
        have hdB := Lib.hid ((hdB.out.step hb).rest)
        have hB := Lib.hid (hB.out.trans (hb.mono hB.out.size))
        clear hb hkB
        go_wp2_with fail
        refine (Read_any (restD kB) 1 w15 A2 none c2 0 hdB.out).mono ?_
        intro e w16 hp
        obtain ⟨g3, rfl, -, hd3, hb⟩ := hp.yes p11 p11'
        clear hp
        have hDb := Lib.hid (hDb.out.step hb)
        have hD1 := Lib.hid (hD1.out.step hb)
        have hD2 := Lib.hid (hD2.out.step hb)
        have hB := Lib.hid (hB.out.trans (hb.mono hB.out.size))
        clear hb hdB
        have v0 : w16.cell? ⟨gb, 0, none⟩ = some (.int .u8 7) := hDb.out.cell (i := 0) (by rw [pad_length]; decide)
        have v1 : w16.cell? ⟨g1, 0, none⟩ = some (.int .u8 7) := hD1.out.cell (i := 0) (by rw [pad_length]; decide)
        have v2 : w16.cell? ⟨g2, 0, none⟩ = some (.int .u8 8) := hD2.out.cell (i := 0) (by decide)
        have v3 : w16.cell? ⟨g2, 64, none⟩ = some (.int .u8 0) := hD2.out.cell (i := 64) (by decide)
        have v4 : w16.cell? ⟨g3, 0, none⟩ = some (.int .u8 0) := hd3.cell (i := 0) (by decide)
        clear hDb hD1 hD2 hd3
        go_wp2_with fail
        refine (Check_any zeroDk w16 none none 0 0 0 (Nat.zero_le _) (DR.zero _ _)).mono ?_
        rintro e w17 ⟨rfl, hb⟩
        rw [p12]
        have hB := Lib.hid (hB.out.trans (hb.mono hB.out.size))
        clear hb v0 v1 v2 v3 v4
        go_wp2_with fail
        refine (Restart_any zeroDk w17 none none 0 0).mono ?_
        rintro e w18 ⟨rfl, hb⟩
        have hB := Lib.hid (hB.out.trans (hb.mono hB.out.size))
        clear hb
        have hfl := field_left
        go_wp2_with fail
        go_ret
        exact ⟨rfl, hB.out⟩

end Go.Proofs.Ytalkbccofiiojaa
