/- New: the contract. -/
import Derived.Test.YtalkbccofiiojaaSy
namespace Go.Proofs.Ytalkbccofiiojaa
open Go.RowKit

theorem new_step (m k : Nat) (h : k < m) : (List.replicate k zero128 ++ List.replicate (m - k) ([] : List UInt8)).set k zero128 = List.replicate (k + 1) zero128 ++ List.replicate (m - (k + 1)) [] := by
  rw [List.set_append_right _ _ (by simp)]
  simp only [List.length_replicate, Nat.sub_self]
  rw [show m - k = (m - (k + 1)) + 1 by omega, List.replicate_succ, List.set_cons_zero, List.replicate_succ', List.append_assoc]
  rfl
theorem OS.nils (w : World) (S : Nat → Prop) (m : Nat) : OS (w.alloc (.cells (List.replicate m (Value.slice none 0 0)).toArray 35)) S w.heap.size (List.replicate m []) := by
  refine ⟨_, heap_alloc_new w _, by simp, fun i hi => ⟨.slice none 0 0, by simp at hi; simp [hi], none, 0, by simp, by simp, Nat.zero_le _, fun h => by simp at h⟩⟩
theorem set4_same (W : World) (g : Nat) {x0 x1 x2 x3 a b c e : Value} {t : TypeId} (h : W.heap[g]? = some (.cells #[x0, x1, x2, x3] t (0, 0))) : ((((W.setCell ⟨g, 0, none⟩ a).setCell ⟨g, 1, none⟩ b).setCell ⟨g, 2, none⟩ c).setCell ⟨g, 3, none⟩ e).heap[g]? = some (.cells #[a, b, c, e] t (0, 0)) := by
  rw [heap_setCell_same _ g 3 _ t e (heap_setCell_same _ g 2 _ t c (heap_setCell_same _ g 1 _ t b (heap_setCell_same W g 0 _ t a h)))]
  rfl
theorem new_range {n : Int} : (n < 1 ∨ (¬ n < 1 ∧ (4096 : Int) < n)) ∨ (¬ n < 1 ∧ ¬ (4096 : Int) < n) := by omega

set_option maxRecDepth 100000 in
set_option maxHeartbeats 4000000 in
theorem New_any (n : Int) (w : World) : Calls Try.prog 12 #[.int .i64 n] w (DkPost (fun _ => False) (newD n) w) := by
  have hB := Lib.hid (bnew w (.cells #[.slice none 0 0, .slice none 0 0, .int .i64 0, .bool false] 25))
  rcases new_range (n := n) with (h | ⟨h0, h⟩) | ⟨h0, h1⟩
  · have hv := Lib.hid (show newD n = (zeroDk, 1) by unfold newD; rw [if_pos (by omega)])
    go_enter Try.func12, Try.ntmps12
    go_wp2_with fail
    exact bodyPost_ret (v := .tuple #[.agg #[.slice none 0 0, .slice none 0 0, .int .i64 0, .bool false], .int .i64 1]) (by simp [results, Try.results12, go_sem]) rfl (DkPost.fail hv.out hB.out rfl)
  · have hv := Lib.hid (show newD n = (zeroDk, 1) by unfold newD; rw [if_pos (by omega)])
    go_enter Try.func12, Try.ntmps12
    go_wp2_with fail
    exact bodyPost_ret (v := .tuple #[.agg #[.slice none 0 0, .slice none 0 0, .int .i64 0, .bool false], .int .i64 1]) (by simp [results, Try.results12, go_sem]) rfl (DkPost.fail hv.out hB.out rfl)
  · obtain ⟨m, rfl⟩ : ∃ m : Nat, n = m := ⟨n.toNat, by omega⟩
    have hv := Lib.hid (show newD (m : Int) = (⟨List.replicate m zero128, [], -1, false⟩, 0) by unfold newD; rw [if_neg (by omega)]; simp)
    obtain ⟨Z, hZ⟩ : ∃ Z, Z = (List.replicate m (Value.slice none 0 0)).toArray := ⟨_, rfl⟩
    have hmk := make_secs m (by omega)
    rw [← hZ] at hmk
    have hO := fun (W : World) => OS.nils W (fun _ => False) m
    rw [← hZ] at hO
    have hO' := Lib.hid hO
    clear hZ hO
    go_enter Try.func12, Try.ntmps12
    go_wp2_with fail
    clear hmk
    go_loopw [4, 18] (fun _ i wr => ∃ k : Nat, k ≤ m ∧ i = .int .i64 k ∧ Hid (OS wr (fun _ => False) (w.heap.size + 1) (List.replicate k zero128 ++ List.replicate (m - k) [])) ∧ Hid (wr.heap[w.heap.size]? = some (.cells #[.slice (some ⟨w.heap.size + 1, 0, none⟩) m m, .slice none 0 0, .int .i64 (-1), .bool false] 25 (0, 0))) ∧ Below w.heap.size w wr) (fun _ i _ => m - (intOf i).toNat)
    case atStart =>
      have hO2 := hO'.out (w.alloc (.cells #[.slice (some ⟨w.heap.size + 1, 0, none⟩) m m, .slice none 0 0, .int .i64 (-1), .bool false] 25))
      rw [World.size_alloc] at hO2
      refine ⟨0, Nat.zero_le _, rfl, ?_, (Below.heap_alloc _ _ _ (by simp)).trans (heap_alloc_new w _), ((Below.refl _ w).alloc (Nat.le_refl _) _).alloc (by simp) _⟩
      show OS _ _ _ _
      simp only [List.replicate_zero, List.nil_append, Nat.sub_zero]
      exact hO2
    case round =>
      obtain ⟨k, hk, rfl, ho, hbx, hb⟩ := hrel
      by_cases hlt : k < m
      · have hb' := Lib.hid hb
        have hw1 := ho.out.lt
        have hsw : w.heap.size < wr.heap.size := by omega
        have j0 : (0 : Int) ≤ k := by omega
        have j1 : (k : Int) < m := by omega
        clear hb
        go_wp2_with fail
        refine wp_region_pre 5 1 (fun W => Below wr.heap.size wr W) (fun W W' => Below W.heap.size W W')
          (fun i v W => match i with
            | 0 => v = .pointer (some ⟨w.heap.size, 0, none⟩)
            | 1 => v = .slice (some ⟨w.heap.size + 1, 0, none⟩) m m
            | 2 => v = .int .i64 (k : Int)
            | 3 => ∃ g, v = .slice (some ⟨g, 0, none⟩) 128 128 ∧ wr.heap.size ≤ g ∧ DB W g zero128
            | 4 => v = .pointer (some ⟨w.heap.size + 1, k, none⟩)
            | _ => True) (fun _ => false)
          (by kernel_rfl) (by kernel_rfl) (by kernel_rfl) (by kernel_rfl) (by kernel_rfl) (by kernel_rfl) (by kernel_rfl) ?_ (fun _ _ h => h.size) (dN (Below.refl _ _) 1) ?_ ?_
        · intro i v W W' hb hF
          match i, hF with
          | 0, h => exact h
          | 1, h => exact h
          | 2, h => exact h
          | 3, ⟨g, h1, h2, h3⟩ => exact ⟨g, h1, h2, h3.below hb h3.lt⟩
          | 4, h => exact h
          | _ + 5, _ => trivial
        · refine ⟨?_, ?_, ?_, ?_, ?_, trivial⟩
          · refine stepJ_val' (fun _ _ => Below.refl _ _) rfl rfl rfl fun ac W hA hG hD => ⟨_, ?_, rfl⟩
            have h2 := hA.getD (t := 2) (by kernel_rfl)
            simp only [Array.getD_eq_getD_getElem?] at h2
            simp [execOp, Act.eval, h2, go_sem]
          · refine stepJ_val' (fun _ _ => Below.refl _ _) rfl rfl rfl fun ac W hA hG hD => ⟨_, ?_, rfl⟩
            have h21 := hD.get 0 21 _ rfl rfl (by kernel_rfl)
            simp only [Array.getD_eq_getD_getElem?] at h21
            have c0 : W.cell? ⟨w.heap.size, 0, none⟩ = some (.slice (some ⟨w.heap.size + 1, 0, none⟩) m m) := cell_of_row W _ 0 _ _ _ ((hG.block _ hsw).trans hbx.out)
            simp [execOp, Act.eval, h21, go_sem, c0]
          · refine stepJ_val' (fun _ _ => Below.refl _ _) rfl rfl rfl fun ac W hA hG hD => ⟨_, ?_, rfl⟩
            have h4 := hA.getD (t := 4) (by kernel_rfl)
            simp only [Array.getD_eq_getD_getElem?] at h4
            simp [execOp, Act.eval, h4, go_sem]
          · refine stepJ_any rfl fun ac W hA hG hD K hK => ?_
            rw [if_pos (by rfl)]
            refine wp_call (f := 29) (args := #[.slice none 0 0]) (by simp [execOp, Act.eval, go_sem]) ((sector_any [] W none 0 (fun _ => False) (fun _ h => h.elim) (fun h => absurd h (Nat.lt_irrefl 0))).mono fun e W' he => ?_)
            obtain ⟨rfl, ho, hbw⟩ := he
            exact hK _ _ (hG.trans (hbw.mono hG.size)) hbw ⟨_, rfl, hG.size, ho⟩ (fun h => by cases h)
          · refine stepJ_val' (fun _ _ => Below.refl _ _) rfl rfl rfl fun ac W hA hG hD => ⟨_, ?_, rfl⟩
            have h22 := hD.get 1 22 _ rfl rfl (by kernel_rfl)
            have h23 := hD.get 2 23 _ rfl rfl (by kernel_rfl)
            simp only [Array.getD_eq_getD_getElem?] at h22 h23
            simp [execOp, Act.eval, h22, h23, go_sem, j0, j1]
        · intro fu T W hG hF hne hltb
          have e21 : T 21 = .pointer (some ⟨w.heap.size, 0, none⟩) := hF 0 _ rfl (by omega)
          have e22 : T 22 = .slice (some ⟨w.heap.size + 1, 0, none⟩) m m := hF 1 _ rfl (by omega)
          have e23 : T 23 = .int .i64 (k : Int) := hF 2 _ rfl (by omega)
          obtain ⟨g2, e24, hg2, hd2⟩ := hF 3 _ rfl (by omega)
          have e24 : T 24 = _ := e24
          have e25 : T 25 = .pointer (some ⟨w.heap.size + 1, k, none⟩) := hF 4 _ rfl (by omega)
          clear hF hne hltb
          simp only [List.take, fillT, List.setIfInBounds_toArray, List.set_cons_zero, List.set_cons_succ, e21, e22, e23, e24, e25]
          clear e21 e22 e23 e24 e25
          have oW := (ho.out.step hG)
          have hfW := oW.frozen k
          obtain ⟨old, hold⟩ : ∃ old, W.cell? ⟨w.heap.size + 1, k, none⟩ = some old := by
            obtain ⟨A0, c0, h, -⟩ := oW.cell (i := k) (by simp; omega)
            exact ⟨_, h⟩
          have hkW := Lib.hid ((hG.block _ hsw).trans hbx.out)
          refine wpAny_ready (rs := [5]) (by kernel_rfl) (by simp) (AllReady.cons (o := ⟨none, .store 35 (.tmp 25) (.tmp 24), _, _, _, none⟩) rfl (fun K1 hK1 => ?_) AllReady.nil)
          rw [if_pos (by rfl)]
          refine wp_store_one 35 _ _ rfl (w.heap.size + 1) k rfl (.slice (some ⟨g2, 0, none⟩) 128 128) rfl rfl rfl Try.sizeOf35 _ hold hfW ?_
          refine hK1 _ _ ?_
          clear hK1 K1
          refine wpAny_done (by kernel_rfl) ?_ _
          simp only [Act.put]
          have o9 := Lib.hid (oW.set (fun _ h => h.elim) (i := k) (v := .slice (some ⟨g2, 0, none⟩) 128 128) (l := zero128) ⟨some ⟨g2, 0, none⟩, 128, rfl, by decide, by unfold maxLen; omega, hd2.readsIn ⟨Or.inr (by omega), hd2.lt⟩⟩)
          have B9 := Lib.hid ((hb'.out.trans (hG.mono hb'.out.size)).setCell (p := ⟨w.heap.size + 1, k, none⟩) (by simp) (.slice (some ⟨g2, 0, none⟩) 128 128))
          have hk9 := Lib.hid ((heap_setCell_other W ⟨w.heap.size + 1, k, none⟩ w.heap.size (.slice (some ⟨g2, 0, none⟩) 128 128) (by show w.heap.size ≠ w.heap.size + 1; omega)).trans hkW.out)
          rw [new_step m k hlt] at o9
          clear oW hfW hold hkW hd2 hg2 hG
          generalize W.setCell ⟨w.heap.size + 1, k, none⟩ (.slice (some ⟨g2, 0, none⟩) 128 128) = w9 at *
          go_wp2_with fail
          go_roundw
          case rel => exact ⟨k + 1, by omega, by go_num, o9.out, hk9.out, B9.out⟩
          case measure => simp [intOf]; omega
      · have y0 : wr.cell? ⟨w.heap.size, 0, none⟩ = some (.slice (some ⟨w.heap.size + 1, 0, none⟩) m m) := cell_of_row wr _ 0 _ _ _ hbx.out
        have y1 : wr.cell? ⟨w.heap.size, 1, none⟩ = some (.slice none 0 0) := cell_of_row wr _ 1 _ _ _ hbx.out
        have y2 : wr.cell? ⟨w.heap.size, 2, none⟩ = some (.int .i64 (-1)) := cell_of_row wr _ 2 _ _ _ hbx.out
        have y3 : wr.cell? ⟨w.heap.size, 3, none⟩ = some (.bool false) := cell_of_row wr _ 3 _ _ _ hbx.out
        have yf := fun i => frozen_of_row wr w.heap.size i _ _ hbx.out
        have hle : ¬ ((k : Int) < m) := by omega
        obtain rfl : k = m := by omega
        have hf : Hid (OS wr (fun _ => False) (w.heap.size + 1) (List.replicate k zero128)) := by have := ho.out; rwa [Nat.sub_self, List.replicate_zero, List.append_nil] at this
        have hf4 := Lib.hid (fun (V : World) (o : Nat) (u : Value) (h : OS V (fun _ => False) (w.heap.size + 1) (List.replicate k zero128)) => h.cell1 (x := w.heap.size) o u (fun _ h => h.elim) (Nat.lt_succ_self _))
        clear ho hbx
        go_wp2_with fail
        refine bodyPost_ret (v := .tuple #[.agg #[.slice (some ⟨w.heap.size + 1, 0, none⟩) k k, .slice none 0 0, .int .i64 (-1), .bool false], .int .i64 0]) (by simp [results, Try.results12, go_sem, y0, y1, y2, y3]) rfl ?_
        have hfin := hf4.out _ 3 (.bool false) (hf4.out _ 2 (.int .i64 (-1)) (hf4.out _ 1 (.slice none 0 0) (hf4.out _ 0 (.slice (some ⟨w.heap.size + 1, 0, none⟩) k k) hf.out)))
        refine DkPost.of hv.out ((((hb.setCell (Nat.le_refl _) _).setCell (Nat.le_refl _) _).setCell (Nat.le_refl _) _).setCell (Nat.le_refl _) _) (some ⟨w.heap.size + 1, 0, none⟩) k none 0 (by rw [List.length_replicate]; rfl) ⟨by rw [List.length_replicate]; exact Nat.le_refl _, by unfold maxLen; omega, Nat.le_refl _, Nat.zero_le _, hfin.sr.mono (fun b hb => hb.elim .inl fun h => .inr ⟨by omega, h.2⟩), fun h => absurd h (Nat.lt_irrefl 0), by unfold I64; simp⟩
end Go.Proofs.Ytalkbccofiiojaa
