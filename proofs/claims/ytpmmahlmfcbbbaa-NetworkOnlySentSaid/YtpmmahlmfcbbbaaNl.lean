/- Lose: the contract. -/
import Derived.Test.YtpmmahlmfcbbbaaNz
import Derived.Test.YtpmmahlmfcbbbaaNs
import Derived.Test.YtpmmahlmfcbbbaaNf
namespace Go.Proofs.Ytpmmahlmfcbbbaa
open Go.RowKit

theorem loseN_bad {n : Nt} {i : Int} (h : findN n i ≠ 0) : loseN n i = (zeroNt, findN n i) := by unfold loseN; rw [if_pos h]
theorem loseN_ok {n : Nt} {k : Nat} (h : findN n k = 0) : loseN n k = (⟨n.q.take k ++ n.q.drop (k + 1), n.ap⟩, 0) := by unfold loseN; rw [if_neg (by rw [h]; decide)]; simp
/-- append behind a row that came in and has no room. -/
theorem append_cut (w : World) (ty : TypeId) (b off k : Nat) (ps qs : List Pk) (S : Nat → Prop) (hS : ∀ b, S b → b < w.heap.size) (hk : ps.length = k) (hp : QR w S (some ⟨b, off, none⟩) ps) (hb : S b) (D : Option Addr) (m c : Nat) (hm : qs.length = m) (hq : QR w S D qs) (hlen : k + m ≤ 1000000) :
    ∃ A2 c2 w', (Builtin.append_ #[22, 22] ty #[.slice (some ⟨b, off, none⟩) k k, .slice D m c]).run Try.prog w = .ok (.slice A2 (k + m) c2) w' ∧ k + m ≤ c2 ∧ c2 ≤ maxLen ∧ QR w' (Sn S w w') A2 (ps ++ qs) ∧ Below w.heap.size w w' := by
  obtain ⟨i0, hi0, hz0, hz1, hz2⟩ := info_parts Try.infoP
  obtain ⟨xs, hx1, hx2, hx3⟩ := hp.vals
  obtain ⟨ys, hy1, hy2, hy3⟩ := hq.vals
  have hyl : ys.length = m * 3 := by rw [hy1.1, hm]
  have hs := Src.ofRow (P := Try.prog) Try.underlying22 w D m c ys hyl (by decide) hy2 hy3
  have hs' : Src Try.prog i0.size 22 (.slice D m c) m ys w := by rw [hz1]; exact hs
  by_cases h0 : m = 0
  · subst h0
    have hqs : qs = [] := List.eq_nil_of_length_eq_zero hm
    have hys : ys = [] := List.eq_nil_of_length_eq_zero (by simpa using hyl)
    subst hqs hys
    have hr : (Builtin.append_ #[22, 22] ty #[.slice (some ⟨b, off, none⟩) k k, .slice D 0 c]).run Try.prog w = .ok (.slice (some ⟨b, off, none⟩) k k) w := by
      rcases hs.kind with ⟨e', hk⟩ | hk <;> simp [Builtin.append_, run_underlying Try.underlying22, run_underlying hk, sizeOf, typeInfo, hi0, hs'.len, hs'.cells, Addr.add_lit, storeCells]
    refine ⟨_, _, _, hr, Nat.le_refl _, by unfold maxLen; omega, ?_, Below.refl _ _⟩
    rw [List.append_nil]
    exact hp.mono fun b hb => .inl hb
  · have hold : (Builtin.firstCells i0.size k (.slice (some ⟨b, off, none⟩) k k)).run Try.prog w.drew = .ok xs.toArray w.drew := run_firstCells_some w.drew i0.size k ⟨b, off, none⟩ k k xs (by rw [hz1, hx1.1, hk]) (fun j u hu => by
      obtain ⟨ad, e, hc⟩ := hx2 (by have := (List.getElem?_eq_some_iff.1 hu).1; omega)
      injection e with e
      subst e
      exact hc j u hu)
    have hr := run_append_grow_src (P := Try.prog) w 22 22 ty 28 i0 _ Try.underlying22 hi0 hz0 (some ⟨b, off, none⟩) k k xs hold (.slice D m c) m ys hs' (by omega) (by omega) (growslice_fits (by omega) (by rw [hz2]; omega))
    have hge := grownCap_ge w (k + m) k 28
    have hcm : grownCap w (k + m) k 28 ≤ maxLen := grownCap_le_maxLen w (k + m) k _ (by unfold maxLen; omega)
    have hb' : Below w.heap.size w (w.drew.alloc (.cells ((xs ++ ys).toArray ++ Builtin.zeroCells (Value.agg #[.int .i64 0, .int .i64 0, .slice none 0 0]).cells (grownCap w (k + m) k 28 - (k + m))) 28)) := unD (bnew w.drew _)
    have hxy := (hx1.append hy1).keep (Kept.of hS hb')
    have hk0 := heap_alloc_new w.drew (.cells ((xs ++ ys).toArray ++ Builtin.zeroCells (Value.agg #[.int .i64 0, .int .i64 0, .slice none 0 0]).cells (grownCap w (k + m) k 28 - (k + m))) 28)
    refine ⟨_, _, _, hr, hge, hcm, fun hpos => ⟨w.heap.size, 0, rfl, .inr ⟨Nat.le_refl _, by simp⟩, fun i hi => ?_⟩, hb'⟩
    obtain ⟨v, e0, e1, e2, e3, e4⟩ := hxy.2 i hi
    have get : ∀ j u, (xs ++ ys)[j]? = some u → (w.drew.alloc (.cells ((xs ++ ys).toArray ++ Builtin.zeroCells (Value.agg #[.int .i64 0, .int .i64 0, .slice none 0 0]).cells (grownCap w (k + m) k 28 - (k + m))) 28)).cell? ⟨w.heap.size, j, none⟩ = some u := fun j u hu => by
      have hj := (List.getElem?_eq_some_iff.1 hu).1
      rw [cell_of_row _ w.heap.size j _ _ _ hk0, Array.getElem?_append_left (by simpa using hj)]
      simpa using hu
    rw [Nat.zero_add]
    exact ⟨v, get _ _ e0, get _ _ e1, get _ _ e2, e3.mono fun b hb => .inl hb, e4⟩

set_option maxRecDepth 100000 in
set_option maxHeartbeats 2000000 in
theorem Lose_any (n : Nt) (i : Int) (w : World) (A A' : Option Addr) (c c' : Nat) (S : Nat → Prop) (hS : ∀ b, S b → b < w.heap.size) (hd : NR w S A c A' c' n) :
    Calls Try.prog 23 #[.agg #[.slice A n.q.length c, .slice A' n.ap.length c'], .int .i64 i] w (NtPost S (loseN n i) w) := by
  have hdh := Lib.hid hd
  clear hd
  have kN := heap_alloc_new w (.cells #[.slice A n.q.length c, .slice A' n.ap.length c'] 25)
  have hbV1 := bnew w (.cells #[.slice A n.q.length c, .slice A' n.ap.length c'] 25)
  obtain ⟨V1, hV1⟩ : ∃ V, (w).alloc (.cells #[.slice A n.q.length c, .slice A' n.ap.length c'] 25) = V := ⟨_, rfl⟩
  have hsV1 : V1.heap.size = w.heap.size + 1 := by rw [← hV1]; simp
  rw [hV1] at kN hbV1
  have kX := heap_alloc_new V1 (.cells #[.slice none 0 0, .slice none 0 0] 25)
  have hbV2 := bnew V1 (.cells #[.slice none 0 0, .slice none 0 0] 25)
  obtain ⟨V2, hV2⟩ : ∃ V, (V1).alloc (.cells #[.slice none 0 0, .slice none 0 0] 25) = V := ⟨_, rfl⟩
  have hsV2 : V2.heap.size = w.heap.size + 2 := by rw [← hV2]; simp; omega
  rw [hV2] at kX hbV2
  replace kN := blk_step kN hbV2
  rw [hsV1] at kX
  have hBV : Below w.heap.size w V2 := (hbV1).trans (hbV2.mono (by omega))
  clear hbV1 hbV2
  have hF := Lib.hid (finds_any n i V2 A A' c c' w.heap.size (by omega) ((hdh.out.mono hS).keep (Kept.below hBV)))
  replace hBV := Lib.hid hBV
  replace kN := Lib.hid kN
  replace kX := Lib.hid kX
  replace hV1 := Lib.hid hV1
  replace hV2 := Lib.hid hV2
  replace hsV2 := Lib.hid hsV2
  clear hsV1
  go_enter Try.func23, Try.ntmps23
  go_wp2_with fail
  rw [hV1.out, hV2.out]
  refine hF.out.mono ?_
  rintro e w1 ⟨rfl, hb⟩
  replace kN := Lib.hid (blk_step kN.out hb)
  replace kX := Lib.hid (blk_step kX.out hb)
  have hB1 := Lib.hid (hBV.out.trans (hb.mono hBV.out.size))
  have hsz1 := hb.size
  rw [hsV2.out] at hsz1
  clear hb hF hV1 hV2
  rcases findN_cases n i with ⟨h1, hnt, k, rfl, hk⟩ | ⟨h1, h2⟩
  case inr =>
    have hv := Lib.hid (loseN_bad h1)
    have x0 : w1.cell? ⟨w.heap.size + 1, 0, none⟩ = _ := cell_of_row w1 _ 0 _ _ _ kX.out
    have x1 : w1.cell? ⟨w.heap.size + 1, 1, none⟩ = _ := cell_of_row w1 _ 1 _ _ _ kX.out
    have fX := fun i => frozen_of_row w1 _ i _ _ kX.out
    have hne : (findN n i != 0) = true := by simpa using h1
    clear h1 h2
    go_wp2_with fail
    exact bodyPost_ret (v := .tuple #[.agg #[.slice none 0 0, .slice none 0 0], .int .i64 (findN n i)]) (by simp [results, Try.results23, go_sem, x0, x1, fX]) rfl (NtPost.fail hv.out ((hB1.out.setCell (by simp) _).setCell (by simp) _) rfl)
  case inl =>
    have hv := Lib.hid (loseN_ok h1)
    rw [h1]
    have hql := (ntB_iff.1 hnt).1
    obtain ⟨b, off, rfl, hsb, -⟩ := hdh.out.q (by omega)
    have hcap := hdh.out.cap
    have hmax := hdh.out.max
    unfold maxLen at hmax
    obtain ⟨D, hD⟩ : ∃ D, (if c = k + 1 then some (⟨b, off, none⟩ : Addr) else some ⟨b, off + (k + 1) * 3, none⟩) = D := ⟨_, rfl⟩
    have hqd : QR w S D (n.q.drop (k + 1)) := by
      rw [← hD]
      by_cases hc : c = k + 1
      · rw [List.drop_eq_nil_of_le (by omega)]; exact QR.nil _ _ _
      · rw [if_neg hc]; exact hdh.out.q.drop (k + 1)
    have hqt := hdh.out.q.take k
    have hq4 := Lib.hid (show ¬ c < k by omega)
    have hk1 := Lib.hid (show IntKind.i64.wrap ((k : Int) + 1) = (k : Int) + 1 from IntWalk.i64_in _ (by omega))
    have hq9 := Lib.hid (show ((0 : Int) ≤ (k : Int) + 1) ∧ ((k : Int) + 1 ≤ (n.q.length : Int)) ∧ (if c = k + 1 then some (⟨b, off, none⟩ : Addr) else some ⟨b, off + (k + 1) * 3, none⟩) = D from ⟨by omega, by omega, hD⟩)
    have hN : Hid (∀ W, Below w1.heap.size w1 W → W.cell? ⟨w.heap.size, 0, none⟩ = some (.slice (some ⟨b, off, none⟩) n.q.length c) ∧ W.cell? ⟨w.heap.size, 1, none⟩ = some (.slice A' n.ap.length c')) := fun W hW =>
      have h := blk_step kN.out hW
      ⟨cell_of_row W _ 0 _ _ _ h, cell_of_row W _ 1 _ _ _ h⟩
    have hap : Hid (∀ W, Below w1.heap.size w1 W → ∃ A2 c2 W', (Builtin.append_ #[22, 22] 22 #[.slice (some ⟨b, off, none⟩) k k, .slice D (n.q.length - (k + 1)) (c - (k + 1))]).run Try.prog W = .ok (.slice A2 (k + (n.q.length - (k + 1))) c2) W' ∧ k + (n.q.length - (k + 1)) ≤ c2 ∧ c2 ≤ maxLen ∧ QR W' (Sn S W W') A2 (n.q.take k ++ n.q.drop (k + 1)) ∧ Below W.heap.size W W') := fun W hW => by
      have hBW := hB1.out.trans (hW.mono hB1.out.size)
      have hKp := Kept.of hS hBW
      exact append_cut W _ b off k _ _ S (fun b h => Nat.lt_of_lt_of_le (hS b h) hBW.size) (by simp; omega) (hqt.keep hKp) hsb D (n.q.length - (k + 1)) (c - (k + 1)) (by simp) (hqd.keep hKp) (by omega)
    replace hdh := Lib.hid hdh.out
    replace hsb := Lib.hid hsb
    clear h1 hnt hD hqd hqt
    go_wp2_with fail
    refine wp_region_pre 10 3 (fun W => Below w1.heap.size w1 W) (fun W W' => Below W.heap.size W W')
      (fun i v W => match i with
        | 0 => v = .pointer (some ⟨w.heap.size, 0, none⟩)
        | 1 => v = .slice (some ⟨b, off, none⟩) n.q.length c
        | 2 => v = .int .i64 (k : Int)
        | 3 => v = .int .i64 (k : Int)
        | 4 => v = .slice (some ⟨b, off, none⟩) k k
        | 5 => v = .pointer (some ⟨w.heap.size, 0, none⟩)
        | 6 => v = .slice (some ⟨b, off, none⟩) n.q.length c
        | 7 => v = .int .i64 (k : Int)
        | 8 => v = .int .i64 ((k : Int) + 1)
        | 9 => v = .slice D (n.q.length - (k + 1)) (c - (k + 1))
        | _ => True) (fun _ => false)
      (by kernel_rfl) (by kernel_rfl) (by kernel_rfl) (by kernel_rfl) (by kernel_rfl) (by kernel_rfl) (by kernel_rfl) ?_ (fun _ _ h => h.size) (dN (Below.refl _ _) 1) ?_ ?_
    · intro i v W W' hb hF
      match i, hF with
      | 0, h => exact h
      | 1, h => exact h
      | 2, h => exact h
      | 3, h => exact h
      | 4, h => exact h
      | 5, h => exact h
      | 6, h => exact h
      | 7, h => exact h
      | 8, h => exact h
      | 9, h => exact h
      | _ + 10, _ => trivial
    · refine ⟨?_, ?_, ?_, ?_, ?_, ?_, ?_, ?_, ?_, ?_, trivial⟩
      · refine stepJ_any rfl fun ac W hAA hG hDD K hK => ?_
        have h2 := hAA.getD (t := 2) (by kernel_rfl)
        simp only [Array.getD_eq_getD_getElem?] at h2
        rw [if_pos (by rfl)]
        exact wp_val (v := .pointer (some ⟨w.heap.size, 0, none⟩)) (w' := W) (by simp [execOp, Act.eval, h2, go_sem]) (hK _ _ hG (Below.refl _ _) rfl (fun h => by cases h))
      · refine stepJ_any rfl fun ac W hAA hG hDD K hK => ?_
        have h14 := hDD.get 0 14 _ rfl rfl (by kernel_rfl)
        simp only [Array.getD_eq_getD_getElem?] at h14
        obtain ⟨k0, k1⟩ := hN.out W hG
        rw [if_pos (by rfl)]
        exact wp_val (v := .slice (some ⟨b, off, none⟩) n.q.length c) (w' := W) (by simp [execOp, Act.eval, h14, go_sem, k0]) (hK _ _ hG (Below.refl _ _) rfl (fun h => by cases h))
      · refine stepJ_any rfl fun ac W hAA hG hDD K hK => ?_
        have h1 := hAA.getD (t := 1) (by kernel_rfl)
        simp only [Array.getD_eq_getD_getElem?] at h1
        rw [if_pos (by rfl)]
        exact wp_val (v := .int .i64 (k : Int)) (w' := W) (by simp [execOp, Act.eval, h1, go_sem]) (hK _ _ hG (Below.refl _ _) rfl (fun h => by cases h))
      · refine stepJ_any rfl fun ac W hAA hG hDD K hK => ?_
        have h1 := hAA.getD (t := 1) (by kernel_rfl)
        simp only [Array.getD_eq_getD_getElem?] at h1
        rw [if_pos (by rfl)]
        exact wp_val (v := .int .i64 (k : Int)) (w' := W) (by simp [execOp, Act.eval, h1, go_sem]) (hK _ _ hG (Below.refl _ _) rfl (fun h => by cases h))
      · refine stepJ_any rfl fun ac W hAA hG hDD K hK => ?_
        have h15 := hDD.get 1 15 _ rfl rfl (by kernel_rfl)
        have h16 := hDD.get 2 16 _ rfl rfl (by kernel_rfl)
        have h17 := hDD.get 3 17 _ rfl rfl (by kernel_rfl)
        simp only [Array.getD_eq_getD_getElem?] at h15 h16 h17
        have hq4 := hq4.out
        rw [if_pos (by rfl)]
        exact wp_val (v := .slice (some ⟨b, off, none⟩) k k) (w' := W) (by simp [execOp, Act.eval, h15, h16, h17, go_sem, hq4]) (hK _ _ hG (Below.refl _ _) rfl (fun h => by cases h))
      · refine stepJ_any rfl fun ac W hAA hG hDD K hK => ?_
        have h2 := hAA.getD (t := 2) (by kernel_rfl)
        simp only [Array.getD_eq_getD_getElem?] at h2
        rw [if_pos (by rfl)]
        exact wp_val (v := .pointer (some ⟨w.heap.size, 0, none⟩)) (w' := W) (by simp [execOp, Act.eval, h2, go_sem]) (hK _ _ hG (Below.refl _ _) rfl (fun h => by cases h))
      · refine stepJ_any rfl fun ac W hAA hG hDD K hK => ?_
        have h19 := hDD.get 5 19 _ rfl rfl (by kernel_rfl)
        simp only [Array.getD_eq_getD_getElem?] at h19
        obtain ⟨k0, k1⟩ := hN.out W hG
        rw [if_pos (by rfl)]
        exact wp_val (v := .slice (some ⟨b, off, none⟩) n.q.length c) (w' := W) (by simp [execOp, Act.eval, h19, go_sem, k0]) (hK _ _ hG (Below.refl _ _) rfl (fun h => by cases h))
      · refine stepJ_any rfl fun ac W hAA hG hDD K hK => ?_
        have h1 := hAA.getD (t := 1) (by kernel_rfl)
        simp only [Array.getD_eq_getD_getElem?] at h1
        rw [if_pos (by rfl)]
        exact wp_val (v := .int .i64 (k : Int)) (w' := W) (by simp [execOp, Act.eval, h1, go_sem]) (hK _ _ hG (Below.refl _ _) rfl (fun h => by cases h))
      · refine stepJ_any rfl fun ac W hAA hG hDD K hK => ?_
        have h21 := hDD.get 7 21 _ rfl rfl (by kernel_rfl)
        simp only [Array.getD_eq_getD_getElem?] at h21
        have hk1 := hk1.out
        rw [if_pos (by rfl)]
        exact wp_val (v := .int .i64 ((k : Int) + 1)) (w' := W) (by simp [execOp, Act.eval, h21, go_sem, hk1]) (hK _ _ hG (Below.refl _ _) rfl (fun h => by cases h))
      · refine stepJ_any rfl fun ac W hAA hG hDD K hK => ?_
        have h20 := hDD.get 6 20 _ rfl rfl (by kernel_rfl)
        have h22 := hDD.get 8 22 _ rfl rfl (by kernel_rfl)
        simp only [Array.getD_eq_getD_getElem?] at h20 h22
        have hq9 := hq9.out
        rw [if_pos (by rfl)]
        exact wp_val (v := .slice D (n.q.length - (k + 1)) (c - (k + 1))) (w' := W) (by simp [execOp, Act.eval, h20, h22, go_sem, hq9]) (hK _ _ hG (Below.refl _ _) rfl (fun h => by cases h))
    intro fu T w2 hG hF hne hltb
    have e14 : T 14 = .pointer (some ⟨w.heap.size, 0, none⟩) := hF 0 _ rfl (by omega)
    have e15 : T 15 = .slice (some ⟨b, off, none⟩) n.q.length c := hF 1 _ rfl (by omega)
    have e16 : T 16 = .int .i64 (k : Int) := hF 2 _ rfl (by omega)
    have e17 : T 17 = .int .i64 (k : Int) := hF 3 _ rfl (by omega)
    have e18 : T 18 = .slice (some ⟨b, off, none⟩) k k := hF 4 _ rfl (by omega)
    have e19 : T 19 = .pointer (some ⟨w.heap.size, 0, none⟩) := hF 5 _ rfl (by omega)
    have e20 : T 20 = .slice (some ⟨b, off, none⟩) n.q.length c := hF 6 _ rfl (by omega)
    have e21 : T 21 = .int .i64 (k : Int) := hF 7 _ rfl (by omega)
    have e22 : T 22 = .int .i64 ((k : Int) + 1) := hF 8 _ rfl (by omega)
    have e23 : T 23 = .slice D (n.q.length - (k + 1)) (c - (k + 1)) := hF 9 _ rfl (by omega)
    clear hF hne hltb
    simp only [List.take, fillT, List.setIfInBounds_toArray, List.set_cons_zero, List.set_cons_succ, e14, e15, e16, e17, e18, e19, e20, e21, e22, e23]
    clear e14 e15 e16 e17 e18 e19 e20 e21 e22 e23
    refine wpAny_ready (rs := [10]) (by kernel_rfl) (by simp) (AllReady.cons (o := ⟨(some 24), (Op.call { callee := (Callee.builtin Builtin.append), args := #[(Operand.tmp 18), (Operand.tmp 23)], argTypes := #[22, 22] }), _, _, _, none⟩) rfl (fun K1 hK1 => ?_) AllReady.nil)
    rw [if_pos (by rfl)]
    obtain ⟨A2, c2, w3, hr, hc1, hc2, hqr, hb3⟩ := hap.out w2 hG
    refine Lib.wp_append_run w2 (.tmp 18) (.tmp 23) 22 22 rfl _ _ rfl rfl _ w3 hr ?_
    refine hK1 _ _ ?_
    clear hK1 K1
    refine wpAny_ready (rs := [11]) (by kernel_rfl) (by simp) (AllReady.cons (o := ⟨(some 25), (Op.fieldAddr 25 (Operand.tmp 2) 0), _, _, _, none⟩) rfl (fun K1 hK1 => ?_) AllReady.nil)
    rw [if_pos (by rfl)]
    refine wp_val (v := .pointer (some ⟨w.heap.size, 0, none⟩)) (w' := w3) (by simp [execOp, Act.eval, go_sem]) ?_
    refine hK1 _ _ ?_
    clear hK1 K1
    have hB3 := hB1.out.trans ((hG.trans (hb3.mono hG.size)).mono hB1.out.size)
    have kN3 := blk_step (blk_step kN.out hG) hb3
    have kX3 := blk_step (blk_step kX.out hG) hb3
    have y0 : w3.cell? ⟨w.heap.size, 0, none⟩ = some (.slice (some ⟨b, off, none⟩) n.q.length c) := cell_of_row w3 _ 0 _ _ _ kN3
    have fN := fun i => frozen_of_row w3 _ i _ _ kN3
    refine wpAny_ready (rs := [12]) (by kernel_rfl) (by simp) (AllReady.cons (o := ⟨none, (Op.store 22 (Operand.tmp 25) (Operand.tmp 24)), _, _, _, none⟩) rfl (fun K1 hK1 => ?_) AllReady.nil)
    rw [if_pos (by rfl)]
    refine wp_store_one 22 (.tmp 25) (.tmp 24) rfl w.heap.size 0 rfl (.slice A2 (k + (n.q.length - (k + 1))) c2) rfl rfl rfl Try.sizeOf22 _ y0 (fN 0) ?_
    refine hK1 _ _ ?_
    clear hK1 K1
    refine wpAny_done (by kernel_rfl) ?_ _
    simp only [Act.put, List.setIfInBounds_toArray, List.set_cons_zero, List.set_cons_succ]
    have hs2 := hG.size
    have hs3 := hb3.size
    -- behind the region
    have kN4 := heap_setCell_same w3 w.heap.size 0 _ _ (.slice A2 (k + (n.q.length - (k + 1))) c2) kN3
    have kX4 := (heap_setCell_other w3 ⟨w.heap.size, 0, none⟩ (w.heap.size + 1) (.slice A2 (k + (n.q.length - (k + 1))) c2) (by simp)).trans kX3
    have hB4 := hB3.setCell (p := ⟨w.heap.size, 0, none⟩) (Nat.le_refl _) (.slice A2 (k + (n.q.length - (k + 1))) c2)
    have hq4 : QR (w3.setCell ⟨w.heap.size, 0, none⟩ (.slice A2 (k + (n.q.length - (k + 1))) c2)) (fun g => S g ∨ (w1.heap.size ≤ g ∧ g < w3.heap.size)) A2 (n.q.take k ++ n.q.drop (k + 1)) :=
      (hqr.keep (Kept.set fun g hg => by rcases hg with hg | hg; (have := hS g hg; omega); omega)).mono fun g hg => by rcases hg with hg | hg; exact .inl hg; exact .inr ⟨by omega, hg.2⟩
    have hz4 : (w3.setCell ⟨w.heap.size, 0, none⟩ (.slice A2 (k + (n.q.length - (k + 1))) c2)).heap.size = w3.heap.size := by simp
    obtain ⟨w4, hw4⟩ : ∃ W, w3.setCell ⟨w.heap.size, 0, none⟩ (.slice A2 (k + (n.q.length - (k + 1))) c2) = W := ⟨_, rfl⟩
    rw [hw4] at kN4 kX4 hB4 hq4 hz4 ⊢
    clear hw4 y0 fN hr hqr kN3 kX3 hap hN hq9
    have n0 : w4.cell? ⟨w.heap.size, 0, none⟩ = some (.slice A2 (k + (n.q.length - (k + 1))) c2) := (cell_of_row w4 _ 0 _ _ _ kN4).trans rfl
    have n1 : w4.cell? ⟨w.heap.size, 1, none⟩ = some (.slice A' n.ap.length c') := (cell_of_row w4 _ 1 _ _ _ kN4).trans rfl
    have x0 : w4.cell? ⟨w.heap.size + 1, 0, none⟩ = _ := cell_of_row w4 _ 0 _ _ _ kX4
    have x1 : w4.cell? ⟨w.heap.size + 1, 1, none⟩ = _ := cell_of_row w4 _ 1 _ _ _ kX4
    have fX := fun i => frozen_of_row w4 _ i _ _ kX4
    replace hB4 := Lib.hid hB4
    replace hq4 := Lib.hid hq4
    go_wp2_with fail
    have hF := (hB4.out.setCell (p := ⟨w.heap.size + 1, 0, none⟩) (by simp) (.slice A2 (k + (n.q.length - (k + 1))) c2)).setCell (p := ⟨w.heap.size + 1, 1, none⟩) (by simp) (.slice A' n.ap.length c')
    refine bodyPost_ret (v := .tuple #[.agg #[.slice A2 (k + (n.q.length - (k + 1))) c2, .slice A' n.ap.length c'], .int .i64 0]) (by simp [results, Try.results23, go_sem, x0, x1, fX]) rfl
      (NtPost.of hv.out hF A2 c2 A' c' (by simp; omega) ⟨by simp; omega, hc2, hdh.out.cap', hdh.out.max', (hq4.out.keep ((Kept.set fun g hg => ?_).trans (Kept.set fun g hg => ?_))).mono fun g hg => ?_, (hdh.out.ap.keep (Kept.of hS hF)).mono fun g hg => .inl hg⟩)
    · rcases hg with hg | hg
      · have := hS g hg; omega
      · omega
    · rcases hg with hg | hg
      · have := hS g hg; omega
      · omega
    · rcases hg with hg | hg
      · exact .inl hg
      · exact .inr ⟨by omega, by simp; omega⟩
end Go.Proofs.Ytpmmahlmfcbbbaa
