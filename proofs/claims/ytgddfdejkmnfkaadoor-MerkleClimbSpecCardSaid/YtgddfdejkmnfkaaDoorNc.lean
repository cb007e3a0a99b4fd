/- meet. -/
import Derived.Test.YtgddfdejkmnfkaaDoorNb
namespace Go.Proofs.YtgddfdejkmnfkaaDoor
open Go.RowKit Go.Shelf
attribute [local go_sem] Oper.semAt_some

set_option maxRecDepth 100000 in
set_option maxHeartbeats 4000000 in
theorem hmeet_any (n ix : Nat) (hn : n ≤ 65536) (hi0 : ix < n) (la lb : List UInt8) (hla : la.length ≤ 800000) (hlb : lb.length ≤ 800000) (p q : List (List UInt8)) (hpl : p.length = pathN n ix) (hql : q.length = pathN n ix) (w : World) (A B Ap Aq : Option Addr) (ca cb cp cq : Nat)
    (hra : RBs w w.heap.size A la) (hna : A = none → la = []) (hrb : RBs w w.heap.size B lb) (hnb : B = none → lb = []) (hRp0 : RD w w.heap.size p Ap cp) (hRq0 : RD w w.heap.size q Aq cq) (hT : KT w) (h0 : 0 < w.heap.size) :
    Calls Tryd.prog 52 #[.func (.func 21) #[] #[], .int .i64 (n : Int), .int .i64 (ix : Int), .slice A la.length ca, .slice B lb.length cb, .slice Ap p.length cp, .slice Aq q.length cq] w fun e w' =>
      (∃ v1 v2 K, e = .returned (.tuple #[v1, v2]) ∧ OB w' w.heap.size v1 (txM n ix la p K) ∧ OB w' w.heap.size v2 (txM n ix lb q K) ∧ K ≤ rows n ∧ (∀ j, j < K → clM n ix la p j ≠ clM n ix lb q j) ∧ (K < rows n → clM n ix la p K = clM n ix lb q K)) ∧ Below w.heap.size w w' := by
  have hp : isPl n ix = true := isPl_iff.2 (by omega)
  have hu := Lib.hid (show Tryd.prog.underlying 30 = some (.array 32 5) by kernel_rfl)
  have hi := Lib.hid (show (Tryd.prog.info? 30).map (·.size) = some 32 by kernel_rfl)
  have hRp := Lib.hid hRp0
  have hRq := Lib.hid hRq0
  have hplH := Lib.hid hpl
  have hqlH := Lib.hid hql
  have hTb := Lib.hid hT
  have hM0 := M5.new w (.slice Ap p.length cp) (.slice Aq q.length cq)
  obtain ⟨V, hV⟩ : ∃ V, (((((w.alloc (.cells #[.func (.func 21) #[] #[]] 45)).alloc (.cells #[.slice Ap p.length cp] 25)).alloc (.cells #[.slice Aq q.length cq] 25)).alloc (.cells #[.slice none 0 0] 34)).alloc (.cells #[.slice none 0 0] 34)) = V := ⟨_, rfl⟩
  rw [hV] at hM0
  replace hV := Lib.hid hV
  have hTa := Lib.hid (leafText_any la (by omega) V A ca (hra.lift hM0.bel hM0.bel.size) hna (hT.below hM0.bel h0) (Nat.lt_of_lt_of_le h0 hM0.bel.size))
  have hb0z : w.heap.size ≤ V.heap.size := hM0.bel.size
  replace hM0 := Lib.hid hM0
  have hsA := Lib.hid (DV_size (sha_length (leafM la)))
  have hsB := Lib.hid (DV_size (sha_length (leafM lb)))
  clear hRp0 hRq0 hpl hql hT hra hna
  replace hrb := Lib.hid hrb
  refine (callsIn_wide (n := 9)).1 ?_
  refine callsIn_of_wp_marks Tryd.func52 rfl trivial ?_ rfl
  refine wpIn_wide.2 ?_
  simp only [Tryd.ntmps52, List.size_toArray, List.length_cons, List.length_nil, Nat.reduceAdd, Nat.reduceSub, Array.replicate_succ, Array.replicate_zero, List.push_toArray, List.append_toArray, List.nil_append, List.cons_append]
  go_wp2_with fail
  rw [hV.out]
  refine wp_scope_straight ?_
  go_wp2_with fail
  refine hTa.out.mono ?_
  rintro e w1 ⟨vx, rfl, hOx, hb1⟩
  obtain ⟨ax, cx, rfl, -⟩ := hOx.form
  replace hM0 := Lib.hid (hM0.out.step hb1)
  clear hTa hb1 hV
  have hTb2 := Lib.hid (leafText_any lb (by omega) w1 B cb (hrb.out.lift hM0.out.bel hM0.out.bel.size) hnb (hTb.out.below hM0.out.bel h0) (Nat.lt_of_lt_of_le h0 hM0.out.bel.size))
  replace hOx := Lib.hid hOx
  have hb1z : w.heap.size ≤ w1.heap.size := hM0.out.bel.size
  go_wp2_with fail
  refine hTb2.out.mono ?_
  rintro e w2 ⟨vy, rfl, hOy, hb1⟩
  obtain ⟨ay, cy, rfl, -⟩ := hOy.form
  replace hM0 := Lib.hid (hM0.out.step hb1)
  replace hOx := Lib.hid (hOx.out.below hb1)
  replace hOy := Lib.hid hOy
  clear hTb2 hb1
  have hex := cellAt (i := 0) hM0.out.bx rfl
  have hfx := frozenAt hM0.out.bx 0
  have hey : ∀ u, (w2.setCell ⟨w.heap.size + 1 + 1 + 1, 0, none⟩ u).cell? ⟨w.heap.size + 1 + 1 + 1 + 1, 0, none⟩ = some (.slice none 0 0) := fun u => cellAt (i := 0) ((setOther (B := w.heap.size + 1 + 1 + 1 + 1) (B' := w.heap.size + 1 + 1 + 1) 0 (by omega)).trans hM0.out.bY) rfl
  have hfy : ∀ u, (w2.setCell ⟨w.heap.size + 1 + 1 + 1, 0, none⟩ u).frozen? ⟨w.heap.size + 1 + 1 + 1 + 1, 0, none⟩ = false := fun u => frozenAt ((setOther (B := w.heap.size + 1 + 1 + 1 + 1) (B' := w.heap.size + 1 + 1 + 1) 0 (by omega)).trans hM0.out.bY) 0
  go_upto_region 2 with fail
  have hM := Lib.hid (hM0.out.puts (.slice ax (leafM la).length cx) (.slice ay (leafM lb).length cy))
  have hOx2 : OB ((w2.setCell ⟨w.heap.size + 1 + 1 + 1, 0, none⟩ (.slice ax (leafM la).length cx)).setCell ⟨w.heap.size + 1 + 1 + 1 + 1, 0, none⟩ (.slice ay (leafM lb).length cy)) w.heap.size (.slice ax (leafM la).length cx) (leafM la) :=
    OB.mono (OB.frE hOx.out ((Fr.cell (E := [w.heap.size + 1 + 1 + 1, w.heap.size + 1 + 1 + 1 + 1]) _ _ (by simp)).trans (Fr.cell _ _ (by simp))) (by simp only [List.mem_cons, List.not_mem_nil, or_false]; rintro e (rfl | rfl); exact hOx.out.ne hM0.out.bx (by decide); exact hOx.out.ne hM0.out.bY (by decide))) hb0z
  have hOy2 : OB ((w2.setCell ⟨w.heap.size + 1 + 1 + 1, 0, none⟩ (.slice ax (leafM la).length cx)).setCell ⟨w.heap.size + 1 + 1 + 1 + 1, 0, none⟩ (.slice ay (leafM lb).length cy)) w.heap.size (.slice ay (leafM lb).length cy) (leafM lb) :=
    OB.mono (OB.frE hOy.out ((Fr.cell (E := [w.heap.size + 1 + 1 + 1, w.heap.size + 1 + 1 + 1 + 1]) _ _ (by simp)).trans (Fr.cell _ _ (by simp))) (by simp only [List.mem_cons, List.not_mem_nil, or_false]; rintro e (rfl | rfl); exact hOy.out.ne hM0.out.bx (by decide); exact hOy.out.ne hM0.out.bY (by decide))) hb1z
  generalize (w2.setCell ⟨w.heap.size + 1 + 1 + 1, 0, none⟩ (.slice ax (leafM la).length cx)).setCell ⟨w.heap.size + 1 + 1 + 1 + 1, 0, none⟩ (.slice ay (leafM lb).length cy) = V2 at hM hOx2 hOy2 ⊢
  replace hOx := Lib.hid hOx2
  replace hOy := Lib.hid hOy2
  have hN : Hid (∀ W, Below V2.heap.size V2 W → W.cell? ⟨w.heap.size, 0, none⟩ = some (.func (.func 21) #[] #[]) ∧ W.cell? ⟨w.heap.size + 1 + 1 + 1, 0, none⟩ = some (.slice ax (leafM la).length cx) ∧ W.cell? ⟨w.heap.size + 1 + 1 + 1 + 1, 0, none⟩ = some (.slice ay (leafM lb).length cy)) := fun W hW => ⟨cellAt (i := 0) (blk_at hM.out.bh hW) rfl, cellAt (i := 0) (blk_at hM.out.bx hW) rfl, cellAt (i := 0) (blk_at hM.out.bY hW) rfl⟩
  clear hM0 hOx2 hOy2 hex hfx hey hfy hb0z hb1z
  refine wp_region_pre 8 2 (fun W => Below V2.heap.size V2 W) (fun W W' => Below W.heap.size W W')
    (fun i v W => match i with
      | 0 => v = .func (.func 21) #[] #[]
      | 1 => v = .slice ax (leafM la).length cx
      | 2 => v = .agg (BV (sha (leafM la))).toArray
      | 3 => v = .func (.func 21) #[] #[]
      | 4 => v = .slice ay (leafM lb).length cy
      | 5 => v = .agg (BV (sha (leafM lb))).toArray
      | 6 => ∃ g, v = .pointer (some ⟨g, 0, none⟩) ∧ V2.heap.size ≤ g ∧ DB W g 30 zeroD
      | 7 => ∃ g, v = .pointer (some ⟨g, 0, none⟩) ∧ V2.heap.size ≤ g ∧ DB W g 30 zeroD
      | _ => True) (fun i => match i with | 6 => true | 7 => true | _ => false)
    (by kernel_rfl) (by kernel_rfl) (by kernel_rfl) (by kernel_rfl) (by kernel_rfl) (by kernel_rfl) (by kernel_rfl) ?_ (fun _ _ h => h.size) (dN (Below.refl _ _) 1) ?_ ?_
  · intro i v W W' hb hF
    match i, hF with
    | 0, h => exact h
    | 1, h => exact h
    | 2, h => exact h
    | 3, h => exact h
    | 4, h => exact h
    | 5, h => exact h
    | 6, ⟨g, h1, h2, h3⟩ => exact ⟨g, h1, h2, blk_at h3 hb⟩
    | 7, ⟨g, h1, h2, h3⟩ => exact ⟨g, h1, h2, blk_at h3 hb⟩
    | _ + 8, _ => trivial
  · refine ⟨?_, ?_, ?_, ?_, ?_, ?_, ?_, ?_, trivial⟩
    · refine stepJ_any rfl fun ac W hAA hG hDD K hK => ?_
      have h7 := hAA.getD (t := 7) (by kernel_rfl)
      simp only [Array.getD_eq_getD_getElem?] at h7
      have k0 := (hN.out W hG).1
      rw [if_pos (by rfl)]
      exact wp_val (v := .func (.func 21) #[] #[]) (w' := W) (by simp [execOp, Act.eval, h7, go_sem, k0]) (hK _ _ hG (Below.refl _ _) rfl (fun h => by cases h))
    · refine stepJ_any rfl fun ac W hAA hG hDD K hK => ?_
      have h14 := hAA.getD (t := 14) (by kernel_rfl)
      simp only [Array.getD_eq_getD_getElem?] at h14
      have k0 := (hN.out W hG).2.1
      rw [if_pos (by rfl)]
      exact wp_val (v := .slice ax (leafM la).length cx) (w' := W) (by simp [execOp, Act.eval, h14, go_sem, k0]) (hK _ _ hG (Below.refl _ _) rfl (fun h => by cases h))
    · refine stepJ_any rfl fun ac W hAA hG hDD K hK => ?_
      have h23 := hDD.get 0 23 _ rfl rfl (by kernel_rfl)
      have h24 := hDD.get 1 24 _ rfl rfl (by kernel_rfl)
      rw [if_pos (by rfl)]
      simp only [Array.getD_eq_getD_getElem?] at h23 h24
      refine wp_call (f := 21) (args := #[.slice ax (leafM la).length cx]) (by simp [execOp, Act.eval, h23, h24, go_sem]) ((sum_own (hOx.out.below hG) (by rw [leafM_len]; omega) (by rw [leafM_len]; omega) (hTb.out.below (hM.out.bel.trans (hG.mono hM.out.bel.size)) h0) (Nat.lt_of_lt_of_le h0 (hM.out.bel.trans (hG.mono hM.out.bel.size)).size)).mono fun e W9 he => ?_)
      obtain ⟨rfl, hbw2⟩ := he
      exact hK _ _ (hG.trans (hbw2.mono hG.size)) hbw2 rfl (fun h => by cases h)
    · refine stepJ_any rfl fun ac W hAA hG hDD K hK => ?_
      have h7 := hAA.getD (t := 7) (by kernel_rfl)
      simp only [Array.getD_eq_getD_getElem?] at h7
      have k0 := (hN.out W hG).1
      rw [if_pos (by rfl)]
      exact wp_val (v := .func (.func 21) #[] #[]) (w' := W) (by simp [execOp, Act.eval, h7, go_sem, k0]) (hK _ _ hG (Below.refl _ _) rfl (fun h => by cases h))
    · refine stepJ_any rfl fun ac W hAA hG hDD K hK => ?_
      have h15 := hAA.getD (t := 15) (by kernel_rfl)
      simp only [Array.getD_eq_getD_getElem?] at h15
      have k0 := (hN.out W hG).2.2
      rw [if_pos (by rfl)]
      exact wp_val (v := .slice ay (leafM lb).length cy) (w' := W) (by simp [execOp, Act.eval, h15, go_sem, k0]) (hK _ _ hG (Below.refl _ _) rfl (fun h => by cases h))
    · refine stepJ_any rfl fun ac W hAA hG hDD K hK => ?_
      have h26 := hDD.get 3 26 _ rfl rfl (by kernel_rfl)
      have h27 := hDD.get 4 27 _ rfl rfl (by kernel_rfl)
      rw [if_pos (by rfl)]
      simp only [Array.getD_eq_getD_getElem?] at h26 h27
      refine wp_call (f := 21) (args := #[.slice ay (leafM lb).length cy]) (by simp [execOp, Act.eval, h26, h27, go_sem]) ((sum_own (hOy.out.below hG) (by rw [leafM_len]; omega) (by rw [leafM_len]; omega) (hTb.out.below (hM.out.bel.trans (hG.mono hM.out.bel.size)) h0) (Nat.lt_of_lt_of_le h0 (hM.out.bel.trans (hG.mono hM.out.bel.size)).size)).mono fun e W9 he => ?_)
      obtain ⟨rfl, hbw2⟩ := he
      exact hK _ _ (hG.trans (hbw2.mono hG.size)) hbw2 rfl (fun h => by cases h)
    · refine stepJ_any rfl fun ac W hAA hG hDD K hK => ?_
      rw [if_pos (by rfl)]
      exact wp_val (v := .pointer (some ⟨W.heap.size, 0, none⟩)) (w' := W.alloc (.cells #[.int .u8 0, .int .u8 0, .int .u8 0, .int .u8 0, .int .u8 0, .int .u8 0, .int .u8 0, .int .u8 0, .int .u8 0, .int .u8 0, .int .u8 0, .int .u8 0, .int .u8 0, .int .u8 0, .int .u8 0, .int .u8 0, .int .u8 0, .int .u8 0, .int .u8 0, .int .u8 0, .int .u8 0, .int .u8 0, .int .u8 0, .int .u8 0, .int .u8 0, .int .u8 0, .int .u8 0, .int .u8 0, .int .u8 0, .int .u8 0, .int .u8 0, .int .u8 0] 30)) (by simp [execOp, Act.eval, go_sem]) (hK _ _ (hG.alloc hG.size _) (bel1 W _) ⟨W.heap.size, rfl, hG.size, zero_new W⟩ (fun _ => ⟨Nat.le_refl _, by simp [pb]⟩))
    · refine stepJ_any rfl fun ac W hAA hG hDD K hK => ?_
      rw [if_pos (by rfl)]
      exact wp_val (v := .pointer (some ⟨W.heap.size, 0, none⟩)) (w' := W.alloc (.cells #[.int .u8 0, .int .u8 0, .int .u8 0, .int .u8 0, .int .u8 0, .int .u8 0, .int .u8 0, .int .u8 0, .int .u8 0, .int .u8 0, .int .u8 0, .int .u8 0, .int .u8 0, .int .u8 0, .int .u8 0, .int .u8 0, .int .u8 0, .int .u8 0, .int .u8 0, .int .u8 0, .int .u8 0, .int .u8 0, .int .u8 0, .int .u8 0, .int .u8 0, .int .u8 0, .int .u8 0, .int .u8 0, .int .u8 0, .int .u8 0, .int .u8 0, .int .u8 0] 30)) (by simp [execOp, Act.eval, go_sem]) (hK _ _ (hG.alloc hG.size _) (bel1 W _) ⟨W.heap.size, rfl, hG.size, zero_new W⟩ (fun _ => ⟨Nat.le_refl _, by simp [pb]⟩))
  intro fu T w5 hG hF hne hltb
  have e23 : T 23 = .func (.func 21) #[] #[] := hF 0 _ rfl (by omega)
  have e24 : T 24 = .slice ax (leafM la).length cx := hF 1 _ rfl (by omega)
  have e25 : T 25 = .agg (BV (sha (leafM la))).toArray := hF 2 _ rfl (by omega)
  have e26 : T 26 = .func (.func 21) #[] #[] := hF 3 _ rfl (by omega)
  have e27 : T 27 = .slice ay (leafM lb).length cy := hF 4 _ rfl (by omega)
  have e28 : T 28 = .agg (BV (sha (leafM lb))).toArray := hF 5 _ rfl (by omega)
  obtain ⟨g16, e16, hg16a, hg16b⟩ := hF 6 _ rfl (by omega)
  replace e16 : T 16 = _ := e16
  obtain ⟨g17, e17, hg17a, hg17b⟩ := hF 7 _ rfl (by omega)
  replace e17 : T 17 = _ := e17
  have h67 := hne 6 7 _ _ 16 17 (by omega) (by omega) rfl rfl (by omega) rfl rfl rfl rfl
  rw [e16, e17] at h67
  replace h67 : g16 ≠ g17 := h67
  clear hF hne hltb
  simp only [List.take, fillT, List.setIfInBounds_toArray, List.set_cons_zero, List.set_cons_succ, e23, e24, e25, e26, e27, e28, e16, e17]
  clear e23 e24 e25 e26 e27 e28 e16 e17
  refine wpAny_ready (rs := [8]) (by kernel_rfl) (by simp) (AllReady.cons (o := ⟨none, (Op.store 30 (Operand.tmp 16) (Operand.tmp 25)), _, _, _, none⟩) rfl (fun K1 hK1 => ?_) AllReady.nil)
  rw [if_pos (by rfl)]
  refine wp_store_row 30 _ _ rfl g16 (BV (sha (leafM la))).toArray rfl rfl 30 _ hg16b (by rw [hi.out, hsA.out]) (by rw [hsA.out]; rfl) (BV_all _) ?_
  refine hK1 _ _ ?_
  clear hK1 K1
  have hg17c : DB (w5.setRow g16 (BV (sha (leafM la))).toArray) g17 30 zeroD := (setRow_other _ _ _ _ (by omega)).trans hg17b
  refine wpAny_ready (rs := [9]) (by kernel_rfl) (by simp) (AllReady.cons (o := ⟨none, (Op.store 30 (Operand.tmp 17) (Operand.tmp 28)), _, _, _, none⟩) rfl (fun K1 hK1 => ?_) AllReady.nil)
  rw [if_pos (by rfl)]
  refine wp_store_row 30 _ _ rfl g17 (BV (sha (leafM lb))).toArray rfl rfl 30 _ hg17c (by rw [hi.out, hsB.out]) (by rw [hsB.out]; rfl) (BV_all _) ?_
  refine hK1 _ _ ?_
  clear hK1 K1
  refine wpAny_done (by kernel_rfl) ?_ _
  simp only [Act.put, List.setIfInBounds_toArray, List.set_cons_zero, List.set_cons_succ]
  have hlt2 := hM.out.lt
  obtain ⟨hMB, hAp⟩ := (hM.out.step hG).full (gA := g16) (gB := g17) (by omega) (by omega) h67 hg16b hg17b (sha (leafM la)) (sha (leafM lb))
  have hE2 : ∀ {v : Value} {l : List UInt8}, OB V2 w.heap.size v l → OB ((w5.setRow g16 (BV (sha (leafM la))).toArray).setRow g17 (BV (sha (leafM lb))).toArray) w.heap.size v l := fun h => by
    have h5 := h.below hG
    refine h5.frE ((Fr.row (E := [g16, g17]) w5 (BV (sha (leafM la))).toArray (by simp)).trans (Fr.row _ (BV (sha (leafM lb))).toArray (by simp))) ?_
    simp only [List.mem_cons, List.not_mem_nil, or_false]
    rintro e (rfl | rfl)
    · exact h5.ne hg16b (by decide)
    · exact h5.ne hg17b (by decide)
  replace hOx := Lib.hid (hE2 hOx.out)
  replace hOy := Lib.hid (hE2 hOy.out)
  generalize ((w5.setRow g16 (BV (sha (leafM la))).toArray).setRow g17 (BV (sha (leafM lb))).toArray) = w7 at hMB hOx hOy ⊢
  clear hE2 hg17c hg16a hg17a hg16b hg17b hG hM hN h67 hlt2
  go_wp2_with fail
  refine wp_label ?_
  go_wp2_with fail
  refine (way_any _ _ _).mono ?_
  rintro e w8 ⟨rfl, rfl⟩
  go_wp2_with fail
  have b6 := bel1 w7 (.cells #[.int .i64 (n : Int)] 3)
  have k6 := heap_alloc_new w7 (.cells #[.int .i64 (n : Int)] 3)
  obtain ⟨V6, hV6⟩ : ∃ V, w7.alloc (.cells #[.int .i64 (n : Int)] 3) = V := ⟨_, rfl⟩
  have s6 : V6.heap.size = w7.heap.size + 1 := by rw [← hV6]; simp
  rw [hV6] at b6 k6 ⊢
  have b7 := bel1 V6 (.cells #[.int .i64 (ix : Int)] 3)
  have k7 := heap_alloc_new V6 (.cells #[.int .i64 (ix : Int)] 3)
  obtain ⟨W0, hV7⟩ : ∃ V, V6.alloc (.cells #[.int .i64 (ix : Int)] 3) = V := ⟨_, rfl⟩
  have s7 : W0.heap.size = w7.heap.size + 2 := by rw [← hV7]; simp; omega
  rw [hV7] at b7 k7 ⊢
  have q6 := blk_at k6 b7
  rw [s6] at k7
  have hnW := (hMB.step b6).step b7
  have hOxW := (hOx.out.below b6).below b7
  have hOyW := (hOy.out.below b6).below b7
  have hs5 := hMB.lt
  replace hAp := Lib.hid hAp
  clear hV6 hV7 b6 b7 k6 hMB hOx hOy s6
  refine (wpIn_wide (n := 9)).1 ?_
  refine wpIn_rangeFunc_at rfl (by omega) (gf := 43) (lb := #[.pointer (some ⟨w7.heap.size, 0, none⟩), .pointer (some ⟨w7.heap.size + 1, 0, none⟩)]) rfl trivial (enters_of Tryd.func43 (by kernel_rfl) rfl)
    (way_gives Fence.wide _ trivial rfl (by omega) w7.heap.size (w7.heap.size + 1) n ix hn hi0 W0 (by omega) (by omega) (cellAt (i := 0) q6 rfl) (cellAt (i := 0) k7 rfl))
    (fun _ _ => trivial) (fun _ _ _ _ _ _ _ _ => trivial) (Below.refl _ _) (fun _ _ => rfl)
    (fun k W => MI w (w.heap.size, w.heap.size + 1, w.heap.size + 1 + 1, w.heap.size + 1 + 1 + 1, w.heap.size + 1 + 1 + 1 + 1, g16, g17) n ix la lb p q k W ∧ (w7.heap.size + 2 ≤ W.heap.size ∧ ∀ j, j < k → clM n ix la p j ≠ clM n ix lb q j))
    (fun c k W => c = .exit 0 ∧ MI w (w.heap.size, w.heap.size + 1, w.heap.size + 1 + 1, w.heap.size + 1 + 1 + 1, w.heap.size + 1 + 1 + 1 + 1, g16, g17) n ix la lb p q k W ∧ ((clM n ix la p k) = (clM n ix lb q k) ∧ ∀ j, j < k → clM n ix la p j ≠ clM n ix lb q j))
    (OwnFrom.and (MI.own (by omega)) (fun _ _ _ _ hs hg _ => ⟨Nat.le_trans hs.1 hg.size, hs.2⟩))
    (fun _ k X Y row hs hg hr => ⟨hs.1, MI.own (by omega) k X Y row hs.2.1 hg hr, hs.2.2⟩)
    ⟨MI.mk ⟨Ap, cp, rfl, hRp.out⟩ ⟨Aq, cq, rfl, hRq.out⟩ hnW hOxW hOyW, by omega, fun j hj => absurd hj (by omega)⟩
    (StepAx n ix (w7.heap.size + 2) (fun k Bx => #[.func (.func 21) #[] #[], .int .i64 (n : Int), .int .i64 (ix : Int), .slice A la.length ca, .slice B lb.length cb, .slice Ap p.length cp, .slice Aq q.length cq, .pointer (some ⟨w.heap.size, 0, none⟩), undef, undef, undef, undef, .pointer (some ⟨w.heap.size + 1, 0, none⟩), .pointer (some ⟨w.heap.size + 1 + 1, 0, none⟩), .pointer (some ⟨w.heap.size + 1 + 1 + 1, 0, none⟩), .pointer (some ⟨w.heap.size + 1 + 1 + 1 + 1, 0, none⟩), .pointer (some ⟨g16, 0, none⟩), .pointer (some ⟨g17, 0, none⟩), .pointer (some ⟨Bx, 0, none⟩), .slice A la.length ca, .slice ax (leafM la).length cx, .slice B lb.length cb, .slice ay (leafM lb).length cy, .func (.func 21) #[] #[], .slice ax (leafM la).length cx, .agg (BV (sha (leafM la))).toArray, .func (.func 21) #[] #[], .slice ay (leafM lb).length cy, .agg (BV (sha (leafM lb))).toArray, .int .i64 (n : Int), .int .i64 (ix : Int), .func (.func 43) #[] #[.pointer (some ⟨w7.heap.size, 0, none⟩), .pointer (some ⟨w7.heap.size + 1, 0, none⟩)], .agg #[.int .i64 (rowN n k : Int), .int .i64 (rowI ix k : Int)], undef, undef, undef, undef, undef, undef, undef, undef, undef, undef, undef, undef, undef, undef, undef, undef, undef, undef, undef, undef, undef, undef, undef, undef, undef, undef, undef, undef, undef, undef, undef])) (fun k a' => stepAx_own k a') ?assign ?body ?done ?stop
  case assign =>
    rintro lp k W K hk ⟨hmi, hsz, hne⟩ hK
    unfold wayV
    gi_wp2
    exact hK _ _ ((KeepsOthers.alloc _ _).from _) trivial ⟨hmi.step (bel1 _ _), by simp; omega, hne⟩ ⟨W.heap.size, hsz, heap_alloc_new W _, rfl⟩
  case body =>
    rintro lp k a' W hl2 - hk ⟨hmi, hsz, hne⟩ ⟨Bx, hBx, bX, rfl⟩
    have hmiH := Lib.hid hmi
    obtain ⟨vp, vq, vx, vy, hpv, hqv, hmb, hox, hoy⟩ := hmi
    have hle := rowN_le n k
    have hle2 := rowI_le ix k
    have hbA := hmb.bA
    have hbB := hmb.bB
    have hcA := Lib.hid (DV_size (clM_len n ix la p k))
    have hcB := Lib.hid (DV_size (clM_len n ix lb q k))
    have eqD := fun W => eq_digest (clM n ix la p k) (clM n ix lb q k) (clM_len _ _ _ _ _) (clM_len _ _ _ _ _) W
    replace hmb := Lib.hid hmb
    replace hox := Lib.hid hox
    replace hoy := Lib.hid hoy
    by_cases hE : (clM n ix la p k) = (clM n ix lb q k)
    · rw [beq_iff_eq.2 hE] at eqD
      replace hE := Lib.hid hE
      gi_wp2_with (first | (refine wpListIn_load_row rfl 30 _ rfl (g16) rfl 30 _ (0, 0) _ hbA hu.out rfl ?chbA ?_; case chbA => rw [hi.out, hcA.out]) | (refine wpListIn_load_row rfl 30 _ rfl (g17) rfl 30 _ (0, 0) _ hbB hu.out rfl ?chbB ?_; case chbB => rw [hi.out, hcB.out]))
      exact ⟨KeepsFrom.refl _ _, rfl, hmiH.out, hE.out, hne⟩
    have hE' : ∀ j, j < k + 1 → clM n ix la p j ≠ clM n ix lb q j := fun j hj => by
      by_cases e : j = k
      · rw [e]; exact hE
      · exact hne j (by omega)
    rw [beq_eq_false_iff_ne.2 hE] at eqD
    replace hE' := Lib.hid hE'
    clear hE hne
    have hcon : Hid (Calls Tryd.prog 26 #[.agg #[.int .i64 (rowN n k : Int), .int .i64 (rowI ix k : Int)]] W fun e w' => e = .returned (.bool (lone n ix k)) ∧ Below W.heap.size W w') := alone_any (rowN n k) (rowI ix k) (by omega) W
    have x0 := cellAt (i := 0) bX rfl
    have x1 := cellAt (i := 1) bX rfl
    cases hL : lone n ix k with
    | true =>
      rw [hL] at hcon
      gi_wp2_with (first | (refine wpListIn_load_row rfl 30 _ rfl (g16) rfl 30 _ (0, 0) _ hbA hu.out rfl ?chbA ?_; case chbA => rw [hi.out, hcA.out]) | (refine wpListIn_load_row rfl 30 _ rfl (g17) rfl 30 _ (0, 0) _ hbB hu.out rfl ?chbB ?_; case chbB => rw [hi.out, hcB.out]) | (refine ⟨trivial, ?_⟩; gi_at_call 26; refine (CallsIn.inRound lp (callsIn_wide.2 hcon.out)).mono ?_))
      first | rintro e W1 rfl hb5 | rintro e W1 ⟨rfl, hb5⟩
      gi_wp2
      exact ⟨(keepsBel hb5).from _, trivial, (hmiH.out.step hb5).alone hL, Nat.le_trans hsz hb5.size, hE'.out⟩
    | false =>
      rw [hL] at hcon
      gi_upto_region 7 with (first | (refine wpListIn_load_row rfl 30 _ rfl (g16) rfl 30 _ (0, 0) _ hbA hu.out rfl ?chbA ?_; case chbA => rw [hi.out, hcA.out]) | (refine wpListIn_load_row rfl 30 _ rfl (g17) rfl 30 _ (0, 0) _ hbB hu.out rfl ?chbB ?_; case chbB => rw [hi.out, hcB.out]) | (refine ⟨trivial, ?_⟩; gi_at_call 26; refine (CallsIn.inRound lp (callsIn_wide.2 hcon.out)).mono ?_))
      first | rintro e W1 rfl hb5 | rintro e W1 ⟨rfl, hb5⟩
      gi_upto_region 7 with fail
      have hus : used n ix k + 1 ≤ pathN n ix := by
        have h1 := used_mono n ix (k + 1) (rows n) (by omega)
        rw [used, if_neg (by rw [hL]; decide)] at h1
        exact h1
      obtain ⟨b, off, cz, a1, c1, rfl, hbw, hrg, hlp, hsl, hpv2⟩ := hpv.next (by have := hplH.out; omega)
      obtain ⟨b2, off2, cz2, a2, c2, rfl, hbw2, hrg2, hlq, hsl2, hqv2⟩ := hqv.next (by have := hqlH.out; omega)
      have hkl := Lib.hid (show (0 : Int) < ((p.length - used n ix k : Nat) : Int) ∧ 0 < p.length - used n ix k from by have := hplH.out; omega)
      have hkl2 := Lib.hid (show (0 : Int) < ((q.length - used n ix k : Nat) : Int) ∧ 0 < q.length - used n ix k from by have := hqlH.out; omega)
      have hslc := Lib.hid hsl
      have hslc2 := Lib.hid hsl2
      have hCB := Lib.hid (hmb.out.step hb5)
      have bX := Lib.hid (blk_at bX hb5)
      have hN7 : Hid (∀ W, Below W1.heap.size W1 W → W.cell? ⟨w.heap.size + 1, 0, none⟩ = some (.slice (some ⟨b, off, none⟩) (p.length - used n ix k) cz) ∧ W.cell? ⟨w.heap.size + 1 + 1, 0, none⟩ = some (.slice (some ⟨b2, off2, none⟩) (q.length - used n ix k) cz2) ∧ W.cell? ⟨Bx, 0, none⟩ = some (.int .i64 (rowN n k : Int)) ∧ W.cell? ⟨Bx, 1, none⟩ = some (.int .i64 (rowI ix k : Int))) := fun W hW =>
        ⟨cellAt (i := 0) (blk_at hCB.out.bp hW) rfl, cellAt (i := 0) (blk_at hCB.out.bq hW) rfl, cellAt (i := 0) (blk_at bX.out hW) rfl, cellAt (i := 1) (blk_at bX.out hW) rfl⟩
      have hlD := Lib.hid (clM_len n ix la p k)
      have hlE := Lib.hid (clM_len n ix lb q k)
      have hlP := Lib.hid hlp
      have hlQ := Lib.hid hlq
      have hlS := Lib.hid (stepM_len (k := rowI ix k) hlD.out hlP.out)
      have hlT := Lib.hid (stepM_len (k := rowI ix k) hlE.out hlQ.out)
      have hlS2 := Lib.hid (sha_length (stepM (rowI ix k) (clM n ix la p k) (p.getD (used n ix k) [])))
      have hlT2 := Lib.hid (sha_length (stepM (rowI ix k) (clM n ix lb q k) (q.getD (used n ix k) [])))
      have hsS := Lib.hid (DV_size hlS2.out)
      have hsT := Lib.hid (DV_size hlT2.out)
      have hrl := Lib.hid (show rowI ix k < 65536 by omega)
      replace hbw := Lib.hid hbw
      replace hrg := Lib.hid hrg
      replace hbw2 := Lib.hid hbw2
      replace hrg2 := Lib.hid hrg2
      have hb5' := Lib.hid hb5
      have hpv3 := Lib.hid hpv2
      have hqv3 := Lib.hid hqv2
      have hlt5 := hCB.out.lt
      clear hb5 hbA hbB hcA hcB eqD x0 x1 hcon hsl hpv2 hsl2 hqv2 hlp hlq hmb hox hoy
      refine wpIn_region_pre lp _ ?_ (by kernel_rfl) 12 2 (fun W => Below W1.heap.size W1 W) (fun W W' => Below W.heap.size W W')
        (fun i v W => match i with
          | 0 => v = .agg #[.int .i64 (rowN n k : Int), .int .i64 (rowI ix k : Int)]
          | 1 => v = .agg (BV (clM n ix la p k)).toArray
          | 2 => v = .slice (some ⟨b, off, none⟩) (p.length - used n ix k) cz
          | 3 => v = .pointer (some ⟨b, off, none⟩)
          | 4 => v = .agg (BV (p.getD (used n ix k) [])).toArray
          | 5 => ∃ u, v = u ∧ OB W W1.heap.size u (stepM (rowI ix k) (clM n ix la p k) (p.getD (used n ix k) []))
          | 6 => v = .agg #[.int .i64 (rowN n k : Int), .int .i64 (rowI ix k : Int)]
          | 7 => v = .agg (BV (clM n ix lb q k)).toArray
          | 8 => v = .slice (some ⟨b2, off2, none⟩) (q.length - used n ix k) cz2
          | 9 => v = .pointer (some ⟨b2, off2, none⟩)
          | 10 => v = .agg (BV (q.getD (used n ix k) [])).toArray
          | 11 => ∃ u, v = u ∧ OB W W1.heap.size u (stepM (rowI ix k) (clM n ix lb q k) (q.getD (used n ix k) []))
          | _ => True) (fun _ => false)
        (by kernel_rfl) (by kernel_rfl) (by kernel_rfl) (by kernel_rfl) (by kernel_rfl) (by kernel_rfl) (by kernel_rfl) ?_ (fun _ _ h => h.size) (dN (Below.refl _ _) 1) ?_ ?_
      · rintro ⟨_, _, h⟩; exact h
      · intro i v W W' hb hF
        match i, hF with
        | 0, h => exact h
        | 1, h => exact h
        | 2, h => exact h
        | 3, h => exact h
        | 4, h => exact h
        | 5, ⟨u, h1, h2⟩ => exact ⟨u, h1, h2.below hb⟩
        | 6, h => exact h
        | 7, h => exact h
        | 8, h => exact h
        | 9, h => exact h
        | 10, h => exact h
        | 11, ⟨u, h1, h2⟩ => exact ⟨u, h1, h2.below hb⟩
        | _ + 12, _ => trivial
      · refine ⟨?_, ?_, ?_, ?_, ?_, ?_, ?_, ?_, ?_, ?_, ?_, ?_, trivial⟩
        · refine stepJ_any rfl fun ac W hAA hG hDD K hK => ?_
          have h18 := hAA.getD (t := 18) (by kernel_rfl)
          simp only [Array.getD_eq_getD_getElem?] at h18
          have k1 := (hN7.out W hG).2.2.1
          have k2 := (hN7.out W hG).2.2.2
          rw [if_pos (by rfl)]
          exact wp_val (v := .agg #[.int .i64 (rowN n k : Int), .int .i64 (rowI ix k : Int)]) (w' := W) (by simp [execOp, Act.eval, h18, go_sem, k1, k2]) (hK _ _ hG (Below.refl _ _) rfl (fun h => by cases h))
        · refine stepJ_any rfl fun ac W hAA hG hDD K hK => ?_
          have h16 := hAA.getD (t := 16) (by kernel_rfl)
          rw [if_pos (by rfl)]
          exact wp_load_mid 30 _ rfl g16 0 h16 (BV (clM n ix la p k)) _ (range_of (blk_at hCB.out.bA hG : DB W _ 30 _)) hu.out rfl (by rw [hi.out, BV_length, hlD.out]) (hK _ _ hG (Below.refl _ _) rfl (fun h => by cases h))
        · refine stepJ_any rfl fun ac W hAA hG hDD K hK => ?_
          have h12 := hAA.getD (t := 12) (by kernel_rfl)
          simp only [Array.getD_eq_getD_getElem?] at h12
          have k0 := (hN7.out W hG).1
          rw [if_pos (by rfl)]
          exact wp_val (v := .slice (some ⟨b, off, none⟩) (p.length - used n ix k) cz) (w' := W) (by simp [execOp, Act.eval, h12, go_sem, k0]) (hK _ _ hG (Below.refl _ _) rfl (fun h => by cases h))
        · refine stepJ_any rfl fun ac W hAA hG hDD K hK => ?_
          have h42 := hDD.get 2 42 _ rfl rfl (by kernel_rfl)
          simp only [Array.getD_eq_getD_getElem?] at h42
          have hkl := hkl.out
          rw [if_pos (by rfl)]
          exact wp_val (v := .pointer (some ⟨b, off, none⟩)) (w' := W) (by simp [execOp, Act.eval, h42, go_sem, hkl]) (hK _ _ hG (Below.refl _ _) rfl (fun h => by cases h))
        · refine stepJ_any rfl fun ac W hAA hG hDD K hK => ?_
          have h43 := hDD.get 3 43 _ rfl rfl (by kernel_rfl)
          rw [if_pos (by rfl)]
          exact wp_load_mid 30 _ rfl b off h43 (BV (p.getD (used n ix k) [])) _ (fun j v hv => (((hCB.out.bel.trans (hG.mono hCB.out.bel.size)).cell (p := ⟨b, off + j, none⟩) hbw.out).trans (hrg.out j v hv))) hu.out rfl (by rw [hi.out, BV_length, hlP.out]) (hK _ _ hG (Below.refl _ _) rfl (fun h => by cases h))
        · refine stepJ_any rfl fun ac W hAA hG hDD K hK => ?_
          have h40 := hDD.get 0 40 _ rfl rfl (by kernel_rfl)
          have h41 := hDD.get 1 41 _ rfl rfl (by kernel_rfl)
          have h44 := hDD.get 4 44 _ rfl rfl (by kernel_rfl)
          rw [if_pos (by rfl)]
          simp only [Array.getD_eq_getD_getElem?] at h40 h41 h44
          refine wp_call (f := 50) (args := #[.agg #[.int .i64 (rowN n k : Int), .int .i64 (rowI ix k : Int)], .agg (BV (clM n ix la p k)).toArray, .agg (BV (p.getD (used n ix k) [])).toArray]) (by simp [execOp, Act.eval, h40, h41, h44, go_sem]) ((stepText_any (rowN n k) (rowI ix k) hrl.out (clM n ix la p k) (p.getD (used n ix k) []) hlD.out hlP.out W (hTb.out.below (hCB.out.bel.trans (hG.mono hCB.out.bel.size)) h0) (Nat.lt_of_lt_of_le h0 (hCB.out.bel.trans (hG.mono hCB.out.bel.size)).size)).mono fun e W9 he => ?_)
          obtain ⟨u, rfl, ho2, hbw9⟩ := he
          exact hK _ _ (hG.trans (hbw9.mono hG.size)) hbw9 ⟨u, rfl, ho2.mono hG.size⟩ (fun h => by cases h)
        · refine stepJ_any rfl fun ac W hAA hG hDD K hK => ?_
          have h18 := hAA.getD (t := 18) (by kernel_rfl)
          simp only [Array.getD_eq_getD_getElem?] at h18
          have k1 := (hN7.out W hG).2.2.1
          have k2 := (hN7.out W hG).2.2.2
          rw [if_pos (by rfl)]
          exact wp_val (v := .agg #[.int .i64 (rowN n k : Int), .int .i64 (rowI ix k : Int)]) (w' := W) (by simp [execOp, Act.eval, h18, go_sem, k1, k2]) (hK _ _ hG (Below.refl _ _) rfl (fun h => by cases h))
        · refine stepJ_any rfl fun ac W hAA hG hDD K hK => ?_
          have h17 := hAA.getD (t := 17) (by kernel_rfl)
          rw [if_pos (by rfl)]
          exact wp_load_mid 30 _ rfl g17 0 h17 (BV (clM n ix lb q k)) _ (range_of (blk_at hCB.out.bB hG : DB W _ 30 _)) hu.out rfl (by rw [hi.out, BV_length, hlE.out]) (hK _ _ hG (Below.refl _ _) rfl (fun h => by cases h))
        · refine stepJ_any rfl fun ac W hAA hG hDD K hK => ?_
          have h13 := hAA.getD (t := 13) (by kernel_rfl)
          simp only [Array.getD_eq_getD_getElem?] at h13
          have k0 := (hN7.out W hG).2.1
          rw [if_pos (by rfl)]
          exact wp_val (v := .slice (some ⟨b2, off2, none⟩) (q.length - used n ix k) cz2) (w' := W) (by simp [execOp, Act.eval, h13, go_sem, k0]) (hK _ _ hG (Below.refl _ _) rfl (fun h => by cases h))
        · refine stepJ_any rfl fun ac W hAA hG hDD K hK => ?_
          have h48 := hDD.get 8 48 _ rfl rfl (by kernel_rfl)
          simp only [Array.getD_eq_getD_getElem?] at h48
          have hkl2 := hkl2.out
          rw [if_pos (by rfl)]
          exact wp_val (v := .pointer (some ⟨b2, off2, none⟩)) (w' := W) (by simp [execOp, Act.eval, h48, go_sem, hkl2]) (hK _ _ hG (Below.refl _ _) rfl (fun h => by cases h))
        · refine stepJ_any rfl fun ac W hAA hG hDD K hK => ?_
          have h49 := hDD.get 9 49 _ rfl rfl (by kernel_rfl)
          rw [if_pos (by rfl)]
          exact wp_load_mid 30 _ rfl b2 off2 h49 (BV (q.getD (used n ix k) [])) _ (fun j v hv => (((hCB.out.bel.trans (hG.mono hCB.out.bel.size)).cell (p := ⟨b2, off2 + j, none⟩) hbw2.out).trans (hrg2.out j v hv))) hu.out rfl (by rw [hi.out, BV_length, hlQ.out]) (hK _ _ hG (Below.refl _ _) rfl (fun h => by cases h))
        · refine stepJ_any rfl fun ac W hAA hG hDD K hK => ?_
          have h46 := hDD.get 6 46 _ rfl rfl (by kernel_rfl)
          have h47 := hDD.get 7 47 _ rfl rfl (by kernel_rfl)
          have h50 := hDD.get 10 50 _ rfl rfl (by kernel_rfl)
          rw [if_pos (by rfl)]
          simp only [Array.getD_eq_getD_getElem?] at h46 h47 h50
          refine wp_call (f := 50) (args := #[.agg #[.int .i64 (rowN n k : Int), .int .i64 (rowI ix k : Int)], .agg (BV (clM n ix lb q k)).toArray, .agg (BV (q.getD (used n ix k) [])).toArray]) (by simp [execOp, Act.eval, h46, h47, h50, go_sem]) ((stepText_any (rowN n k) (rowI ix k) hrl.out (clM n ix lb q k) (q.getD (used n ix k) []) hlE.out hlQ.out W (hTb.out.below (hCB.out.bel.trans (hG.mono hCB.out.bel.size)) h0) (Nat.lt_of_lt_of_le h0 (hCB.out.bel.trans (hG.mono hCB.out.bel.size)).size)).mono fun e W9 he => ?_)
          obtain ⟨u, rfl, ho2, hbw9⟩ := he
          exact hK _ _ (hG.trans (hbw9.mono hG.size)) hbw9 ⟨u, rfl, ho2.mono hG.size⟩ (fun h => by cases h)
      intro fu T w9 hG hF hne hltb
      have e40 : T 40 = .agg #[.int .i64 (rowN n k : Int), .int .i64 (rowI ix k : Int)] := hF 0 _ rfl (by omega)
      have e41 : T 41 = .agg (BV (clM n ix la p k)).toArray := hF 1 _ rfl (by omega)
      have e42 : T 42 = .slice (some ⟨b, off, none⟩) (p.length - used n ix k) cz := hF 2 _ rfl (by omega)
      have e43 : T 43 = .pointer (some ⟨b, off, none⟩) := hF 3 _ rfl (by omega)
      have e44 : T 44 = .agg (BV (p.getD (used n ix k) [])).toArray := hF 4 _ rfl (by omega)
      obtain ⟨u5, e45, hou5⟩ := hF 5 _ rfl (by omega)
      replace e45 : T 45 = _ := e45
      have e46 : T 46 = .agg #[.int .i64 (rowN n k : Int), .int .i64 (rowI ix k : Int)] := hF 6 _ rfl (by omega)
      have e47 : T 47 = .agg (BV (clM n ix lb q k)).toArray := hF 7 _ rfl (by omega)
      have e48 : T 48 = .slice (some ⟨b2, off2, none⟩) (q.length - used n ix k) cz2 := hF 8 _ rfl (by omega)
      have e49 : T 49 = .pointer (some ⟨b2, off2, none⟩) := hF 9 _ rfl (by omega)
      have e50 : T 50 = .agg (BV (q.getD (used n ix k) [])).toArray := hF 10 _ rfl (by omega)
      obtain ⟨u11, e51, hou11⟩ := hF 11 _ rfl (by omega)
      replace e51 : T 51 = _ := e51
      clear hF hne hltb
      simp only [List.take, fillT, List.setIfInBounds_toArray, List.set_cons_zero, List.set_cons_succ, e40, e41, e42, e43, e44, e45, e46, e47, e48, e49, e50, e51]
      clear e40 e41 e42 e43 e44 e45 e46 e47 e48 e49 e50 e51
      obtain ⟨a5, c5, rfl, -⟩ := hou5.form
      obtain ⟨a11, c11, rfl, -⟩ := hou11.form
      have hC9 := hCB.out.step hG
      refine wpAny_ready (rs := [12]) (by kernel_rfl) (by simp) (AllReady.cons (o := ⟨none, (Op.store 34 (Operand.tmp 14) (Operand.tmp 45)), _, _, _, none⟩) rfl (fun K1 hK1 => ?_) AllReady.nil)
      rw [if_pos (by rfl)]
      refine wp_store_one 34 (.tmp 14) (.tmp 45) rfl (w.heap.size + 1 + 1 + 1) 0 rfl (.slice a5 (stepM (rowI ix k) (clM n ix la p k) (p.getD (used n ix k) [])).length c5) rfl rfl rfl Tryd.sizeOf34 _ (cellAt (i := 0) hC9.bx rfl) (frozenAt hC9.bx 0) ?_
      refine hK1 _ _ ?_
      clear hK1 K1
      have hC10 := hC9.putx hAp.out (.slice a5 (stepM (rowI ix k) (clM n ix la p k) (p.getD (used n ix k) [])).length c5)
      refine wpAny_ready (rs := [13]) (by kernel_rfl) (by simp) (AllReady.cons (o := ⟨none, (Op.store 34 (Operand.tmp 15) (Operand.tmp 51)), _, _, _, none⟩) rfl (fun K1 hK1 => ?_) AllReady.nil)
      rw [if_pos (by rfl)]
      refine wp_store_one 34 (.tmp 15) (.tmp 51) rfl (w.heap.size + 1 + 1 + 1 + 1) 0 rfl (.slice a11 (stepM (rowI ix k) (clM n ix lb q k) (q.getD (used n ix k) [])).length c11) rfl rfl rfl Tryd.sizeOf34 _ (cellAt (i := 0) hC10.bY rfl) (frozenAt hC10.bY 0) ?_
      refine hK1 _ _ ?_
      clear hK1 K1
      refine wpAny_done (by kernel_rfl) ?_ _
      simp only [Act.put, List.setIfInBounds_toArray, List.set_cons_zero, List.set_cons_succ]
      have hC11 := hC10.puty hAp.out (.slice a11 (stepM (rowI ix k) (clM n ix lb q k) (q.getD (used n ix k) [])).length c11)
      have hf9 : Fr [w.heap.size + 1 + 1 + 1, w.heap.size + 1 + 1 + 1 + 1] w9 ((w9.setCell ⟨w.heap.size + 1 + 1 + 1, 0, none⟩ (.slice a5 (stepM (rowI ix k) (clM n ix la p k) (p.getD (used n ix k) [])).length c5)).setCell ⟨w.heap.size + 1 + 1 + 1 + 1, 0, none⟩ (.slice a11 (stepM (rowI ix k) (clM n ix lb q k) (q.getD (used n ix k) [])).length c11)) := (Fr.cell w9 _ (by simp)).trans (Fr.cell _ _ (by simp))
      have hoX : OB ((w9.setCell ⟨w.heap.size + 1 + 1 + 1, 0, none⟩ (.slice a5 (stepM (rowI ix k) (clM n ix la p k) (p.getD (used n ix k) [])).length c5)).setCell ⟨w.heap.size + 1 + 1 + 1 + 1, 0, none⟩ (.slice a11 (stepM (rowI ix k) (clM n ix lb q k) (q.getD (used n ix k) [])).length c11)) w.heap.size (.slice a5 (stepM (rowI ix k) (clM n ix la p k) (p.getD (used n ix k) [])).length c5) (stepM (rowI ix k) (clM n ix la p k) (p.getD (used n ix k) [])) :=
        OB.mono (hou5.frE hf9 (by simp only [List.mem_cons, List.not_mem_nil, or_false]; rintro e (rfl | rfl); exact hou5.ne hC9.bx (by decide); exact hou5.ne hC9.bY (by decide))) hCB.out.bel.size
      have hoY : OB ((w9.setCell ⟨w.heap.size + 1 + 1 + 1, 0, none⟩ (.slice a5 (stepM (rowI ix k) (clM n ix la p k) (p.getD (used n ix k) [])).length c5)).setCell ⟨w.heap.size + 1 + 1 + 1 + 1, 0, none⟩ (.slice a11 (stepM (rowI ix k) (clM n ix lb q k) (q.getD (used n ix k) [])).length c11)) w.heap.size (.slice a11 (stepM (rowI ix k) (clM n ix lb q k) (q.getD (used n ix k) [])).length c11) (stepM (rowI ix k) (clM n ix lb q k) (q.getD (used n ix k) [])) :=
        OB.mono (hou11.frE hf9 (by simp only [List.mem_cons, List.not_mem_nil, or_false]; rintro e (rfl | rfl); exact hou11.ne hC9.bx (by decide); exact hou11.ne hC9.bY (by decide))) hCB.out.bel.size
      generalize (w9.setCell ⟨w.heap.size + 1 + 1 + 1, 0, none⟩ (.slice a5 (stepM (rowI ix k) (clM n ix la p k) (p.getD (used n ix k) [])).length c5)).setCell ⟨w.heap.size + 1 + 1 + 1 + 1, 0, none⟩ (.slice a11 (stepM (rowI ix k) (clM n ix lb q k) (q.getD (used n ix k) [])).length c11) = W2 at hC11 hf9 hoX hoY ⊢
      have hneX : Hid (∀ e ∈ [g16, g17, w.heap.size + 1, w.heap.size + 1 + 1], Value.ownBlock (.slice a5 (stepM (rowI ix k) (clM n ix la p k) (p.getD (used n ix k) [])).length c5) ≠ some e) := by
        show ∀ e ∈ _, _
        simp only [List.mem_cons, List.not_mem_nil, or_false]
        rintro e (rfl | rfl | rfl | rfl)
        · exact hoX.ne hC11.bA (by decide)
        · exact hoX.ne hC11.bB (by decide)
        · exact hoX.ne hC11.bp (by decide)
        · exact hoX.ne hC11.bq (by decide)
      have hneY : Hid (∀ e ∈ [g16, g17, w.heap.size + 1, w.heap.size + 1 + 1], Value.ownBlock (.slice a11 (stepM (rowI ix k) (clM n ix lb q k) (q.getD (used n ix k) [])).length c11) ≠ some e) := by
        show ∀ e ∈ _, _
        simp only [List.mem_cons, List.not_mem_nil, or_false]
        rintro e (rfl | rfl | rfl | rfl)
        · exact hoY.ne hC11.bA (by decide)
        · exact hoY.ne hC11.bB (by decide)
        · exact hoY.ne hC11.bp (by decide)
        · exact hoY.ne hC11.bq (by decide)
      have hM2 := Lib.hid hC11
      replace hoX := Lib.hid hoX
      replace hoY := Lib.hid hoY
      have hkp := Lib.hid ((((keepsBel hb5'.out).trans (keepsBel hG)).from W0.heap.size).trans (hf9.keeps (by simp; omega)))
      have hzz := Lib.hid (Nat.le_trans (Nat.le_trans hsz hb5'.out.size) (Nat.le_trans hG.size hf9.size))
      clear hC9 hC10 hC11 hf9 hG hou5 hou11 hN7 hCB hb5' bX
      gi_upto_region 8 with fail
      refine wpIn_region_ord lp _ ?_ (by kernel_rfl) (fun L W => MG w W2 (w.heap.size) (w.heap.size + 1) (w.heap.size + 1 + 1) (w.heap.size + 1 + 1 + 1) (w.heap.size + 1 + 1 + 1 + 1) g16 g17 (.slice (some ⟨b, off, none⟩) (p.length - used n ix k) cz) (.slice a1 (p.length - (used n ix k + 1)) c1) (.slice (some ⟨b2, off2, none⟩) (q.length - used n ix k) cz2) (.slice a2 (q.length - (used n ix k + 1)) c2) (.slice a5 (stepM (rowI ix k) (clM n ix la p k) (p.getD (used n ix k) [])).length c5) (.slice a11 (stepM (rowI ix k) (clM n ix lb q k) (q.getD (used n ix k) [])).length c11) (clM n ix la p k) (sha (stepM (rowI ix k) (clM n ix la p k) (p.getD (used n ix k) []))) (clM n ix lb q k) (sha (stepM (rowI ix k) (clM n ix lb q k) (q.getD (used n ix k) []))) (L 10) (L 11) (L 12) (L 13) W) (Fr [g16, g17, w.heap.size + 1, w.heap.size + 1 + 1])
        (fun i v W => match i with
          | 0 => v = .func (.func 21) #[] #[]
          | 1 => v = .slice a5 (stepM (rowI ix k) (clM n ix la p k) (p.getD (used n ix k) [])).length c5
          | 2 => v = .agg (BV (sha (stepM (rowI ix k) (clM n ix la p k) (p.getD (used n ix k) [])))).toArray
          | 3 => v = .func (.func 21) #[] #[]
          | 4 => v = .slice a11 (stepM (rowI ix k) (clM n ix lb q k) (q.getD (used n ix k) [])).length c11
          | 5 => v = .agg (BV (sha (stepM (rowI ix k) (clM n ix lb q k) (q.getD (used n ix k) [])))).toArray
          | 6 => v = .slice (some ⟨b, off, none⟩) (p.length - used n ix k) cz
          | 7 => v = .slice a1 (p.length - (used n ix k + 1)) c1
          | 8 => v = .slice (some ⟨b2, off2, none⟩) (q.length - used n ix k) cz2
          | 9 => v = .slice a2 (q.length - (used n ix k + 1)) c2
          | 10 => True
          | 11 => True
          | 12 => True
          | 13 => True
          | _ => True)
        (by kernel_rfl) (by kernel_rfl) (by kernel_rfl) (by kernel_rfl) ?_ (show MG w W2 _ _ _ _ _ _ _ _ _ _ _ _ _ _ _ _ _ false false false false _ from ⟨hM2.out.step (dN (Below.refl _ _) 1), Fr.of (dN (Below.refl _ _) 1)⟩) ?_ ?_
      · rintro ⟨_, _, h⟩; exact h
      · intro i v W W' hb hF
        match i, hF with
        | 0, h => exact h
        | 1, h => exact h
        | 2, h => exact h
        | 3, h => exact h
        | 4, h => exact h
        | 5, h => exact h
        | 6, h => exact h
        | 7, h => exact h
        | 8, h => exact h
        | 9, h => exact h
        | 10, h => exact h
        | 11, h => exact h
        | 12, h => exact h
        | 13, h => exact h
        | _ + 14, _ => trivial
      · refine ⟨?_, ?_, ?_, ?_, ?_, ?_, ?_, ?_, ?_, ?_, ?_, ?_, ?_, ?_, trivial⟩
        · refine stepO_any rfl fun L ac W hAA hG hL hDD K hK => ?_
          have h7 := hAA.getD (t := 7) (by kernel_rfl)
          simp only [Array.getD_eq_getD_getElem?] at h7
          have k0 := cellAt (i := 0) hG.1.bh rfl
          rw [if_pos (by rfl)]
          exact wp_val (v := .func (.func 21) #[] #[]) (w' := W) (by simp [execOp, Act.eval, h7, go_sem, k0]) (hK _ _ hG (Fr.refl _ _) rfl)
        · refine stepO_any rfl fun L ac W hAA hG hL hDD K hK => ?_
          have h14 := hAA.getD (t := 14) (by kernel_rfl)
          simp only [Array.getD_eq_getD_getElem?] at h14
          have k0 := cellAt (i := 0) hG.1.bx rfl
          rw [if_pos (by rfl)]
          exact wp_val (v := .slice a5 (stepM (rowI ix k) (clM n ix la p k) (p.getD (used n ix k) [])).length c5) (w' := W) (by simp [execOp, Act.eval, h14, go_sem, k0]) (hK _ _ hG (Fr.refl _ _) rfl)
        · refine stepO_any rfl fun L ac W hAA hG hL hDD K hK => ?_
          have h52 := hDD.get 0 52 _ rfl rfl (by kernel_rfl)
          have h53 := hDD.get 1 53 _ rfl rfl (by kernel_rfl)
          rw [if_pos (by rfl)]
          simp only [Array.getD_eq_getD_getElem?] at h52 h53
          refine wp_call (f := 21) (args := #[.slice a5 (stepM (rowI ix k) (clM n ix la p k) (p.getD (used n ix k) [])).length c5]) (by simp [execOp, Act.eval, h52, h53, go_sem]) ((sum_own (hoX.out.frE hG.2 hneX.out) (by rw [hlS.out]; omega) (by rw [hlS.out]; omega) (hTb.out.below hG.1.bel h0) (Nat.lt_of_lt_of_le h0 hG.1.bel.size)).mono fun e W9 he => ?_)
          obtain ⟨rfl, hbw9⟩ := he
          exact hK _ _ (hG.step hbw9) (Fr.of hbw9) rfl
        · refine stepO_any rfl fun L ac W hAA hG hL hDD K hK => ?_
          have h7 := hAA.getD (t := 7) (by kernel_rfl)
          simp only [Array.getD_eq_getD_getElem?] at h7
          have k0 := cellAt (i := 0) hG.1.bh rfl
          rw [if_pos (by rfl)]
          exact wp_val (v := .func (.func 21) #[] #[]) (w' := W) (by simp [execOp, Act.eval, h7, go_sem, k0]) (hK _ _ hG (Fr.refl _ _) rfl)
        · refine stepO_any rfl fun L ac W hAA hG hL hDD K hK => ?_
          have h15 := hAA.getD (t := 15) (by kernel_rfl)
          simp only [Array.getD_eq_getD_getElem?] at h15
          have k0 := cellAt (i := 0) hG.1.bY rfl
          rw [if_pos (by rfl)]
          exact wp_val (v := .slice a11 (stepM (rowI ix k) (clM n ix lb q k) (q.getD (used n ix k) [])).length c11) (w' := W) (by simp [execOp, Act.eval, h15, go_sem, k0]) (hK _ _ hG (Fr.refl _ _) rfl)
        · refine stepO_any rfl fun L ac W hAA hG hL hDD K hK => ?_
          have h55 := hDD.get 3 55 _ rfl rfl (by kernel_rfl)
          have h56 := hDD.get 4 56 _ rfl rfl (by kernel_rfl)
          rw [if_pos (by rfl)]
          simp only [Array.getD_eq_getD_getElem?] at h55 h56
          refine wp_call (f := 21) (args := #[.slice a11 (stepM (rowI ix k) (clM n ix lb q k) (q.getD (used n ix k) [])).length c11]) (by simp [execOp, Act.eval, h55, h56, go_sem]) ((sum_own (hoY.out.frE hG.2 hneY.out) (by rw [hlT.out]; omega) (by rw [hlT.out]; omega) (hTb.out.below hG.1.bel h0) (Nat.lt_of_lt_of_le h0 hG.1.bel.size)).mono fun e W9 he => ?_)
          obtain ⟨rfl, hbw9⟩ := he
          exact hK _ _ (hG.step hbw9) (Fr.of hbw9) rfl
        · refine stepO_any rfl fun L ac W hAA hG hL hDD K hK => ?_
          have h12 := hAA.getD (t := 12) (by kernel_rfl)
          simp only [Array.getD_eq_getD_getElem?] at h12
          have hb12 := hL 12 (by kernel_rfl)
          have kp := hG.1.bp
          rw [hb12] at kp
          have k0 := cellAt (i := 0) (show W.heap[w.heap.size + 1]? = some (.cells #[.slice (some ⟨b, off, none⟩) (p.length - used n ix k) cz] 25 (0, 0)) from kp) rfl
          rw [if_pos (by rfl)]
          exact wp_val (v := .slice (some ⟨b, off, none⟩) (p.length - used n ix k) cz) (w' := W) (by simp [execOp, Act.eval, h12, go_sem, k0]) (hK _ _ hG (Fr.refl _ _) rfl)
        · refine stepO_any rfl fun L ac W hAA hG hL hDD K hK => ?_
          have h58 := hDD.get 6 58 _ rfl rfl (by kernel_rfl)
          simp only [Array.getD_eq_getD_getElem?] at h58
          have hslc := hslc.out W
          rw [if_pos (by rfl)]
          exact wp_val (v := .slice a1 (p.length - (used n ix k + 1)) c1) (w' := W) (by simp [execOp, Act.eval, h58, go_sem, hslc]) (hK _ _ hG (Fr.refl _ _) rfl)
        · refine stepO_any rfl fun L ac W hAA hG hL hDD K hK => ?_
          have h13 := hAA.getD (t := 13) (by kernel_rfl)
          simp only [Array.getD_eq_getD_getElem?] at h13
          have hb13 := hL 13 (by kernel_rfl)
          have kp := hG.1.bq
          rw [hb13] at kp
          have k0 := cellAt (i := 0) (show W.heap[w.heap.size + 1 + 1]? = some (.cells #[.slice (some ⟨b2, off2, none⟩) (q.length - used n ix k) cz2] 25 (0, 0)) from kp) rfl
          rw [if_pos (by rfl)]
          exact wp_val (v := .slice (some ⟨b2, off2, none⟩) (q.length - used n ix k) cz2) (w' := W) (by simp [execOp, Act.eval, h13, go_sem, k0]) (hK _ _ hG (Fr.refl _ _) rfl)
        · refine stepO_any rfl fun L ac W hAA hG hL hDD K hK => ?_
          have h60 := hDD.get 8 60 _ rfl rfl (by kernel_rfl)
          simp only [Array.getD_eq_getD_getElem?] at h60
          have hslc2 := hslc2.out W
          rw [if_pos (by rfl)]
          exact wp_val (v := .slice a2 (q.length - (used n ix k + 1)) c2) (w' := W) (by simp [execOp, Act.eval, h60, go_sem, hslc2]) (hK _ _ hG (Fr.refl _ _) rfl)
        · refine stepO_store rfl fun L ac W hAA hG hL hDD K hK => ?_
          have h16 := hAA.getD (t := 16) (by kernel_rfl)
          have h54 := hDD.get 2 54 _ rfl rfl (by kernel_rfl)
          rw [if_pos (by rfl)]
          have kd := hG.1.bA
          refine wp_store_row 30 (.tmp 16) (.tmp 54) rfl g16 (BV (sha (stepM (rowI ix k) (clM n ix la p k) (p.getD (used n ix k) [])))).toArray h16 h54 30 _ kd (by rw [hi.out, hsS.out]) (by rw [hsS.out, DV_size (by cases L 10 <;> first | exact hlD.out | exact hlS2.out)]) (BV_all _) (hK _ ?_ (Fr.row W _ (by simp)) trivial)
          exact MG.sA hAp.out hG
        · refine stepO_store rfl fun L ac W hAA hG hL hDD K hK => ?_
          have h17 := hAA.getD (t := 17) (by kernel_rfl)
          have h57 := hDD.get 5 57 _ rfl rfl (by kernel_rfl)
          rw [if_pos (by rfl)]
          have kd := hG.1.bB
          refine wp_store_row 30 (.tmp 17) (.tmp 57) rfl g17 (BV (sha (stepM (rowI ix k) (clM n ix lb q k) (q.getD (used n ix k) [])))).toArray h17 h57 30 _ kd (by rw [hi.out, hsT.out]) (by rw [hsT.out, DV_size (by cases L 11 <;> first | exact hlE.out | exact hlT2.out)]) (BV_all _) (hK _ ?_ (Fr.row W _ (by simp)) trivial)
          exact MG.sB hAp.out hG
        · refine stepO_store rfl fun L ac W hAA hG hL hDD K hK => ?_
          have h12 := hAA.getD (t := 12) (by kernel_rfl)
          have h59 := hDD.get 7 59 _ rfl rfl (by kernel_rfl)
          rw [if_pos (by rfl)]
          have kp := hG.1.bp
          refine wp_store_one 25 (.tmp 12) (.tmp 59) rfl (w.heap.size + 1) 0 h12 (.slice a1 (p.length - (used n ix k + 1)) c1) h59 rfl rfl Tryd.sizeOf25 _ (cellAt (i := 0) kp rfl) (frozenAt kp 0) (hK _ ?_ (Fr.cell W _ (by simp)) trivial)
          exact MG.sp hAp.out hG
        · refine stepO_store rfl fun L ac W hAA hG hL hDD K hK => ?_
          have h13 := hAA.getD (t := 13) (by kernel_rfl)
          have h61 := hDD.get 9 61 _ rfl rfl (by kernel_rfl)
          rw [if_pos (by rfl)]
          have kp := hG.1.bq
          refine wp_store_one 25 (.tmp 13) (.tmp 61) rfl (w.heap.size + 1 + 1) 0 h13 (.slice a2 (q.length - (used n ix k + 1)) c2) h61 rfl rfl Tryd.sizeOf25 _ (cellAt (i := 0) kp rfl) (frozenAt kp 0) (hK _ ?_ (Fr.cell W _ (by simp)) trivial)
          exact MG.sq hAp.out hG
      intro L T w10 hL2 hG hF
      have e52 : T 52 = .func (.func 21) #[] #[] := hF 0 _ rfl
      have e53 : T 53 = .slice a5 (stepM (rowI ix k) (clM n ix la p k) (p.getD (used n ix k) [])).length c5 := hF 1 _ rfl
      have e54 : T 54 = .agg (BV (sha (stepM (rowI ix k) (clM n ix la p k) (p.getD (used n ix k) [])))).toArray := hF 2 _ rfl
      have e55 : T 55 = .func (.func 21) #[] #[] := hF 3 _ rfl
      have e56 : T 56 = .slice a11 (stepM (rowI ix k) (clM n ix lb q k) (q.getD (used n ix k) [])).length c11 := hF 4 _ rfl
      have e57 : T 57 = .agg (BV (sha (stepM (rowI ix k) (clM n ix lb q k) (q.getD (used n ix k) [])))).toArray := hF 5 _ rfl
      have e58 : T 58 = .slice (some ⟨b, off, none⟩) (p.length - used n ix k) cz := hF 6 _ rfl
      have e59 : T 59 = .slice a1 (p.length - (used n ix k + 1)) c1 := hF 7 _ rfl
      have e60 : T 60 = .slice (some ⟨b2, off2, none⟩) (q.length - used n ix k) cz2 := hF 8 _ rfl
      have e61 : T 61 = .slice a2 (q.length - (used n ix k + 1)) c2 := hF 9 _ rfl
      clear hF
      simp only [List.take, fillT, List.setIfInBounds_toArray, List.set_cons_zero, List.set_cons_succ, e52, e53, e54, e55, e56, e57, e58, e59, e60, e61]
      clear e52 e53 e54 e55 e56 e57 e58 e59 e60 e61
      have hG2 := hG
      rw [hL2 10 (by decide +kernel), hL2 11 (by decide +kernel), hL2 12 (by decide +kernel), hL2 13 (by decide +kernel)] at hG2
      obtain ⟨hmb2, hfr⟩ := hG2
      clear hG hL2
      gi_wp2
      exact ⟨hkp.out.trans (hfr.keeps (by simp; omega)), trivial, MI.two hL hpv3.out hqv3.out hmb2 (hoX.out.frE hfr hneX.out) (hoY.out.frE hfr hneY.out), Nat.le_trans hzz.out hfr.size, hE'.out⟩
  case done =>
    rintro DD W hD ⟨hmi, hsz, hne⟩ hK
    obtain ⟨vp, vq, vx, vy, -, -, hmb, hox, hoy⟩ := hmi
    obtain ⟨ax5, cx5, rfl, -⟩ := hox.form
    obtain ⟨ay5, cy5, rfl, -⟩ := hoy.form
    replace hmb := Lib.hid hmb
    replace hox := Lib.hid hox
    replace hoy := Lib.hid hoy
    have hKH := Lib.hid hK
    clear hK
    gi_wp2
    go_upto_region 9 with fail
    refine wp_region_ord (fun _ W => FQ w (w.heap.size) (w.heap.size + 1) (w.heap.size + 1 + 1) (w.heap.size + 1 + 1 + 1) (w.heap.size + 1 + 1 + 1 + 1) g16 g17 vp vq (.slice ax5 (txM n ix la p (rows n)).length cx5) (.slice ay5 (txM n ix lb q (rows n)).length cy5) (clM n ix la p (rows n)) (clM n ix lb q (rows n)) (txM n ix la p (rows n)) (txM n ix lb q (rows n)) DD W) (fun _ _ => True)
      (fun i v W => match i with
        | 0 => v = .slice ax5 (txM n ix la p (rows n)).length cx5
        | 1 => v = .slice ay5 (txM n ix lb q (rows n)).length cy5
        | 2 => True
        | 3 => True
        | _ => True)
      (by kernel_rfl) (by kernel_rfl) (by kernel_rfl) (by kernel_rfl) ?_ (⟨hmb.out.step (dN (Below.refl _ _) 1), hox.out.below (dN (Below.refl _ _) 1), hoy.out.below (dN (Below.refl _ _) 1), hKH.out⟩) ?_ ?_
    · intro i v W W' hb hF
      match i, hF with
      | 0, h => exact h
      | 1, h => exact h
      | 2, h => exact h
      | 3, h => exact h
      | _ + 4, _ => trivial
    · refine ⟨?_, ?_, ?_, ?_, trivial⟩
      · refine stepO_any rfl fun L ac W hAA hG hL hDD K hK => ?_
        have h14 := hAA.getD (t := 14) (by kernel_rfl)
        simp only [Array.getD_eq_getD_getElem?] at h14
        have k0 := cellAt (i := 0) hG.1.bx rfl
        rw [if_pos (by rfl)]
        exact wp_val (v := .slice ax5 (txM n ix la p (rows n)).length cx5) (w' := W) (by simp [execOp, Act.eval, h14, go_sem, k0]) (hK _ _ hG trivial rfl)
      · refine stepO_any rfl fun L ac W hAA hG hL hDD K hK => ?_
        have h15 := hAA.getD (t := 15) (by kernel_rfl)
        simp only [Array.getD_eq_getD_getElem?] at h15
        have k0 := cellAt (i := 0) hG.1.bY rfl
        rw [if_pos (by rfl)]
        exact wp_val (v := .slice ay5 (txM n ix lb q (rows n)).length cy5) (w' := W) (by simp [execOp, Act.eval, h15, go_sem, k0]) (hK _ _ hG trivial rfl)
      · refine stepO_store rfl fun L ac W hAA hG hL hDD K hK => ?_
        have h14 := hAA.getD (t := 14) (by kernel_rfl)
        have h62 := hDD.get 0 62 _ rfl rfl (by kernel_rfl)
        rw [if_pos (by rfl)]
        have kp := hG.1.bx
        refine wp_store_one 34 (.tmp 14) (.tmp 62) rfl (w.heap.size + 1 + 1 + 1) 0 h14 (.slice ax5 (txM n ix la p (rows n)).length cx5) h62 rfl rfl Tryd.sizeOf34 _ (cellAt (i := 0) kp rfl) (frozenAt kp 0) (hK _ ?_ trivial trivial)
        exact FQ.x hAp.out (by omega) hG
      · refine stepO_store rfl fun L ac W hAA hG hL hDD K hK => ?_
        have h15 := hAA.getD (t := 15) (by kernel_rfl)
        have h63 := hDD.get 1 63 _ rfl rfl (by kernel_rfl)
        rw [if_pos (by rfl)]
        have kp := hG.1.bY
        refine wp_store_one 34 (.tmp 15) (.tmp 63) rfl (w.heap.size + 1 + 1 + 1 + 1) 0 h15 (.slice ay5 (txM n ix lb q (rows n)).length cy5) h63 rfl rfl Tryd.sizeOf34 _ (cellAt (i := 0) kp rfl) (frozenAt kp 0) (hK _ ?_ trivial trivial)
        exact FQ.y hAp.out (by omega) hG
    intro L T w10 _ hG hF
    have e62 : T 62 = .slice ax5 (txM n ix la p (rows n)).length cx5 := hF 0 _ rfl
    have e63 : T 63 = .slice ay5 (txM n ix lb q (rows n)).length cy5 := hF 1 _ rfl
    clear hF
    simp only [List.take, fillT, List.setIfInBounds_toArray, List.set_cons_zero, List.set_cons_succ, e62, e63]
    clear e62 e63
    obtain ⟨hm9, hx9, hy9, hK2⟩ := hG
    go_wp2_with fail
    have hgr := fun r (e : some DD = some r) => (show ∃ o : Obj, w10.heap[r]? = some o ∧ o.isCells = false by cases e; exact ⟨_, hK2, rfl⟩)
    refine ⟨by simp, .inl ⟨_, _, rfl, run_takeDeferred hK2, ?_⟩⟩
    have hcx := cell_kept (cellAt (i := 0) hm9.bx rfl) (grownBy_putObj' _ DD (.deferred none)) hgr
    have hcy := cell_kept (cellAt (i := 0) hm9.bY rfl) (grownBy_putObj' _ DD (.deferred none)) hgr
    refine ⟨.tuple #[.slice ax5 (txM n ix la p (rows n)).length cx5, .slice ay5 (txM n ix lb q (rows n)).length cy5], ?_, ⟨_, _, (rows n), rfl, hx9.own (grownBy_putObj' _ DD (.deferred none)) hgr, hy9.own (grownBy_putObj' _ DD (.deferred none)) hgr, Nat.le_refl _, hne, fun h => absurd h (Nat.lt_irrefl _)⟩, hm9.bel.trans (belowK_b (w := w) (Nat.le_refl _) _ DD _ _ (by omega) hK2 rfl rfl)⟩
    simp [results, Tryd.results52, go_sem, hcx, hcy]
  case stop =>
    rintro DD c k W hD hk ⟨rfl, hmi, hE, hne⟩ hK
    obtain ⟨vp, vq, vx, vy, -, -, hmb, hox, hoy⟩ := hmi
    obtain ⟨ax5, cx5, rfl, -⟩ := hox.form
    obtain ⟨ay5, cy5, rfl, -⟩ := hoy.form
    replace hmb := Lib.hid hmb
    replace hox := Lib.hid hox
    replace hoy := Lib.hid hoy
    have hKH := Lib.hid hK
    clear hK
    gi_wp2
    go_upto_region 9 with fail
    refine wp_region_ord (fun _ W => FQ w (w.heap.size) (w.heap.size + 1) (w.heap.size + 1 + 1) (w.heap.size + 1 + 1 + 1) (w.heap.size + 1 + 1 + 1 + 1) g16 g17 vp vq (.slice ax5 (txM n ix la p k).length cx5) (.slice ay5 (txM n ix lb q k).length cy5) (clM n ix la p k) (clM n ix lb q k) (txM n ix la p k) (txM n ix lb q k) DD W) (fun _ _ => True)
      (fun i v W => match i with
        | 0 => v = .slice ax5 (txM n ix la p k).length cx5
        | 1 => v = .slice ay5 (txM n ix lb q k).length cy5
        | 2 => True
        | 3 => True
        | _ => True)
      (by kernel_rfl) (by kernel_rfl) (by kernel_rfl) (by kernel_rfl) ?_ (⟨hmb.out.step (dN (Below.refl _ _) 1), hox.out.below (dN (Below.refl _ _) 1), hoy.out.below (dN (Below.refl _ _) 1), hKH.out⟩) ?_ ?_
    · intro i v W W' hb hF
      match i, hF with
      | 0, h => exact h
      | 1, h => exact h
      | 2, h => exact h
      | 3, h => exact h
      | _ + 4, _ => trivial
    · refine ⟨?_, ?_, ?_, ?_, trivial⟩
      · refine stepO_any rfl fun L ac W hAA hG hL hDD K hK => ?_
        have h14 := hAA.getD (t := 14) (by kernel_rfl)
        simp only [Array.getD_eq_getD_getElem?] at h14
        have k0 := cellAt (i := 0) hG.1.bx rfl
        rw [if_pos (by rfl)]
        exact wp_val (v := .slice ax5 (txM n ix la p k).length cx5) (w' := W) (by simp [execOp, Act.eval, h14, go_sem, k0]) (hK _ _ hG trivial rfl)
      · refine stepO_any rfl fun L ac W hAA hG hL hDD K hK => ?_
        have h15 := hAA.getD (t := 15) (by kernel_rfl)
        simp only [Array.getD_eq_getD_getElem?] at h15
        have k0 := cellAt (i := 0) hG.1.bY rfl
        rw [if_pos (by rfl)]
        exact wp_val (v := .slice ay5 (txM n ix lb q k).length cy5) (w' := W) (by simp [execOp, Act.eval, h15, go_sem, k0]) (hK _ _ hG trivial rfl)
      · refine stepO_store rfl fun L ac W hAA hG hL hDD K hK => ?_
        have h14 := hAA.getD (t := 14) (by kernel_rfl)
        have h62 := hDD.get 0 62 _ rfl rfl (by kernel_rfl)
        rw [if_pos (by rfl)]
        have kp := hG.1.bx
        refine wp_store_one 34 (.tmp 14) (.tmp 62) rfl (w.heap.size + 1 + 1 + 1) 0 h14 (.slice ax5 (txM n ix la p k).length cx5) h62 rfl rfl Tryd.sizeOf34 _ (cellAt (i := 0) kp rfl) (frozenAt kp 0) (hK _ ?_ trivial trivial)
        exact FQ.x hAp.out (by omega) hG
      · refine stepO_store rfl fun L ac W hAA hG hL hDD K hK => ?_
        have h15 := hAA.getD (t := 15) (by kernel_rfl)
        have h63 := hDD.get 1 63 _ rfl rfl (by kernel_rfl)
        rw [if_pos (by rfl)]
        have kp := hG.1.bY
        refine wp_store_one 34 (.tmp 15) (.tmp 63) rfl (w.heap.size + 1 + 1 + 1 + 1) 0 h15 (.slice ay5 (txM n ix lb q k).length cy5) h63 rfl rfl Tryd.sizeOf34 _ (cellAt (i := 0) kp rfl) (frozenAt kp 0) (hK _ ?_ trivial trivial)
        exact FQ.y hAp.out (by omega) hG
    intro L T w10 _ hG hF
    have e62 : T 62 = .slice ax5 (txM n ix la p k).length cx5 := hF 0 _ rfl
    have e63 : T 63 = .slice ay5 (txM n ix lb q k).length cy5 := hF 1 _ rfl
    clear hF
    simp only [List.take, fillT, List.setIfInBounds_toArray, List.set_cons_zero, List.set_cons_succ, e62, e63]
    clear e62 e63
    obtain ⟨hm9, hx9, hy9, hK2⟩ := hG
    go_wp2_with fail
    have hgr := fun r (e : some DD = some r) => (show ∃ o : Obj, w10.heap[r]? = some o ∧ o.isCells = false by cases e; exact ⟨_, hK2, rfl⟩)
    refine ⟨by simp, .inl ⟨_, _, rfl, run_takeDeferred hK2, ?_⟩⟩
    have hcx := cell_kept (cellAt (i := 0) hm9.bx rfl) (grownBy_putObj' _ DD (.deferred none)) hgr
    have hcy := cell_kept (cellAt (i := 0) hm9.bY rfl) (grownBy_putObj' _ DD (.deferred none)) hgr
    refine ⟨.tuple #[.slice ax5 (txM n ix la p k).length cx5, .slice ay5 (txM n ix lb q k).length cy5], ?_, ⟨_, _, k, rfl, hx9.own (grownBy_putObj' _ DD (.deferred none)) hgr, hy9.own (grownBy_putObj' _ DD (.deferred none)) hgr, by omega, hne, fun _ => hE⟩, hm9.bel.trans (belowK_b (w := w) (Nat.le_refl _) _ DD _ _ (by omega) hK2 rfl rfl)⟩
    simp [results, Tryd.results52, go_sem, hcx, hcy]
end Go.Proofs.YtgddfdejkmnfkaaDoor
