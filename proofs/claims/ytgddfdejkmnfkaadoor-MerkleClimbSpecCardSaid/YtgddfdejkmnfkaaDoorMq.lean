/- climb. -/
import Derived.Test.YtgddfdejkmnfkaaDoorMl
namespace Go.Proofs.YtgddfdejkmnfkaaDoor
open Go.RowKit Go.Shelf
attribute [local go_sem] Oper.semAt_some

set_option maxRecDepth 100000 in
set_option maxHeartbeats 2000000 in
theorem hclimb_place (n i : Int) (hp : isPl n i = false) (leaf : List UInt8) (p : List (List UInt8)) (w : World) (A Ap : Option Addr) (c cp : Nat) :
    Calls Tryd.prog 32 #[.func (.func 21) #[] #[], .int .i64 n, .int .i64 i, .slice A leaf.length c, .slice Ap p.length cp] w fun e w' => e = .returned (.tuple #[.agg (BV (climbP n i leaf p).1).toArray, .int .i64 (climbP n i leaf p).2]) ∧ Below w.heap.size w w' := by
  have hv := Lib.hid (show climbP n i leaf p = (zeroD, 1) by unfold climbP; rw [if_pos hp])
  have hu : Tryd.prog.underlying 30 = some (.array 32 5) := by kernel_rfl
  have hi : (Tryd.prog.info? 30).map (·.size) = some 32 := by kernel_rfl
  have hn0 := CB.new w (.slice Ap p.length cp)
  obtain ⟨V, hV⟩ : ∃ V, (((w.alloc (.cells #[.func (.func 21) #[] #[]] 45)).alloc (.cells #[.slice Ap p.length cp] 25)).alloc (.cells #[.int .u8 0, .int .u8 0, .int .u8 0, .int .u8 0, .int .u8 0, .int .u8 0, .int .u8 0, .int .u8 0, .int .u8 0, .int .u8 0, .int .u8 0, .int .u8 0, .int .u8 0, .int .u8 0, .int .u8 0, .int .u8 0, .int .u8 0, .int .u8 0, .int .u8 0, .int .u8 0, .int .u8 0, .int .u8 0, .int .u8 0, .int .u8 0, .int .u8 0, .int .u8 0, .int .u8 0, .int .u8 0, .int .u8 0, .int .u8 0, .int .u8 0, .int .u8 0] 30)) = V := ⟨_, rfl⟩
  rw [hV] at hn0
  replace hV := Lib.hid hV
  go_enter Tryd.func32, Tryd.ntmps32
  go_wp2_with fail
  rw [hV.out]
  refine (isPlace_any n i _).mono ?_
  rintro e w2 ⟨rfl, hb2⟩
  rw [hp]
  have hn2 := hn0.step hb2
  clear hn0 hb2 hp
  have hd2 : w2.heap[w.heap.size + 1 + 1]? = some (.cells (BV zeroD).toArray 30 (0, 0)) := hn2.bd
  have hsz : (BV zeroD).toArray.size = 32 := rfl
  have hB2 := Lib.hid hn2.bel
  replace hsz := Lib.hid hsz
  go_wp2_with (first
    | (refine wpList_load_row rfl 30 _ rfl (w.heap.size + 1 + 1) rfl 30 _ (0, 0) _ hd2 hu rfl ?ci ?_; case ci => rw [hi, hsz.out])
    | (refine wpList_store_row rfl 30 _ _ rfl (w.heap.size + 1 + 1) _ rfl rfl 30 _ hd2 ?cj rfl ?ck ?_; case cj => rw [hi, hsz.out]
       case ck => exact BV_all _))
  have hrow := setRow_heap w2 (w.heap.size + 1 + 1) _ (BV zeroD).toArray _ _ hd2
  exact bodyPost_ret (results_row_tmp rfl _ _ (w.heap.size + 1 + 1) 30 _ (0, 0) _ rfl hrow hu rfl (by rw [hi, hsz.out])) rfl ⟨by rw [hv.out]; rfl, below_row hB2.out _ (by omega) hB2.out.size⟩

set_option maxRecDepth 100000 in
set_option maxHeartbeats 2000000 in
theorem hclimb_path (n ix : Nat) (hn : n ≤ 65536) (hi0 : ix < n) (leaf : List UInt8) (p : List (List UInt8)) (hpl : p.length ≠ pathN n ix) (w : World) (A Ap : Option Addr) (c cp : Nat) :
    Calls Tryd.prog 32 #[.func (.func 21) #[] #[], .int .i64 (n : Int), .int .i64 (ix : Int), .slice A leaf.length c, .slice Ap p.length cp] w fun e w' => e = .returned (.tuple #[.agg (BV (climbP n ix leaf p).1).toArray, .int .i64 (climbP n ix leaf p).2]) ∧ Below w.heap.size w w' := by
  have hp : isPl n ix = true := isPl_iff.2 (by omega)
  have hv := Lib.hid (show climbP n ix leaf p = (zeroD, 70) by unfold climbP; rw [if_neg (by rw [hp]; decide), if_pos (by simpa using hpl)])
  have hne := Lib.hid (show ((p.length : Int) != (pathN n ix : Int)) = true by simp only [bne_iff_ne, ne_eq]; omega)
  have hu : Tryd.prog.underlying 30 = some (.array 32 5) := by kernel_rfl
  have hi : (Tryd.prog.info? 30).map (·.size) = some 32 := by kernel_rfl
  have hn0 := CB.new w (.slice Ap p.length cp)
  obtain ⟨V, hV⟩ : ∃ V, (((w.alloc (.cells #[.func (.func 21) #[] #[]] 45)).alloc (.cells #[.slice Ap p.length cp] 25)).alloc (.cells #[.int .u8 0, .int .u8 0, .int .u8 0, .int .u8 0, .int .u8 0, .int .u8 0, .int .u8 0, .int .u8 0, .int .u8 0, .int .u8 0, .int .u8 0, .int .u8 0, .int .u8 0, .int .u8 0, .int .u8 0, .int .u8 0, .int .u8 0, .int .u8 0, .int .u8 0, .int .u8 0, .int .u8 0, .int .u8 0, .int .u8 0, .int .u8 0, .int .u8 0, .int .u8 0, .int .u8 0, .int .u8 0, .int .u8 0, .int .u8 0, .int .u8 0, .int .u8 0] 30)) = V := ⟨_, rfl⟩
  rw [hV] at hn0
  replace hV := Lib.hid hV
  go_enter Tryd.func32, Tryd.ntmps32
  go_wp2_with fail
  rw [hV.out]
  refine (isPlace_any n ix _).mono ?_
  rintro e w1 ⟨rfl, hb1⟩
  rw [hp]
  have hn1 := hn0.step hb1
  have hN : Hid (∀ W, Below w1.heap.size w1 W → W.cell? ⟨w.heap.size + 1, 0, none⟩ = some (.slice Ap p.length cp)) := fun W hW => cellAt (i := 0) (blk_at hn1.bp hW) rfl
  clear hn0 hb1 hp
  go_upto_region 3 with fail
  refine wp_region_pre 6 0 (fun W => Below w1.heap.size w1 W) (fun W W' => Below W.heap.size W W')
    (fun i v W => match i with
      | 0 => v = .slice Ap p.length cp
      | 1 => v = .int .i64 (p.length : Nat)
      | 2 => v = .int .i64 (n : Int)
      | 3 => v = .int .i64 (ix : Int)
      | 4 => v = .int .i64 (pathN n ix : Int)
      | 5 => v = .bool true
      | _ => True) (fun _ => false)
    (by kernel_rfl) (by kernel_rfl) (by kernel_rfl) (by kernel_rfl) (by kernel_rfl) (by kernel_rfl) (by kernel_rfl) ?_ (fun _ _ h => h.size) (dN (Below.refl _ _) 1) ?_ ?_
  · intro i v W W' hb hF
    match i, hF with
    | 0, h => exact h
    | 1, h => exact h
    | 2, h => exact h
    | 3, h => exact h
    | 4, h => exact h
    | 5, h => exact h
    | _ + 6, _ => trivial
  · refine ⟨?_, ?_, ?_, ?_, ?_, ?_, trivial⟩
    · refine stepJ_any rfl fun ac W hAA hG hDD K hK => ?_
      have h9 := hAA.getD (t := 9) (by kernel_rfl)
      simp only [Array.getD_eq_getD_getElem?] at h9
      have k0 := hN.out W hG
      rw [if_pos (by rfl)]
      exact wp_val (v := .slice Ap p.length cp) (w' := W) (by simp [execOp, Act.eval, h9, go_sem, k0]) (hK _ _ hG (Below.refl _ _) rfl (fun h => by cases h))
    · refine stepJ_any rfl fun ac W hAA hG hDD K hK => ?_
      have h18 := hDD.get 0 18 _ rfl rfl (by kernel_rfl)
      simp only [Array.getD_eq_getD_getElem?] at h18
      rw [if_pos (by rfl)]
      exact wp_val (v := .int .i64 (p.length : Nat)) (w' := W) (by simp [execOp, Act.eval, h18, go_sem]) (hK _ _ hG (Below.refl _ _) rfl (fun h => by cases h))
    · refine stepJ_any rfl fun ac W hAA hG hDD K hK => ?_
      have h1 := hAA.getD (t := 1) (by kernel_rfl)
      simp only [Array.getD_eq_getD_getElem?] at h1
      rw [if_pos (by rfl)]
      exact wp_val (v := .int .i64 (n : Int)) (w' := W) (by simp [execOp, Act.eval, h1, go_sem]) (hK _ _ hG (Below.refl _ _) rfl (fun h => by cases h))
    · refine stepJ_any rfl fun ac W hAA hG hDD K hK => ?_
      have h2 := hAA.getD (t := 2) (by kernel_rfl)
      simp only [Array.getD_eq_getD_getElem?] at h2
      rw [if_pos (by rfl)]
      exact wp_val (v := .int .i64 (ix : Int)) (w' := W) (by simp [execOp, Act.eval, h2, go_sem]) (hK _ _ hG (Below.refl _ _) rfl (fun h => by cases h))
    · refine stepJ_any rfl fun ac W hAA hG hDD K hK => ?_
      have h20 := hDD.get 2 20 _ rfl rfl (by kernel_rfl)
      have h21 := hDD.get 3 21 _ rfl rfl (by kernel_rfl)
      simp only [Array.getD_eq_getD_getElem?] at h20 h21
      rw [if_pos (by rfl)]
      refine wp_call (f := 49) (args := #[.int .i64 (n : Int), .int .i64 (ix : Int)]) (by simp [execOp, Act.eval, h20, h21, go_sem]) ((pathLen_any n ix hn hi0 W).mono fun e W9 he => ?_)
      obtain ⟨rfl, hbw⟩ := he
      exact hK _ _ (hG.trans (hbw.mono hG.size)) hbw rfl (fun h => by cases h)
    · refine stepJ_any rfl fun ac W hAA hG hDD K hK => ?_
      have h19 := hDD.get 1 19 _ rfl rfl (by kernel_rfl)
      have h22 := hDD.get 4 22 _ rfl rfl (by kernel_rfl)
      simp only [Array.getD_eq_getD_getElem?] at h19 h22
      have hne := hne.out
      rw [if_pos (by rfl)]
      exact wp_val (v := .bool true) (w' := W) (by simp [execOp, Act.eval, h19, h22, go_sem, hne]) (hK _ _ hG (Below.refl _ _) rfl (fun h => by cases h))
  intro fu T w2 hG hF hne hltb
  have e18 : T 18 = .slice Ap p.length cp := hF 0 _ rfl (by omega)
  have e19 : T 19 = .int .i64 (p.length : Nat) := hF 1 _ rfl (by omega)
  have e20 : T 20 = .int .i64 (n : Int) := hF 2 _ rfl (by omega)
  have e21 : T 21 = .int .i64 (ix : Int) := hF 3 _ rfl (by omega)
  have e22 : T 22 = .int .i64 (pathN n ix : Int) := hF 4 _ rfl (by omega)
  have e23 : T 23 = .bool true := hF 5 _ rfl (by omega)
  clear hF hne hltb
  simp only [List.take, fillT, List.setIfInBounds_toArray, List.set_cons_zero, List.set_cons_succ, e18, e19, e20, e21, e22, e23]
  clear e18 e19 e20 e21 e22 e23
  refine wpAny_done (by kernel_rfl) ?_ _
  have hn2 := hn1.step hG
  clear hn1 hG hN
  have hd2 : w2.heap[w.heap.size + 1 + 1]? = some (.cells (BV zeroD).toArray 30 (0, 0)) := hn2.bd
  have hsz : (BV zeroD).toArray.size = 32 := rfl
  have hB2 := Lib.hid hn2.bel
  replace hsz := Lib.hid hsz
  go_wp2_with (first
    | (refine wpList_load_row rfl 30 _ rfl (w.heap.size + 1 + 1) rfl 30 _ (0, 0) _ hd2 hu rfl ?ci ?_; case ci => rw [hi, hsz.out])
    | (refine wpList_store_row rfl 30 _ _ rfl (w.heap.size + 1 + 1) _ rfl rfl 30 _ hd2 ?cj rfl ?ck ?_; case cj => rw [hi, hsz.out]
       case ck => exact BV_all _))
  have hrow := setRow_heap w2 (w.heap.size + 1 + 1) _ (BV zeroD).toArray _ _ hd2
  exact bodyPost_ret (results_row_tmp rfl _ _ (w.heap.size + 1 + 1) 30 _ (0, 0) _ rfl hrow hu rfl (by rw [hi, hsz.out])) rfl ⟨by rw [hv.out]; rfl, below_row hB2.out _ (by omega) hB2.out.size⟩

set_option maxRecDepth 100000 in
set_option maxHeartbeats 4000000 in
theorem hclimb_good (n ix : Nat) (hn : n ≤ 65536) (hi0 : ix < n) (leaf : List UInt8) (hl : leaf.length ≤ 800000) (p : List (List UInt8)) (hpl : p.length = pathN n ix) (w : World) (A Ap : Option Addr) (c cp : Nat) (hr : RBs w w.heap.size A leaf) (hA : A = none → leaf = []) (hR : RD w w.heap.size p Ap cp) (hT : KT w) (h0 : 0 < w.heap.size) :
    Calls Tryd.prog 32 #[.func (.func 21) #[] #[], .int .i64 (n : Int), .int .i64 (ix : Int), .slice A leaf.length c, .slice Ap p.length cp] w fun e w' => e = .returned (.tuple #[.agg (BV (climbP n ix leaf p).1).toArray, .int .i64 (climbP n ix leaf p).2]) ∧ Below w.heap.size w w' := by
  have hp : isPl n ix = true := isPl_iff.2 (by omega)
  have hv := Lib.hid (show climbP n ix leaf p = (clM n ix leaf p (rows n), 0) by unfold climbP; rw [if_neg (by rw [hp]; decide), if_neg (by simpa using hpl)]; rfl)
  have hne := Lib.hid (show ((p.length : Int) != (pathN n ix : Int)) = false by simp only [bne_eq_false_iff_eq]; omega)
  have hRH := Lib.hid hR
  have hplH := Lib.hid hpl
  have hTb := Lib.hid hT
  clear hR hpl hT
  have hu : Tryd.prog.underlying 30 = some (.array 32 5) := by kernel_rfl
  have hi : (Tryd.prog.info? 30).map (·.size) = some 32 := by kernel_rfl
  have hn0 := CB.new w (.slice Ap p.length cp)
  obtain ⟨V, hV⟩ : ∃ V, (((w.alloc (.cells #[.func (.func 21) #[] #[]] 45)).alloc (.cells #[.slice Ap p.length cp] 25)).alloc (.cells #[.int .u8 0, .int .u8 0, .int .u8 0, .int .u8 0, .int .u8 0, .int .u8 0, .int .u8 0, .int .u8 0, .int .u8 0, .int .u8 0, .int .u8 0, .int .u8 0, .int .u8 0, .int .u8 0, .int .u8 0, .int .u8 0, .int .u8 0, .int .u8 0, .int .u8 0, .int .u8 0, .int .u8 0, .int .u8 0, .int .u8 0, .int .u8 0, .int .u8 0, .int .u8 0, .int .u8 0, .int .u8 0, .int .u8 0, .int .u8 0, .int .u8 0, .int .u8 0] 30)) = V := ⟨_, rfl⟩
  rw [hV] at hn0
  replace hV := Lib.hid hV
  refine (callsIn_wide (n := 9)).1 ?_
  refine callsIn_of_wp_marks Tryd.func32 rfl trivial ?_ rfl
  refine wpIn_wide.2 ?_
  simp only [Tryd.ntmps32, List.size_toArray, List.length_cons, List.length_nil, Nat.reduceAdd, Nat.reduceSub, Array.replicate_succ, Array.replicate_zero, List.push_toArray, List.append_toArray, List.nil_append, List.cons_append]
  go_wp2_with fail
  rw [hV.out]
  refine (isPlace_any n ix _).mono ?_
  rintro e w1 ⟨rfl, hb1⟩
  rw [hp]
  have hn1 := hn0.step hb1
  have hN : Hid (∀ W, Below w1.heap.size w1 W → W.cell? ⟨w.heap.size + 1, 0, none⟩ = some (.slice Ap p.length cp)) := fun W hW => cellAt (i := 0) (blk_at hn1.bp hW) rfl
  clear hn0 hb1 hp
  go_upto_region 3 with fail
  refine wp_region_pre 6 0 (fun W => Below w1.heap.size w1 W) (fun W W' => Below W.heap.size W W')
    (fun i v W => match i with
      | 0 => v = .slice Ap p.length cp
      | 1 => v = .int .i64 (p.length : Nat)
      | 2 => v = .int .i64 (n : Int)
      | 3 => v = .int .i64 (ix : Int)
      | 4 => v = .int .i64 (pathN n ix : Int)
      | 5 => v = .bool false
      | _ => True) (fun _ => false)
    (by kernel_rfl) (by kernel_rfl) (by kernel_rfl) (by kernel_rfl) (by kernel_rfl) (by kernel_rfl) (by kernel_rfl) ?_ (fun _ _ h => h.size) (dN (Below.refl _ _) 1) ?_ ?_
  · intro i v W W' hb hF
    match i, hF with
    | 0, h => exact h
    | 1, h => exact h
    | 2, h => exact h
    | 3, h => exact h
    | 4, h => exact h
    | 5, h => exact h
    | _ + 6, _ => trivial
  · refine ⟨?_, ?_, ?_, ?_, ?_, ?_, trivial⟩
    · refine stepJ_any rfl fun ac W hAA hG hDD K hK => ?_
      have h9 := hAA.getD (t := 9) (by kernel_rfl)
      simp only [Array.getD_eq_getD_getElem?] at h9
      have k0 := hN.out W hG
      rw [if_pos (by rfl)]
      exact wp_val (v := .slice Ap p.length cp) (w' := W) (by simp [execOp, Act.eval, h9, go_sem, k0]) (hK _ _ hG (Below.refl _ _) rfl (fun h => by cases h))
    · refine stepJ_any rfl fun ac W hAA hG hDD K hK => ?_
      have h18 := hDD.get 0 18 _ rfl rfl (by kernel_rfl)
      simp only [Array.getD_eq_getD_getElem?] at h18
      rw [if_pos (by rfl)]
      exact wp_val (v := .int .i64 (p.length : Nat)) (w' := W) (by simp [execOp, Act.eval, h18, go_sem]) (hK _ _ hG (Below.refl _ _) rfl (fun h => by cases h))
    · refine stepJ_any rfl fun ac W hAA hG hDD K hK => ?_
      have h1 := hAA.getD (t := 1) (by kernel_rfl)
      simp only [Array.getD_eq_getD_getElem?] at h1
      rw [if_pos (by rfl)]
      exact wp_val (v := .int .i64 (n : Int)) (w' := W) (by simp [execOp, Act.eval, h1, go_sem]) (hK _ _ hG (Below.refl _ _) rfl (fun h => by cases h))
    · refine stepJ_any rfl fun ac W hAA hG hDD K hK => ?_
      have h2 := hAA.getD (t := 2) (by kernel_rfl)
      simp only [Array.getD_eq_getD_getElem?] at h2
      rw [if_pos (by rfl)]
      exact wp_val (v := .int .i64 (ix : Int)) (w' := W) (by simp [execOp, Act.eval, h2, go_sem]) (hK _ _ hG (Below.refl _ _) rfl (fun h => by cases h))
    · refine stepJ_any rfl fun ac W hAA hG hDD K hK => ?_
      have h20 := hDD.get 2 20 _ rfl rfl (by kernel_rfl)
      have h21 := hDD.get 3 21 _ rfl rfl (by kernel_rfl)
      simp only [Array.getD_eq_getD_getElem?] at h20 h21
      rw [if_pos (by rfl)]
      refine wp_call (f := 49) (args := #[.int .i64 (n : Int), .int .i64 (ix : Int)]) (by simp [execOp, Act.eval, h20, h21, go_sem]) ((pathLen_any n ix hn hi0 W).mono fun e W9 he => ?_)
      obtain ⟨rfl, hbw⟩ := he
      exact hK _ _ (hG.trans (hbw.mono hG.size)) hbw rfl (fun h => by cases h)
    · refine stepJ_any rfl fun ac W hAA hG hDD K hK => ?_
      have h19 := hDD.get 1 19 _ rfl rfl (by kernel_rfl)
      have h22 := hDD.get 4 22 _ rfl rfl (by kernel_rfl)
      simp only [Array.getD_eq_getD_getElem?] at h19 h22
      have hne := hne.out
      rw [if_pos (by rfl)]
      exact wp_val (v := .bool false) (w' := W) (by simp [execOp, Act.eval, h19, h22, go_sem, hne]) (hK _ _ hG (Below.refl _ _) rfl (fun h => by cases h))
  intro fu T w2 hG hF hne hltb
  have e18 : T 18 = .slice Ap p.length cp := hF 0 _ rfl (by omega)
  have e19 : T 19 = .int .i64 (p.length : Nat) := hF 1 _ rfl (by omega)
  have e20 : T 20 = .int .i64 (n : Int) := hF 2 _ rfl (by omega)
  have e21 : T 21 = .int .i64 (ix : Int) := hF 3 _ rfl (by omega)
  have e22 : T 22 = .int .i64 (pathN n ix : Int) := hF 4 _ rfl (by omega)
  have e23 : T 23 = .bool false := hF 5 _ rfl (by omega)
  clear hF hne hltb
  simp only [List.take, fillT, List.setIfInBounds_toArray, List.set_cons_zero, List.set_cons_succ, e18, e19, e20, e21, e22, e23]
  clear e18 e19 e20 e21 e22 e23
  refine wpAny_done (by kernel_rfl) ?_ _
  have hn2 := Lib.hid (hn1.step hG)
  have hN5 : Hid (∀ W, Below w2.heap.size w2 W → W.cell? ⟨w.heap.size, 0, none⟩ = some (.func (.func 21) #[] #[])) := fun W hW => cellAt (i := 0) (blk_at hn2.out.bh hW) rfl
  clear hn1 hG hN
  go_upto_region 5 with fail
  refine wp_region_pre 4 1 (fun W => Below w2.heap.size w2 W) (fun W W' => Below W.heap.size W W')
    (fun i v W => match i with
      | 0 => v = .func (.func 21) #[] #[]
      | 1 => v = .slice A leaf.length c
      | 2 => ∃ u, v = u ∧ OB W w2.heap.size u (leafM leaf)
      | 3 => v = .agg (BV (sha (leafM leaf))).toArray
      | _ => True) (fun _ => false)
    (by kernel_rfl) (by kernel_rfl) (by kernel_rfl) (by kernel_rfl) (by kernel_rfl) (by kernel_rfl) (by kernel_rfl) ?_ (fun _ _ h => h.size) (dN (Below.refl _ _) 1) ?_ ?_
  · intro i v W W' hb hF
    match i, hF with
    | 0, h => exact h
    | 1, h => exact h
    | 2, ⟨u, h1, h2⟩ => exact ⟨u, h1, h2.below hb⟩
    | 3, h => exact h
    | _ + 4, _ => trivial
  · refine ⟨?_, ?_, ?_, ?_, trivial⟩
    · refine stepJ_any rfl fun ac W hAA hG hDD K hK => ?_
      have h5 := hAA.getD (t := 5) (by kernel_rfl)
      simp only [Array.getD_eq_getD_getElem?] at h5
      have k0 := hN5.out W hG
      rw [if_pos (by rfl)]
      exact wp_val (v := .func (.func 21) #[] #[]) (w' := W) (by simp [execOp, Act.eval, h5, go_sem, k0]) (hK _ _ hG (Below.refl _ _) rfl (fun h => by cases h))
    · refine stepJ_any rfl fun ac W hAA hG hDD K hK => ?_
      have h3 := hAA.getD (t := 3) (by kernel_rfl)
      simp only [Array.getD_eq_getD_getElem?] at h3
      rw [if_pos (by rfl)]
      exact wp_val (v := .slice A leaf.length c) (w' := W) (by simp [execOp, Act.eval, h3, go_sem]) (hK _ _ hG (Below.refl _ _) rfl (fun h => by cases h))
    · refine stepJ_any rfl fun ac W hAA hG hDD K hK => ?_
      have h26 := hDD.get 1 26 _ rfl rfl (by kernel_rfl)
      rw [if_pos (by rfl)]
      simp only [Array.getD_eq_getD_getElem?] at h26
      refine wp_call (f := 42) (args := #[.slice A leaf.length c]) (by simp [execOp, Act.eval, h26, go_sem]) ((leafText_any leaf (by omega) W A c (hr.lift (hn2.out.bel.trans (hG.mono hn2.out.bel.size)) (hn2.out.bel.trans (hG.mono hn2.out.bel.size)).size) hA (hTb.out.below (hn2.out.bel.trans (hG.mono hn2.out.bel.size)) h0) (Nat.lt_of_lt_of_le h0 (hn2.out.bel.trans (hG.mono hn2.out.bel.size)).size)).mono fun e W9 he => ?_)
      obtain ⟨u, rfl, ho2, hbw⟩ := he
      exact hK _ _ (hG.trans (hbw.mono hG.size)) hbw ⟨u, rfl, ho2.mono hG.size⟩ (fun h => by cases h)
    · refine stepJ_any rfl fun ac W hAA hG hDD K hK => ?_
      have h25 := hDD.get 0 25 _ rfl rfl (by kernel_rfl)
      obtain ⟨u2, h27, ho⟩ := hDD.get 2 27 _ rfl rfl (by kernel_rfl)
      rw [if_pos (by rfl)]
      simp only [Array.getD_eq_getD_getElem?] at h25 h27
      refine wp_call (f := 21) (args := #[u2]) (by simp [execOp, Act.eval, h25, h27, go_sem]) ((sum_own ho (by rw [leafM_len]; omega) (by rw [leafM_len]; omega) (hTb.out.below (hn2.out.bel.trans (hG.mono hn2.out.bel.size)) h0) (Nat.lt_of_lt_of_le h0 (hn2.out.bel.trans (hG.mono hn2.out.bel.size)).size)).mono fun e W9 he => ?_)
      obtain ⟨rfl, hbw⟩ := he
      exact hK _ _ (hG.trans (hbw.mono hG.size)) hbw rfl (fun h => by cases h)
  intro fu T w4 hG hF hne hltb
  have e25 : T 25 = .func (.func 21) #[] #[] := hF 0 _ rfl (by omega)
  have e26 : T 26 = .slice A leaf.length c := hF 1 _ rfl (by omega)
  obtain ⟨u2, e27, hou2⟩ := hF 2 _ rfl (by omega)
  replace e27 : T 27 = _ := e27
  have e28 : T 28 = .agg (BV (sha (leafM leaf))).toArray := hF 3 _ rfl (by omega)
  clear hF hne hltb
  simp only [List.take, fillT, List.setIfInBounds_toArray, List.set_cons_zero, List.set_cons_succ, e25, e26, e27, e28]
  clear e25 e26 e27 e28
  refine wpAny_ready (rs := [4]) (by kernel_rfl) (by simp) (AllReady.cons (o := ⟨none, (Op.store 30 (Operand.tmp 10) (Operand.tmp 28)), _, _, _, none⟩) rfl (fun K1 hK1 => ?_) AllReady.nil)
  rw [if_pos (by rfl)]
  have hn4 := hn2.out.step hG
  have hs4 := Lib.hid (DV_size (sha_length (leafM leaf)))
  refine wp_store_row 30 _ _ rfl (w.heap.size + 1 + 1) (BV (sha (leafM leaf))).toArray rfl rfl 30 _ hn4.bd (by rw [hi, hs4.out]) (by rw [hs4.out]; rfl) (BV_all _) ?_
  refine hK1 _ _ ?_
  clear hK1 K1
  refine wpAny_done (by kernel_rfl) ?_ _
  simp only [Act.put, List.setIfInBounds_toArray, List.set_cons_zero, List.set_cons_succ]
  have hn5 : CB w (.slice Ap p.length cp) (clM n ix leaf p 0) (w4.setRow (w.heap.size + 1 + 1) (BV (sha (leafM leaf))).toArray) :=
    ⟨below_row hn4.bel _ (by omega) hn4.bel.size, (setRow_other _ _ _ _ (by omega)).trans hn4.bh, (setRow_other _ _ _ _ (by omega)).trans hn4.bp, setRow_heap w4 (w.heap.size + 1 + 1) _ (BV (sha (leafM leaf))).toArray _ _ hn4.bd⟩
  generalize w4.setRow (w.heap.size + 1 + 1) (BV (sha (leafM leaf))).toArray = w5 at hn5 ⊢
  clear hn4 hG hn2 hN5
  go_wp2_with fail
  refine (way_any _ _ _).mono ?_
  rintro e w6 ⟨rfl, rfl⟩
  go_wp2_with fail
  have b6 := bel1 w5 (.cells #[.int .i64 (n : Int)] 3)
  have k6 := heap_alloc_new w5 (.cells #[.int .i64 (n : Int)] 3)
  obtain ⟨V6, hV6⟩ : ∃ V, w5.alloc (.cells #[.int .i64 (n : Int)] 3) = V := ⟨_, rfl⟩
  have s6 : V6.heap.size = w5.heap.size + 1 := by rw [← hV6]; simp
  rw [hV6] at b6 k6 ⊢
  have b7 := bel1 V6 (.cells #[.int .i64 (ix : Int)] 3)
  have k7 := heap_alloc_new V6 (.cells #[.int .i64 (ix : Int)] 3)
  obtain ⟨W0, hV7⟩ : ∃ V, V6.alloc (.cells #[.int .i64 (ix : Int)] 3) = V := ⟨_, rfl⟩
  have s7 : W0.heap.size = w5.heap.size + 2 := by rw [← hV7]; simp; omega
  rw [hV7] at b7 k7 ⊢
  have q6 := blk_at k6 b7
  rw [s6] at k7
  have hnW := (hn5.step b6).step b7
  have hs5 : w.heap.size + 3 ≤ w5.heap.size := by have := (Array.getElem?_eq_some_iff.1 (show w5.heap[w.heap.size + 1 + 1]? = some _ from hn5.bd)).1; omega
  clear hV6 hV7 b6 b7 k6 hn5 hV hi hu s6
  refine (wpIn_wide (n := 9)).1 ?_
  refine wpIn_rangeFunc_at rfl (by omega) (gf := 43) (lb := #[.pointer (some ⟨w5.heap.size, 0, none⟩), .pointer (some ⟨w5.heap.size + 1, 0, none⟩)]) rfl trivial (enters_of Tryd.func43 (by kernel_rfl) rfl)
    (way_gives Fence.wide _ trivial rfl (by omega) w5.heap.size (w5.heap.size + 1) n ix hn hi0 W0 (by omega) (by omega) (cellAt (i := 0) q6 rfl) (cellAt (i := 0) k7 rfl))
    (fun _ _ => trivial) (fun _ _ _ _ _ _ _ _ => trivial) (Below.refl _ _) (fun _ _ => rfl)
    (fun k W => (∃ v, PathV w p (used n ix k) v ∧ CB w v (clM n ix leaf p k) W) ∧ w5.heap.size + 2 ≤ W.heap.size) (fun _ _ _ => False)
    (OwnFrom.and (CB.own (by omega)) (fun _ _ _ _ hs hg _ => Nat.le_trans hs hg.size))
    (fun _ _ _ _ _ hs _ _ => hs) ⟨⟨_, ⟨Ap, cp, rfl, hRH.out⟩, hnW⟩, by omega⟩
    (StepAx n ix (w5.heap.size + 2) (fun k Bx => #[.func (.func 21) #[] #[], .int .i64 (n : Int), .int .i64 (ix : Int), .slice A leaf.length c, .slice Ap p.length cp, .pointer (some ⟨w.heap.size, 0, none⟩), undef, undef, undef, .pointer (some ⟨w.heap.size + 1, 0, none⟩), .pointer (some ⟨w.heap.size + 1 + 1, 0, none⟩), .int .i64 0, .pointer (some ⟨Bx, 0, none⟩), .int .i64 (n : Int), .int .i64 (ix : Int), .bool true, .bool false, undef, .slice Ap p.length cp, .int .i64 (p.length : Int), .int .i64 (n : Int), .int .i64 (ix : Int), .int .i64 ((pathN n ix : Nat) : Int), .bool false, undef, .func (.func 21) #[] #[], .slice A leaf.length c, u2, .agg (BV (sha (leafM leaf))).toArray, .int .i64 (n : Int), .int .i64 (ix : Int), .func (.func 43) #[] #[.pointer (some ⟨w5.heap.size, 0, none⟩), .pointer (some ⟨w5.heap.size + 1, 0, none⟩)], .agg #[.int .i64 (rowN n k : Int), .int .i64 (rowI ix k : Int)], undef, undef, undef, undef, undef, undef, undef, undef, undef, undef, undef, undef, undef, undef])) (fun k a' => stepAx_own k a') ?assign ?body ?done ?stop
  case assign =>
    rintro lp k W K hk ⟨⟨v, hpv, hcb⟩, hsz⟩ hK
    unfold wayV
    gi_wp2
    exact hK _ _ ((KeepsOthers.alloc _ _).from _) trivial ⟨⟨v, hpv, hcb.step (bel1 _ _)⟩, by simp; omega⟩ ⟨W.heap.size, hsz, heap_alloc_new W _, rfl⟩
  case body =>
    rintro lp k a' W hl2 - hk ⟨⟨v, hpv, hcb⟩, hsz⟩ ⟨Bx, hBx, bX, rfl⟩
    have hle := rowN_le n k
    have hle2 := rowI_le ix k
    have hcon : Hid (Calls Tryd.prog 26 #[.agg #[.int .i64 (rowN n k : Int), .int .i64 (rowI ix k : Int)]] W fun e w' => e = .returned (.bool (lone n ix k)) ∧ Below W.heap.size W w') := alone_any (rowN n k) (rowI ix k) (by omega) W
    have x0 := cellAt (i := 0) bX rfl
    have x1 := cellAt (i := 1) bX rfl
    cases hL : lone n ix k with
    | true =>
      rw [hL] at hcon
      gi_wp2_with (refine ⟨trivial, ?_⟩; gi_at_call 26; refine (CallsIn.inRound lp (callsIn_wide.2 hcon.out)).mono ?_)
      rintro e W1 ⟨rfl, hb5⟩
      gi_wp2
      refine ⟨(keepsBel hb5).from _, trivial, ⟨v, ?_, ?_⟩, Nat.le_trans hsz hb5.size⟩
      · rw [used, if_pos hL]; exact hpv
      · rw [clM, if_pos hL]; exact hcb.step hb5
    | false =>
      rw [hL] at hcon
      gi_upto_region 9 with (refine ⟨trivial, ?_⟩; gi_at_call 26; refine (CallsIn.inRound lp (callsIn_wide.2 hcon.out)).mono ?_)
      rintro e W1 ⟨rfl, hb5⟩
      gi_upto_region 9 with fail
      have hus : used n ix k + 1 ≤ pathN n ix := by
        have h1 := used_mono n ix (k + 1) (rows n) (by omega)
        rw [used, if_neg (by rw [hL]; decide)] at h1
        exact h1
      obtain ⟨b, off, cz, a1, c1, rfl, hbw, hrg, hlp, hsl, hpv2⟩ := hpv.next (by have := hplH.out; omega)
      have hkl := Lib.hid (show (0 : Int) < ((p.length - used n ix k : Nat) : Int) ∧ 0 < p.length - used n ix k from by have := hplH.out; omega)
      have hslc := Lib.hid hsl
      have hCB := Lib.hid (hcb.step hb5)
      have bX := Lib.hid (blk_at bX hb5)
      have hEx : Hid (Bx ∉ [w.heap.size + 1, w.heap.size + 1 + 1]) := by show _ ∉ _; simp; omega
      have hs1 := hb5.size
      have hE1 : Hid (∀ e ∈ [w.heap.size + 1, w.heap.size + 1 + 1], e < W1.heap.size) := by show ∀ e ∈ _, _; simp; omega
      have hlD := Lib.hid (clM_len n ix leaf p k)
      have hlP := Lib.hid hlp
      have hlS := Lib.hid (stepM_len (k := rowI ix k) hlD.out hlP.out)
      have hsS := Lib.hid (DV_size (sha_length (stepM (rowI ix k) (clM n ix leaf p k) (p.getD (used n ix k) []))))
      have hlS2 := Lib.hid (sha_length (stepM (rowI ix k) (clM n ix leaf p k) (p.getD (used n ix k) [])))
      have hrl := Lib.hid (show rowI ix k < 65536 by omega)
      have hu : Tryd.prog.underlying 30 = some (.array 32 5) := by kernel_rfl
      have hi : (Tryd.prog.info? 30).map (·.size) = some 32 := by kernel_rfl
      have huH := Lib.hid hu
      have hiH := Lib.hid hi
      replace hbw := Lib.hid hbw
      replace hrg := Lib.hid hrg
      have hb5' := Lib.hid hb5
      have hpv3 := Lib.hid hpv2
      clear hb5 hcb x0 x1 hcon hsl hpv2 hu hi hlp
      refine wpIn_region_ord lp _ ?_ (by kernel_rfl) (fun L W => CG w W1 (.slice (some ⟨b, off, none⟩) (p.length - used n ix k) cz) (.slice a1 (p.length - (used n ix k + 1)) c1) (clM n ix leaf p k) (sha (stepM (rowI ix k) (clM n ix leaf p k) (p.getD (used n ix k) []))) (L 10) (L 11) W) (Fr [w.heap.size + 1, w.heap.size + 1 + 1])
        (fun i v W => match i with
          | 0 => v = .func (.func 21) #[] #[]
          | 1 => v = .agg #[.int .i64 (rowN n k : Int), .int .i64 (rowI ix k : Int)]
          | 2 => v = .agg (BV (clM n ix leaf p k)).toArray
          | 3 => v = .slice (some ⟨b, off, none⟩) (p.length - used n ix k) cz
          | 4 => v = .pointer (some ⟨b, off, none⟩)
          | 5 => v = .agg (BV (p.getD (used n ix k) [])).toArray
          | 6 => ∃ u, v = u ∧ OB W W1.heap.size u (stepM (rowI ix k) (clM n ix leaf p k) (p.getD (used n ix k) []))
          | 7 => v = .agg (BV (sha (stepM (rowI ix k) (clM n ix leaf p k) (p.getD (used n ix k) [])))).toArray
          | 8 => v = .slice (some ⟨b, off, none⟩) (p.length - used n ix k) cz
          | 9 => v = .slice a1 (p.length - (used n ix k + 1)) c1
          | 10 => True
          | 11 => True
          | _ => True)
        (by kernel_rfl) (by kernel_rfl) (by kernel_rfl) (by kernel_rfl) ?_ (show CG w W1 _ _ _ _ false false _ from ⟨hCB.out.step (dN (Below.refl _ _) 1), Fr.of (dN (Below.refl _ _) 1)⟩) ?_ ?_
      · rintro ⟨_, _, h⟩; exact h
      · intro i v W W' hb hF
        match i, hF with
        | 0, h => exact h
        | 1, h => exact h
        | 2, h => exact h
        | 3, h => exact h
        | 4, h => exact h
        | 5, h => exact h
        | 6, ⟨u, h1, h2⟩ => exact ⟨u, h1, h2.fr hb hE1.out⟩
        | 7, h => exact h
        | 8, h => exact h
        | 9, h => exact h
        | 10, h => exact h
        | 11, h => exact h
        | _ + 12, _ => trivial
      · refine ⟨?_, ?_, ?_, ?_, ?_, ?_, ?_, ?_, ?_, ?_, ?_, ?_, trivial⟩
        · refine stepO_any rfl fun L ac W hAA hG hL hDD K hK => ?_
          have h5 := hAA.getD (t := 5) (by kernel_rfl)
          simp only [Array.getD_eq_getD_getElem?] at h5
          have k0 := cellAt (i := 0) hG.1.bh rfl
          rw [if_pos (by rfl)]
          exact wp_val (v := .func (.func 21) #[] #[]) (w' := W) (by simp [execOp, Act.eval, h5, go_sem, k0]) (hK _ _ hG (Fr.refl _ _) rfl)
        · refine stepO_any rfl fun L ac W hAA hG hL hDD K hK => ?_
          have h12 := hAA.getD (t := 12) (by kernel_rfl)
          simp only [Array.getD_eq_getD_getElem?] at h12
          have kb := hG.2.at_ bX.out hEx.out
          have k1 := cellAt (i := 0) kb rfl
          have k2 := cellAt (i := 1) kb rfl
          rw [if_pos (by rfl)]
          exact wp_val (v := .agg #[.int .i64 (rowN n k : Int), .int .i64 (rowI ix k : Int)]) (w' := W) (by simp [execOp, Act.eval, h12, go_sem, k1, k2]) (hK _ _ hG (Fr.refl _ _) rfl)
        · refine stepO_any rfl fun L ac W hAA hG hL hDD K hK => ?_
          have h10 := hAA.getD (t := 10) (by kernel_rfl)
          rw [if_pos (by rfl)]
          have hb10 := hL 10 (by kernel_rfl)
          have kd : DB W (w.heap.size + 1 + 1) 30 (clM n ix leaf p k) := by have h := hG.1.bd; rw [hb10] at h; exact h
          exact wp_load_mid 30 _ rfl (w.heap.size + 1 + 1) 0 h10 (BV (clM n ix leaf p k)) _ (range_of kd) huH.out rfl (by rw [hiH.out, BV_length, hlD.out]) (hK _ _ hG (Fr.refl _ _) rfl)
        · refine stepO_any rfl fun L ac W hAA hG hL hDD K hK => ?_
          have h9 := hAA.getD (t := 9) (by kernel_rfl)
          simp only [Array.getD_eq_getD_getElem?] at h9
          have hb11 := hL 11 (by kernel_rfl)
          have kp : W.heap[w.heap.size + 1]? = some (.cells #[.slice (some ⟨b, off, none⟩) (p.length - used n ix k) cz] 25 (0, 0)) := by have h := hG.1.bp; rw [hb11] at h; exact h
          have k3 := cellAt (i := 0) kp rfl
          rw [if_pos (by rfl)]
          exact wp_val (v := .slice (some ⟨b, off, none⟩) (p.length - used n ix k) cz) (w' := W) (by simp [execOp, Act.eval, h9, go_sem, k3]) (hK _ _ hG (Fr.refl _ _) rfl)
        · refine stepO_any rfl fun L ac W hAA hG hL hDD K hK => ?_
          have h39 := hDD.get 3 39 _ rfl rfl (by kernel_rfl)
          simp only [Array.getD_eq_getD_getElem?] at h39
          have hkl := hkl.out
          rw [if_pos (by rfl)]
          exact wp_val (v := .pointer (some ⟨b, off, none⟩)) (w' := W) (by simp [execOp, Act.eval, h39, go_sem, hkl]) (hK _ _ hG (Fr.refl _ _) rfl)
        · refine stepO_any rfl fun L ac W hAA hG hL hDD K hK => ?_
          have h40 := hDD.get 4 40 _ rfl rfl (by kernel_rfl)
          rw [if_pos (by rfl)]
          exact wp_load_mid 30 _ rfl b off h40 (BV (p.getD (used n ix k) [])) _ (fun j v hv => ((hG.1.bel.cell (p := ⟨b, off + j, none⟩) hbw.out).trans (hrg.out j v hv))) huH.out rfl (by rw [hiH.out, BV_length, hlP.out]) (hK _ _ hG (Fr.refl _ _) rfl)
        · refine stepO_any rfl fun L ac W hAA hG hL hDD K hK => ?_
          have h37 := hDD.get 1 37 _ rfl rfl (by kernel_rfl)
          have h38 := hDD.get 2 38 _ rfl rfl (by kernel_rfl)
          have h41 := hDD.get 5 41 _ rfl rfl (by kernel_rfl)
          rw [if_pos (by rfl)]
          simp only [Array.getD_eq_getD_getElem?] at h37 h38 h41
          refine wp_call (f := 50) (args := #[.agg #[.int .i64 (rowN n k : Int), .int .i64 (rowI ix k : Int)], .agg (BV (clM n ix leaf p k)).toArray, .agg (BV (p.getD (used n ix k) [])).toArray]) (by simp [execOp, Act.eval, h37, h38, h41, go_sem]) ((stepText_any (rowN n k) (rowI ix k) hrl.out (clM n ix leaf p k) (p.getD (used n ix k) []) hlD.out hlP.out W (hTb.out.below hG.1.bel h0) (Nat.lt_of_lt_of_le h0 hG.1.bel.size)).mono fun e W9 he => ?_)
          obtain ⟨u, rfl, ho2, hbw2⟩ := he
          exact hK _ _ (hG.step hbw2) (Fr.of hbw2) ⟨u, rfl, ho2.mono hG.2.size⟩
        · refine stepO_any rfl fun L ac W hAA hG hL hDD K hK => ?_
          have h36 := hDD.get 0 36 _ rfl rfl (by kernel_rfl)
          obtain ⟨u6, h42, ho⟩ := hDD.get 6 42 _ rfl rfl (by kernel_rfl)
          rw [if_pos (by rfl)]
          simp only [Array.getD_eq_getD_getElem?] at h36 h42
          refine wp_call (f := 21) (args := #[u6]) (by simp [execOp, Act.eval, h36, h42, go_sem]) ((sum_own ho (by rw [hlS.out]; omega) (by rw [hlS.out]; omega) (hTb.out.below hG.1.bel h0) (Nat.lt_of_lt_of_le h0 hG.1.bel.size)).mono fun e W9 he => ?_)
          obtain ⟨rfl, hbw2⟩ := he
          exact hK _ _ (hG.step hbw2) (Fr.of hbw2) rfl
        · refine stepO_any rfl fun L ac W hAA hG hL hDD K hK => ?_
          have h9 := hAA.getD (t := 9) (by kernel_rfl)
          simp only [Array.getD_eq_getD_getElem?] at h9
          have hb11 := hL 11 (by kernel_rfl)
          have kp : W.heap[w.heap.size + 1]? = some (.cells #[.slice (some ⟨b, off, none⟩) (p.length - used n ix k) cz] 25 (0, 0)) := by have h := hG.1.bp; rw [hb11] at h; exact h
          have k3 := cellAt (i := 0) kp rfl
          rw [if_pos (by rfl)]
          exact wp_val (v := .slice (some ⟨b, off, none⟩) (p.length - used n ix k) cz) (w' := W) (by simp [execOp, Act.eval, h9, go_sem, k3]) (hK _ _ hG (Fr.refl _ _) rfl)
        · refine stepO_any rfl fun L ac W hAA hG hL hDD K hK => ?_
          have h44 := hDD.get 8 44 _ rfl rfl (by kernel_rfl)
          simp only [Array.getD_eq_getD_getElem?] at h44
          have hslc := hslc.out W
          rw [if_pos (by rfl)]
          exact wp_val (v := .slice a1 (p.length - (used n ix k + 1)) c1) (w' := W) (by simp [execOp, Act.eval, h44, go_sem, hslc]) (hK _ _ hG (Fr.refl _ _) rfl)
        · refine stepO_store rfl fun L ac W hAA hG hL hDD K hK => ?_
          have h10 := hAA.getD (t := 10) (by kernel_rfl)
          have h43 := hDD.get 7 43 _ rfl rfl (by kernel_rfl)
          rw [if_pos (by rfl)]
          have kd := hG.1.bd
          refine wp_store_row 30 (.tmp 10) (.tmp 43) rfl (w.heap.size + 1 + 1) (BV (sha (stepM (rowI ix k) (clM n ix leaf p k) (p.getD (used n ix k) [])))).toArray h10 h43 30 _ kd (by rw [hiH.out, hsS.out]) (by rw [hsS.out, DV_size (by cases L 10 <;> first | exact hlD.out | exact hlS2.out)]) (BV_all _) (hK _ ?_ (Fr.row W _ (by simp)) trivial)
          exact CG.dig W hG _ rfl
        · refine stepO_store rfl fun L ac W hAA hG hL hDD K hK => ?_
          have h9 := hAA.getD (t := 9) (by kernel_rfl)
          have h45 := hDD.get 9 45 _ rfl rfl (by kernel_rfl)
          rw [if_pos (by rfl)]
          have kp := hG.1.bp
          refine wp_store_one 25 (.tmp 9) (.tmp 45) rfl (w.heap.size + 1) 0 h9 (.slice a1 (p.length - (used n ix k + 1)) c1) h45 rfl rfl Tryd.sizeOf25 _ (cellAt (i := 0) kp rfl) (frozenAt kp 0) (hK _ ?_ (Fr.cell W _ (by simp)) trivial)
          exact CG.pth W hG _ rfl
      intro L T w9 hL2 hG hF
      have e36 : T 36 = .func (.func 21) #[] #[] := hF 0 _ rfl
      have e37 : T 37 = .agg #[.int .i64 (rowN n k : Int), .int .i64 (rowI ix k : Int)] := hF 1 _ rfl
      have e38 : T 38 = .agg (BV (clM n ix leaf p k)).toArray := hF 2 _ rfl
      have e39 : T 39 = .slice (some ⟨b, off, none⟩) (p.length - used n ix k) cz := hF 3 _ rfl
      have e40 : T 40 = .pointer (some ⟨b, off, none⟩) := hF 4 _ rfl
      have e41 : T 41 = .agg (BV (p.getD (used n ix k) [])).toArray := hF 5 _ rfl
      obtain ⟨u6, e42, -⟩ := hF 6 _ rfl
      replace e42 : T 42 = _ := e42
      have e43 : T 43 = .agg (BV (sha (stepM (rowI ix k) (clM n ix leaf p k) (p.getD (used n ix k) [])))).toArray := hF 7 _ rfl
      have e44 : T 44 = .slice (some ⟨b, off, none⟩) (p.length - used n ix k) cz := hF 8 _ rfl
      have e45 : T 45 = .slice a1 (p.length - (used n ix k + 1)) c1 := hF 9 _ rfl
      clear hF
      simp only [List.take, fillT, List.setIfInBounds_toArray, List.set_cons_zero, List.set_cons_succ, e36, e37, e38, e39, e40, e41, e42, e43, e44, e45]
      clear e36 e37 e38 e39 e40 e41 e42 e43 e44 e45
      have hG2 := hG
      rw [hL2 10 (by decide +kernel), hL2 11 (by decide +kernel)] at hG2
      obtain ⟨hcb2, hfr⟩ := hG2
      clear hG hL2
      gi_wp2
      refine ⟨((keepsBel hb5'.out).from _).trans (hfr.keeps (by have := hsz; simp; omega)), trivial, ⟨.slice a1 (p.length - (used n ix k + 1)) c1, ?_, ?_⟩, Nat.le_trans (Nat.le_trans hsz hb5'.out.size) hfr.size⟩
      · rw [used, if_neg (by rw [hL]; decide)]; exact hpv3.out
      · rw [clM, if_neg (by rw [hL]; decide)]; exact hcb2
  case done =>
    rintro DD W hD ⟨⟨v, hpv, hcb⟩, hsz⟩ hK
    have hbd := hcb.bd
    have hlt := hcb.lt
    have hB := Lib.hid hcb.bel
    have hlD := Lib.hid (DV_size (clM_len n ix leaf p (rows n)))
    have hu : Tryd.prog.underlying 30 = some (.array 32 5) := by kernel_rfl
    have hi : (Tryd.prog.info? 30).map (·.size) = some 32 := by kernel_rfl
    have hK' := Lib.hid hK
    clear hpv hcb hK
    gi_wp2
    go_wp2_with (first
      | (refine wpList_load_row rfl 30 _ rfl (w.heap.size + 1 + 1) rfl 30 _ (0, 0) _ hbd hu rfl ?ci ?_; case ci => rw [hi, hlD.out])
      | (refine wpList_store_row rfl 30 _ _ rfl (w.heap.size + 1 + 1) _ rfl rfl 30 _ hbd ?cj rfl ?ck ?_; case cj => rw [hi, hlD.out]
         case ck => exact BV_all _))
    have hrow := setRow_heap W (w.heap.size + 1 + 1) _ (BV (clM n ix leaf p (rows n))).toArray _ _ hbd
    have hK2 := (setRow_other W (w.heap.size + 1 + 1) DD (BV (clM n ix leaf p (rows n))).toArray (by omega)).trans hK'.out
    have hBf := below_row hB.out (BV (clM n ix leaf p (rows n))).toArray (g := w.heap.size + 1 + 1) (by omega) hB.out.size
    refine ⟨by simp, .inl ⟨_, _, rfl, run_takeDeferred hK2, ?_⟩⟩
    refine ⟨_, results_row_tmp rfl _ _ (w.heap.size + 1 + 1) 30 _ (0, 0) _ rfl ((World.putObj_heap_other (by omega)).trans hrow) hu rfl (by rw [hi, hlD.out]), ?_, hBf.trans (belowK_b (w := w) (Nat.le_refl _) _ DD _ _ (by omega) hK2 rfl rfl)⟩
    rw [hv.out]
    rfl
  case stop =>
    rintro DD c k W _ _ h _
    exact h.elim
end Go.Proofs.YtgddfdejkmnfkaaDoor
