/- Digests that belong together: join. -/
import Derived.Test.YtgddfdejkmnfkaaDoorMf
namespace Go.Proofs.YtgddfdejkmnfkaaDoor
open Go.RowKit

/-- The digest of one or two digests that stand together. -/
def joinM : List (List UInt8) → List UInt8
  | [] => []
  | [a] => a
  | a :: b :: _ => sha (nodeM a b)
set_option maxRecDepth 100000 in
set_option maxHeartbeats 2000000 in
theorem join1_any (x : List UInt8) (w : World) (A : Option Addr) (c : Nat) (hR : RD w w.heap.size [x] A c) :
    Calls Tryd.prog 45 #[.func (.func 21) #[] #[], .slice A 1 c] w fun e w' => e = .returned (.agg (BV x).toArray) ∧ Below w.heap.size w w' := by
  have hx : x.length = 32 := hR.2.2.1 x (by simp)
  obtain ⟨b, off, rfl, hb, hr⟩ := hR.at_ (i := 0) (by simp)
  have hlen := Lib.hid (show (BV x).length = 32 by rw [BV_length, hx])
  have hsz := Lib.hid (DV_size hx)
  have hu : Tryd.prog.underlying 30 = some (.array 32 5) := by kernel_rfl
  have hi : (Tryd.prog.info? 30).map (·.size) = some 32 := by kernel_rfl
  have hb1 := bel1 w (.cells #[.int .u8 0, .int .u8 0, .int .u8 0, .int .u8 0, .int .u8 0, .int .u8 0, .int .u8 0, .int .u8 0, .int .u8 0, .int .u8 0, .int .u8 0, .int .u8 0, .int .u8 0, .int .u8 0, .int .u8 0, .int .u8 0, .int .u8 0, .int .u8 0, .int .u8 0, .int .u8 0, .int .u8 0, .int .u8 0, .int .u8 0, .int .u8 0, .int .u8 0, .int .u8 0, .int .u8 0, .int .u8 0, .int .u8 0, .int .u8 0, .int .u8 0, .int .u8 0] 30)
  have hd := heap_alloc_new w (.cells #[.int .u8 0, .int .u8 0, .int .u8 0, .int .u8 0, .int .u8 0, .int .u8 0, .int .u8 0, .int .u8 0, .int .u8 0, .int .u8 0, .int .u8 0, .int .u8 0, .int .u8 0, .int .u8 0, .int .u8 0, .int .u8 0, .int .u8 0, .int .u8 0, .int .u8 0, .int .u8 0, .int .u8 0, .int .u8 0, .int .u8 0, .int .u8 0, .int .u8 0, .int .u8 0, .int .u8 0, .int .u8 0, .int .u8 0, .int .u8 0, .int .u8 0, .int .u8 0] 30)
  have hr' : (w.alloc (.cells #[.int .u8 0, .int .u8 0, .int .u8 0, .int .u8 0, .int .u8 0, .int .u8 0, .int .u8 0, .int .u8 0, .int .u8 0, .int .u8 0, .int .u8 0, .int .u8 0, .int .u8 0, .int .u8 0, .int .u8 0, .int .u8 0, .int .u8 0, .int .u8 0, .int .u8 0, .int .u8 0, .int .u8 0, .int .u8 0, .int .u8 0, .int .u8 0, .int .u8 0, .int .u8 0, .int .u8 0, .int .u8 0, .int .u8 0, .int .u8 0, .int .u8 0, .int .u8 0] 30)).rangeAt b off (BV x) := fun j v hv => by
    have := hr j v (by simpa using hv)
    rw [hb1.cell (p := ⟨b, off + j, none⟩) hb]
    simpa using this
  clear hr hR
  go_enter Tryd.func45, Tryd.ntmps45
  go_wp2_with (first
    | (refine wpList_load_mid rfl 30 _ rfl b off rfl _ _ hr' hu rfl ?ca ?_; case ca => rw [hi, hlen.out])
    | (refine wpList_store_row rfl 30 _ _ rfl w.heap.size _ rfl rfl 30 _ hd ?cj ?cl ?ck ?_
       case cj => rw [hi, hsz.out]
       case cl => rw [hsz.out]; rfl
       case ck => exact BV_all _))
  have hrow := setRow_heap (w.alloc (.cells #[.int .u8 0, .int .u8 0, .int .u8 0, .int .u8 0, .int .u8 0, .int .u8 0, .int .u8 0, .int .u8 0, .int .u8 0, .int .u8 0, .int .u8 0, .int .u8 0, .int .u8 0, .int .u8 0, .int .u8 0, .int .u8 0, .int .u8 0, .int .u8 0, .int .u8 0, .int .u8 0, .int .u8 0, .int .u8 0, .int .u8 0, .int .u8 0, .int .u8 0, .int .u8 0, .int .u8 0, .int .u8 0, .int .u8 0, .int .u8 0, .int .u8 0, .int .u8 0] 30)) w.heap.size _ (BV x).toArray _ _ hd
  exact bodyPost_ret (results_cell_row rfl _ _ w.heap.size 30 _ (0, 0) _ rfl hrow hu rfl (by rw [hi, hsz.out])) rfl
    ⟨rfl, hb1.grown (grownBy_setRow _ _ _) hb1.size (fun k e => by injection e with e; omega)⟩

set_option maxRecDepth 100000 in
set_option maxHeartbeats 2000000 in
theorem join2_any (x y : List UInt8) (w : World) (A : Option Addr) (c : Nat) (hR : RD w w.heap.size [x, y] A c) (hK : KT w) (h0 : 0 < w.heap.size) :
    Calls Tryd.prog 45 #[.func (.func 21) #[] #[], .slice A 2 c] w fun e w' => e = .returned (.agg (BV (sha (nodeM x y))).toArray) ∧ Below w.heap.size w w' := by
  have hx : x.length = 32 := hR.2.2.1 x (by simp)
  have hy : y.length = 32 := hR.2.2.1 y (by simp)
  obtain ⟨b, off, rfl, hb, hr⟩ := hR.at_ (i := 0) (by simp)
  obtain ⟨b', off', e', -, hr2⟩ := hR.at_ (i := 1) (by simp)
  simp only [Option.some.injEq, Addr.mk.injEq, and_true] at e'
  obtain ⟨rfl, rfl⟩ := e'
  have hlen := Lib.hid (nodeM_len hx hy)
  have hsz := Lib.hid (DV_size (sha_length (nodeM x y)))
  have hu : Tryd.prog.underlying 30 = some (.array 32 5) := by kernel_rfl
  have hi : (Tryd.prog.info? 30).map (·.size) = some 32 := by kernel_rfl
  have huH := Lib.hid hu
  have hiH := Lib.hid hi
  have hb1 := bel1 w (.cells #[.int .u8 0, .int .u8 0, .int .u8 0, .int .u8 0, .int .u8 0, .int .u8 0, .int .u8 0, .int .u8 0, .int .u8 0, .int .u8 0, .int .u8 0, .int .u8 0, .int .u8 0, .int .u8 0, .int .u8 0, .int .u8 0, .int .u8 0, .int .u8 0, .int .u8 0, .int .u8 0, .int .u8 0, .int .u8 0, .int .u8 0, .int .u8 0, .int .u8 0, .int .u8 0, .int .u8 0, .int .u8 0, .int .u8 0, .int .u8 0, .int .u8 0, .int .u8 0] 30)
  have hd := heap_alloc_new w (.cells #[.int .u8 0, .int .u8 0, .int .u8 0, .int .u8 0, .int .u8 0, .int .u8 0, .int .u8 0, .int .u8 0, .int .u8 0, .int .u8 0, .int .u8 0, .int .u8 0, .int .u8 0, .int .u8 0, .int .u8 0, .int .u8 0, .int .u8 0, .int .u8 0, .int .u8 0, .int .u8 0, .int .u8 0, .int .u8 0, .int .u8 0, .int .u8 0, .int .u8 0, .int .u8 0, .int .u8 0, .int .u8 0, .int .u8 0, .int .u8 0, .int .u8 0, .int .u8 0] 30)
  obtain ⟨V, hV⟩ : ∃ V, w.alloc (.cells #[.int .u8 0, .int .u8 0, .int .u8 0, .int .u8 0, .int .u8 0, .int .u8 0, .int .u8 0, .int .u8 0, .int .u8 0, .int .u8 0, .int .u8 0, .int .u8 0, .int .u8 0, .int .u8 0, .int .u8 0, .int .u8 0, .int .u8 0, .int .u8 0, .int .u8 0, .int .u8 0, .int .u8 0, .int .u8 0, .int .u8 0, .int .u8 0, .int .u8 0, .int .u8 0, .int .u8 0, .int .u8 0, .int .u8 0, .int .u8 0, .int .u8 0, .int .u8 0] 30) = V := ⟨_, rfl⟩
  rw [hV] at hb1 hd
  have hKV := Lib.hid (hK.below hb1 h0)
  have hV0 := Lib.hid (Nat.lt_of_lt_of_le h0 hb1.size)
  have hxr : Hid (∀ W, Below V.heap.size V W → W.rangeAt b off (BV x)) := fun W hW j v hv => by
    have := hr j v (by simpa using hv)
    rw [(hb1.trans (hW.mono hb1.size)).cell (p := ⟨b, off + j, none⟩) hb]
    simpa using this
  have hyr : Hid (∀ W, Below V.heap.size V W → W.rangeAt b (off + 32) (BV y)) := fun W hW j v hv => by
    have := hr2 j v (by simpa using hv)
    rw [(hb1.trans (hW.mono hb1.size)).cell (p := ⟨b, off + 32 + j, none⟩) hb]
    simpa using this
  have lx := Lib.hid hx
  have ly := Lib.hid hy
  replace hV := Lib.hid hV
  clear hr hr2 hR hK hx hy
  go_enter Tryd.func45, Tryd.ntmps45
  go_upto_region 3 with fail
  rw [hV.out]
  refine wp_region_pre 9 1 (fun W => Below V.heap.size V W) (fun W W' => Below W.heap.size W W')
    (fun i v W => match i with
      | 0 => v = .func (.func 21) #[] #[]
      | 1 => v = .slice (some ⟨b, off, none⟩) 2 c
      | 2 => v = .pointer (some ⟨b, off, none⟩)
      | 3 => v = .agg (BV x).toArray
      | 4 => v = .slice (some ⟨b, off, none⟩) 2 c
      | 5 => v = .pointer (some ⟨b, off + 32, none⟩)
      | 6 => v = .agg (BV y).toArray
      | 7 => ∃ u, v = u ∧ OB W V.heap.size u (nodeM x y)
      | 8 => v = .agg (BV (sha (nodeM x y))).toArray
      | _ => True) (fun _ => false)
    (by kernel_rfl) (by kernel_rfl) (by kernel_rfl) (by kernel_rfl) (by kernel_rfl) (by kernel_rfl) (by kernel_rfl) ?_ (fun _ _ h => h.size) (dN (Below.refl _ _) 1) ?_ ?_
  · intro i v W W' hb hF
    match i, hF with
    | 0, h => exact h
    | 1, h => exact h
    | 2, h => exact h
    | 3, h => exact h
    | 4, h => exact h
    | 5, h => exact h
    | 6, h => exact h
    | 7, ⟨u, h1, h2⟩ => exact ⟨u, h1, h2.below hb⟩
    | 8, h => exact h
    | _ + 9, _ => trivial
  · refine ⟨?_, ?_, ?_, ?_, ?_, ?_, ?_, ?_, ?_, trivial⟩
    · refine stepJ_any rfl fun ac W hAA hG hDD K hK => ?_
      have h0 := hAA.getD (t := 0) (by kernel_rfl)
      simp only [Array.getD_eq_getD_getElem?] at h0
      rw [if_pos (by rfl)]
      exact wp_val (v := .func (.func 21) #[] #[]) (w' := W) (by simp [execOp, Act.eval, h0, go_sem]) (hK _ _ hG (Below.refl _ _) rfl (fun h => by cases h))
    · refine stepJ_any rfl fun ac W hAA hG hDD K hK => ?_
      have h1 := hAA.getD (t := 1) (by kernel_rfl)
      simp only [Array.getD_eq_getD_getElem?] at h1
      rw [if_pos (by rfl)]
      exact wp_val (v := .slice (some ⟨b, off, none⟩) 2 c) (w' := W) (by simp [execOp, Act.eval, h1, go_sem]) (hK _ _ hG (Below.refl _ _) rfl (fun h => by cases h))
    · refine stepJ_any rfl fun ac W hAA hG hDD K hK => ?_
      have h12 := hDD.get 1 12 _ rfl rfl (by kernel_rfl)
      simp only [Array.getD_eq_getD_getElem?] at h12
      rw [if_pos (by rfl)]
      exact wp_val (v := .pointer (some ⟨b, off, none⟩)) (w' := W) (by simp [execOp, Act.eval, h12, go_sem]) (hK _ _ hG (Below.refl _ _) rfl (fun h => by cases h))
    · refine stepJ_any rfl fun ac W hAA hG hDD K hK => ?_
      have h13 := hDD.get 2 13 _ rfl rfl (by kernel_rfl)
      rw [if_pos (by rfl)]
      exact wp_load_mid 30 _ rfl b (off) h13 (BV x) _ (hxr.out W hG) huH.out rfl (by rw [hiH.out, BV_length, lx.out]) (hK _ _ hG (Below.refl _ _) rfl (fun h => by cases h))
    · refine stepJ_any rfl fun ac W hAA hG hDD K hK => ?_
      have h1 := hAA.getD (t := 1) (by kernel_rfl)
      simp only [Array.getD_eq_getD_getElem?] at h1
      rw [if_pos (by rfl)]
      exact wp_val (v := .slice (some ⟨b, off, none⟩) 2 c) (w' := W) (by simp [execOp, Act.eval, h1, go_sem]) (hK _ _ hG (Below.refl _ _) rfl (fun h => by cases h))
    · refine stepJ_any rfl fun ac W hAA hG hDD K hK => ?_
      have h15 := hDD.get 4 15 _ rfl rfl (by kernel_rfl)
      simp only [Array.getD_eq_getD_getElem?] at h15
      rw [if_pos (by rfl)]
      exact wp_val (v := .pointer (some ⟨b, off + 32, none⟩)) (w' := W) (by simp [execOp, Act.eval, h15, go_sem, Tryd.size24]) (hK _ _ hG (Below.refl _ _) rfl (fun h => by cases h))
    · refine stepJ_any rfl fun ac W hAA hG hDD K hK => ?_
      have h16 := hDD.get 5 16 _ rfl rfl (by kernel_rfl)
      rw [if_pos (by rfl)]
      exact wp_load_mid 30 _ rfl b (off + 32) h16 (BV y) _ (hyr.out W hG) huH.out rfl (by rw [hiH.out, BV_length, ly.out]) (hK _ _ hG (Below.refl _ _) rfl (fun h => by cases h))
    · refine stepJ_any rfl fun ac W hAA hG hDD K hK => ?_
      have h14 := hDD.get 3 14 _ rfl rfl (by kernel_rfl)
      have h17 := hDD.get 6 17 _ rfl rfl (by kernel_rfl)
      rw [if_pos (by rfl)]
      simp only [Array.getD_eq_getD_getElem?] at h14 h17
      refine wp_call (f := 59) (args := #[.agg (BV x).toArray, .agg (BV y).toArray]) (by simp [execOp, Act.eval, h14, h17, go_sem]) ((nodeText_any x y lx.out ly.out W (hKV.out.below hG hV0.out) (Nat.lt_of_lt_of_le hV0.out hG.size)).mono fun e W9 he => ?_)
      obtain ⟨u, rfl, ho2, hbw⟩ := he
      exact hK _ _ (hG.trans (hbw.mono hG.size)) hbw ⟨u, rfl, ho2.mono hG.size⟩ (fun h => by cases h)
    · refine stepJ_any rfl fun ac W hAA hG hDD K hK => ?_
      have h11 := hDD.get 0 11 _ rfl rfl (by kernel_rfl)
      obtain ⟨u7, h18, ho⟩ := hDD.get 7 18 _ rfl rfl (by kernel_rfl)
      rw [if_pos (by rfl)]
      simp only [Array.getD_eq_getD_getElem?] at h11 h18
      refine wp_call (f := 21) (args := #[u7]) (by simp [execOp, Act.eval, h11, h18, go_sem]) ((sum_own ho (by rw [hlen.out]; omega) (by rw [hlen.out]; omega) (hKV.out.below hG hV0.out) (Nat.lt_of_lt_of_le hV0.out hG.size)).mono fun e W9 he => ?_)
      obtain ⟨rfl, hbw⟩ := he
      exact hK _ _ (hG.trans (hbw.mono hG.size)) hbw rfl (fun h => by cases h)
  intro fu T w9 hG hF hne hltb
  have e11 : T 11 = .func (.func 21) #[] #[] := hF 0 _ rfl (by omega)
  have e12 : T 12 = .slice (some ⟨b, off, none⟩) 2 c := hF 1 _ rfl (by omega)
  have e13 : T 13 = .pointer (some ⟨b, off, none⟩) := hF 2 _ rfl (by omega)
  have e14 : T 14 = .agg (BV x).toArray := hF 3 _ rfl (by omega)
  have e15 : T 15 = .slice (some ⟨b, off, none⟩) 2 c := hF 4 _ rfl (by omega)
  have e16 : T 16 = .pointer (some ⟨b, off + 32, none⟩) := hF 5 _ rfl (by omega)
  have e17 : T 17 = .agg (BV y).toArray := hF 6 _ rfl (by omega)
  obtain ⟨u7, e18, hou7⟩ := hF 7 _ rfl (by omega)
  replace e18 : T 18 = _ := e18
  have e19 : T 19 = .agg (BV (sha (nodeM x y))).toArray := hF 8 _ rfl (by omega)
  clear hF hne hltb
  simp only [List.take, fillT, List.setIfInBounds_toArray, List.set_cons_zero, List.set_cons_succ, e11, e12, e13, e14, e15, e16, e17, e18, e19]
  clear e11 e12 e13 e14 e15 e16 e17 e18 e19
  refine wpAny_ready (rs := [9]) (by kernel_rfl) (by simp) (AllReady.cons (o := ⟨none, (Op.store 30 (Operand.tmp 4) (Operand.tmp 19)), _, _, _, none⟩) rfl (fun K1 hK1 => ?_) AllReady.nil)
  rw [if_pos (by rfl)]
  have hd9 := blk_at hd hG
  refine wp_store_row 30 _ _ rfl w.heap.size (BV (sha (nodeM x y))).toArray rfl rfl 30 _ hd9 (by rw [hiH.out, hsz.out]) (by rw [hsz.out]; rfl) (BV_all _) ?_
  refine hK1 _ _ ?_
  clear hK1 K1
  refine wpAny_done (by kernel_rfl) ?_ _
  simp only [Act.put, List.setIfInBounds_toArray, List.set_cons_zero, List.set_cons_succ]
  have hrow := setRow_heap w9 w.heap.size _ (BV (sha (nodeM x y))).toArray _ _ hd9
  have hB := hb1.trans (hG.mono hb1.size)
  go_wp2_with fail
  exact bodyPost_ret (results_cell_row rfl _ _ w.heap.size 30 _ (0, 0) _ rfl hrow hu rfl (by rw [hi, hsz.out])) rfl
    ⟨rfl, hB.grown (grownBy_setRow _ _ _) hB.size (fun k e => by injection e with e; omega)⟩
theorem join_any (r : List (List UInt8)) (h1 : 0 < r.length) (h2 : r.length ≤ 2) (w : World) (A : Option Addr) (c : Nat) (hR : RD w w.heap.size r A c) (hK : KT w) (h0 : 0 < w.heap.size) :
    Calls Tryd.prog 45 #[.func (.func 21) #[] #[], .slice A r.length c] w fun e w' => e = .returned (.agg (BV (joinM r)).toArray) ∧ Below w.heap.size w w' := by
  match r, h1, h2 with
  | [x], _, _ => exact join1_any x w A c hR
  | [x, y], _, _ => exact join2_any x y w A c hR hK h0
end Go.Proofs.YtgddfdejkmnfkaaDoor
