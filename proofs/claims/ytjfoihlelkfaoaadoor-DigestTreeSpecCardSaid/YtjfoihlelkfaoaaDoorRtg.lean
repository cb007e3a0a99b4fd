/- The reference's Tagged and Chain. -/
import Derived.Test.YtjfoihlelkfaoaaDoorRsu
import Derived.Test.YtjfoihlelkfaoaaDoorLf
namespace Go.Proofs.YtjfoihlelkfaoaaDoor
open Go.RowKit

attribute [local irreducible] Calls
set_option maxRecDepth 100000 in
set_option maxHeartbeats 2000000 in
theorem rTagged_any (tag : ByteArray) (ht : tag.size ≤ 100000) (bs : List UInt8) (hl : bs.length ≤ 900000) (w : World) (A : Option Addr) (c : Nat) (hr : RBs w w.heap.size A bs) (hA : A = none → bs = []) :
    Calls Tryd.prog 22 #[.string tag, .slice A bs.length c] w fun e w' => e = .returned (.agg (BV (tagH tag.data.toList bs)).toArray) ∧ Below w.heap.size w w' := by
  obtain ⟨G, W1, hG, hcv, hd1, hB1, hr1⟩ := conv_step w tag
  have hrH := Lib.hid hr
  have hS1 := rSum_any tag.data.toList (by simpa using Nat.le_trans ht (by omega)) W1 _ G hr1 (fun h => by cases h)
  rw [show tag.data.toList.length = tag.size by simp] at hS1
  have hS1' := Lib.hid hS1
  have hd1' := Lib.hid hd1
  have hAH := Lib.hid hA
  have hu : Tryd.prog.underlying 24 = some (.array 32 5) := by kernel_rfl
  have hi : (Tryd.prog.info? 24).map (·.size) = some 32 := by kernel_rfl
  have hs1 : (BV (sha tag.data.toList)).toArray.size = 32 := by rw [List.size_toArray, BV_length, sha_length]
  have hs1' := Lib.hid hs1
  have huH := Lib.hid hu
  clear hr hS1 hd1 hr1 hG hu hA hs1
  go_enter Tryd.func22, Tryd.ntmps22
  go_wp2_with fail
  refine hS1'.out.mono ?_
  rintro e w2 ⟨rfl, hb2⟩
  have hB2 := hB1.trans (hb2.mono hB1.size)
  have hd2 := hd1'.out.below hb2 hd1'.out.lt
  clear hcv hS1'
  have hb3 : Below w2.heap.size w2 (w2.alloc (.cells (BV (sha tag.data.toList)).toArray 24)) := (Below.refl _ _).alloc (Nat.le_refl _) _
  have hd3 : DB (w2.alloc (.cells (BV (sha tag.data.toList)).toArray 24)) w2.heap.size 24 (sha tag.data.toList) := heap_alloc_new _ _
  have hb4 : Below w2.heap.size w2 ((w2.alloc (.cells (BV (sha tag.data.toList)).toArray 24)).alloc (.cells #[] 5)) := hb3.alloc (by simp) _
  have hd4 : DB ((w2.alloc (.cells (BV (sha tag.data.toList)).toArray 24)).alloc (.cells #[] 5)) w2.heap.size 24 (sha tag.data.toList) := hd3.below ((Below.refl _ _).alloc (Nat.le_refl _) _) hd3.lt
  have ho4 : OB ((w2.alloc (.cells (BV (sha tag.data.toList)).toArray 24)).alloc (.cells #[] 5)) (w2.heap.size + 1) (.slice (some ⟨w2.heap.size + 1, 0, none⟩) 0 0) [] := by
    have := OB.lit (w2.alloc (.cells (BV (sha tag.data.toList)).toArray 24)) (w2.heap.size + 1) [] (by simp) (by simp)
    simpa [BV] using this
  have hsrc4 : Src Tryd.prog 1 22 (.slice (some ⟨w2.heap.size, 0, none⟩) 32 32) (sha tag.data.toList).length (BV (sha tag.data.toList)) ((w2.alloc (.cells (BV (sha tag.data.toList)).toArray 24)).alloc (.cells #[] 5)) := by
    rw [sha_length]
    exact hd4.src (sha_length _)
  have hz4 : w2.heap.size + 1 ≤ ((w2.alloc (.cells (BV (sha tag.data.toList)).toArray 24)).alloc (.cells #[] 5)).heap.size := by simp
  have hL0 := sha_length tag.data.toList
  have hstore := heap_alloc_last w2 (.cells #[.int .u8 0, .int .u8 0, .int .u8 0, .int .u8 0, .int .u8 0, .int .u8 0, .int .u8 0, .int .u8 0, .int .u8 0, .int .u8 0, .int .u8 0, .int .u8 0, .int .u8 0, .int .u8 0, .int .u8 0, .int .u8 0, .int .u8 0, .int .u8 0, .int .u8 0, .int .u8 0, .int .u8 0, .int .u8 0, .int .u8 0, .int .u8 0, .int .u8 0, .int .u8 0, .int .u8 0, .int .u8 0, .int .u8 0, .int .u8 0, .int .u8 0, .int .u8 0] 24)
  have hd2H := Lib.hid hd2
  have hB2H := Lib.hid hB2
  have hb4H := Lib.hid hb4
  clear hb3 hd3 hd4 hd2 hB2 hb2 hB1 hb4
  go_wp2_with (first
    | (refine wpList_store_row rfl 24 _ _ rfl w2.heap.size _ rfl rfl 24 _ hstore ?cj ?cl ?ck ?_
       case cj => rw [hi, hs1'.out]
       case cl => rw [hs1'.out]; rfl
       case ck => exact BV_all _
       rw [World.setRow_alloc_new])
    | (at_builtin; refine app_src rfl _ _ rfl (w2.heap.size + 1) _ [] (sha tag.data.toList) _ rfl ho4 rfl hsrc4 (by simp; omega) hz4 ?_; intro v5 w5 happ5
       have hb5 := happ5.below ho4 hz4
       have ho5 : OB w5 (w2.heap.size + 1) v5 (sha tag.data.toList) := happ5.own
       have hbb5 : Below w2.heap.size w2 w5 := hb4H.out.trans (hb5.mono (Nat.le_succ _))
       have hz5 : w2.heap.size + 1 ≤ w5.heap.size := Nat.le_trans hz4 hb5.size
       have hsrc5 := RBs.src (c := c) (RBs.below hrH.out (hB2H.out.trans (hbb5.mono hB2H.out.size))) hAH.out
       clear ho4 hsrc4 hz4 happ5 hb5)
    | (at_builtin; refine app_src rfl _ _ rfl (w2.heap.size + 1) v5 (sha tag.data.toList) bs _ rfl ho5 rfl hsrc5 (by omega) hz5 ?_; intro v7 w7 happ7
       have hb7 := happ7.below ho5 hz5
       have ho7 : OB w7 (w2.heap.size + 1) v7 (sha tag.data.toList ++ bs) := happ7.own
       obtain ⟨g7, c7, rfl, -, -, -⟩ := ho7.src (by rw [List.length_append]; omega)
       have hbb7 : Below w2.heap.size w2 w7 := hbb5.trans (hb7.mono (Nat.le_succ _))
       have hS2 := rSum_any (sha tag.data.toList ++ bs) (by rw [List.length_append]; omega) w7 _ c7 ho7.reads.1 (fun h => by cases h)
       rw [List.length_append, sha_length] at hS2
       clear ho5 hsrc5 happ7 hb7 hbb5 hz5))
  refine hS2.mono ?_
  rintro e w8 ⟨rfl, hb8⟩
  have hbb8 : Below w.heap.size w w8 := (hB2H.out.trans (hbb7.mono hB2H.out.size)).trans (hb8.mono (Nat.le_trans hB2H.out.size hbb7.size))
  have hd8 : DB w8 w.heap.size 24 (List.replicate 32 0) := (hd2H.out.below hbb7 hd2H.out.lt).below hb8 (hd2H.out.below hbb7 hd2H.out.lt).lt
  have hs2 : (BV (sha (sha tag.data.toList ++ bs))).toArray.size = 32 := by rw [List.size_toArray, BV_length, sha_length]
  have hs2' := Lib.hid hs2
  have hu := huH.out
  clear hs2 hS2 hb8 hbb7 ho7 hstore
  go_wp2_with (refine wpList_store_row rfl 24 _ _ rfl w.heap.size _ rfl rfl 24 _ hd8 ?cj ?cl ?ck ?_
               case cj => rw [hi, hs2'.out]
               case cl => rw [hs2'.out]; rfl
               case ck => exact BV_all _)
  have hrow := setRow_heap w8 w.heap.size _ (BV (sha (sha tag.data.toList ++ bs))).toArray _ _ hd8
  exact bodyPost_ret (results_cell_row rfl _ _ w.heap.size 24 _ (0, 0) _ rfl hrow hu rfl (by rw [hi, hs2'.out])) rfl
    ⟨rfl, hbb8.grown (grownBy_setRow _ _ _) hbb8.size (fun k e => by injection e with e; omega)⟩
-- The reference's Chain.
set_option maxRecDepth 100000 in
set_option maxHeartbeats 2000000 in
theorem rChain_any (a b : List UInt8) (ha : a.length = 32) (hb : b.length = 32) (w : World) :
    Calls Tryd.prog 17 #[.agg (BV a).toArray, .agg (BV b).toArray] w fun e w' => e = .returned (.agg (BV (chainH a b)).toArray) ∧ Below w.heap.size w w' := by
  obtain ⟨hd1, hd2, hd3, hB⟩ := box2_zero w a b
  have hu : Tryd.prog.underlying 24 = some (.array 32 5) := by kernel_rfl
  have hi : (Tryd.prog.info? 24).map (·.size) = some 32 := by kernel_rfl
  have huH := Lib.hid hu
  have hiH := Lib.hid hi
  have hd1 := Lib.hid hd1
  have hd2 := Lib.hid hd2
  have hd3 := Lib.hid hd3
  have hB := Lib.hid hB
  have hT : Hid (∀ W g c' {N : Nat}, OB W N (.slice (some ⟨g, 0, none⟩) 64 c') (a ++ b) → Calls Tryd.prog 22 #[.string ⟨#[99, 104, 97, 105, 110]⟩, .slice (some ⟨g, 0, none⟩) 64 c'] W fun e W' => e = .returned (.agg (BV (chainH a b)).toArray) ∧ Below W.heap.size W W') := fun W g c' N hob => by
    have h := rTagged_any chainB (by decide) (a ++ b) (by simp; omega) W _ c' hob.reads.1 (fun h => by cases h)
    rwa [show (a ++ b).length = 64 by simp; omega] at h
  clear hu hi
  go_enter Tryd.func17, Tryd.ntmps17
  go_wp2_with fail
  generalize hW0 : ((w.alloc (.cells (BV a).toArray 24)).alloc (.cells (BV b).toArray 24)).alloc (.cells #[.int .u8 0, .int .u8 0, .int .u8 0, .int .u8 0, .int .u8 0, .int .u8 0, .int .u8 0, .int .u8 0, .int .u8 0, .int .u8 0, .int .u8 0, .int .u8 0, .int .u8 0, .int .u8 0, .int .u8 0, .int .u8 0, .int .u8 0, .int .u8 0, .int .u8 0, .int .u8 0, .int .u8 0, .int .u8 0, .int .u8 0, .int .u8 0, .int .u8 0, .int .u8 0, .int .u8 0, .int .u8 0, .int .u8 0, .int .u8 0, .int .u8 0, .int .u8 0] 24) = W0 at *
  clear hW0
  refine wp_region_pre 6 1 (fun W => Below W0.heap.size W0 W) (fun W W' => Spared W0.heap.size a b W W')
    (fun i v W => match i with
      | 0 => ∃ g, v = .slice (some ⟨g, 0, none⟩) 0 0
      | 1 => v = .slice (some ⟨w.heap.size, 0, none⟩) 32 32
      | 2 => ∃ g c, v = .slice (some ⟨g, 0, none⟩) 32 c ∧ OB W W0.heap.size (.slice (some ⟨g, 0, none⟩) 32 c) a
      | 3 => v = .slice (some ⟨w.heap.size + 1, 0, none⟩) 32 32
      | 4 => ∃ g c, v = .slice (some ⟨g, 0, none⟩) 64 c ∧ OB W W0.heap.size (.slice (some ⟨g, 0, none⟩) 64 c) (a ++ b)
      | 5 => v = .agg (BV (chainH a b)).toArray
      | _ => True) (fun _ => false)
    (by kernel_rfl) (by kernel_rfl) (by kernel_rfl) (by kernel_rfl) (by kernel_rfl) (by kernel_rfl) (by kernel_rfl) ?_ (fun _ _ h => h.size) (dN (Below.refl _ _) 1) ?_ ?_
  · intro i v W W' hs hF
    match i, hF with
    | 0, h => exact h
    | 1, h => exact h
    | 2, ⟨g, c, h1, h2⟩ => exact ⟨g, c, h1, hs.one _ h2⟩
    | 3, h => exact h
    | 4, ⟨g, c, h1, h2⟩ => exact ⟨g, c, h1, hs.two _ h2⟩
    | 5, h => exact h
    | _ + 6, _ => trivial
  · refine ⟨?_, ?_, ?_, ?_, ?_, ?_, trivial⟩
    · refine stepJ_any rfl fun ac W hA hG hD K hK => ?_
      rw [if_pos (by rfl)]
      refine wp_val (v := .slice (some ⟨W.heap.size, 0, none⟩) 0 0) (w' := W.alloc (.cells #[] 5)) (by simp [execOp, Act.eval, go_sem]) (hK _ _ (hG.alloc hG.size _) (Spared.of ((Below.refl _ _).alloc (Nat.le_refl _) _) hG.size) ⟨_, rfl⟩ (fun h => by cases h))
    · refine stepJ_val' (fun _ h => Spared.of (Below.refl _ _) h.size) rfl rfl rfl fun ac W hA hG hD => ⟨_, ?_, rfl⟩
      have h2 := hA.getD (t := 2) (by kernel_rfl)
      simp only [Array.getD_eq_getD_getElem?] at h2
      have := slice_digest w.heap.size 0 W
      simp [execOp, Act.eval, h2, this, Result.andThen]
    · refine stepJ_any rfl fun ac W hA hG hD K hK => ?_
      obtain ⟨g0, h5⟩ := hD.get 0 5 _ rfl rfl (by kernel_rfl)
      have h6 := hD.get 1 6 _ rfl rfl (by kernel_rfl)
      rw [if_pos (by rfl)]
      obtain ⟨c', w', hr, ho, hbw⟩ := append_first W W0.heap.size g0 w.heap.size a 24 22 ha (hd1.out.below hG hd1.out.lt) hG.size
      exact Lib.wp_append_run W (.tmp 5) (.tmp 6) 22 22 rfl _ _ h5 h6 _ w' hr (hK _ _ (hG.trans (hbw.mono hG.size)) (Spared.of hbw hG.size) ⟨_, c', rfl, ho⟩ (fun h => by cases h))
    · refine stepJ_val' (fun _ h => Spared.of (Below.refl _ _) h.size) rfl rfl rfl fun ac W hA hG hD => ⟨_, ?_, rfl⟩
      have h3 := hA.getD (t := 3) (by kernel_rfl)
      simp only [Array.getD_eq_getD_getElem?] at h3
      have := slice_digest (w.heap.size + 1) 0 W
      simp [execOp, Act.eval, h3, this, Result.andThen]
    · refine stepJ_any rfl fun ac W hA hG hD K hK => ?_
      obtain ⟨g0, c', h7, ho7⟩ := hD.get 2 7 _ rfl rfl (by kernel_rfl)
      have h8 := hD.get 3 8 _ rfl rfl (by kernel_rfl)
      rw [if_pos (by rfl)]
      obtain ⟨g', c2, w', hr, ho, hsp⟩ := append_second W W0.heap.size g0 c' (w.heap.size + 1) a b 24 22 ha hb ho7 (hd2.out.below hG hd2.out.lt) hG.size
      exact Lib.wp_append_run W (.tmp 7) (.tmp 8) 22 22 rfl _ _ h7 h8 _ w' hr (hK _ _ (hG.trans hsp.below) hsp ⟨_, c2, rfl, ho⟩ (fun h => by cases h))
    · refine stepJ_any rfl fun ac W hA hG hD K hK => ?_
      obtain ⟨g0, c', h9, ho9⟩ := hD.get 4 9 _ rfl rfl (by kernel_rfl)
      simp only [Array.getD_eq_getD_getElem?] at h9
      rw [if_pos (by rfl)]
      refine wp_call (f := 22) (args := #[.string ⟨#[99, 104, 97, 105, 110]⟩, .slice (some ⟨g0, 0, none⟩) 64 c']) (by simp [execOp, Act.eval, go_sem, h9]) ((hT.out W g0 c' ho9).mono fun e W' he => ?_)
      obtain ⟨rfl, hbw⟩ := he
      exact hK _ _ (hG.trans (hbw.mono hG.size)) (Spared.of hbw hG.size) rfl (fun h => by cases h)
  · intro f T W hG hF hne hltb
    obtain ⟨g5, e5⟩ : ∃ g, T 5 = .slice (some ⟨g, 0, none⟩) 0 0 := hF 0 _ rfl (by omega)
    have e6 : T 6 = .slice (some ⟨w.heap.size, 0, none⟩) 32 32 := hF 1 _ rfl (by omega)
    obtain ⟨g7, c7, e7, -⟩ : ∃ g c, T 7 = .slice (some ⟨g, 0, none⟩) 32 c ∧ OB W W0.heap.size (.slice (some ⟨g, 0, none⟩) 32 c) a := hF 2 _ rfl (by omega)
    have e8 : T 8 = .slice (some ⟨w.heap.size + 1, 0, none⟩) 32 32 := hF 3 _ rfl (by omega)
    obtain ⟨g9, c9, e9, -⟩ : ∃ g c, T 9 = .slice (some ⟨g, 0, none⟩) 64 c ∧ OB W W0.heap.size (.slice (some ⟨g, 0, none⟩) 64 c) (a ++ b) := hF 4 _ rfl (by omega)
    have e10 : T 10 = .agg (BV (chainH a b)).toArray := hF 5 _ rfl (by omega)
    clear hF hne hltb
    simp only [List.take, fillT, List.setIfInBounds_toArray, List.set_cons_zero, List.set_cons_succ, e5, e6, e7, e8, e9, e10]
    have hd4 := hd3.out.below hG hd3.out.lt
    have hl := tagH_length (chainB).data.toList (a ++ b)
    refine wpAny_ready (rs := [6]) (by kernel_rfl) (by simp) (AllReady.cons (o := ⟨none, .store 24 (.tmp 4) (.tmp 10), _, _, _, none⟩) rfl (fun K1 hK1 => ?_) AllReady.nil)
    rw [if_pos (by rfl)]
    refine wp_store_row 24 _ _ rfl (w.heap.size + 1 + 1) (BV (chainH a b)).toArray rfl rfl 24 _ hd4 (by rw [hiH.out, List.size_toArray, BV_length]; exact congrArg some hl.symm) (by rw [List.size_toArray, List.size_toArray, BV_length, BV_length, show (chainH a b).length = 32 from hl]; rfl) (BV_all _) ?_
    refine hK1 _ _ ?_
    clear hK1 K1
    refine wpAny_done (by kernel_rfl) ?_ _
    simp only [Act.put]
    have hrow := setRow_heap W (w.heap.size + 1 + 1) _ (BV (chainH a b)).toArray _ _ hd4
    have hBW := hB.out.trans (hG.mono hB.out.size)
    have hbe : Below w.heap.size w (W.setRow (w.heap.size + 1 + 1) (BV (chainH a b)).toArray) := hBW.grown (grownBy_setRow _ _ _) hBW.size (fun k e => by injection e with e; omega)
    clear e5 e6 e7 e8 e9 e10 hG hd4 hBW
    generalize W.setRow (w.heap.size + 1 + 1) (BV (chainH a b)).toArray = W9 at *
    go_wp2_with fail
    exact bodyPost_ret (results_cell_row rfl _ _ (w.heap.size + 1 + 1) 24 _ (0, 0) _ rfl hrow huH.out rfl (by rw [hiH.out, List.size_toArray, BV_length]; exact congrArg some hl.symm)) rfl ⟨rfl, hbe⟩
end Go.Proofs.YtjfoihlelkfaoaaDoor
