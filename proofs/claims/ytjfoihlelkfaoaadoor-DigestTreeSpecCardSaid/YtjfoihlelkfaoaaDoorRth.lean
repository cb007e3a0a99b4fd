/- The reference's half, node, Tree. -/
import Derived.Test.YtjfoihlelkfaoaaDoorRtg
import Derived.Test.YtjfoihlelkfaoaaDoorKp
namespace Go.Proofs.YtjfoihlelkfaoaaDoor
open Go.RowKit

attribute [local irreducible] Calls
set_option maxRecDepth 100000 in
theorem rhalf_any (n : Nat) (h2 : 2 ≤ n) (hm : n ≤ 1099511627776) (w : World) : Calls Tryd.prog 23 #[.int .i64 (n : Int)] w fun e w' => e = .returned (.int .i64 (half n : Nat)) ∧ Below w.heap.size w w' := by
  go_enter Tryd.func23, Tryd.ntmps23
  go_wp2_with fail
  go_loopw [3] (fun x wr => ∃ j : Nat, x = .int .i64 ((2 ^ j : Nat) : Int) ∧ 2 ^ j < n ∧ wr = w) (fun x _ => n - (intOf x).toNat)
  case atStart => exact ⟨0, rfl, by omega, rfl⟩
  case round =>
    obtain ⟨j, rfl, hj, rfl⟩ := hrel
    have hp := Nat.two_pow_pos j
    generalize hk : 2 ^ j = k at *
    have hw2 : IntKind.i64.wrap (2 * (k : Int)) = 2 * k := IntWalk.i64_in _ (by omega)
    by_cases hlt : 2 * k < n
    · have hlt' : 2 * (k : Int) < n := by omega
      go_wp2_with fail
      go_roundw
      case rel => exact ⟨j + 1, by rw [Nat.pow_succ, hk]; go_num, by rw [Nat.pow_succ, hk]; omega, by first | rfl | trivial⟩
      case measure => simp [intOf]; omega
    · have hlt' : ¬ 2 * (k : Int) < n := by omega
      have hh : half n = k := by rw [← hk]; exact half_unique n j (by rw [hk]; exact hj) (by rw [hk]; omega) (by omega)
      go_wp2_with fail
      go_ret
      exact ⟨by first | rfl | (rw [hh]; rfl) | rw [hh], Below.refl _ _⟩

set_option maxRecDepth 100000 in
set_option maxHeartbeats 2000000 in
theorem rNode_any (a b : List UInt8) (ha : a.length = 32) (hb : b.length = 32) (w : World) :
    Calls Tryd.prog 24 #[.agg (BV a).toArray, .agg (BV b).toArray] w fun e w' => e = .returned (.agg (BV (nodeH a b)).toArray) ∧ Below w.heap.size w w' := by
  obtain ⟨hd1, hd2, hd3, hB⟩ := box2_zero w a b
  have hu : Tryd.prog.underlying 24 = some (.array 32 5) := by kernel_rfl
  have hi : (Tryd.prog.info? 24).map (·.size) = some 32 := by kernel_rfl
  have huH := Lib.hid hu
  have hiH := Lib.hid hi
  have hd1 := Lib.hid hd1
  have hd2 := Lib.hid hd2
  have hd3 := Lib.hid hd3
  have hB := Lib.hid hB
  have hT : Hid (∀ W g c' {N : Nat}, OB W N (.slice (some ⟨g, 0, none⟩) 64 c') (a ++ b) → Calls Tryd.prog 22 #[.string ⟨#[110, 111, 100, 101]⟩, .slice (some ⟨g, 0, none⟩) 64 c'] W fun e W' => e = .returned (.agg (BV (nodeH a b)).toArray) ∧ Below W.heap.size W W') := fun W g c' N hob => by
    have h := rTagged_any nodeB (by decide) (a ++ b) (by simp; omega) W _ c' hob.reads.1 (fun h => by cases h)
    rwa [show (a ++ b).length = 64 by simp; omega] at h
  clear hu hi
  go_enter Tryd.func24, Tryd.ntmps24
  go_wp2_with fail
  generalize hW0 : ((w.alloc (.cells (BV a).toArray 24)).alloc (.cells (BV b).toArray 24)).alloc (.cells #[.int .u8 0, .int .u8 0, .int .u8 0, .int .u8 0, .int .u8 0, .int .u8 0, .int .u8 0, .int .u8 0, .int .u8 0, .int .u8 0, .int .u8 0, .int .u8 0, .int .u8 0, .int .u8 0, .int .u8 0, .int .u8 0, .int .u8 0, .int .u8 0, .int .u8 0, .int .u8 0, .int .u8 0, .int .u8 0, .int .u8 0, .int .u8 0, .int .u8 0, .int .u8 0, .int .u8 0, .int .u8 0, .int .u8 0, .int .u8 0, .int .u8 0, .int .u8 0] 24) = W0 at *
  clear hW0
  refine wp_region_pre 6 1 (fun W => Below W0.heap.size W0 W) (fun W W' => Spared W0.heap.size a b W W')
    (fun i v W => match i with
      | 0 => ∃ g, v = .slice (some ⟨g, 0, none⟩) 0 0
      | 1 => v = .slice (some ⟨w.heap.size, 0, none⟩) 32 32
      | 2 => ∃ g c, v = .slice (some ⟨g, 0, none⟩) 32 c ∧ OB W W0.heap.size (.slice (some ⟨g, 0, none⟩) 32 c) a
      | 3 => v = .slice (some ⟨w.heap.size + 1, 0, none⟩) 32 32
      | 4 => ∃ g c, v = .slice (some ⟨g, 0, none⟩) 64 c ∧ OB W W0.heap.size (.slice (some ⟨g, 0, none⟩) 64 c) (a ++ b)
      | 5 => v = .agg (BV (nodeH a b)).toArray
      | _ => True) (fun _ => false)
    (by kernel_rfl) (by kernel_rfl) (by kernel_rfl) (by kernel_rfl) (by kernel_rfl) (by kernel_rfl) (by kernel_rfl) ?_ (fun _ _ h => h.size) (dN (Below.refl _ _) 1) ?_ ?_
  · intro i v W W' hs hF
    match i, hF with
    | 0, h => exact h
    | 1, h => exact h
    | 2, ⟨g, c, h1, h2⟩ => exact ⟨g, c, h1, hs.one _ h2⟩
    | 3, h => exact h
    | 4, ⟨g, c, h1, h2⟩ => exact ⟨g, c, h1, hs.two _ h2⟩
    | 5, h => exact h
    | _ + 6, _ => trivial
  · refine ⟨?_, ?_, ?_, ?_, ?_, ?_, trivial⟩
    · refine stepJ_any rfl fun ac W hA hG hD K hK => ?_
      rw [if_pos (by rfl)]
      refine wp_val (v := .slice (some ⟨W.heap.size, 0, none⟩) 0 0) (w' := W.alloc (.cells #[] 5)) (by simp [execOp, Act.eval, go_sem]) (hK _ _ (hG.alloc hG.size _) (Spared.of ((Below.refl _ _).alloc (Nat.le_refl _) _) hG.size) ⟨_, rfl⟩ (fun h => by cases h))
    · refine stepJ_val' (fun _ h => Spared.of (Below.refl _ _) h.size) rfl rfl rfl fun ac W hA hG hD => ⟨_, ?_, rfl⟩
      have h2 := hA.getD (t := 2) (by kernel_rfl)
      simp only [Array.getD_eq_getD_getElem?] at h2
      have := slice_digest w.heap.size 0 W
      simp [execOp, Act.eval, h2, this, Result.andThen]
    · refine stepJ_any rfl fun ac W hA hG hD K hK => ?_
      obtain ⟨g0, h5⟩ := hD.get 0 5 _ rfl rfl (by kernel_rfl)
      have h6 := hD.get 1 6 _ rfl rfl (by kernel_rfl)
      rw [if_pos (by rfl)]
      obtain ⟨c', w', hr, ho, hbw⟩ := append_first W W0.heap.size g0 w.heap.size a 24 22 ha (hd1.out.below hG hd1.out.lt) hG.size
      exact Lib.wp_append_run W (.tmp 5) (.tmp 6) 22 22 rfl _ _ h5 h6 _ w' hr (hK _ _ (hG.trans (hbw.mono hG.size)) (Spared.of hbw hG.size) ⟨_, c', rfl, ho⟩ (fun h => by cases h))
    · refine stepJ_val' (fun _ h => Spared.of (Below.refl _ _) h.size) rfl rfl rfl fun ac W hA hG hD => ⟨_, ?_, rfl⟩
      have h3 := hA.getD (t := 3) (by kernel_rfl)
      simp only [Array.getD_eq_getD_getElem?] at h3
      have := slice_digest (w.heap.size + 1) 0 W
      simp [execOp, Act.eval, h3, this, Result.andThen]
    · refine stepJ_any rfl fun ac W hA hG hD K hK => ?_
      obtain ⟨g0, c', h7, ho7⟩ := hD.get 2 7 _ rfl rfl (by kernel_rfl)
      have h8 := hD.get 3 8 _ rfl rfl (by kernel_rfl)
      rw [if_pos (by rfl)]
      obtain ⟨g', c2, w', hr, ho, hsp⟩ := append_second W W0.heap.size g0 c' (w.heap.size + 1) a b 24 22 ha hb ho7 (hd2.out.below hG hd2.out.lt) hG.size
      exact Lib.wp_append_run W (.tmp 7) (.tmp 8) 22 22 rfl _ _ h7 h8 _ w' hr (hK _ _ (hG.trans hsp.below) hsp ⟨_, c2, rfl, ho⟩ (fun h => by cases h))
    · refine stepJ_any rfl fun ac W hA hG hD K hK => ?_
      obtain ⟨g0, c', h9, ho9⟩ := hD.get 4 9 _ rfl rfl (by kernel_rfl)
      simp only [Array.getD_eq_getD_getElem?] at h9
      rw [if_pos (by rfl)]
      refine wp_call (f := 22) (args := #[.string ⟨#[110, 111, 100, 101]⟩, .slice (some ⟨g0, 0, none⟩) 64 c']) (by simp [execOp, Act.eval, go_sem, h9]) ((hT.out W g0 c' ho9).mono fun e W' he => ?_)
      obtain ⟨rfl, hbw⟩ := he
      exact hK _ _ (hG.trans (hbw.mono hG.size)) (Spared.of hbw hG.size) rfl (fun h => by cases h)
  · intro f T W hG hF hne hltb
    obtain ⟨g5, e5⟩ : ∃ g, T 5 = .slice (some ⟨g, 0, none⟩) 0 0 := hF 0 _ rfl (by omega)
    have e6 : T 6 = .slice (some ⟨w.heap.size, 0, none⟩) 32 32 := hF 1 _ rfl (by omega)
    obtain ⟨g7, c7, e7, -⟩ : ∃ g c, T 7 = .slice (some ⟨g, 0, none⟩) 32 c ∧ OB W W0.heap.size (.slice (some ⟨g, 0, none⟩) 32 c) a := hF 2 _ rfl (by omega)
    have e8 : T 8 = .slice (some ⟨w.heap.size + 1, 0, none⟩) 32 32 := hF 3 _ rfl (by omega)
    obtain ⟨g9, c9, e9, -⟩ : ∃ g c, T 9 = .slice (some ⟨g, 0, none⟩) 64 c ∧ OB W W0.heap.size (.slice (some ⟨g, 0, none⟩) 64 c) (a ++ b) := hF 4 _ rfl (by omega)
    have e10 : T 10 = .agg (BV (nodeH a b)).toArray := hF 5 _ rfl (by omega)
    clear hF hne hltb
    simp only [List.take, fillT, List.setIfInBounds_toArray, List.set_cons_zero, List.set_cons_succ, e5, e6, e7, e8, e9, e10]
    have hd4 := hd3.out.below hG hd3.out.lt
    have hl := tagH_length (nodeB).data.toList (a ++ b)
    refine wpAny_ready (rs := [6]) (by kernel_rfl) (by simp) (AllReady.cons (o := ⟨none, .store 24 (.tmp 4) (.tmp 10), _, _, _, none⟩) rfl (fun K1 hK1 => ?_) AllReady.nil)
    rw [if_pos (by rfl)]
    refine wp_store_row 24 _ _ rfl (w.heap.size + 1 + 1) (BV (nodeH a b)).toArray rfl rfl 24 _ hd4 (by rw [hiH.out, List.size_toArray, BV_length]; exact congrArg some hl.symm) (by rw [List.size_toArray, List.size_toArray, BV_length, BV_length, show (nodeH a b).length = 32 from hl]; rfl) (BV_all _) ?_
    refine hK1 _ _ ?_
    clear hK1 K1
    refine wpAny_done (by kernel_rfl) ?_ _
    simp only [Act.put]
    have hrow := setRow_heap W (w.heap.size + 1 + 1) _ (BV (nodeH a b)).toArray _ _ hd4
    have hBW := hB.out.trans (hG.mono hB.out.size)
    have hbe : Below w.heap.size w (W.setRow (w.heap.size + 1 + 1) (BV (nodeH a b)).toArray) := hBW.grown (grownBy_setRow _ _ _) hBW.size (fun k e => by injection e with e; omega)
    clear e5 e6 e7 e8 e9 e10 hG hd4 hBW
    generalize W.setRow (w.heap.size + 1 + 1) (BV (nodeH a b)).toArray = W9 at *
    go_wp2_with fail
    exact bodyPost_ret (results_cell_row rfl _ _ (w.heap.size + 1 + 1) 24 _ (0, 0) _ rfl hrow huH.out rfl (by rw [hiH.out, List.size_toArray, BV_length]; exact congrArg some hl.symm)) rfl ⟨rfl, hbe⟩

/-- The reference's Tree, at a list. -/
def RTreeAt (l : List (List UInt8)) : Prop := ∀ (w : World) (a : Option Addr) (cap : Nat), RD w w.heap.size l a cap → Calls Tryd.prog 9 #[.slice a l.length cap] w fun e w' => e = .returned (.agg (BV (treeH l)).toArray) ∧ Below w.heap.size w w'

set_option maxRecDepth 100000 in
set_option maxHeartbeats 2000000 in
theorem rtree_two (l : List (List UInt8)) (h2 : 2 ≤ l.length) (hm : l.length ≤ 1000000000) (ih1 : RTreeAt (l.take (half l.length))) (ih2 : RTreeAt (l.drop (half l.length))) : RTreeAt l := by
  intro w a cap hR
  have hbd := half_bounds l.length h2 (by omega)
  obtain ⟨hd0, hb0⟩ := zero_new w
  have hR0 := hR.below hb0
  obtain ⟨a1, hs1, -⟩ := hR0.to (k := half l.length) (by omega)
  obtain ⟨a2, hs2, -⟩ := hR0.from_ (k := half l.length) (by omega)
  have hT1 : Hid (∀ W, Below (w.alloc (.cells #[.int .u8 0, .int .u8 0, .int .u8 0, .int .u8 0, .int .u8 0, .int .u8 0, .int .u8 0, .int .u8 0, .int .u8 0, .int .u8 0, .int .u8 0, .int .u8 0, .int .u8 0, .int .u8 0, .int .u8 0, .int .u8 0, .int .u8 0, .int .u8 0, .int .u8 0, .int .u8 0, .int .u8 0, .int .u8 0, .int .u8 0, .int .u8 0, .int .u8 0, .int .u8 0, .int .u8 0, .int .u8 0, .int .u8 0, .int .u8 0, .int .u8 0, .int .u8 0] 24)).heap.size (w.alloc (.cells #[.int .u8 0, .int .u8 0, .int .u8 0, .int .u8 0, .int .u8 0, .int .u8 0, .int .u8 0, .int .u8 0, .int .u8 0, .int .u8 0, .int .u8 0, .int .u8 0, .int .u8 0, .int .u8 0, .int .u8 0, .int .u8 0, .int .u8 0, .int .u8 0, .int .u8 0, .int .u8 0, .int .u8 0, .int .u8 0, .int .u8 0, .int .u8 0, .int .u8 0, .int .u8 0, .int .u8 0, .int .u8 0, .int .u8 0, .int .u8 0, .int .u8 0, .int .u8 0] 24)) W → Calls Tryd.prog 9 #[.slice a1 (half l.length) cap] W fun e W' => e = .returned (.agg (BV (treeH (l.take (half l.length)))).toArray) ∧ Below W.heap.size W W') := fun W hW => by
    have h := ih1 W a1 cap ((hR0.below hW).to_at (by omega) hs1)
    rwa [show (l.take (half l.length)).length = half l.length by rw [List.length_take]; omega] at h
  have hT2 : Hid (∀ W, Below (w.alloc (.cells #[.int .u8 0, .int .u8 0, .int .u8 0, .int .u8 0, .int .u8 0, .int .u8 0, .int .u8 0, .int .u8 0, .int .u8 0, .int .u8 0, .int .u8 0, .int .u8 0, .int .u8 0, .int .u8 0, .int .u8 0, .int .u8 0, .int .u8 0, .int .u8 0, .int .u8 0, .int .u8 0, .int .u8 0, .int .u8 0, .int .u8 0, .int .u8 0, .int .u8 0, .int .u8 0, .int .u8 0, .int .u8 0, .int .u8 0, .int .u8 0, .int .u8 0, .int .u8 0] 24)).heap.size (w.alloc (.cells #[.int .u8 0, .int .u8 0, .int .u8 0, .int .u8 0, .int .u8 0, .int .u8 0, .int .u8 0, .int .u8 0, .int .u8 0, .int .u8 0, .int .u8 0, .int .u8 0, .int .u8 0, .int .u8 0, .int .u8 0, .int .u8 0, .int .u8 0, .int .u8 0, .int .u8 0, .int .u8 0, .int .u8 0, .int .u8 0, .int .u8 0, .int .u8 0, .int .u8 0, .int .u8 0, .int .u8 0, .int .u8 0, .int .u8 0, .int .u8 0, .int .u8 0, .int .u8 0] 24)) W → Calls Tryd.prog 9 #[.slice a2 (l.length - half l.length) (cap - half l.length)] W fun e W' => e = .returned (.agg (BV (treeH (l.drop (half l.length)))).toArray) ∧ Below W.heap.size W W') := fun W hW => by
    have h := ih2 W a2 (cap - half l.length) ((hR0.below hW).from_at (by omega) hs2)
    rwa [List.length_drop] at h
  have hfin := treeH_two l h2 (by omega)
  have hH := Lib.hid (rhalf_any l.length h2 (by omega))
  have hu : Tryd.prog.underlying 24 = some (.array 32 5) := by kernel_rfl
  have hi : (Tryd.prog.info? 24).map (·.size) = some 32 := by kernel_rfl
  have huH := Lib.hid hu
  have hiH := Lib.hid hi
  have hs1H := Lib.hid hs1
  have hs2H := Lib.hid hs2
  have hd0 := Lib.hid hd0
  have hb0 := Lib.hid hb0
  have hfinH := Lib.hid hfin
  have hp : ((l.length : Int) == 0) = false := beq_eq_false_iff_ne.2 (by omega)
  have hp1 : ((l.length : Int) == 1) = false := beq_eq_false_iff_ne.2 (by omega)
  clear hu hi hs1 hs2 hR hR0 hfin ih1 ih2
  go_enter Tryd.func9, Tryd.ntmps9
  go_wp2_with fail
  refine (hH.out _).mono ?_
  rintro e w1 ⟨rfl, hb1⟩
  have hd1 := Lib.hid (hd0.out.below hb1 hd0.out.lt)
  have hbb1 := Lib.hid (hb0.out.trans (hb1.mono hb0.out.size))
  have hT1 : Hid (∀ W, Below w1.heap.size w1 W → Calls Tryd.prog 9 #[.slice a1 (half l.length) cap] W fun e W' => e = .returned (.agg (BV (treeH (l.take (half l.length)))).toArray) ∧ Below W.heap.size W W') := fun W hW => hT1.out W (hb1.trans (hW.mono hb1.size))
  have hT2 : Hid (∀ W, Below w1.heap.size w1 W → Calls Tryd.prog 9 #[.slice a2 (l.length - half l.length) (cap - half l.length)] W fun e W' => e = .returned (.agg (BV (treeH (l.drop (half l.length)))).toArray) ∧ Below W.heap.size W W') := fun W hW => hT2.out W (hb1.trans (hW.mono hb1.size))
  clear hb1 hd0 hb0 hH
  go_wp2_with fail
  refine wp_region_pre 9 1 (fun W => Below w1.heap.size w1 W) (fun W W' => Below W.heap.size W W')
    (fun i v W => match i with
        | 0 => v = .slice a l.length cap
        | 1 => v = .int .i64 (half l.length : Nat)
        | 2 => v = .slice a1 (half l.length) cap
        | 3 => v = .agg (BV (treeH (l.take (half l.length)))).toArray
        | 4 => v = .slice a l.length cap
        | 5 => v = .int .i64 (half l.length : Nat)
        | 6 => v = .slice a2 (l.length - half l.length) (cap - half l.length)
        | 7 => v = .agg (BV (treeH (l.drop (half l.length)))).toArray
        | 8 => v = .agg (BV (nodeH (treeH (l.take (half l.length))) (treeH (l.drop (half l.length))))).toArray
        | _ => True) (fun _ => false)
    (by kernel_rfl) (by kernel_rfl) (by kernel_rfl) (by kernel_rfl) (by kernel_rfl) (by kernel_rfl) (by kernel_rfl) ?_ (fun _ _ h => h.size) (dN (Below.refl _ _) 1) ?_ ?_
  · intro i v W W' hb hF
    match i, hF with
      | 0, h => exact h
      | 1, h => exact h
      | 2, h => exact h
      | 3, h => exact h
      | 4, h => exact h
      | 5, h => exact h
      | 6, h => exact h
      | 7, h => exact h
      | 8, h => exact h
      | _ + 9, _ => trivial
  · refine ⟨?_, ?_, ?_, ?_, ?_, ?_, ?_, ?_, ?_, trivial⟩
    · refine stepJ_val' (fun _ _ => Below.refl _ _) rfl rfl rfl fun ac W hA hG hD => ⟨_, ?_, rfl⟩
      have h0 := hA.getD (t := 0) (by kernel_rfl)
      simp only [Array.getD_eq_getD_getElem?] at h0
      simp [execOp, Act.eval, h0, go_sem]
    · refine stepJ_val' (fun _ _ => Below.refl _ _) rfl rfl rfl fun ac W hA hG hD => ⟨_, ?_, rfl⟩
      have h3 := hA.getD (t := 3) (by kernel_rfl)
      simp only [Array.getD_eq_getD_getElem?] at h3
      simp [execOp, Act.eval, h3, go_sem]
    · refine stepJ_val' (fun _ _ => Below.refl _ _) rfl rfl rfl fun ac W hA hG hD => ⟨_, ?_, rfl⟩
      have h18 := hD.get 0 18 _ rfl rfl (by kernel_rfl)
      have h19 := hD.get 1 19 _ rfl rfl (by kernel_rfl)
      simp only [Array.getD_eq_getD_getElem?] at h18 h19
      have := hs1H.out W
      simp [execOp, Act.eval, h18, h19, Instr.sliceAt, this, Result.andThen]
    · refine stepJ_any rfl fun ac W hA hG hD K hK => ?_
      have h20 := hD.get 2 20 _ rfl rfl (by kernel_rfl)
      simp only [Array.getD_eq_getD_getElem?] at h20
      rw [if_pos (by rfl)]
      refine wp_call (f := 9) (args := #[.slice a1 (half l.length) cap]) (by simp [execOp, Act.eval, h20, go_sem]) ((hT1.out W hG).mono fun e W' he => ?_)
      obtain ⟨rfl, hbw⟩ := he
      exact hK _ _ (hG.trans (hbw.mono hG.size)) hbw rfl (fun h => by cases h)
    · refine stepJ_val' (fun _ _ => Below.refl _ _) rfl rfl rfl fun ac W hA hG hD => ⟨_, ?_, rfl⟩
      have h0 := hA.getD (t := 0) (by kernel_rfl)
      simp only [Array.getD_eq_getD_getElem?] at h0
      simp [execOp, Act.eval, h0, go_sem]
    · refine stepJ_val' (fun _ _ => Below.refl _ _) rfl rfl rfl fun ac W hA hG hD => ⟨_, ?_, rfl⟩
      have h3 := hA.getD (t := 3) (by kernel_rfl)
      simp only [Array.getD_eq_getD_getElem?] at h3
      simp [execOp, Act.eval, h3, go_sem]
    · refine stepJ_val' (fun _ _ => Below.refl _ _) rfl rfl rfl fun ac W hA hG hD => ⟨_, ?_, rfl⟩
      have h22 := hD.get 4 22 _ rfl rfl (by kernel_rfl)
      have h23 := hD.get 5 23 _ rfl rfl (by kernel_rfl)
      simp only [Array.getD_eq_getD_getElem?] at h22 h23
      have := hs2H.out W
      simp [execOp, Act.eval, h22, h23, Instr.sliceAt, this, Result.andThen]
    · refine stepJ_any rfl fun ac W hA hG hD K hK => ?_
      have h24 := hD.get 6 24 _ rfl rfl (by kernel_rfl)
      simp only [Array.getD_eq_getD_getElem?] at h24
      rw [if_pos (by rfl)]
      refine wp_call (f := 9) (args := #[.slice a2 (l.length - half l.length) (cap - half l.length)]) (by simp [execOp, Act.eval, h24, go_sem]) ((hT2.out W hG).mono fun e W' he => ?_)
      obtain ⟨rfl, hbw⟩ := he
      exact hK _ _ (hG.trans (hbw.mono hG.size)) hbw rfl (fun h => by cases h)
    · refine stepJ_any rfl fun ac W hA hG hD K hK => ?_
      have h21 := hD.get 3 21 _ rfl rfl (by kernel_rfl)
      have h25 := hD.get 7 25 _ rfl rfl (by kernel_rfl)
      simp only [Array.getD_eq_getD_getElem?] at h21 h25
      rw [if_pos (by rfl)]
      refine wp_call (f := 24) (args := #[.agg (BV (treeH (l.take (half l.length)))).toArray, .agg (BV (treeH (l.drop (half l.length)))).toArray]) (by simp [execOp, Act.eval, h21, h25, go_sem]) ((rNode_any _ _ (treeH_length _) (treeH_length _) W).mono fun e W' he => ?_)
      obtain ⟨rfl, hbw⟩ := he
      exact hK _ _ (hG.trans (hbw.mono hG.size)) hbw rfl (fun h => by cases h)
  · intro n T W hG hF hne hltb
    have e18 : T 18 = .slice a l.length cap := hF 0 _ rfl (by omega)
    have e19 : T 19 = .int .i64 (half l.length : Nat) := hF 1 _ rfl (by omega)
    have e20 : T 20 = .slice a1 (half l.length) cap := hF 2 _ rfl (by omega)
    have e21 : T 21 = .agg (BV (treeH (l.take (half l.length)))).toArray := hF 3 _ rfl (by omega)
    have e22 : T 22 = .slice a l.length cap := hF 4 _ rfl (by omega)
    have e23 : T 23 = .int .i64 (half l.length : Nat) := hF 5 _ rfl (by omega)
    have e24 : T 24 = .slice a2 (l.length - half l.length) (cap - half l.length) := hF 6 _ rfl (by omega)
    have e25 : T 25 = .agg (BV (treeH (l.drop (half l.length)))).toArray := hF 7 _ rfl (by omega)
    have e26 : T 26 = .agg (BV (nodeH (treeH (l.take (half l.length))) (treeH (l.drop (half l.length))))).toArray := hF 8 _ rfl (by omega)
    clear hF hne hltb
    simp only [List.take, fillT, List.setIfInBounds_toArray, List.set_cons_zero, List.set_cons_succ, e18, e19, e20, e21, e22, e23, e24, e25, e26]
    have hd4 := hd1.out.below hG hd1.out.lt
    have hl : (nodeH (treeH (l.take (half l.length))) (treeH (l.drop (half l.length)))).length = 32 := tagH_length _ _
    refine wpAny_ready (rs := [9]) (by kernel_rfl) (by simp) (AllReady.cons (o := ⟨none, .store 24 (.tmp 2) (.tmp 26), _, _, _, none⟩) rfl (fun K1 hK1 => ?_) AllReady.nil)
    rw [if_pos (by rfl)]
    refine wp_store_row 24 _ _ rfl w.heap.size (BV (nodeH (treeH (l.take (half l.length))) (treeH (l.drop (half l.length))))).toArray rfl rfl 24 _ hd4 (by rw [hiH.out, List.size_toArray, BV_length, hl]) (by rw [List.size_toArray, List.size_toArray, BV_length, BV_length, hl]; rfl) (BV_all _) ?_
    refine hK1 _ _ ?_
    clear hK1 K1
    refine wpAny_done (by kernel_rfl) ?_ _
    simp only [Act.put]
    have hrow := setRow_heap W w.heap.size _ (BV (nodeH (treeH (l.take (half l.length))) (treeH (l.drop (half l.length))))).toArray _ _ hd4
    have hBW := hbb1.out.trans (hG.mono hbb1.out.size)
    have hbe : Below w.heap.size w (W.setRow w.heap.size (BV (nodeH (treeH (l.take (half l.length))) (treeH (l.drop (half l.length))))).toArray) := hBW.grown (grownBy_setRow _ _ _) hBW.size (fun k e => by injection e with e; omega)
    rw [← hfinH.out] at hrow hbe hl ⊢
    clear e18 e19 e20 e21 e22 e23 e24 e25 e26 hG hd4 hBW
    generalize W.setRow w.heap.size (BV (treeH l)).toArray = W9 at *
    go_wp2_with fail
    exact bodyPost_ret (results_cell_row rfl _ _ w.heap.size 24 _ (0, 0) _ rfl hrow huH.out rfl (by rw [hiH.out, List.size_toArray, BV_length, hl])) rfl ⟨rfl, hbe⟩

set_option maxRecDepth 100000 in
set_option maxHeartbeats 2000000 in
theorem rtree_nil : RTreeAt [] := by
  intro w a cap hR
  obtain ⟨hd0, hb0⟩ := zero_new w
  have hT : Calls Tryd.prog 22 #[.string ⟨#[101, 109, 112, 116, 121]⟩, .slice none 0 0] (w.alloc (.cells #[.int .u8 0, .int .u8 0, .int .u8 0, .int .u8 0, .int .u8 0, .int .u8 0, .int .u8 0, .int .u8 0, .int .u8 0, .int .u8 0, .int .u8 0, .int .u8 0, .int .u8 0, .int .u8 0, .int .u8 0, .int .u8 0, .int .u8 0, .int .u8 0, .int .u8 0, .int .u8 0, .int .u8 0, .int .u8 0, .int .u8 0, .int .u8 0, .int .u8 0, .int .u8 0, .int .u8 0, .int .u8 0, .int .u8 0, .int .u8 0, .int .u8 0, .int .u8 0] 24)) _ := rTagged_any emptyB (by decide) [] (by simp) (w.alloc (.cells #[.int .u8 0, .int .u8 0, .int .u8 0, .int .u8 0, .int .u8 0, .int .u8 0, .int .u8 0, .int .u8 0, .int .u8 0, .int .u8 0, .int .u8 0, .int .u8 0, .int .u8 0, .int .u8 0, .int .u8 0, .int .u8 0, .int .u8 0, .int .u8 0, .int .u8 0, .int .u8 0, .int .u8 0, .int .u8 0, .int .u8 0, .int .u8 0, .int .u8 0, .int .u8 0, .int .u8 0, .int .u8 0, .int .u8 0, .int .u8 0, .int .u8 0, .int .u8 0] 24)) none 0 (fun h => by simp at h) (fun _ => rfl)
  have hT := Lib.hid hT
  have hu : Tryd.prog.underlying 24 = some (.array 32 5) := by kernel_rfl
  have hi : (Tryd.prog.info? 24).map (·.size) = some 32 := by kernel_rfl
  have hsz : (BV (tagH emptyB.data.toList [])).toArray.size = 32 := DV_size (tagH_length _ _)
  have hsz' := Lib.hid hsz
  clear hsz
  go_enter Tryd.func9, Tryd.ntmps9
  go_wp2_with fail
  refine hT.out.mono ?_
  rintro e w1 ⟨rfl, hb1⟩
  have hd1 := hd0.below hb1 hd0.lt
  have hB1 := hb0.trans (hb1.mono hb0.size)
  clear hd0 hb0 hb1
  go_wp2_with (refine wpList_store_row rfl 24 _ _ rfl w.heap.size _ rfl rfl 24 _ hd1 ?cj ?cl ?ck ?_
               case cj => rw [hi, hsz'.out]
               case cl => rw [hsz'.out]; rfl
               case ck => exact BV_all _)
  have hrow := setRow_heap w1 w.heap.size _ (BV (tagH emptyB.data.toList [])).toArray _ _ hd1
  exact bodyPost_ret (results_cell_row rfl _ _ w.heap.size 24 _ (0, 0) _ rfl hrow hu rfl (by rw [hi, hsz'.out])) rfl
    ⟨by rw [treeH_nil], hB1.grown (grownBy_setRow _ _ _) hB1.size (fun k e => by injection e with e; omega)⟩

set_option maxRecDepth 100000 in
set_option maxHeartbeats 2000000 in
theorem rtree_one (d : List UInt8) : RTreeAt [d] := by
  intro w a cap hR
  have hd32 : d.length = 32 := hR.2.2.1 d (by simp)
  obtain ⟨hd0, hb0⟩ := zero_new w
  obtain ⟨b, off, rfl, hb, hr⟩ := (hR.below hb0).at_ (i := 0) (by simp)
  have hT := rTagged_any leafB (by decide) d (by omega) (w.alloc (.cells #[.int .u8 0, .int .u8 0, .int .u8 0, .int .u8 0, .int .u8 0, .int .u8 0, .int .u8 0, .int .u8 0, .int .u8 0, .int .u8 0, .int .u8 0, .int .u8 0, .int .u8 0, .int .u8 0, .int .u8 0, .int .u8 0, .int .u8 0, .int .u8 0, .int .u8 0, .int .u8 0, .int .u8 0, .int .u8 0, .int .u8 0, .int .u8 0, .int .u8 0, .int .u8 0, .int .u8 0, .int .u8 0, .int .u8 0, .int .u8 0, .int .u8 0, .int .u8 0] 24)) (some ⟨b, off, none⟩) 32 (range_reads hb (by simpa using hr)) (fun h => by cases h)
  rw [hd32] at hT
  have hT : Hid (Calls Tryd.prog 22 #[.string ⟨#[108, 101, 97, 102]⟩, .slice (some ⟨b, off, none⟩) 32 32] (w.alloc (.cells #[.int .u8 0, .int .u8 0, .int .u8 0, .int .u8 0, .int .u8 0, .int .u8 0, .int .u8 0, .int .u8 0, .int .u8 0, .int .u8 0, .int .u8 0, .int .u8 0, .int .u8 0, .int .u8 0, .int .u8 0, .int .u8 0, .int .u8 0, .int .u8 0, .int .u8 0, .int .u8 0, .int .u8 0, .int .u8 0, .int .u8 0, .int .u8 0, .int .u8 0, .int .u8 0, .int .u8 0, .int .u8 0, .int .u8 0, .int .u8 0, .int .u8 0, .int .u8 0] 24)) _) := hT
  have hs0 := slice_digest b off
  have hu : Tryd.prog.underlying 24 = some (.array 32 5) := by kernel_rfl
  have hi : (Tryd.prog.info? 24).map (·.size) = some 32 := by kernel_rfl
  have hsz : (BV (tagH leafB.data.toList d)).toArray.size = 32 := DV_size (tagH_length _ _)
  have hsz' := Lib.hid hsz
  clear hsz hr hR
  go_enter Tryd.func9, Tryd.ntmps9
  go_wp2_with fail
  refine hT.out.mono ?_
  rintro e w1 ⟨rfl, hb1⟩
  have hd1 := hd0.below hb1 hd0.lt
  have hB1 := hb0.trans (hb1.mono hb0.size)
  clear hd0 hb0 hb1
  go_wp2_with (refine wpList_store_row rfl 24 _ _ rfl w.heap.size _ rfl rfl 24 _ hd1 ?cj ?cl ?ck ?_
               case cj => rw [hi, hsz'.out]
               case cl => rw [hsz'.out]; rfl
               case ck => exact BV_all _)
  have hrow := setRow_heap w1 w.heap.size _ (BV (tagH leafB.data.toList d)).toArray _ _ hd1
  exact bodyPost_ret (results_cell_row rfl _ _ w.heap.size 24 _ (0, 0) _ rfl hrow hu rfl (by rw [hi, hsz'.out])) rfl
    ⟨by rw [treeH_one]; rfl, hB1.grown (grownBy_setRow _ _ _) hB1.size (fun k e => by injection e with e; omega)⟩

theorem rtree_all (n : Nat) : ∀ l : List (List UInt8), l.length ≤ n → l.length ≤ 1000000000 → RTreeAt l := by
  induction n with
  | zero =>
    intro l h _
    rw [List.eq_nil_of_length_eq_zero (by omega : l.length = 0)]
    exact rtree_nil
  | succ n ih =>
    intro l h hm
    by_cases h2 : 2 ≤ l.length
    · have hb := half_bounds l.length h2 (by omega)
      exact rtree_two l h2 hm (ih _ (by rw [List.length_take]; omega) (by rw [List.length_take]; omega)) (ih _ (by rw [List.length_drop]; omega) (by rw [List.length_drop]; omega))
    · match l, h2 with
      | [], _ => exact rtree_nil
      | [d], _ => exact rtree_one d
      | a :: b :: r, h2 => exact absurd (by simp) h2
theorem rTree_any (l : List (List UInt8)) (hm : l.length ≤ 1000000000) : RTreeAt l := rtree_all l.length l (Nat.le_refl _) hm
end Go.Proofs.YtjfoihlelkfaoaaDoor
