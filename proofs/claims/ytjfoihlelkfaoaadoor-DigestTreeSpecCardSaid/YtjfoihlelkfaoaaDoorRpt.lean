/- The reference's path and Path. -/
import Derived.Test.YtjfoihlelkfaoaaDoorRth
import Derived.Test.YtjfoihlelkfaoaaDoorAp
namespace Go.Proofs.YtjfoihlelkfaoaaDoor
open Go.RowKit

/-- The reference's path, at a list. -/
def RPathAt (l : List (List UInt8)) : Prop := ∀ (i : Nat) (w : World) (a : Option Addr) (cap : Nat), i < l.length → RD w w.heap.size l a cap → Calls Tryd.prog 26 #[.slice a l.length cap, .int .i64 (i : Int)] w fun e w' => ∃ v, e = .returned v ∧ OD w' w.heap.size v (pathH l i) ∧ Below w.heap.size w w'

attribute [local irreducible] Calls
set_option maxRecDepth 100000 in
set_option maxHeartbeats 2000000 in
theorem rpath_one (d : List UInt8) : RPathAt [d] := by
  intro i w a cap hi hR
  go_enter Tryd.func26, Tryd.ntmps26
  go_wp2_with fail
  go_ret
  exact ⟨_, rfl, by rw [pathH_one [d] i (by simp)]; exact OD.new (Nat.le_refl _), (Below.refl _ _).alloc (Nat.le_refl _) _⟩

set_option maxRecDepth 100000 in
set_option maxHeartbeats 2000000 in
theorem rpath_two (l : List (List UInt8)) (h2 : 2 ≤ l.length) (hm : l.length ≤ 1000000000) (ih1 : RPathAt (l.take (half l.length))) (ih2 : RPathAt (l.drop (half l.length))) : RPathAt l := by
  intro i w a cap hil hR
  have hbd := half_bounds l.length h2 (by omega)
  obtain ⟨a1, hs1, -⟩ := hR.to (k := half l.length) (by omega)
  obtain ⟨a2, hs2, -⟩ := hR.from_ (k := half l.length) (by omega)
  have hH := Lib.hid (rhalf_any l.length h2 (by omega))
  have hpt := pathH_two l i h2 (by omega)
  have hs1H := Lib.hid hs1
  have hs2H := Lib.hid hs2
  have hRH := Lib.hid hR
  have hp1 : ((l.length : Int) == 1) = false := beq_eq_false_iff_ne.2 (by omega)
  have hlt : ((l.take (half l.length))).length = half l.length := by rw [List.length_take]; omega
  clear hs1 hs2 hR
  by_cases hi : i < half l.length
  · have hi' : (i : Int) < (half l.length : Nat) := by omega
    rw [if_pos hi] at hpt
    have hfin := Lib.hid hpt
    have hpl : Hid ((pathH (l.take (half l.length)) i).length < l.length) := by
      have := pathH_length _ (l.take (half l.length)) i (Nat.le_refl _) (by omega)
      show _ < _
      omega
    go_enter Tryd.func26, Tryd.ntmps26
    go_wp2_with fail
    refine (hH.out _).mono ?_
    rintro e w1 ⟨rfl, hb1⟩
    have hbb1 := Lib.hid hb1
    have hP : Hid (∀ W, Below w1.heap.size w1 W → Calls Tryd.prog 26 #[.slice a1 (half l.length) cap, .int .i64 i] W fun e W' => ∃ v, e = .returned v ∧ OD W' W.heap.size v (pathH (l.take (half l.length)) i) ∧ Below W.heap.size W W') := fun W hW => by
      have h := ih1 i W a1 cap (by omega) ((hRH.out.below (hbb1.out.trans (hW.mono hbb1.out.size))).to_at (by omega) hs1H.out)
      rwa [hlt] at h
    have hT : Hid (∀ W, Below w1.heap.size w1 W → Calls Tryd.prog 9 #[.slice a2 (l.length - half l.length) (cap - half l.length)] W fun e W' => e = .returned (.agg (BV (treeH (l.drop (half l.length)))).toArray) ∧ Below W.heap.size W W') := fun W hW => by
      have h := rTree_any (l.drop (half l.length)) (by rw [List.length_drop]; omega) W a2 (cap - half l.length) ((hRH.out.below (hbb1.out.trans (hW.mono hbb1.out.size))).from_at (by omega) hs2H.out)
      rwa [List.length_drop] at h
    clear hb1 hH hpt ih1 ih2
    go_wp2_with fail
    refine wp_region_pre 10 2 (fun W => Below w1.heap.size w1 W) (fun W W' => Below W.heap.size W W')
      (fun j v W => match j with
        | 0 => v = .slice a l.length cap
        | 1 => v = .int .i64 (half l.length : Nat)
        | 2 => v = .slice a1 (half l.length) cap
        | 3 => v = .int .i64 i
        | 4 => OD W w1.heap.size v (pathH (l.take (half l.length)) i)
        | 5 => v = .slice a l.length cap
        | 6 => v = .int .i64 (half l.length : Nat)
        | 7 => v = .slice a2 (l.length - half l.length) (cap - half l.length)
        | 8 => v = .agg (BV (treeH (l.drop (half l.length)))).toArray
        | 9 => ∃ g, v = .slice (some ⟨g, 0, none⟩) 1 1 ∧ DB W g 24 (treeH (l.drop (half l.length)))
        | _ => True) (fun _ => false)
      (by kernel_rfl) (by kernel_rfl) (by kernel_rfl) (by kernel_rfl) (by kernel_rfl) (by kernel_rfl) (by kernel_rfl) ?_ (fun _ _ h => h.size) (dN (Below.refl _ _) 1) ?_ ?_
    · intro j v W W' hb hF
      match j, hF with
        | 0, h => exact h
        | 1, h => exact h
        | 2, h => exact h
        | 3, h => exact h
        | 4, h => exact h.below hb
        | 5, h => exact h
        | 6, h => exact h
        | 7, h => exact h
        | 8, h => exact h
        | 9, ⟨g, h1, h2⟩ => exact ⟨g, h1, h2.below hb h2.lt⟩
        | _ + 10, _ => trivial
    · refine ⟨?_, ?_, ?_, ?_, ?_, ?_, ?_, ?_, ?_, ?_, trivial⟩
      · refine stepJ_val' (fun _ _ => Below.refl _ _) rfl rfl rfl fun ac W hA hG hD => ⟨_, ?_, rfl⟩
        have h0 := hA.getD (t := 0) (by kernel_rfl)
        simp only [Array.getD_eq_getD_getElem?] at h0
        simp [execOp, Act.eval, h0, go_sem]
      · refine stepJ_val' (fun _ _ => Below.refl _ _) rfl rfl rfl fun ac W hA hG hD => ⟨_, ?_, rfl⟩
        have h5 := hA.getD (t := 5) (by kernel_rfl)
        simp only [Array.getD_eq_getD_getElem?] at h5
        simp [execOp, Act.eval, h5, go_sem]
      · refine stepJ_val' (fun _ _ => Below.refl _ _) rfl rfl rfl fun ac W hA hG hD => ⟨_, ?_, rfl⟩
        have h16 := hD.get 0 16 _ rfl rfl (by kernel_rfl)
        have h17 := hD.get 1 17 _ rfl rfl (by kernel_rfl)
        simp only [Array.getD_eq_getD_getElem?] at h16 h17
        have := hs1H.out W
        simp [execOp, Act.eval, h16, h17, Instr.sliceAt, this, Result.andThen]
      · refine stepJ_val' (fun _ _ => Below.refl _ _) rfl rfl rfl fun ac W hA hG hD => ⟨_, ?_, rfl⟩
        have h1 := hA.getD (t := 1) (by kernel_rfl)
        simp only [Array.getD_eq_getD_getElem?] at h1
        simp [execOp, Act.eval, h1, go_sem]
      · refine stepJ_any rfl fun ac W hA hG hD K hK => ?_
        have h18 := hD.get 2 18 _ rfl rfl (by kernel_rfl)
        have h19 := hD.get 3 19 _ rfl rfl (by kernel_rfl)
        simp only [Array.getD_eq_getD_getElem?] at h18 h19
        rw [if_pos (by rfl)]
        refine wp_call (f := 26) (args := #[.slice a1 (half l.length) cap, .int .i64 i]) (by simp [execOp, Act.eval, h18, h19, go_sem]) ((hP.out W hG).mono fun e W' he => ?_)
        obtain ⟨v', rfl, hov, hbw⟩ := he
        exact hK _ _ (hG.trans (hbw.mono hG.size)) hbw (ownsRow_mono hov hG.size) (fun h => by cases h)
      · refine stepJ_val' (fun _ _ => Below.refl _ _) rfl rfl rfl fun ac W hA hG hD => ⟨_, ?_, rfl⟩
        have h0 := hA.getD (t := 0) (by kernel_rfl)
        simp only [Array.getD_eq_getD_getElem?] at h0
        simp [execOp, Act.eval, h0, go_sem]
      · refine stepJ_val' (fun _ _ => Below.refl _ _) rfl rfl rfl fun ac W hA hG hD => ⟨_, ?_, rfl⟩
        have h5 := hA.getD (t := 5) (by kernel_rfl)
        simp only [Array.getD_eq_getD_getElem?] at h5
        simp [execOp, Act.eval, h5, go_sem]
      · refine stepJ_val' (fun _ _ => Below.refl _ _) rfl rfl rfl fun ac W hA hG hD => ⟨_, ?_, rfl⟩
        have h21 := hD.get 5 21 _ rfl rfl (by kernel_rfl)
        have h22 := hD.get 6 22 _ rfl rfl (by kernel_rfl)
        simp only [Array.getD_eq_getD_getElem?] at h21 h22
        have := hs2H.out W
        simp [execOp, Act.eval, h21, h22, Instr.sliceAt, this, Result.andThen]
      · refine stepJ_any rfl fun ac W hA hG hD K hK => ?_
        have h23 := hD.get 7 23 _ rfl rfl (by kernel_rfl)
        simp only [Array.getD_eq_getD_getElem?] at h23
        rw [if_pos (by rfl)]
        refine wp_call (f := 9) (args := #[.slice a2 (l.length - half l.length) (cap - half l.length)]) (by simp [execOp, Act.eval, h23, go_sem]) ((hT.out W hG).mono fun e W' he => ?_)
        obtain ⟨rfl, hbw⟩ := he
        exact hK _ _ (hG.trans (hbw.mono hG.size)) hbw rfl (fun h => by cases h)
      · refine stepJ_make rfl rfl fun ac W hA hG hD => ⟨.slice (some ⟨W.heap.size, 0, none⟩) 1 1, W.alloc (.cells (BV (treeH (l.drop (half l.length)))).toArray 24), ?_, hG.alloc hG.size _, (Below.refl _ _).alloc (Nat.le_refl _) _, ⟨_, rfl, heap_alloc_new _ _⟩, fun h => by cases h⟩
        have h24 := hD.get 8 24 _ rfl rfl (by kernel_rfl)
        simp only [Array.getD_eq_getD_getElem?] at h24
        have hsz : (BV (treeH (l.drop (half l.length)))).toArray.size = 32 := by rw [List.size_toArray, BV_length, treeH_length]
        simp [execOp, Act.eval, h24, hsz, go_sem]
        rw [one_cells (treeH_length _)]
    · intro n T W hG hF hne hltb
      have e16 : T 16 = .slice a l.length cap := hF 0 _ rfl (by omega)
      have e17 : T 17 = .int .i64 (half l.length : Nat) := hF 1 _ rfl (by omega)
      have e18 : T 18 = .slice a1 (half l.length) cap := hF 2 _ rfl (by omega)
      have e19 : T 19 = .int .i64 i := hF 3 _ rfl (by omega)
      obtain ⟨v20, e20, o20⟩ : ∃ v, T 20 = v ∧ OD W w1.heap.size v (pathH (l.take (half l.length)) i) := ⟨_, rfl, hF 4 _ rfl (by omega)⟩
      have e21 : T 21 = .slice a l.length cap := hF 5 _ rfl (by omega)
      have e22 : T 22 = .int .i64 (half l.length : Nat) := hF 6 _ rfl (by omega)
      have e23 : T 23 = .slice a2 (l.length - half l.length) (cap - half l.length) := hF 7 _ rfl (by omega)
      have e24 : T 24 = .agg (BV (treeH (l.drop (half l.length)))).toArray := hF 8 _ rfl (by omega)
      obtain ⟨g25, e25, d25⟩ : ∃ g, T 25 = .slice (some ⟨g, 0, none⟩) 1 1 ∧ DB W g 24 (treeH (l.drop (half l.length))) := hF 9 _ rfl (by omega)
      clear hF hne hltb
      simp only [List.take, fillT, List.setIfInBounds_toArray, List.set_cons_zero, List.set_cons_succ, e16, e17, e18, e19, e20, e21, e22, e23, e24, e25]
      refine wpAny_ready (rs := [10]) (by kernel_rfl) (by simp) (AllReady.cons (o := ⟨some 26, .call { callee := .builtin .append, args := #[.tmp 20, .tmp 25], argTypes := #[26, 26] }, _, _, _, none⟩) rfl (fun K1 hK1 => ?_) AllReady.nil)
      refine step_lists rfl (.tmp 20) (.tmp 25) rfl w1.heap.size _ (pathH (l.take (half l.length)) i) [(treeH (l.drop (half l.length)))] rfl o20 (some ⟨g25, 0, none⟩) 1 rfl (RD.ofDB d25 (treeH_length _)) (by have := hpl.out; simp; omega) hG.size ?_
      intro v8 W8 ho8 hb8 _ _
      refine hK1 _ _ ?_
      clear hK1 K1
      refine wpAny_ready (rs := [11]) (by kernel_rfl) (by simp) (AllReady.cons (o := ⟨some 4, .assign (.tmp 26), _, _, _, none⟩) rfl (fun K1 hK1 => ?_) AllReady.nil)
      rw [if_pos (by rfl)]
      refine wp_val (v := v8) (w' := W8) (by simp [execOp, Act.eval, Act.put, go_sem]) (hK1 _ _ ?_)
      clear hK1 K1
      refine wpAny_done (by kernel_rfl) ?_ _
      simp only [Act.put, List.setIfInBounds_toArray, List.set_cons_zero, List.set_cons_succ]
      have hbe := hbb1.out.trans ((hG.trans hb8).mono hbb1.out.size)
      have hoF : OD W8 w.heap.size v8 (pathH l i) := by rw [hfin.out]; exact ownsRow_mono ho8 hbb1.out.size
      clear e16 e17 e18 e19 e20 e21 e22 e23 e24 e25 hG ho8 hb8
      go_wp2_with fail
      go_ret
      exact ⟨_, rfl, hoF, hbe⟩
  · have hi' : ¬ (i : Int) < (half l.length : Nat) := by omega
    rw [if_neg hi] at hpt
    have hfin := Lib.hid hpt
    have hsub : IntKind.i64.wrap ((i : Int) - (half l.length : Nat)) = (i : Int) - (half l.length : Nat) := IntWalk.i64_in _ (by omega)
    have hpl : Hid ((pathH (l.drop (half l.length)) (i - half l.length)).length < l.length) := by
      have := pathH_length _ (l.drop (half l.length)) (i - half l.length) (Nat.le_refl _) (by rw [List.length_drop]; omega)
      rw [List.length_drop] at this
      show _ < _
      omega
    go_enter Tryd.func26, Tryd.ntmps26
    go_wp2_with fail
    refine (hH.out _).mono ?_
    rintro e w1 ⟨rfl, hb1⟩
    have hbb1 := Lib.hid hb1
    have hP : Hid (∀ W, Below w1.heap.size w1 W → Calls Tryd.prog 26 #[.slice a2 (l.length - half l.length) (cap - half l.length), .int .i64 ((i : Int) - (half l.length : Nat))] W fun e W' => ∃ v, e = .returned v ∧ OD W' W.heap.size v (pathH (l.drop (half l.length)) (i - half l.length)) ∧ Below W.heap.size W W') := fun W hW => by
      have h := ih2 (i - half l.length) W a2 (cap - half l.length) (by rw [List.length_drop]; omega) ((hRH.out.below (hbb1.out.trans (hW.mono hbb1.out.size))).from_at (by omega) hs2H.out)
      rw [List.length_drop, show ((i - half l.length : Nat) : Int) = (i : Int) - (half l.length : Nat) by omega] at h
      exact h
    have hT : Hid (∀ W, Below w1.heap.size w1 W → Calls Tryd.prog 9 #[.slice a1 (half l.length) cap] W fun e W' => e = .returned (.agg (BV (treeH (l.take (half l.length)))).toArray) ∧ Below W.heap.size W W') := fun W hW => by
      have h := rTree_any (l.take (half l.length)) (by omega) W a1 cap ((hRH.out.below (hbb1.out.trans (hW.mono hbb1.out.size))).to_at (by omega) hs1H.out)
      rwa [hlt] at h
    clear hb1 hH hpt ih1 ih2
    go_wp2_with fail
    refine wp_region_pre 12 2 (fun W => Below w1.heap.size w1 W) (fun W W' => Below W.heap.size W W')
      (fun j v W => match j with
        | 0 => v = .slice a l.length cap
        | 1 => v = .int .i64 (half l.length : Nat)
        | 2 => v = .slice a2 (l.length - half l.length) (cap - half l.length)
        | 3 => v = .int .i64 i
        | 4 => v = .int .i64 (half l.length : Nat)
        | 5 => v = .int .i64 ((i : Int) - (half l.length : Nat))
        | 6 => OD W w1.heap.size v (pathH (l.drop (half l.length)) (i - half l.length))
        | 7 => v = .slice a l.length cap
        | 8 => v = .int .i64 (half l.length : Nat)
        | 9 => v = .slice a1 (half l.length) cap
        | 10 => v = .agg (BV (treeH (l.take (half l.length)))).toArray
        | 11 => ∃ g, v = .slice (some ⟨g, 0, none⟩) 1 1 ∧ DB W g 24 (treeH (l.take (half l.length)))
        | _ => True) (fun _ => false)
      (by kernel_rfl) (by kernel_rfl) (by kernel_rfl) (by kernel_rfl) (by kernel_rfl) (by kernel_rfl) (by kernel_rfl) ?_ (fun _ _ h => h.size) (dN (Below.refl _ _) 1) ?_ ?_
    · intro j v W W' hb hF
      match j, hF with
        | 0, h => exact h
        | 1, h => exact h
        | 2, h => exact h
        | 3, h => exact h
        | 4, h => exact h
        | 5, h => exact h
        | 6, h => exact h.below hb
        | 7, h => exact h
        | 8, h => exact h
        | 9, h => exact h
        | 10, h => exact h
        | 11, ⟨g, h1, h2⟩ => exact ⟨g, h1, h2.below hb h2.lt⟩
        | _ + 12, _ => trivial
    · refine ⟨?_, ?_, ?_, ?_, ?_, ?_, ?_, ?_, ?_, ?_, ?_, ?_, trivial⟩
      · refine stepJ_val' (fun _ _ => Below.refl _ _) rfl rfl rfl fun ac W hA hG hD => ⟨_, ?_, rfl⟩
        have h0 := hA.getD (t := 0) (by kernel_rfl)
        simp only [Array.getD_eq_getD_getElem?] at h0
        simp [execOp, Act.eval, h0, go_sem]
      · refine stepJ_val' (fun _ _ => Below.refl _ _) rfl rfl rfl fun ac W hA hG hD => ⟨_, ?_, rfl⟩
        have h5 := hA.getD (t := 5) (by kernel_rfl)
        simp only [Array.getD_eq_getD_getElem?] at h5
        simp [execOp, Act.eval, h5, go_sem]
      · refine stepJ_val' (fun _ _ => Below.refl _ _) rfl rfl rfl fun ac W hA hG hD => ⟨_, ?_, rfl⟩
        have h27 := hD.get 0 27 _ rfl rfl (by kernel_rfl)
        have h28 := hD.get 1 28 _ rfl rfl (by kernel_rfl)
        simp only [Array.getD_eq_getD_getElem?] at h27 h28
        have := hs2H.out W
        simp [execOp, Act.eval, h27, h28, Instr.sliceAt, this, Result.andThen]
      · refine stepJ_val' (fun _ _ => Below.refl _ _) rfl rfl rfl fun ac W hA hG hD => ⟨_, ?_, rfl⟩
        have h1 := hA.getD (t := 1) (by kernel_rfl)
        simp only [Array.getD_eq_getD_getElem?] at h1
        simp [execOp, Act.eval, h1, go_sem]
      · refine stepJ_val' (fun _ _ => Below.refl _ _) rfl rfl rfl fun ac W hA hG hD => ⟨_, ?_, rfl⟩
        have h5 := hA.getD (t := 5) (by kernel_rfl)
        simp only [Array.getD_eq_getD_getElem?] at h5
        simp [execOp, Act.eval, h5, go_sem]
      · refine stepJ_val' (fun _ _ => Below.refl _ _) rfl rfl rfl fun ac W hA hG hD => ⟨_, ?_, rfl⟩
        have h30 := hD.get 3 30 _ rfl rfl (by kernel_rfl)
        have h31 := hD.get 4 31 _ rfl rfl (by kernel_rfl)
        simp only [Array.getD_eq_getD_getElem?] at h30 h31
        simp [execOp, Act.eval, h30, h31, go_sem, hsub]
      · refine stepJ_any rfl fun ac W hA hG hD K hK => ?_
        have h29 := hD.get 2 29 _ rfl rfl (by kernel_rfl)
        have h32 := hD.get 5 32 _ rfl rfl (by kernel_rfl)
        simp only [Array.getD_eq_getD_getElem?] at h29 h32
        rw [if_pos (by rfl)]
        refine wp_call (f := 26) (args := #[.slice a2 (l.length - half l.length) (cap - half l.length), .int .i64 ((i : Int) - (half l.length : Nat))]) (by simp [execOp, Act.eval, h29, h32, go_sem]) ((hP.out W hG).mono fun e W' he => ?_)
        obtain ⟨v', rfl, hov, hbw⟩ := he
        exact hK _ _ (hG.trans (hbw.mono hG.size)) hbw (ownsRow_mono hov hG.size) (fun h => by cases h)
      · refine stepJ_val' (fun _ _ => Below.refl _ _) rfl rfl rfl fun ac W hA hG hD => ⟨_, ?_, rfl⟩
        have h0 := hA.getD (t := 0) (by kernel_rfl)
        simp only [Array.getD_eq_getD_getElem?] at h0
        simp [execOp, Act.eval, h0, go_sem]
      · refine stepJ_val' (fun _ _ => Below.refl _ _) rfl rfl rfl fun ac W hA hG hD => ⟨_, ?_, rfl⟩
        have h5 := hA.getD (t := 5) (by kernel_rfl)
        simp only [Array.getD_eq_getD_getElem?] at h5
        simp [execOp, Act.eval, h5, go_sem]
      · refine stepJ_val' (fun _ _ => Below.refl _ _) rfl rfl rfl fun ac W hA hG hD => ⟨_, ?_, rfl⟩
        have h34 := hD.get 7 34 _ rfl rfl (by kernel_rfl)
        have h35 := hD.get 8 35 _ rfl rfl (by kernel_rfl)
        simp only [Array.getD_eq_getD_getElem?] at h34 h35
        have := hs1H.out W
        simp [execOp, Act.eval, h34, h35, Instr.sliceAt, this, Result.andThen]
      · refine stepJ_any rfl fun ac W hA hG hD K hK => ?_
        have h36 := hD.get 9 36 _ rfl rfl (by kernel_rfl)
        simp only [Array.getD_eq_getD_getElem?] at h36
        rw [if_pos (by rfl)]
        refine wp_call (f := 9) (args := #[.slice a1 (half l.length) cap]) (by simp [execOp, Act.eval, h36, go_sem]) ((hT.out W hG).mono fun e W' he => ?_)
        obtain ⟨rfl, hbw⟩ := he
        exact hK _ _ (hG.trans (hbw.mono hG.size)) hbw rfl (fun h => by cases h)
      · refine stepJ_make rfl rfl fun ac W hA hG hD => ⟨.slice (some ⟨W.heap.size, 0, none⟩) 1 1, W.alloc (.cells (BV (treeH (l.take (half l.length)))).toArray 24), ?_, hG.alloc hG.size _, (Below.refl _ _).alloc (Nat.le_refl _) _, ⟨_, rfl, heap_alloc_new _ _⟩, fun h => by cases h⟩
        have h37 := hD.get 10 37 _ rfl rfl (by kernel_rfl)
        simp only [Array.getD_eq_getD_getElem?] at h37
        have hsz : (BV (treeH (l.take (half l.length)))).toArray.size = 32 := by rw [List.size_toArray, BV_length, treeH_length]
        simp [execOp, Act.eval, h37, hsz, go_sem]
        rw [one_cells (treeH_length _)]
    · intro n T W hG hF hne hltb
      have e27 : T 27 = .slice a l.length cap := hF 0 _ rfl (by omega)
      have e28 : T 28 = .int .i64 (half l.length : Nat) := hF 1 _ rfl (by omega)
      have e29 : T 29 = .slice a2 (l.length - half l.length) (cap - half l.length) := hF 2 _ rfl (by omega)
      have e30 : T 30 = .int .i64 i := hF 3 _ rfl (by omega)
      have e31 : T 31 = .int .i64 (half l.length : Nat) := hF 4 _ rfl (by omega)
      have e32 : T 32 = .int .i64 ((i : Int) - (half l.length : Nat)) := hF 5 _ rfl (by omega)
      obtain ⟨v33, e33, o33⟩ : ∃ v, T 33 = v ∧ OD W w1.heap.size v (pathH (l.drop (half l.length)) (i - half l.length)) := ⟨_, rfl, hF 6 _ rfl (by omega)⟩
      have e34 : T 34 = .slice a l.length cap := hF 7 _ rfl (by omega)
      have e35 : T 35 = .int .i64 (half l.length : Nat) := hF 8 _ rfl (by omega)
      have e36 : T 36 = .slice a1 (half l.length) cap := hF 9 _ rfl (by omega)
      have e37 : T 37 = .agg (BV (treeH (l.take (half l.length)))).toArray := hF 10 _ rfl (by omega)
      obtain ⟨g38, e38, d38⟩ : ∃ g, T 38 = .slice (some ⟨g, 0, none⟩) 1 1 ∧ DB W g 24 (treeH (l.take (half l.length))) := hF 11 _ rfl (by omega)
      clear hF hne hltb
      simp only [List.take, fillT, List.setIfInBounds_toArray, List.set_cons_zero, List.set_cons_succ, e27, e28, e29, e30, e31, e32, e33, e34, e35, e36, e37, e38]
      refine wpAny_ready (rs := [12]) (by kernel_rfl) (by simp) (AllReady.cons (o := ⟨some 39, .call { callee := .builtin .append, args := #[.tmp 33, .tmp 38], argTypes := #[26, 26] }, _, _, _, none⟩) rfl (fun K1 hK1 => ?_) AllReady.nil)
      refine step_lists rfl (.tmp 33) (.tmp 38) rfl w1.heap.size _ (pathH (l.drop (half l.length)) (i - half l.length)) [(treeH (l.take (half l.length)))] rfl o33 (some ⟨g38, 0, none⟩) 1 rfl (RD.ofDB d38 (treeH_length _)) (by have := hpl.out; simp; omega) hG.size ?_
      intro v8 W8 ho8 hb8 _ _
      refine hK1 _ _ ?_
      clear hK1 K1
      refine wpAny_ready (rs := [13]) (by kernel_rfl) (by simp) (AllReady.cons (o := ⟨some 4, .assign (.tmp 39), _, _, _, none⟩) rfl (fun K1 hK1 => ?_) AllReady.nil)
      rw [if_pos (by rfl)]
      refine wp_val (v := v8) (w' := W8) (by simp [execOp, Act.eval, Act.put, go_sem]) (hK1 _ _ ?_)
      clear hK1 K1
      refine wpAny_done (by kernel_rfl) ?_ _
      simp only [Act.put, List.setIfInBounds_toArray, List.set_cons_zero, List.set_cons_succ]
      have hbe := hbb1.out.trans ((hG.trans hb8).mono hbb1.out.size)
      have hoF : OD W8 w.heap.size v8 (pathH l i) := by rw [hfin.out]; exact ownsRow_mono ho8 hbb1.out.size
      clear e27 e28 e29 e30 e31 e32 e33 e34 e35 e36 e37 e38 hG ho8 hb8
      go_wp2_with fail
      go_ret
      exact ⟨_, rfl, hoF, hbe⟩
end Go.Proofs.YtjfoihlelkfaoaaDoor
