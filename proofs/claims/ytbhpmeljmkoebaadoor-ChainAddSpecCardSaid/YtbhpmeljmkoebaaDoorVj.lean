/- The reference's Few and Same. -/
import Derived.Test.YtbhpmeljmkoebaaDoorVi
namespace Go.Proofs.YtbhpmeljmkoebaaDoor
open Go.RowKit

def fewP (l : List Lk) : Bool := decide (l.length ≤ 16) && l.all fun x => decide (x.data.length ≤ 300)
theorem few_len {l : List Lk} (h : fewP l = true) : l.length ≤ 16 := by simp [fewP] at h; exact h.1
theorem few_short {l : List Lk} (h : fewP l = true) : Short l := by
  simp [fewP] at h
  exact fun x hx => Nat.le_trans (h.2 x hx) (by omega)
set_option maxRecDepth 100000 in
set_option maxHeartbeats 2000000 in
theorem Few_any (l : List Lk) (w : World) (a : Option Addr) (cap : Nat) (hQ : QL w w.heap.size l a cap) :
    Calls Tryd.prog 9 #[.slice a l.length cap] w fun e w' => e = .returned (.bool (fewP l)) ∧ Below w.heap.size w w' := by
  by_cases h16 : l.length ≤ 16
  case neg =>
    have hf : fewP l = false := by simp [fewP]; intro h; exact absurd h h16
    have h16' : (16 : Int) < l.length := by omega
    have hB := Below.refl w.heap.size w
    rw [hf]
    clear h16 hQ hf
    go_enter Tryd.func9, Tryd.ntmps9
    go_wp2_with fail
    go_ret
    exact ⟨rfl, hB⟩
  have h16' : ¬ (16 : Int) < l.length := by omega
  replace hQ := Lib.hid hQ
  have hfe : Hid (fewP l = l.all fun x => decide (x.data.length ≤ 300)) := by
    show fewP l = _
    rw [fewP, decide_eq_true h16, Bool.true_and]
  generalize fewP l = fv at hfe ⊢
  have hB := Lib.hid (Below.refl w.heap.size w)
  go_enter Tryd.func9, Tryd.ntmps9
  go_wp2_with fail
  clear h16'
  go_loopw [3] (fun i wr => ∃ k : Nat, i = .int .i64 (k : Int) ∧ k ≤ l.length ∧ Hid (Below w.heap.size w wr) ∧ Hid (∀ j (h : j < l.length), j < k → l[j].data.length ≤ 300)) (fun i _ => l.length - (intOf i).toNat)
  case atStart => exact ⟨0, rfl, by omega, hB, fun j _ hj => by omega⟩
  case round =>
    obtain ⟨k, rfl, hk, hb, hall⟩ := hrel
    by_cases hkl : k < l.length
    · obtain ⟨b, off, da, dc, ha, hbB, hr, hD⟩ := (hQ.out.lift hb.out hb.out.size).at_ hkl
      have h3 := (range_parts (hQ.out.fine l[k] (List.getElem_mem hkl)).prev hr).2.2.2
      have i0 : (0 : Int) ≤ k := by omega
      have i1 : (k : Int) < l.length := by omega
      by_cases hlk : l[k].data.length ≤ 300
      · have hlk' : ¬ (300 : Int) < l[k].data.length := by omega
        have hlkH := Lib.hid hlk
        clear hlk hr hD
        subst ha
        go_wp2_with fail
        go_roundw
        case rel => exact ⟨k + 1, by go_num, by omega, hb, fun j h hj => by
          by_cases e : j = k
          · subst e; exact hlkH.out
          · exact hall.out j h (by omega)⟩
        case measure => simp [intOf]; omega
      · have hlk' : (300 : Int) < l[k].data.length := by omega
        have hff : Hid (fv = false) := by
          show fv = false
          rw [hfe.out, List.all_eq_false]
          exact ⟨l[k], List.getElem_mem hkl, by simpa using hlk⟩
        clear hlk hr hD
        subst ha
        go_wp2_with fail
        go_ret
        exact ⟨by rw [hff.out]; rfl, hb.out⟩
    · obtain rfl : k = l.length := by omega
      have hff : Hid (fv = true) := by
        show fv = true
        rw [hfe.out, List.all_eq_true]
        intro x hx
        obtain ⟨j, hj, rfl⟩ := List.getElem_of_mem hx
        exact decide_eq_true (hall.out j hj hj)
      have hkl' : ¬ (l.length : Int) < l.length := by omega
      go_wp2_with fail
      go_ret
      exact ⟨by rw [hff.out]; rfl, hb.out⟩

def sameLs (la lb : List Lk) : Bool := la.length == lb.length && (firstD la lb la.length).isNone
theorem firstD_lt {la lb : List Lk} {n k : Nat} (h : firstD la lb n = some k) : k < n := List.mem_range.1 (List.mem_of_find?_eq_some h)
theorem firstD_dif {la lb : List Lk} {n k : Nat} (h : firstD la lb n = some k) : difAt la lb k = true := List.find?_some h
theorem firstD_before {la lb : List Lk} {n k : Nat} (h : firstD la lb n = some k) : ∀ i, i < k → difAt la lb i = false := by
  intro i hi
  have hk := firstD_lt h
  unfold firstD at h
  rw [List.find?_eq_some_iff_append] at h
  obtain ⟨-, us, vs, he, hno⟩ := h
  have hl : us.length = k := by
    have h1 : (List.range n)[us.length]? = some k := by rw [he]; simp
    rw [List.getElem?_range (by have := congrArg List.length he; simp at this; omega)] at h1
    simpa using h1
  have : i ∈ us := by
    have h2 : (List.range n)[i]? = some i := List.getElem?_range (by omega)
    rw [he, List.getElem?_append_left (by omega)] at h2
    exact List.mem_of_getElem? h2
  simpa using hno i this
theorem firstD_none_iff {la lb : List Lk} {n : Nat} : firstD la lb n = none ↔ ∀ i, i < n → difAt la lb i = false := by
  constructor
  · intro h i hi
    have := List.find?_eq_none.1 h i (List.mem_range.2 hi)
    simpa using this
  · exact firstD_none
theorem difAt_false {la lb : List Lk} {i : Nat} (h1 : i < la.length) (h2 : i < lb.length) : difAt la lb i = false ↔ la[i] = lb[i] := by
  rw [difAt_eq h1 h2, ← sameL_iff]; simp
theorem sameLs_iff {la lb : List Lk} : sameLs la lb = true ↔ la = lb := by
  constructor
  · intro h
    simp [sameLs] at h
    obtain ⟨h1, h2⟩ := h
    have h3 := firstD_none_iff.1 h2
    exact List.ext_getElem h1 fun i hi hj => (difAt_false hi hj).1 (h3 i hi)
  · rintro rfl
    simp [sameLs]
    exact firstD_none fun i hi => (difAt_false hi hi).2 rfl

set_option maxRecDepth 100000 in
set_option maxHeartbeats 2000000 in
theorem Same_any (la lb : List Lk) (hm : la.length ≤ 1000000) (w : World) (a B : Option Addr) (ca cb : Nat) (hQa : QL w w.heap.size la a ca) (hQb : QL w w.heap.size lb B cb) :
    Calls Tryd.prog 14 #[.slice a la.length ca, .slice B lb.length cb] w fun e w' => e = .returned (.bool (sameLs la lb)) ∧ Below w.heap.size w w' := by
  by_cases hll : la.length = lb.length
  case neg =>
    have hf : sameLs la lb = false := by simp [sameLs, hll]
    have hll' : (la.length : Int) ≠ lb.length := by omega
    have hB := Below.refl w.heap.size w
    rw [hf]
    clear hll hQa hQb hf
    go_enter Tryd.func14, Tryd.ntmps14
    go_wp2_with fail
    go_ret
    exact ⟨rfl, hB⟩
  have hfe : Hid (sameLs la lb = (firstD la lb la.length).isNone) := by
    show sameLs la lb = _
    rw [sameLs, beq_iff_eq.2 hll, Bool.true_and]
  generalize sameLs la lb = fv at hfe ⊢
  replace hQa := Lib.hid hQa
  replace hQb := Lib.hid hQb
  have hllH := Lib.hid hll
  rw [← hll]
  have hB := Lib.hid (Below.refl w.heap.size w)
  clear hll
  go_enter Tryd.func14, Tryd.ntmps14
  go_wp2_with fail
  go_loopw [5] (fun i wr => ∃ k : Nat, i = .int .i64 (k : Int) ∧ k ≤ la.length ∧ Hid (Below w.heap.size w wr) ∧ Hid (∀ j, j < k → difAt la lb j = false)) (fun i _ => la.length - (intOf i).toNat)
  case atStart => exact ⟨0, rfl, by omega, hB, fun j hj => by omega⟩
  case round =>
    obtain ⟨k, rfl, hk, hb, hall⟩ := hrel
    by_cases hkl : k < la.length
    · have hkb : k < lb.length := by have := hllH.out; omega
      obtain ⟨b, off, da, dc, ha, hbB, hr, hD⟩ := (hQa.out.lift hb.out hb.out.size).at_ hkl
      obtain ⟨b', off', da', dc', hA, hbB', hr', hD'⟩ := (hQb.out.lift hb.out hb.out.size).at_ hkb
      have hfx := (hQa.out.fine la[k] (List.getElem_mem hkl)).prev
      have hfy := (hQb.out.fine lb[k] (List.getElem_mem hkb)).prev
      have hdif := difAt_eq (la := la) (lb := lb) hkl hkb
      have i0 : (0 : Int) ≤ k := by omega
      have i1 : (k : Int) < la.length := by omega
      have hx : Hid (∀ W, Below wr.heap.size wr W → W.rangeAt b (off + k * 35) (LW la[k] da dc)) := fun W hW j v hv => (hW.cell (p := ⟨b, off + k * 35 + j, none⟩) hbB).trans (hr j v hv)
      have hy : Hid (∀ W, Below wr.heap.size wr W → W.rangeAt b' (off' + k * 35) (LW lb[k] da' dc')) := fun W hW j v hv => (hW.cell (p := ⟨b', off' + k * 35 + j, none⟩) hbB').trans (hr' j v hv)
      have hsx := Lib.hid (LW_info (a := da) (c := dc) hfx)
      have hsy := Lib.hid (LW_info (a := da') (c := dc') hfy)
      have hs : Hid (∀ W, Below wr.heap.size wr W → Calls Tryd.prog 18 #[.agg (LW la[k] da dc).toArray, .agg (LW lb[k] da' dc').toArray] W fun e w' => e = .returned (.bool (!difAt la lb k)) ∧ Below W.heap.size W w') := fun W hW => by
        have := SameLink_any la[k] lb[k] hfx hfy W da da' dc dc' (hD.read.lift hW hW.size) (hD'.read.lift hW hW.size)
        rwa [hdif, Bool.not_not]
      subst ha hA
      clear hr hr' hD hD' hfx hfy hdif hbB hbB'
      generalize la[k] = x at *
      generalize lb[k] = y at *
      cases hdk : difAt la lb k with
      | true =>
        rw [hdk] at hs
        have hff : Hid (fv = false) := by
          show fv = false
          rw [hfe.out, firstD_some hkl hall.out hdk]; rfl
        go_wp2_with fail
        refine wp_region_pre 10 0 (fun W => Below wr.heap.size wr W) (fun W W' => Below W.heap.size W W')
          (fun i v W => match i with
            | 0 => v = .slice (some ⟨b, off, none⟩) la.length ca
            | 1 => v = .int .i64 (k : Int)
            | 2 => v = .pointer (some ⟨b, off + k * 35, none⟩)
            | 3 => v = .agg (LW x da dc).toArray
            | 4 => v = .slice (some ⟨b', off', none⟩) la.length cb
            | 5 => v = .int .i64 (k : Int)
            | 6 => v = .pointer (some ⟨b', off' + k * 35, none⟩)
            | 7 => v = .agg (LW y da' dc').toArray
            | 8 => v = .bool false
            | 9 => v = .bool true
            | _ => True) (fun _ => false)
          (by kernel_rfl) (by kernel_rfl) (by kernel_rfl) (by kernel_rfl) (by kernel_rfl) (by kernel_rfl) (by kernel_rfl) ?_ (fun _ _ h => h.size) (dN (Below.refl _ _) 1) ?_ ?_
        · intro i v W W' hb hF
          match i, hF with
          | 0, h => exact h
          | 1, h => exact h
          | 2, h => exact h
          | 3, h => exact h
          | 4, h => exact h
          | 5, h => exact h
          | 6, h => exact h
          | 7, h => exact h
          | 8, h => exact h
          | 9, h => exact h
          | _ + 10, _ => trivial
        · refine ⟨?_, ?_, ?_, ?_, ?_, ?_, ?_, ?_, ?_, ?_, trivial⟩
          · refine stepJ_any rfl fun ac W hAA hG hDD K hK => ?_
            have h0 := hAA.getD (t := 0) (by kernel_rfl)
            simp only [Array.getD_eq_getD_getElem?] at h0
            rw [if_pos (by rfl)]
            exact wp_val (v := .slice (some ⟨b, off, none⟩) la.length ca) (w' := W) (by simp [execOp, Act.eval, h0, go_sem]) (hK _ _ hG (Below.refl _ _) rfl (fun h => by cases h))
          · refine stepJ_any rfl fun ac W hAA hG hDD K hK => ?_
            have h5 := hAA.getD (t := 5) (by kernel_rfl)
            simp only [Array.getD_eq_getD_getElem?] at h5
            rw [if_pos (by rfl)]
            exact wp_val (v := .int .i64 (k : Int)) (w' := W) (by simp [execOp, Act.eval, h5, go_sem]) (hK _ _ hG (Below.refl _ _) rfl (fun h => by cases h))
          · refine stepJ_any rfl fun ac W hAA hG hDD K hK => ?_
            have h17 := hDD.get 0 17 _ rfl rfl (by kernel_rfl)
            have h18 := hDD.get 1 18 _ rfl rfl (by kernel_rfl)
            simp only [Array.getD_eq_getD_getElem?] at h17 h18
            rw [if_pos (by rfl)]
            exact wp_val (v := .pointer (some ⟨b, off + k * 35, none⟩)) (w' := W) (by simp [execOp, Act.eval, h17, h18, go_sem, i0, i1]) (hK _ _ hG (Below.refl _ _) rfl (fun h => by cases h))
          · refine stepJ_any rfl fun ac W hAA hG hDD K hK => ?_
            have h19 := hDD.get 2 19 _ rfl rfl (by kernel_rfl)
            rw [if_pos (by rfl)]
            simp only [Array.getD_eq_getD_getElem?] at h19
            exact wp_load_mid 37 _ rfl b (off + k * 35) (by simpa [Act.eval] using h19) (LW x da dc) _ (hx.out W hG) Tryd.underlying37 rfl hsx.out (hK _ _ hG (Below.refl _ _) rfl (fun h => by cases h))
          · refine stepJ_any rfl fun ac W hAA hG hDD K hK => ?_
            have h1 := hAA.getD (t := 1) (by kernel_rfl)
            simp only [Array.getD_eq_getD_getElem?] at h1
            rw [if_pos (by rfl)]
            exact wp_val (v := .slice (some ⟨b', off', none⟩) la.length cb) (w' := W) (by simp [execOp, Act.eval, h1, go_sem]) (hK _ _ hG (Below.refl _ _) rfl (fun h => by cases h))
          · refine stepJ_any rfl fun ac W hAA hG hDD K hK => ?_
            have h5 := hAA.getD (t := 5) (by kernel_rfl)
            simp only [Array.getD_eq_getD_getElem?] at h5
            rw [if_pos (by rfl)]
            exact wp_val (v := .int .i64 (k : Int)) (w' := W) (by simp [execOp, Act.eval, h5, go_sem]) (hK _ _ hG (Below.refl _ _) rfl (fun h => by cases h))
          · refine stepJ_any rfl fun ac W hAA hG hDD K hK => ?_
            have h21 := hDD.get 4 21 _ rfl rfl (by kernel_rfl)
            have h22 := hDD.get 5 22 _ rfl rfl (by kernel_rfl)
            simp only [Array.getD_eq_getD_getElem?] at h21 h22
            rw [if_pos (by rfl)]
            exact wp_val (v := .pointer (some ⟨b', off' + k * 35, none⟩)) (w' := W) (by simp [execOp, Act.eval, h21, h22, go_sem, i0, i1]) (hK _ _ hG (Below.refl _ _) rfl (fun h => by cases h))
          · refine stepJ_any rfl fun ac W hAA hG hDD K hK => ?_
            have h23 := hDD.get 6 23 _ rfl rfl (by kernel_rfl)
            rw [if_pos (by rfl)]
            simp only [Array.getD_eq_getD_getElem?] at h23
            exact wp_load_mid 37 _ rfl b' (off' + k * 35) (by simpa [Act.eval] using h23) (LW y da' dc') _ (hy.out W hG) Tryd.underlying37 rfl hsy.out (hK _ _ hG (Below.refl _ _) rfl (fun h => by cases h))
          · refine stepJ_any rfl fun ac W hAA hG hDD K hK => ?_
            have h20 := hDD.get 3 20 _ rfl rfl (by kernel_rfl)
            have h24 := hDD.get 7 24 _ rfl rfl (by kernel_rfl)
            simp only [Array.getD_eq_getD_getElem?] at h20 h24
            rw [if_pos (by rfl)]
            refine wp_call (f := 18) (args := #[.agg (LW x da dc).toArray, .agg (LW y da' dc').toArray]) (by simp [execOp, Act.eval, h20, h24, go_sem]) ((hs.out W hG).mono fun e W9 he => ?_)
            obtain ⟨rfl, hbw⟩ := he
            exact hK _ _ (hG.trans (hbw.mono hG.size)) hbw rfl (fun h => by cases h)
          · refine stepJ_any rfl fun ac W hAA hG hDD K hK => ?_
            have h25 := hDD.get 8 25 _ rfl rfl (by kernel_rfl)
            simp only [Array.getD_eq_getD_getElem?] at h25
            rw [if_pos (by rfl)]
            exact wp_val (v := .bool true) (w' := W) (by simp [execOp, Act.eval, h25, go_sem]) (hK _ _ hG (Below.refl _ _) rfl (fun h => by cases h))
        intro fu T W9 hG hF hne hltb
        have e17 : T 17 = .slice (some ⟨b, off, none⟩) la.length ca := hF 0 _ rfl (by omega)
        have e18 : T 18 = .int .i64 (k : Int) := hF 1 _ rfl (by omega)
        have e19 : T 19 = .pointer (some ⟨b, off + k * 35, none⟩) := hF 2 _ rfl (by omega)
        have e20 : T 20 = .agg (LW x da dc).toArray := hF 3 _ rfl (by omega)
        have e21 : T 21 = .slice (some ⟨b', off', none⟩) la.length cb := hF 4 _ rfl (by omega)
        have e22 : T 22 = .int .i64 (k : Int) := hF 5 _ rfl (by omega)
        have e23 : T 23 = .pointer (some ⟨b', off' + k * 35, none⟩) := hF 6 _ rfl (by omega)
        have e24 : T 24 = .agg (LW y da' dc').toArray := hF 7 _ rfl (by omega)
        have e25 : T 25 = .bool false := hF 8 _ rfl (by omega)
        have e26 : T 26 = .bool true := hF 9 _ rfl (by omega)
        clear hF hne hltb
        simp only [List.take, fillT, List.setIfInBounds_toArray, List.set_cons_zero, List.set_cons_succ, e17, e18, e19, e20, e21, e22, e23, e24, e25, e26]
        clear e17 e18 e19 e20 e21 e22 e23 e24 e25 e26
        refine wpAny_done (by kernel_rfl) ?_ _
        have hb2 := Lib.hid (hb.out.trans (hG.mono hb.out.size))
        clear hG hx hy hs
        go_wp2_with fail
        go_ret
        exact ⟨by rw [hff.out]; rfl, hb2.out⟩
      | false =>
        rw [hdk] at hs
        go_wp2_with fail
        refine wp_region_pre 10 0 (fun W => Below wr.heap.size wr W) (fun W W' => Below W.heap.size W W')
          (fun i v W => match i with
            | 0 => v = .slice (some ⟨b, off, none⟩) la.length ca
            | 1 => v = .int .i64 (k : Int)
            | 2 => v = .pointer (some ⟨b, off + k * 35, none⟩)
            | 3 => v = .agg (LW x da dc).toArray
            | 4 => v = .slice (some ⟨b', off', none⟩) la.length cb
            | 5 => v = .int .i64 (k : Int)
            | 6 => v = .pointer (some ⟨b', off' + k * 35, none⟩)
            | 7 => v = .agg (LW y da' dc').toArray
            | 8 => v = .bool true
            | 9 => v = .bool false
            | _ => True) (fun _ => false)
          (by kernel_rfl) (by kernel_rfl) (by kernel_rfl) (by kernel_rfl) (by kernel_rfl) (by kernel_rfl) (by kernel_rfl) ?_ (fun _ _ h => h.size) (dN (Below.refl _ _) 1) ?_ ?_
        · intro i v W W' hb hF
          match i, hF with
          | 0, h => exact h
          | 1, h => exact h
          | 2, h => exact h
          | 3, h => exact h
          | 4, h => exact h
          | 5, h => exact h
          | 6, h => exact h
          | 7, h => exact h
          | 8, h => exact h
          | 9, h => exact h
          | _ + 10, _ => trivial
        · refine ⟨?_, ?_, ?_, ?_, ?_, ?_, ?_, ?_, ?_, ?_, trivial⟩
          · refine stepJ_any rfl fun ac W hAA hG hDD K hK => ?_
            have h0 := hAA.getD (t := 0) (by kernel_rfl)
            simp only [Array.getD_eq_getD_getElem?] at h0
            rw [if_pos (by rfl)]
            exact wp_val (v := .slice (some ⟨b, off, none⟩) la.length ca) (w' := W) (by simp [execOp, Act.eval, h0, go_sem]) (hK _ _ hG (Below.refl _ _) rfl (fun h => by cases h))
          · refine stepJ_any rfl fun ac W hAA hG hDD K hK => ?_
            have h5 := hAA.getD (t := 5) (by kernel_rfl)
            simp only [Array.getD_eq_getD_getElem?] at h5
            rw [if_pos (by rfl)]
            exact wp_val (v := .int .i64 (k : Int)) (w' := W) (by simp [execOp, Act.eval, h5, go_sem]) (hK _ _ hG (Below.refl _ _) rfl (fun h => by cases h))
          · refine stepJ_any rfl fun ac W hAA hG hDD K hK => ?_
            have h17 := hDD.get 0 17 _ rfl rfl (by kernel_rfl)
            have h18 := hDD.get 1 18 _ rfl rfl (by kernel_rfl)
            simp only [Array.getD_eq_getD_getElem?] at h17 h18
            rw [if_pos (by rfl)]
            exact wp_val (v := .pointer (some ⟨b, off + k * 35, none⟩)) (w' := W) (by simp [execOp, Act.eval, h17, h18, go_sem, i0, i1]) (hK _ _ hG (Below.refl _ _) rfl (fun h => by cases h))
          · refine stepJ_any rfl fun ac W hAA hG hDD K hK => ?_
            have h19 := hDD.get 2 19 _ rfl rfl (by kernel_rfl)
            rw [if_pos (by rfl)]
            simp only [Array.getD_eq_getD_getElem?] at h19
            exact wp_load_mid 37 _ rfl b (off + k * 35) (by simpa [Act.eval] using h19) (LW x da dc) _ (hx.out W hG) Tryd.underlying37 rfl hsx.out (hK _ _ hG (Below.refl _ _) rfl (fun h => by cases h))
          · refine stepJ_any rfl fun ac W hAA hG hDD K hK => ?_
            have h1 := hAA.getD (t := 1) (by kernel_rfl)
            simp only [Array.getD_eq_getD_getElem?] at h1
            rw [if_pos (by rfl)]
            exact wp_val (v := .slice (some ⟨b', off', none⟩) la.length cb) (w' := W) (by simp [execOp, Act.eval, h1, go_sem]) (hK _ _ hG (Below.refl _ _) rfl (fun h => by cases h))
          · refine stepJ_any rfl fun ac W hAA hG hDD K hK => ?_
            have h5 := hAA.getD (t := 5) (by kernel_rfl)
            simp only [Array.getD_eq_getD_getElem?] at h5
            rw [if_pos (by rfl)]
            exact wp_val (v := .int .i64 (k : Int)) (w' := W) (by simp [execOp, Act.eval, h5, go_sem]) (hK _ _ hG (Below.refl _ _) rfl (fun h => by cases h))
          · refine stepJ_any rfl fun ac W hAA hG hDD K hK => ?_
            have h21 := hDD.get 4 21 _ rfl rfl (by kernel_rfl)
            have h22 := hDD.get 5 22 _ rfl rfl (by kernel_rfl)
            simp only [Array.getD_eq_getD_getElem?] at h21 h22
            rw [if_pos (by rfl)]
            exact wp_val (v := .pointer (some ⟨b', off' + k * 35, none⟩)) (w' := W) (by simp [execOp, Act.eval, h21, h22, go_sem, i0, i1]) (hK _ _ hG (Below.refl _ _) rfl (fun h => by cases h))
          · refine stepJ_any rfl fun ac W hAA hG hDD K hK => ?_
            have h23 := hDD.get 6 23 _ rfl rfl (by kernel_rfl)
            rw [if_pos (by rfl)]
            simp only [Array.getD_eq_getD_getElem?] at h23
            exact wp_load_mid 37 _ rfl b' (off' + k * 35) (by simpa [Act.eval] using h23) (LW y da' dc') _ (hy.out W hG) Tryd.underlying37 rfl hsy.out (hK _ _ hG (Below.refl _ _) rfl (fun h => by cases h))
          · refine stepJ_any rfl fun ac W hAA hG hDD K hK => ?_
            have h20 := hDD.get 3 20 _ rfl rfl (by kernel_rfl)
            have h24 := hDD.get 7 24 _ rfl rfl (by kernel_rfl)
            simp only [Array.getD_eq_getD_getElem?] at h20 h24
            rw [if_pos (by rfl)]
            refine wp_call (f := 18) (args := #[.agg (LW x da dc).toArray, .agg (LW y da' dc').toArray]) (by simp [execOp, Act.eval, h20, h24, go_sem]) ((hs.out W hG).mono fun e W9 he => ?_)
            obtain ⟨rfl, hbw⟩ := he
            exact hK _ _ (hG.trans (hbw.mono hG.size)) hbw rfl (fun h => by cases h)
          · refine stepJ_any rfl fun ac W hAA hG hDD K hK => ?_
            have h25 := hDD.get 8 25 _ rfl rfl (by kernel_rfl)
            simp only [Array.getD_eq_getD_getElem?] at h25
            rw [if_pos (by rfl)]
            exact wp_val (v := .bool false) (w' := W) (by simp [execOp, Act.eval, h25, go_sem]) (hK _ _ hG (Below.refl _ _) rfl (fun h => by cases h))
        intro fu T W9 hG hF hne hltb
        have e17 : T 17 = .slice (some ⟨b, off, none⟩) la.length ca := hF 0 _ rfl (by omega)
        have e18 : T 18 = .int .i64 (k : Int) := hF 1 _ rfl (by omega)
        have e19 : T 19 = .pointer (some ⟨b, off + k * 35, none⟩) := hF 2 _ rfl (by omega)
        have e20 : T 20 = .agg (LW x da dc).toArray := hF 3 _ rfl (by omega)
        have e21 : T 21 = .slice (some ⟨b', off', none⟩) la.length cb := hF 4 _ rfl (by omega)
        have e22 : T 22 = .int .i64 (k : Int) := hF 5 _ rfl (by omega)
        have e23 : T 23 = .pointer (some ⟨b', off' + k * 35, none⟩) := hF 6 _ rfl (by omega)
        have e24 : T 24 = .agg (LW y da' dc').toArray := hF 7 _ rfl (by omega)
        have e25 : T 25 = .bool true := hF 8 _ rfl (by omega)
        have e26 : T 26 = .bool false := hF 9 _ rfl (by omega)
        clear hF hne hltb
        simp only [List.take, fillT, List.setIfInBounds_toArray, List.set_cons_zero, List.set_cons_succ, e17, e18, e19, e20, e21, e22, e23, e24, e25, e26]
        clear e17 e18 e19 e20 e21 e22 e23 e24 e25 e26
        refine wpAny_done (by kernel_rfl) ?_ _
        have hb2 := Lib.hid (hb.out.trans (hG.mono hb.out.size))
        clear hG hx hy hs
        go_wp2_with fail
        go_roundw
        case rel => exact ⟨k + 1, by go_num, by omega, hb2, fun j hj => by
          by_cases e : j = k
          · rw [e]; exact hdk
          · exact hall.out j (by omega)⟩
        case measure => simp [intOf]; omega
    · obtain rfl : k = la.length := by omega
      have hff : Hid (fv = true) := by
        show fv = true
        rw [hfe.out, firstD_none hall.out]; rfl
      have hkl' : ¬ (la.length : Int) < la.length := by omega
      go_wp2_with fail
      go_ret
      exact ⟨by rw [hff.out]; rfl, hb.out⟩
end Go.Proofs.YtbhpmeljmkoebaaDoor
