/- The first place at which two lists of links differ: Part's closure, first. -/
import Derived.Test.YtbhpmeljmkoebaaDoorVg
namespace Go.Proofs.YtbhpmeljmkoebaaDoor
open Go.RowKit

set_option maxRecDepth 100000 in
set_option maxHeartbeats 2000000 in
theorem Part1_any (i : Nat) (lb : List Lk) (hi : i < lb.length) (hm : lb.length ≤ 1000000) (x : Lk) (hxp : x.prev.length = 32) (w : World) (a A : Option Addr) (c cap : Nat) (hRx : RBs w w.heap.size a x.data) (Bb : Nat) (hBb : Bb < w.heap.size)
    (c0 : w.cell? ⟨Bb, 0, none⟩ = some (.slice A lb.length cap)) (hQ : QL w w.heap.size lb A cap) :
    Calls Tryd.prog 27 #[.int .i64 (i : Int), .agg (LW x a c).toArray, .pointer (some ⟨Bb, 0, none⟩)] w fun e w' => e = .returned (.bool (!sameL x lb[i])) ∧ Below w.heap.size w w' := by
  have hbV := bel1 w (.cells (LW x a c).toArray 37)
  have hbx := heap_alloc_new w (.cells (LW x a c).toArray 37)
  obtain ⟨b, off, da, dc, rfl, hbB, hr, hD⟩ := hQ.at_ hi
  have hyp := (hQ.fine lb[i] (List.getElem_mem hi)).prev
  generalize lb[i] = y at *
  have i0 : (0 : Int) ≤ i := by omega
  have i1 : (i : Int) < lb.length := by omega
  obtain ⟨V, hV⟩ : ∃ V, w.alloc (.cells (LW x a c).toArray 37) = V := ⟨_, rfl⟩
  rw [hV] at hbV hbx
  replace hV := Lib.hid hV
  have hc0 : Hid (∀ W, Below V.heap.size V W → W.cell? ⟨Bb, 0, none⟩ = some (.slice (some ⟨b, off, none⟩) lb.length cap)) := fun W hW => ((hbV.trans (hW.mono hbV.size)).cell (p := ⟨Bb, 0, none⟩) hBb).trans c0
  have hx : Hid (∀ W, Below V.heap.size V W → W.rangeAt w.heap.size 0 (LW x a c)) := fun W hW => range_of (blk_at hbx hW)
  have hy : Hid (∀ W, Below V.heap.size V W → W.rangeAt b (off + i * 35) (LW y da dc)) := fun W hW j v hv => ((hbV.trans (hW.mono hbV.size)).cell (p := ⟨b, off + i * 35 + j, none⟩) hbB).trans (hr j v hv)
  have hsx := Lib.hid (LW_info (a := a) (c := c) hxp)
  have hsy := Lib.hid (LW_info (a := da) (c := dc) hyp)
  have hs : Hid (∀ W, Below V.heap.size V W → Calls Tryd.prog 28 #[.agg (LW x a c).toArray, .agg (LW y da dc).toArray] W fun e w' => e = .returned (.bool (sameL x y)) ∧ Below W.heap.size W w') := fun W hW => by
    have hb := hbV.trans (hW.mono hbV.size)
    exact same_any x y hxp hyp W a da c dc (hRx.lift hb hb.size) (hD.read.lift hb hb.size)
  replace hbV := Lib.hid hbV
  clear hbx hr hD hRx c0 hQ hxp hyp hi
  cases hsl : sameL x y with
  | true =>
    rw [hsl] at hs
    clear hsl
    go_enter Tryd.func27, Tryd.ntmps27
    go_upto_region 1 with fail
    rw [hV.out]
    clear hV
    refine wp_region_pre 8 0 (fun W => Below V.heap.size V W) (fun W W' => Below W.heap.size W W')
      (fun ii v W => match ii with
        | 0 => v = .agg (LW x a c).toArray
        | 1 => v = .slice (some ⟨b, off, none⟩) lb.length cap
        | 2 => v = .int .i64 (i : Int)
        | 3 => v = .pointer (some ⟨b, off + i * 35, none⟩)
        | 4 => v = .agg (LW y da dc).toArray
        | 5 => v = .bool true
        | 6 => v = .bool false
        | 7 => v = .bool false
        | _ => True) (fun _ => false)
      (by kernel_rfl) (by kernel_rfl) (by kernel_rfl) (by kernel_rfl) (by kernel_rfl) (by kernel_rfl) (by kernel_rfl) ?_ (fun _ _ h => h.size) (dN (Below.refl _ _) 1) ?_ ?_
    · intro ii v W W' hb hF
      match ii, hF with
      | 0, h => exact h
      | 1, h => exact h
      | 2, h => exact h
      | 3, h => exact h
      | 4, h => exact h
      | 5, h => exact h
      | 6, h => exact h
      | 7, h => exact h
      | _ + 8, _ => trivial
    · refine ⟨?_, ?_, ?_, ?_, ?_, ?_, ?_, ?_, trivial⟩
      · refine stepJ_any rfl fun ac W hAA hG hDD K hK => ?_
        have h4 := hAA.getD (t := 4) (by kernel_rfl)
        rw [if_pos (by rfl)]
        simp only [Array.getD_eq_getD_getElem?] at h4
        exact wp_load_mid 37 _ rfl w.heap.size 0 (by simpa [Act.eval] using h4) (LW x a c) _ (hx.out W hG) Tryd.underlying37 rfl hsx.out (hK _ _ hG (Below.refl _ _) rfl (fun h => by cases h))
      · refine stepJ_any rfl fun ac W hAA hG hDD K hK => ?_
        have h2 := hAA.getD (t := 2) (by kernel_rfl)
        simp only [Array.getD_eq_getD_getElem?] at h2
        have m0 := hc0.out W hG
        rw [if_pos (by rfl)]
        exact wp_val (v := .slice (some ⟨b, off, none⟩) lb.length cap) (w' := W) (by simp [execOp, Act.eval, h2, go_sem, m0]) (hK _ _ hG (Below.refl _ _) rfl (fun h => by cases h))
      · refine stepJ_any rfl fun ac W hAA hG hDD K hK => ?_
        have h0 := hAA.getD (t := 0) (by kernel_rfl)
        simp only [Array.getD_eq_getD_getElem?] at h0
        rw [if_pos (by rfl)]
        exact wp_val (v := .int .i64 (i : Int)) (w' := W) (by simp [execOp, Act.eval, h0, go_sem]) (hK _ _ hG (Below.refl _ _) rfl (fun h => by cases h))
      · refine stepJ_any rfl fun ac W hAA hG hDD K hK => ?_
        have h7 := hDD.get 1 7 _ rfl rfl (by kernel_rfl)
        have h8 := hDD.get 2 8 _ rfl rfl (by kernel_rfl)
        simp only [Array.getD_eq_getD_getElem?] at h7 h8
        rw [if_pos (by rfl)]
        exact wp_val (v := .pointer (some ⟨b, off + i * 35, none⟩)) (w' := W) (by simp [execOp, Act.eval, h7, h8, go_sem, i0, i1]) (hK _ _ hG (Below.refl _ _) rfl (fun h => by cases h))
      · refine stepJ_any rfl fun ac W hAA hG hDD K hK => ?_
        have h9 := hDD.get 3 9 _ rfl rfl (by kernel_rfl)
        rw [if_pos (by rfl)]
        simp only [Array.getD_eq_getD_getElem?] at h9
        exact wp_load_mid 37 _ rfl b (off + i * 35) (by simpa [Act.eval] using h9) (LW y da dc) _ (hy.out W hG) Tryd.underlying37 rfl hsy.out (hK _ _ hG (Below.refl _ _) rfl (fun h => by cases h))
      · refine stepJ_any rfl fun ac W hAA hG hDD K hK => ?_
        have h6 := hDD.get 0 6 _ rfl rfl (by kernel_rfl)
        have h10 := hDD.get 4 10 _ rfl rfl (by kernel_rfl)
        simp only [Array.getD_eq_getD_getElem?] at h6 h10
        rw [if_pos (by rfl)]
        refine wp_call (f := 28) (args := #[.agg (LW x a c).toArray, .agg (LW y da dc).toArray]) (by simp [execOp, Act.eval, h6, h10, go_sem]) ((hs.out W hG).mono fun e W9 he => ?_)
        obtain ⟨rfl, hbw⟩ := he
        exact hK _ _ (hG.trans (hbw.mono hG.size)) hbw rfl (fun h => by cases h)
      · refine stepJ_any rfl fun ac W hAA hG hDD K hK => ?_
        have h11 := hDD.get 5 11 _ rfl rfl (by kernel_rfl)
        simp only [Array.getD_eq_getD_getElem?] at h11
        rw [if_pos (by rfl)]
        exact wp_val (v := .bool false) (w' := W) (by simp [execOp, Act.eval, h11, go_sem]) (hK _ _ hG (Below.refl _ _) rfl (fun h => by cases h))
      · refine stepJ_any rfl fun ac W hAA hG hDD K hK => ?_
        have h12 := hDD.get 6 12 _ rfl rfl (by kernel_rfl)
        simp only [Array.getD_eq_getD_getElem?] at h12
        rw [if_pos (by rfl)]
        exact wp_val (v := .bool false) (w' := W) (by simp [execOp, Act.eval, h12, go_sem]) (hK _ _ hG (Below.refl _ _) rfl (fun h => by cases h))
    intro fu T W9 hG hF hne hltb
    have e6 : T 6 = .agg (LW x a c).toArray := hF 0 _ rfl (by omega)
    have e7 : T 7 = .slice (some ⟨b, off, none⟩) lb.length cap := hF 1 _ rfl (by omega)
    have e8 : T 8 = .int .i64 (i : Int) := hF 2 _ rfl (by omega)
    have e9 : T 9 = .pointer (some ⟨b, off + i * 35, none⟩) := hF 3 _ rfl (by omega)
    have e10 : T 10 = .agg (LW y da dc).toArray := hF 4 _ rfl (by omega)
    have e11 : T 11 = .bool true := hF 5 _ rfl (by omega)
    have e12 : T 12 = .bool false := hF 6 _ rfl (by omega)
    have e5 : T 5 = .bool false := hF 7 _ rfl (by omega)
    clear hF hne hltb
    simp only [List.take, fillT, List.setIfInBounds_toArray, List.set_cons_zero, List.set_cons_succ, e6, e7, e8, e9, e10, e11, e12, e5]
    clear e6 e7 e8 e9 e10 e11 e12 e5
    refine wpAny_done (by kernel_rfl) ?_ _
    replace hbV := Lib.hid (hbV.out.trans (hG.mono hbV.out.size))
    clear hG
    go_wp2_with fail
    go_ret
    exact ⟨rfl, hbV.out⟩
  | false =>
    rw [hsl] at hs
    clear hsl
    go_enter Tryd.func27, Tryd.ntmps27
    go_upto_region 1 with fail
    rw [hV.out]
    clear hV
    refine wp_region_pre 8 0 (fun W => Below V.heap.size V W) (fun W W' => Below W.heap.size W W')
      (fun ii v W => match ii with
        | 0 => v = .agg (LW x a c).toArray
        | 1 => v = .slice (some ⟨b, off, none⟩) lb.length cap
        | 2 => v = .int .i64 (i : Int)
        | 3 => v = .pointer (some ⟨b, off + i * 35, none⟩)
        | 4 => v = .agg (LW y da dc).toArray
        | 5 => v = .bool false
        | 6 => v = .bool true
        | 7 => v = .bool true
        | _ => True) (fun _ => false)
      (by kernel_rfl) (by kernel_rfl) (by kernel_rfl) (by kernel_rfl) (by kernel_rfl) (by kernel_rfl) (by kernel_rfl) ?_ (fun _ _ h => h.size) (dN (Below.refl _ _) 1) ?_ ?_
    · intro ii v W W' hb hF
      match ii, hF with
      | 0, h => exact h
      | 1, h => exact h
      | 2, h => exact h
      | 3, h => exact h
      | 4, h => exact h
      | 5, h => exact h
      | 6, h => exact h
      | 7, h => exact h
      | _ + 8, _ => trivial
    · refine ⟨?_, ?_, ?_, ?_, ?_, ?_, ?_, ?_, trivial⟩
      · refine stepJ_any rfl fun ac W hAA hG hDD K hK => ?_
        have h4 := hAA.getD (t := 4) (by kernel_rfl)
        rw [if_pos (by rfl)]
        simp only [Array.getD_eq_getD_getElem?] at h4
        exact wp_load_mid 37 _ rfl w.heap.size 0 (by simpa [Act.eval] using h4) (LW x a c) _ (hx.out W hG) Tryd.underlying37 rfl hsx.out (hK _ _ hG (Below.refl _ _) rfl (fun h => by cases h))
      · refine stepJ_any rfl fun ac W hAA hG hDD K hK => ?_
        have h2 := hAA.getD (t := 2) (by kernel_rfl)
        simp only [Array.getD_eq_getD_getElem?] at h2
        have m0 := hc0.out W hG
        rw [if_pos (by rfl)]
        exact wp_val (v := .slice (some ⟨b, off, none⟩) lb.length cap) (w' := W) (by simp [execOp, Act.eval, h2, go_sem, m0]) (hK _ _ hG (Below.refl _ _) rfl (fun h => by cases h))
      · refine stepJ_any rfl fun ac W hAA hG hDD K hK => ?_
        have h0 := hAA.getD (t := 0) (by kernel_rfl)
        simp only [Array.getD_eq_getD_getElem?] at h0
        rw [if_pos (by rfl)]
        exact wp_val (v := .int .i64 (i : Int)) (w' := W) (by simp [execOp, Act.eval, h0, go_sem]) (hK _ _ hG (Below.refl _ _) rfl (fun h => by cases h))
      · refine stepJ_any rfl fun ac W hAA hG hDD K hK => ?_
        have h7 := hDD.get 1 7 _ rfl rfl (by kernel_rfl)
        have h8 := hDD.get 2 8 _ rfl rfl (by kernel_rfl)
        simp only [Array.getD_eq_getD_getElem?] at h7 h8
        rw [if_pos (by rfl)]
        exact wp_val (v := .pointer (some ⟨b, off + i * 35, none⟩)) (w' := W) (by simp [execOp, Act.eval, h7, h8, go_sem, i0, i1]) (hK _ _ hG (Below.refl _ _) rfl (fun h => by cases h))
      · refine stepJ_any rfl fun ac W hAA hG hDD K hK => ?_
        have h9 := hDD.get 3 9 _ rfl rfl (by kernel_rfl)
        rw [if_pos (by rfl)]
        simp only [Array.getD_eq_getD_getElem?] at h9
        exact wp_load_mid 37 _ rfl b (off + i * 35) (by simpa [Act.eval] using h9) (LW y da dc) _ (hy.out W hG) Tryd.underlying37 rfl hsy.out (hK _ _ hG (Below.refl _ _) rfl (fun h => by cases h))
      · refine stepJ_any rfl fun ac W hAA hG hDD K hK => ?_
        have h6 := hDD.get 0 6 _ rfl rfl (by kernel_rfl)
        have h10 := hDD.get 4 10 _ rfl rfl (by kernel_rfl)
        simp only [Array.getD_eq_getD_getElem?] at h6 h10
        rw [if_pos (by rfl)]
        refine wp_call (f := 28) (args := #[.agg (LW x a c).toArray, .agg (LW y da dc).toArray]) (by simp [execOp, Act.eval, h6, h10, go_sem]) ((hs.out W hG).mono fun e W9 he => ?_)
        obtain ⟨rfl, hbw⟩ := he
        exact hK _ _ (hG.trans (hbw.mono hG.size)) hbw rfl (fun h => by cases h)
      · refine stepJ_any rfl fun ac W hAA hG hDD K hK => ?_
        have h11 := hDD.get 5 11 _ rfl rfl (by kernel_rfl)
        simp only [Array.getD_eq_getD_getElem?] at h11
        rw [if_pos (by rfl)]
        exact wp_val (v := .bool true) (w' := W) (by simp [execOp, Act.eval, h11, go_sem]) (hK _ _ hG (Below.refl _ _) rfl (fun h => by cases h))
      · refine stepJ_any rfl fun ac W hAA hG hDD K hK => ?_
        have h12 := hDD.get 6 12 _ rfl rfl (by kernel_rfl)
        simp only [Array.getD_eq_getD_getElem?] at h12
        rw [if_pos (by rfl)]
        exact wp_val (v := .bool true) (w' := W) (by simp [execOp, Act.eval, h12, go_sem]) (hK _ _ hG (Below.refl _ _) rfl (fun h => by cases h))
    intro fu T W9 hG hF hne hltb
    have e6 : T 6 = .agg (LW x a c).toArray := hF 0 _ rfl (by omega)
    have e7 : T 7 = .slice (some ⟨b, off, none⟩) lb.length cap := hF 1 _ rfl (by omega)
    have e8 : T 8 = .int .i64 (i : Int) := hF 2 _ rfl (by omega)
    have e9 : T 9 = .pointer (some ⟨b, off + i * 35, none⟩) := hF 3 _ rfl (by omega)
    have e10 : T 10 = .agg (LW y da dc).toArray := hF 4 _ rfl (by omega)
    have e11 : T 11 = .bool false := hF 5 _ rfl (by omega)
    have e12 : T 12 = .bool true := hF 6 _ rfl (by omega)
    have e5 : T 5 = .bool true := hF 7 _ rfl (by omega)
    clear hF hne hltb
    simp only [List.take, fillT, List.setIfInBounds_toArray, List.set_cons_zero, List.set_cons_succ, e6, e7, e8, e9, e10, e11, e12, e5]
    clear e6 e7 e8 e9 e10 e11 e12 e5
    refine wpAny_done (by kernel_rfl) ?_ _
    replace hbV := Lib.hid (hbV.out.trans (hG.mono hbV.out.size))
    clear hG
    go_wp2_with fail
    go_ret
    exact ⟨rfl, hbV.out⟩

def difAt (la lb : List Lk) (i : Nat) : Bool := match la[i]?, lb[i]? with | some x, some y => !sameL x y | _, _ => false
/-- The first place at which two lists differ. -/
def firstD (la lb : List Lk) (n : Nat) : Option Nat := (List.range n).find? (difAt la lb)
def firstV (o : Option Nat) : Array Value := match o with | some i => #[.int .i64 (i : Int), .bool true] | none => #[.int .i64 0, .bool false]
theorem firstD_none {la lb : List Lk} {n : Nat} (h : ∀ i, i < n → difAt la lb i = false) : firstD la lb n = none := List.find?_eq_none.2 fun i hi => by simp [h i (List.mem_range.1 hi)]
theorem firstD_some {la lb : List Lk} {n k : Nat} (hk : k < n) (h : ∀ i, i < k → difAt la lb i = false) (hd : difAt la lb k = true) : firstD la lb n = some k := by
  unfold firstD
  rw [List.find?_eq_some_iff_append]
  refine ⟨by simpa using hd, List.range k, (List.range n).drop (k + 1), ?_, fun j hj => by simp [h j (List.mem_range.1 hj)]⟩
  have h1 : (List.range n).take k = List.range k := by rw [List.take_range]; congr 1; omega
  rw [← h1]
  conv => lhs; rw [← List.take_append_drop k (List.range n)]
  rw [List.drop_eq_getElem_cons (by simpa using hk)]
  simp
theorem firstV_none : firstV none = #[.int .i64 0, .bool false] := rfl
theorem firstV_some (i : Nat) : firstV (some i) = #[.int .i64 (i : Int), .bool true] := rfl
theorem difAt_eq {la lb : List Lk} {i : Nat} (h1 : i < la.length) (h2 : i < lb.length) : difAt la lb i = !sameL la[i] lb[i] := by
  unfold difAt
  rw [List.getElem?_eq_getElem h1, List.getElem?_eq_getElem h2]
set_option maxRecDepth 100000 in
set_option maxHeartbeats 2000000 in
theorem first_any (la lb : List Lk) (hle : la.length ≤ lb.length) (hm : lb.length ≤ 1000000) (w : World) (a A : Option Addr) (ca cap : Nat) (Bb : Nat) (hBb : Bb < w.heap.size)
    (c0 : w.cell? ⟨Bb, 0, none⟩ = some (.slice A lb.length cap)) (hQa : QL w w.heap.size la a ca) (hQ : QL w w.heap.size lb A cap) :
    Calls Tryd.prog 26 #[.slice a la.length ca, .func (.func 27) #[] #[.pointer (some ⟨Bb, 0, none⟩)]] w fun e w' => e = .returned (.tuple (firstV (firstD la lb la.length))) ∧ Below w.heap.size w w' := by
  replace hQa := Lib.hid hQa
  replace hQ := Lib.hid hQ
  replace c0 := Lib.hid c0
  have hu := Lib.hid Tryd.underlying37
  have hB0 := Lib.hid (Below.refl w.heap.size w)
  have hent : ∀ args W, (callFunc 27 args).run Tryd.prog W = .ok (.enter 27 args) W := enters_of Tryd.func27 (by kernel_rfl) rfl
  go_enter Tryd.func26, Tryd.ntmps26
  go_wp2_with fail
  go_loopw [6, 7, 10] (fun _ _ i wr => ∃ k : Nat, i = .int .i64 (k : Int) ∧ k ≤ la.length ∧ Hid (Below w.heap.size w wr) ∧ Hid (∀ j, j < k → difAt la lb j = false)) (fun _ _ i _ => la.length - (intOf i).toNat)
  case atStart => exact ⟨0, rfl, by omega, hB0, fun j hj => by omega⟩
  case round =>
    obtain ⟨k, rfl, hk, hb, hno⟩ := hrel
    by_cases hkl : k < la.length
    · obtain ⟨b, off, da, dc, ha, hbB, hr, hD⟩ := (hQa.out.lift hb.out hb.out.size).at_ hkl
      have hf := (hQa.out.fine la[k] (List.getElem_mem hkl)).prev
      have hdif := difAt_eq (la := la) (lb := lb) hkl (by omega)
      have hi0 : (0 : Int) ≤ k := by omega
      have hi1 : (k : Int) < la.length := by omega
      have hbn := heap_alloc_new wr (.cells (LW la[k] da dc).toArray 37)
      have hb1 := hb.out.trans ((bel1 wr (.cells (LW la[k] da dc).toArray 37)).mono hb.out.size)
      have hsx := Lib.hid (LW_info (a := da) (c := dc) hf)
      have hsz := Lib.hid (LW_size (a := da) (c := dc) hf)
      have hP := Part1_any k lb (by omega) hm la[k] hf (wr.alloc (.cells (LW la[k] da dc).toArray 37)) da A dc cap (hD.read.lift (bel1 wr _) (bel1 wr _).size) Bb (by have := hb1.size; omega) ((hb1.cell (p := ⟨Bb, 0, none⟩) hBb).trans c0.out) (hQ.out.lift hb1 hb1.size)
      rw [← hdif] at hP
      replace hP := Lib.hid hP
      replace hr := Lib.hid hr
      have hx := Lib.hid (range_of hbn)
      replace hb1 := Lib.hid hb1
      subst ha
      clear hD hf hbn hbB
      generalize la[k] = x at *
      cases hdk : difAt la lb k with
      | true =>
        rw [hdk] at hP
        have hfd := Lib.hid (firstD_some hkl hno.out hdk)
        go_wp2_with (first
          | (refine wpList_load_part (by rfl) 37 _ (by rfl) b (off + k * 35) (by rfl) (LW x da dc) _ hr.out hu.out rfl hsx.out ?_)
          | (refine wpList_load_part (by rfl) 37 _ (by rfl) wr.heap.size 0 (by rfl) (LW x da dc) _ hx.out hu.out rfl hsx.out ?_)
          | (refine wpList_store_row rfl 37 _ _ rfl wr.heap.size _ rfl rfl 37 _ (heap_alloc_last wr _) ?cj ?cl ?ck ?_
             case cj => rw [Tryd.iL]; exact congrArg some hsz.out.symm
             case cl => rw [hsz.out]; rfl
             case ck => exact LW_all _ _ _
             rw [World.setRow_alloc_new]))
        refine hP.out.mono ?_
        rintro e w5 ⟨rfl, hb5⟩
        have hb6 := Lib.hid (hb1.out.trans (hb5.mono hb1.out.size))
        clear hb5
        go_wp2_with fail
        go_ret2
        exact ⟨by rw [hfd.out]; rfl, hb6.out⟩
      | false =>
        rw [hdk] at hP
        go_wp2_with (first
          | (refine wpList_load_part (by rfl) 37 _ (by rfl) b (off + k * 35) (by rfl) (LW x da dc) _ hr.out hu.out rfl hsx.out ?_)
          | (refine wpList_load_part (by rfl) 37 _ (by rfl) wr.heap.size 0 (by rfl) (LW x da dc) _ hx.out hu.out rfl hsx.out ?_)
          | (refine wpList_store_row rfl 37 _ _ rfl wr.heap.size _ rfl rfl 37 _ (heap_alloc_last wr _) ?cj ?cl ?ck ?_
             case cj => rw [Tryd.iL]; exact congrArg some hsz.out.symm
             case cl => rw [hsz.out]; rfl
             case ck => exact LW_all _ _ _
             rw [World.setRow_alloc_new]))
        refine hP.out.mono ?_
        rintro e w5 ⟨rfl, hb5⟩
        have hb6 := Lib.hid (hb1.out.trans (hb5.mono hb1.out.size))
        clear hb5
        go_wp2_with fail
        go_roundw
        case rel => exact ⟨k + 1, by go_num, by omega, hb6, fun j hj => by
          by_cases e : j = k
          · rw [e]; exact hdk
          · exact hno.out j (by omega)⟩
        case measure => simp [intOf]; omega
    · obtain rfl : k = la.length := by omega
      have hfd := Lib.hid (firstD_none hno.out)
      have hkl' : ¬ (la.length : Int) < la.length := by omega
      go_wp2_with fail
      go_ret2
      exact ⟨by rw [hfd.out]; rfl, hb.out⟩
end Go.Proofs.YtbhpmeljmkoebaaDoor
