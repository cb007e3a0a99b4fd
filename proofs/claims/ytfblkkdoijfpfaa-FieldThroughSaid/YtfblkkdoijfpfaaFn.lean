/- The reference's Different. (Written by genfn.py.) -/
import Derived.Test.YtfblkkdoijfpfaaFf
import Derived.Test.YtfblkkdoijfpfaaFh
namespace Go.Proofs.Ytfblkkdoijfpfaa
open Go.RowKit

theorem newAt_yes {xs : List Int} {i : Nat} (h : ∀ k, k < i → (md (xs.getD i 0) == md (xs.getD k 0)) = false) (hi : i < xs.length) : newAt xs i = true := by
  unfold newAt
  rw [Bool.not_eq_true', ← Bool.not_eq_true, List.contains_iff_mem, List.mem_map]
  rintro ⟨y, hy, he⟩
  rw [List.mem_take_iff_getElem] at hy
  obtain ⟨k, hk, rfl⟩ := hy
  have := h k (by omega)
  rw [show xs.getD k 0 = xs[k] by simp [List.getD, show k < xs.length by omega]] at this
  simp [he] at this
theorem newAt_no {xs : List Int} {i k : Nat} (hk : k < i) (hi : i < xs.length) (h : md (xs.getD i 0) = md (xs.getD k 0)) : newAt xs i = false := by
  unfold newAt
  rw [Bool.not_eq_false', List.contains_iff_mem, List.mem_map]
  refine ⟨xs.getD k 0, ?_, h.symm⟩
  rw [List.mem_take_iff_getElem]
  exact ⟨k, by omega, by simp [List.getD, show k < xs.length by omega]⟩

set_option maxRecDepth 100000 in
set_option maxHeartbeats 2000000 in
theorem Different_any (ls : List (Int × Int)) (hm : ls.length ≤ 1000000) (w : World) (A : Option Addr) (c : Nat) (h : PR w (· < w.heap.size) A ls) :
    Calls Try.prog 17 #[.slice A ls.length c] w fun e w' => e = .returned (.bool (diffB (ls.map Prod.fst))) ∧ Below w.heap.size w w' := by
  have hh := Lib.hid h
  clear h
  go_enter Try.func17, Try.ntmps17
  go_wp2_with fail
  go_loopw [3] (fun x wr => ∃ i0 : Nat, i0 ≤ ls.length ∧ x = .int .i64 i0 ∧ Hid ((List.range i0).all (newAt (ls.map Prod.fst)) = true) ∧ Hid (Below w.heap.size w wr)) (fun x _ => ls.length - (intOf x).toNat)
  case atStart => exact ⟨0, Nat.zero_le _, rfl, rfl, Below.refl _ _⟩
  case round =>
    obtain ⟨i0, hi, rfl, hall, hb⟩ := hrel
    by_cases hlt : i0 < ls.length
    · have hix : i0 < (ls.map Prod.fst).length := by rw [List.length_map]; exact hlt
      have j1 : (i0 : Int) < ls.length := by omega
      go_wp2_with fail
      go_loopw [4] (fun x wi => ∃ k : Nat, k ≤ i0 ∧ x = .int .i64 k ∧ Hid (∀ k', k' < k → (md ((ls.map Prod.fst).getD i0 0) == md ((ls.map Prod.fst).getD k' 0)) = false) ∧ Hid (Below w.heap.size w wi)) (fun x _ => i0 - (intOf x).toNat)
      case atStart => exact ⟨0, Nat.zero_le _, rfl, fun k' h => by omega, hb⟩
      case round =>
        obtain ⟨k, hk, rfl, hno, hbi⟩ := hrel
        obtain ⟨w0, hw0⟩ : ∃ w0, w0 = wr := ⟨_, rfl⟩
        subst hw0
        by_cases hlk : k < i0
        · have hPR := hh.out.keep (Kept.below hbi.out)
          obtain ⟨b, off, rfl, hs, hx0, -, -, -⟩ := hPR.at_ hlt
          obtain ⟨b', off', e, -, hy0, -, -, -⟩ := hPR.at_ (i := k) (by omega)
          injection e with e
          injection e with e1 e2
          subst e1 e2
          have hgx : (ls.map Prod.fst).getD i0 0 = ls[i0].1 := by simp [List.getD, hlt]
          have hgy : (ls.map Prod.fst).getD k 0 = ls[k].1 := by simp [List.getD, show k < ls.length by omega]
          have hyes := Lib.hid (fun h => diffB_no hix (newAt_no hlk hix h))
          have hnx := Lib.hid (show (md ls[i0].1 == md ls[k].1) = false → ∀ k', k' < k + 1 → (md ((ls.map Prod.fst).getD i0 0) == md ((ls.map Prod.fst).getD k' 0)) = false from fun h k' hk' => by
            by_cases e : k' = k
            · rw [e, hgx, hgy]; exact h
            · exact hno.out k' (by omega))
          rw [hgx, hgy] at hyes
          clear hgx hgy
          generalize ls[i0].1 = x at *
          generalize ls[k].1 = y at *
          have hbl : b < w0.heap.size := Nat.lt_of_lt_of_le hs hbi.out.size
          have hX : Hid (∀ W, Below w0.heap.size w0 W → W.cell? ⟨b, off + i0 * 2, none⟩ = some (.int .i64 x)) := fun W hW => (hW.cell (p := ⟨b, off + i0 * 2, none⟩) hbl).trans hx0
          have hY : Hid (∀ W, Below w0.heap.size w0 W → W.cell? ⟨b, off + k * 2, none⟩ = some (.int .i64 y)) := fun W hW => (hW.cell (p := ⟨b, off + k * 2, none⟩) hbl).trans hy0
          have i1 : (0 : Int) ≤ i0 := by omega
          have i2 : (i0 : Int) < ls.length := by omega
          have k1 : (0 : Int) ≤ k := by omega
          have k2 : (k : Int) < ls.length := by omega
          clear hx0 hy0 hPR
          go_wp2_with fail
          refine wp_region_pre 13 0 (fun W => Below w0.heap.size w0 W) (fun W W' => Below W.heap.size W W')
            (fun i v W => match i with
              | 0 => v = .slice (some ⟨b, off, none⟩) ls.length c
              | 1 => v = .int .i64 (i0 : Int)
              | 2 => v = .pointer (some ⟨b, off + i0 * 2, none⟩)
              | 3 => v = .pointer (some ⟨b, off + i0 * 2, none⟩)
              | 4 => v = .int .i64 x
              | 5 => v = .int .i64 (md x)
              | 6 => v = .slice (some ⟨b, off, none⟩) ls.length c
              | 7 => v = .int .i64 (k : Int)
              | 8 => v = .pointer (some ⟨b, off + k * 2, none⟩)
              | 9 => v = .pointer (some ⟨b, off + k * 2, none⟩)
              | 10 => v = .int .i64 y
              | 11 => v = .int .i64 (md y)
              | 12 => v = .bool (md x == md y)
              | _ => True) (fun _ => false)
            (by kernel_rfl) (by kernel_rfl) (by kernel_rfl) (by kernel_rfl) (by kernel_rfl) (by kernel_rfl) (by kernel_rfl) ?_ (fun _ _ h => h.size) (dN (Below.refl _ _) 1) ?_ ?_
          · intro i v W W' hb hF
            match i, hF with
            | 0, h => exact h
            | 1, h => exact h
            | 2, h => exact h
            | 3, h => exact h
            | 4, h => exact h
            | 5, h => exact h
            | 6, h => exact h
            | 7, h => exact h
            | 8, h => exact h
            | 9, h => exact h
            | 10, h => exact h
            | 11, h => exact h
            | 12, h => exact h
            | _ + 13, _ => trivial
          · refine ⟨?_, ?_, ?_, ?_, ?_, ?_, ?_, ?_, ?_, ?_, ?_, ?_, ?_, trivial⟩
            · refine stepJ_any rfl fun ac W hAA hG hDD K hK => ?_
              have h0 := hAA.getD (t := 0) (by kernel_rfl)
              simp only [Array.getD_eq_getD_getElem?] at h0
              rw [if_pos (by rfl)]
              exact wp_val (v := .slice (some ⟨b, off, none⟩) ls.length c) (w' := W) (by simp [execOp, Act.eval, h0, go_sem]) (hK _ _ hG (Below.refl _ _) rfl (fun h => by cases h))
            · refine stepJ_any rfl fun ac W hAA hG hDD K hK => ?_
              have h3 := hAA.getD (t := 3) (by kernel_rfl)
              simp only [Array.getD_eq_getD_getElem?] at h3
              rw [if_pos (by rfl)]
              exact wp_val (v := .int .i64 (i0 : Int)) (w' := W) (by simp [execOp, Act.eval, h3, go_sem]) (hK _ _ hG (Below.refl _ _) rfl (fun h => by cases h))
            · refine stepJ_any rfl fun ac W hAA hG hDD K hK => ?_
              have h16 := hDD.get 0 16 _ rfl rfl (by kernel_rfl)
              have h17 := hDD.get 1 17 _ rfl rfl (by kernel_rfl)
              simp only [Array.getD_eq_getD_getElem?] at h16 h17
              rw [if_pos (by rfl)]
              exact wp_val (v := .pointer (some ⟨b, off + i0 * 2, none⟩)) (w' := W) (by simp [execOp, Act.eval, h16, h17, go_sem, i1, i2]) (hK _ _ hG (Below.refl _ _) rfl (fun h => by cases h))
            · refine stepJ_any rfl fun ac W hAA hG hDD K hK => ?_
              have h18 := hDD.get 2 18 _ rfl rfl (by kernel_rfl)
              simp only [Array.getD_eq_getD_getElem?] at h18
              rw [if_pos (by rfl)]
              exact wp_val (v := .pointer (some ⟨b, off + i0 * 2, none⟩)) (w' := W) (by simp [execOp, Act.eval, h18, go_sem]) (hK _ _ hG (Below.refl _ _) rfl (fun h => by cases h))
            · refine stepJ_any rfl fun ac W hAA hG hDD K hK => ?_
              have h19 := hDD.get 3 19 _ rfl rfl (by kernel_rfl)
              simp only [Array.getD_eq_getD_getElem?] at h19
              have k0 := hX.out W hG
              rw [if_pos (by rfl)]
              exact wp_val (v := .int .i64 x) (w' := W) (by simp [execOp, Act.eval, h19, go_sem, k0]) (hK _ _ hG (Below.refl _ _) rfl (fun h => by cases h))
            · refine stepJ_any rfl fun ac W hAA hG hDD K hK => ?_
              have h20 := hDD.get 4 20 _ rfl rfl (by kernel_rfl)
              simp only [Array.getD_eq_getD_getElem?] at h20
              rw [if_pos (by rfl)]
              refine wp_call (f := 11) (args := #[.int .i64 x]) (by simp [execOp, Act.eval, h20, go_sem]) ((rMod_any x W).mono fun e W9 he => ?_)
              obtain ⟨rfl, hbe⟩ := he
              have hbw : Below W.heap.size W W9 := hbe ▸ Below.refl _ _
              exact hK _ _ (hG.trans (hbw.mono hG.size)) hbw rfl (fun h => by cases h)
            · refine stepJ_any rfl fun ac W hAA hG hDD K hK => ?_
              have h0 := hAA.getD (t := 0) (by kernel_rfl)
              simp only [Array.getD_eq_getD_getElem?] at h0
              rw [if_pos (by rfl)]
              exact wp_val (v := .slice (some ⟨b, off, none⟩) ls.length c) (w' := W) (by simp [execOp, Act.eval, h0, go_sem]) (hK _ _ hG (Below.refl _ _) rfl (fun h => by cases h))
            · refine stepJ_any rfl fun ac W hAA hG hDD K hK => ?_
              have h4 := hAA.getD (t := 4) (by kernel_rfl)
              simp only [Array.getD_eq_getD_getElem?] at h4
              rw [if_pos (by rfl)]
              exact wp_val (v := .int .i64 (k : Int)) (w' := W) (by simp [execOp, Act.eval, h4, go_sem]) (hK _ _ hG (Below.refl _ _) rfl (fun h => by cases h))
            · refine stepJ_any rfl fun ac W hAA hG hDD K hK => ?_
              have h22 := hDD.get 6 22 _ rfl rfl (by kernel_rfl)
              have h23 := hDD.get 7 23 _ rfl rfl (by kernel_rfl)
              simp only [Array.getD_eq_getD_getElem?] at h22 h23
              rw [if_pos (by rfl)]
              exact wp_val (v := .pointer (some ⟨b, off + k * 2, none⟩)) (w' := W) (by simp [execOp, Act.eval, h22, h23, go_sem, k1, k2]) (hK _ _ hG (Below.refl _ _) rfl (fun h => by cases h))
            · refine stepJ_any rfl fun ac W hAA hG hDD K hK => ?_
              have h24 := hDD.get 8 24 _ rfl rfl (by kernel_rfl)
              simp only [Array.getD_eq_getD_getElem?] at h24
              rw [if_pos (by rfl)]
              exact wp_val (v := .pointer (some ⟨b, off + k * 2, none⟩)) (w' := W) (by simp [execOp, Act.eval, h24, go_sem]) (hK _ _ hG (Below.refl _ _) rfl (fun h => by cases h))
            · refine stepJ_any rfl fun ac W hAA hG hDD K hK => ?_
              have h25 := hDD.get 9 25 _ rfl rfl (by kernel_rfl)
              simp only [Array.getD_eq_getD_getElem?] at h25
              have k0 := hY.out W hG
              rw [if_pos (by rfl)]
              exact wp_val (v := .int .i64 y) (w' := W) (by simp [execOp, Act.eval, h25, go_sem, k0]) (hK _ _ hG (Below.refl _ _) rfl (fun h => by cases h))
            · refine stepJ_any rfl fun ac W hAA hG hDD K hK => ?_
              have h26 := hDD.get 10 26 _ rfl rfl (by kernel_rfl)
              simp only [Array.getD_eq_getD_getElem?] at h26
              rw [if_pos (by rfl)]
              refine wp_call (f := 11) (args := #[.int .i64 y]) (by simp [execOp, Act.eval, h26, go_sem]) ((rMod_any y W).mono fun e W9 he => ?_)
              obtain ⟨rfl, hbe⟩ := he
              have hbw : Below W.heap.size W W9 := hbe ▸ Below.refl _ _
              exact hK _ _ (hG.trans (hbw.mono hG.size)) hbw rfl (fun h => by cases h)
            · refine stepJ_any rfl fun ac W hAA hG hDD K hK => ?_
              have h21 := hDD.get 5 21 _ rfl rfl (by kernel_rfl)
              have h27 := hDD.get 11 27 _ rfl rfl (by kernel_rfl)
              simp only [Array.getD_eq_getD_getElem?] at h21 h27
              rw [if_pos (by rfl)]
              exact wp_val (v := .bool (md x == md y)) (w' := W) (by simp [execOp, Act.eval, h21, h27, go_sem]) (hK _ _ hG (Below.refl _ _) rfl (fun h => by cases h))
          intro fu T w5 hG hF hne hltb
          have e16 : T 16 = .slice (some ⟨b, off, none⟩) ls.length c := hF 0 _ rfl (by omega)
          have e17 : T 17 = .int .i64 (i0 : Int) := hF 1 _ rfl (by omega)
          have e18 : T 18 = .pointer (some ⟨b, off + i0 * 2, none⟩) := hF 2 _ rfl (by omega)
          have e19 : T 19 = .pointer (some ⟨b, off + i0 * 2, none⟩) := hF 3 _ rfl (by omega)
          have e20 : T 20 = .int .i64 x := hF 4 _ rfl (by omega)
          have e21 : T 21 = .int .i64 (md x) := hF 5 _ rfl (by omega)
          have e22 : T 22 = .slice (some ⟨b, off, none⟩) ls.length c := hF 6 _ rfl (by omega)
          have e23 : T 23 = .int .i64 (k : Int) := hF 7 _ rfl (by omega)
          have e24 : T 24 = .pointer (some ⟨b, off + k * 2, none⟩) := hF 8 _ rfl (by omega)
          have e25 : T 25 = .pointer (some ⟨b, off + k * 2, none⟩) := hF 9 _ rfl (by omega)
          have e26 : T 26 = .int .i64 y := hF 10 _ rfl (by omega)
          have e27 : T 27 = .int .i64 (md y) := hF 11 _ rfl (by omega)
          have e28 : T 28 = .bool (md x == md y) := hF 12 _ rfl (by omega)
          clear hF hne hltb
          simp only [List.take, fillT, List.setIfInBounds_toArray, List.set_cons_zero, List.set_cons_succ, e16, e17, e18, e19, e20, e21, e22, e23, e24, e25, e26, e27, e28]
          clear e16 e17 e18 e19 e20 e21 e22 e23 e24 e25 e26 e27 e28
          refine wpAny_done (by kernel_rfl) ?_ _
          have hbn := Lib.hid (hbi.out.trans (hG.mono hbi.out.size))
          clear hX hY hG
          by_cases hxy : md x = md y
          · have hxb : (md x == md y) = true := by simpa using hxy
            go_wp2_with fail
            go_ret
            exact ⟨retB (hyes.out hxy).symm, hbn.out⟩
          · have hxb : (md x == md y) = false := by simpa using hxy
            replace hnx := Lib.hid (hnx.out hxb)
            clear hyes
            go_wp2_with fail
            go_roundw
            case rel => exact ⟨k + 1, by omega, by go_num, hnx, hbn⟩
            case measure => simp [intOf]; omega
        · have hle : ¬ ((k : Int) < i0) := by omega
          have hki : k = i0 := by omega
          rw [hki] at hno hle
          have hnew := Lib.hid (newAt_next hall.out (newAt_yes hno.out hix))
          rw [hki]
          clear hlk hki hno hall
          go_wp2_with fail
          go_roundw
          case rel => exact ⟨i0 + 1, by omega, by go_num, hnew, hbi⟩
          case measure => simp [intOf]; omega
    · have hle : ¬ ((i0 : Int) < ls.length) := by omega
      have hkl : i0 = ls.length := by omega
      have hend := Lib.hid (show diffB (ls.map Prod.fst) = true by unfold diffB; rw [List.length_map, ← hkl]; exact hall.out)
      rw [hkl] at hle
      rw [hkl]
      clear hlt hkl hall
      go_wp2_with fail
      go_ret
      exact ⟨retB hend.out.symm, hb.out⟩
end Go.Proofs.Ytfblkkdoijfpfaa
