/- MerkleProve: the law. -/
import Derived.Test.YtfdoiamgbdjbjaaDoorMy
import Derived.Test.YtfdoiamgbdjbjaaDoorPr
import Derived.Test.YtfdoiamgbdjbjaaDoorFw
namespace Go.Proofs.YtfdoiamgbdjbjaaDoor
open Go.RowKit

set_option maxRecDepth 100000 in
set_option maxHeartbeats 4000000 in
theorem proves_any (ls : List (List UInt8)) (n : Int) (hlm : ls.length ≤ 9223372036854775807) (w : World) (A : Option Addr) (c : Nat) (hr : LL w w.heap.size ls A) (hK : KT w) (h0 : 0 < w.heap.size) :
    Calls Tryd.prog 5 #[.slice A ls.length c, .int .i64 n] w fun e w' => e = .returned (.bool true) ∧ Below w.heap.size w w' := by
  have hKH := Lib.hid hK
  have hu := Lib.hid (show Tryd.prog.underlying 30 = some (.array 32 5) by kernel_rfl)
  have hi := Lib.hid (show (Tryd.prog.info? 30).map (·.size) = some 32 by kernel_rfl)
  have hS := Lib.hid (sane_any w hK h0)
  clear hK
  replace hr := Lib.hid hr
  go_enter Tryd.func5, Tryd.ntmps5
  go_wp2_with fail
  refine hS.out.mono ?_
  rintro e w1 ⟨rfl, hb1⟩
  clear hS
  have hFw := Lib.hid (Few_any ls w1 A c (hr.out.lift hb1 hb1.size) hlm)
  replace hb1 := Lib.hid hb1
  obtain ⟨fb, hfb⟩ : ∃ b, fewB ls = b := ⟨_, rfl⟩
  rw [hfb] at hFw
  cases fb with
  | false =>
    go_wp2_with fail
    refine hFw.out.mono ?_
    rintro e w2 ⟨rfl, hb2⟩
    clear hFw
    replace hb1 := Lib.hid (hb1.out.trans (hb2.mono hb1.out.size))
    clear hb2
    go_wp2_with fail
    go_ret
    exact ⟨rfl, hb1.out⟩
  | true =>
    obtain ⟨hl40, hsm⟩ := fewB_iff.1 hfb
    have hsmH : Hid (Small ls) := Lib.hid (fun x hx => Nat.le_trans (hsm x hx) (by decide))
    clear hsm hfb
    go_wp2_with fail
    refine hFw.out.mono ?_
    rintro e w2 ⟨rfl, hb2⟩
    clear hFw
    replace hb1 := Lib.hid (hb1.out.trans (hb2.mono hb1.out.size))
    clear hb2
    have hP := Lib.hid (Prove_any ls n (by omega) hsmH.out w2 A c (hr.out.lift hb1.out hb1.out.size) (hKH.out.below hb1.out h0) (Nat.lt_of_lt_of_le h0 hb1.out.size))
    have hpl := Lib.hid (prove_len ls n (by omega))
    by_cases hg : 0 ≤ n ∧ n < ls.length
    case neg =>
      have hp1 : proveP ls n = ([], 1) := by unfold proveP; rw [if_pos (by rw [Bool.eq_false_iff]; intro h; have := isPl_iff.1 h; omega)]
      rw [hp1] at hP
      have hbad : (decide (n < 0) || decide ((ls.length : Int) ≤ n)) = true := by simp; omega
      go_wp2_with fail
      refine hP.out.mono ?_
      rintro e w3 ⟨⟨v, rfl, ho⟩, hb3⟩
      obtain ⟨a3, c3, rfl⟩ := ho.form
      clear hP ho
      replace hb1 := Lib.hid (hb1.out.trans (hb3.mono hb1.out.size))
      clear hb3
      go_wp2_with fail
      all_goals
        go_ret
        exact ⟨rfl, hb1.out⟩
    obtain ⟨g1, g2⟩ := hg
    obtain ⟨N, rfl⟩ : ∃ N : Nat, n = N := ⟨n.toNat, by omega⟩
    have hN : N < ls.length := by omega
    have hcl := Lib.hid (proof_climbs ls N hN (by omega))
    have hp2 : (proveP ls N).2 = 0 := by unfold proveP; rw [if_neg (by rw [show isPl (ls.length : Int) (N : Int) = true from isPl_iff.2 (by omega)]; simp)]
    rw [hp2] at hP
    have h32 : Hid (∀ d ∈ (proveP ls N).1, d.length = 32) := Lib.hid (by
      unfold proveP
      split
      · intro d hd; cases hd
      · have h := pathP_32 (firstM_32 ls) (Int.toNat (N : Int)) (rows ls.length)
        rw [firstM_len] at h
        exact h)
    obtain ⟨pp, hpp⟩ : ∃ p, (proveP ls N).1 = p := ⟨_, rfl⟩
    rw [hpp] at hP hpl hcl h32
    clear hpp hp2
    have q1 : decide ((N : Int) < 0) = false := by simp
    have q2 : decide ((ls.length : Int) ≤ (N : Int)) = false := by simp; omega
    have q3 : decide (ls.length ≤ N) = false := by simp; omega
    go_wp2_with fail
    refine hP.out.mono ?_
    rintro e w3 ⟨⟨v, rfl, ho⟩, hb3⟩
    clear hP
    replace hb1 := Lib.hid (hb1.out.trans (hb3.mono hb1.out.size))
    clear hb3
    obtain ⟨a3, c3, rfl, hR⟩ := ho.reads h32.out
    obtain ⟨b, off, a1, c1, rfl, hbA, hc, hrb, hn, hcc⟩ := (hr.out.lift hb1.out hb1.out.size).at_ hN
    have hx : ls.getD N [] = ls[N] := by rw [List.getD_eq_getElem?_getD, List.getElem?_eq_getElem hN]; rfl
    rw [hx] at hcl
    have hxl := hsmH.out ls[N] (List.getElem_mem hN)
    have hC := Climb_any (ls.length : Int) (N : Int) ls[N] hxl pp w3 a1 a3 c1 c3 hrb hn hR (hKH.out.below hb1.out h0) (Nat.lt_of_lt_of_le h0 hb1.out.size)
    rw [hcl.out] at hC
    replace hC := Lib.hid hC
    clear hx hrb hn hR ho hcl
    generalize ls[N] = x at *
    go_wp2_with fail
    refine hC.out.mono ?_
    rintro e w4 ⟨rfl, hb4⟩
    clear hC hc
    replace hb1 := Lib.hid (hb1.out.trans (hb4.mono hb1.out.size))
    clear hb4
    have hs := Lib.hid (DV_size (rootM_len ls))
    have lR := Lib.hid (rootM_len ls)
    go_upto_region 9 with (refine wpList_store_row rfl 30 _ _ rfl w4.heap.size _ rfl rfl 30 _ (heap_alloc_last w4 _) ?cj ?cl ?ck ?_
                           case cj => rw [hi.out, hs.out]
                           case cl => rw [hs.out]; rfl
                           case ck => exact BV_all _
                           rw [World.setRow_alloc_new])
    have hb := bel1 w4 (.cells (BV (rootM ls)).toArray 30)
    have k1 : Hid (DB _ w4.heap.size 30 (rootM ls)) := heap_alloc_new w4 (.cells (BV (rootM ls)).toArray 30)
    replace hb1 := Lib.hid (hb1.out.trans (hb.mono hb1.out.size))
    clear hb
    generalize w4.alloc (.cells (BV (rootM ls)).toArray 30) = V1 at hb1 k1 ⊢
    have eq1 := Lib.hid (fun W => eq_digest (rootM ls) (rootM ls) (rootM_len _) (rootM_len _) W)
    have hpl16 : decide ((pp.length : Int) ≤ 16) = true := decide_eq_true (by have := hpl.out; omega)
    refine wp_region_pre 18 0 (fun W => Below V1.heap.size V1 W) (fun W W' => Below W.heap.size W W')
      (fun i v W => match i with
        | 0 => v = .int .i64 0
        | 1 => v = .bool true
        | 2 => v = .bool true
        | 3 => v = .int .i64 0
        | 4 => v = .bool true
        | 5 => v = .bool true
        | 6 => v = .bool true
        | 7 => v = .agg (BV (rootM ls)).toArray
        | 8 => v = .slice (some ⟨b, off, none⟩) ls.length c
        | 9 => v = .agg (BV (rootM ls)).toArray
        | 10 => v = .bool true
        | 11 => v = .bool true
        | 12 => v = .bool true
        | 13 => v = .slice a3 pp.length c3
        | 14 => v = .int .i64 (pp.length : Nat)
        | 15 => v = .bool true
        | 16 => v = .bool true
        | 17 => v = .bool true
        | _ => True) (fun _ => false)
      (by kernel_rfl) (by kernel_rfl) (by kernel_rfl) (by kernel_rfl) (by kernel_rfl) (by kernel_rfl) (by kernel_rfl) ?_ (fun _ _ h => h.size) (dN (Below.refl _ _) 1) ?_ ?_
    · intro i v W W' hb hF
      match i, hF with
      | 0, h => exact h
      | 1, h => exact h
      | 2, h => exact h
      | 3, h => exact h
      | 4, h => exact h
      | 5, h => exact h
      | 6, h => exact h
      | 7, h => exact h
      | 8, h => exact h
      | 9, h => exact h
      | 10, h => exact h
      | 11, h => exact h
      | 12, h => exact h
      | 13, h => exact h
      | 14, h => exact h
      | 15, h => exact h
      | 16, h => exact h
      | 17, h => exact h
      | _ + 18, _ => trivial
    · refine ⟨?_, ?_, ?_, ?_, ?_, ?_, ?_, ?_, ?_, ?_, ?_, ?_, ?_, ?_, ?_, ?_, ?_, ?_, trivial⟩
      · refine stepJ_any rfl fun ac W hAA hG hDD K hK => ?_
        have h6 := hAA.getD (t := 6) (by kernel_rfl)
        simp only [Array.getD_eq_getD_getElem?] at h6
        rw [if_pos (by rfl)]
        exact wp_val (v := .int .i64 0) (w' := W) (by simp [execOp, Act.eval, h6, go_sem]) (hK _ _ hG (Below.refl _ _) rfl (fun h => by cases h))
      · refine stepJ_any rfl fun ac W hAA hG hDD K hK => ?_
        have h47 := hDD.get 0 47 _ rfl rfl (by kernel_rfl)
        simp only [Array.getD_eq_getD_getElem?] at h47
        rw [if_pos (by rfl)]
        exact wp_val (v := .bool true) (w' := W) (by simp [execOp, Act.eval, h47, go_sem]) (hK _ _ hG (Below.refl _ _) rfl (fun h => by cases h))
      · refine stepJ_any rfl fun ac W hAA hG hDD K hK => ?_
        have h48 := hDD.get 1 48 _ rfl rfl (by kernel_rfl)
        simp only [Array.getD_eq_getD_getElem?] at h48
        rw [if_pos (by rfl)]
        exact wp_val (v := .bool true) (w' := W) (by simp [execOp, Act.eval, h48, go_sem]) (hK _ _ hG (Below.refl _ _) rfl (fun h => by cases h))
      · refine stepJ_any rfl fun ac W hAA hG hDD K hK => ?_
        have h8 := hAA.getD (t := 8) (by kernel_rfl)
        have hgd := hDD.get 2 49 _ rfl rfl (by kernel_rfl)
        have hgd := slot_bool hgd
        simp only [Array.getD_eq_getD_getElem?] at h8
        rw [if_pos (by simp [Region.wanted, yielded, hgd])]
        exact wp_val (v := .int .i64 0) (w' := W) (by simp [execOp, Act.eval, h8, go_sem]) (hK _ _ hG (Below.refl _ _) rfl (fun h => by cases h))
      · refine stepJ_any rfl fun ac W hAA hG hDD K hK => ?_
        have h50 := hDD.get 3 50 _ rfl rfl (by kernel_rfl)
        have hgd := hDD.get 2 49 _ rfl rfl (by kernel_rfl)
        have hgd := slot_bool hgd
        simp only [Array.getD_eq_getD_getElem?] at h50
        rw [if_pos (by simp [Region.wanted, yielded, hgd])]
        exact wp_val (v := .bool true) (w' := W) (by simp [execOp, Act.eval, h50, go_sem]) (hK _ _ hG (Below.refl _ _) rfl (fun h => by cases h))
      · refine stepJ_any rfl fun ac W hAA hG hDD K hK => ?_
        have h49 := hDD.get 2 49 _ rfl rfl (by kernel_rfl)
        have h51 := hDD.get 4 51 _ rfl rfl (by kernel_rfl)
        simp only [Array.getD_eq_getD_getElem?] at h49 h51
        rw [if_pos (by rfl)]
        exact wp_val (v := .bool true) (w' := W) (by simp [execOp, Act.eval, h49, h51, go_sem]) (hK _ _ hG (Below.refl _ _) rfl (fun h => by cases h))
      · refine stepJ_any rfl fun ac W hAA hG hDD K hK => ?_
        have h52 := hDD.get 5 52 _ rfl rfl (by kernel_rfl)
        simp only [Array.getD_eq_getD_getElem?] at h52
        rw [if_pos (by rfl)]
        exact wp_val (v := .bool true) (w' := W) (by simp [execOp, Act.eval, h52, go_sem]) (hK _ _ hG (Below.refl _ _) rfl (fun h => by cases h))
      · refine stepJ_any rfl fun ac W hAA hG hDD K hK => ?_
        have h7 := hAA.getD (t := 7) (by kernel_rfl)
        have hgd := hDD.get 6 53 _ rfl rfl (by kernel_rfl)
        have hgd := slot_bool hgd
        rw [if_pos (by simp [Region.wanted, yielded, hgd])]
        exact wp_load_mid 30 _ rfl w4.heap.size 0 h7 (BV (rootM ls)) _ (range_of (blk_at k1.out hG : DB W _ 30 _)) hu.out rfl (by rw [hi.out, BV_length, lR.out]) (hK _ _ hG (Below.refl _ _) rfl (fun h => by cases h))
      · refine stepJ_any rfl fun ac W hAA hG hDD K hK => ?_
        have h0 := hAA.getD (t := 0) (by kernel_rfl)
        have hgd := hDD.get 6 53 _ rfl rfl (by kernel_rfl)
        have hgd := slot_bool hgd
        simp only [Array.getD_eq_getD_getElem?] at h0
        rw [if_pos (by simp [Region.wanted, yielded, hgd])]
        exact wp_val (v := .slice (some ⟨b, off, none⟩) ls.length c) (w' := W) (by simp [execOp, Act.eval, h0, go_sem]) (hK _ _ hG (Below.refl _ _) rfl (fun h => by cases h))
      · refine stepJ_any rfl fun ac W hAA hG hDD K hK => ?_
        have h55 := hDD.get 8 55 _ rfl rfl (by kernel_rfl)
        have hgd := hDD.get 6 53 _ rfl rfl (by kernel_rfl)
        have hgd := slot_bool hgd
        rw [if_pos (by simp [Region.wanted, yielded, hgd])]
        simp only [Array.getD_eq_getD_getElem?] at h55
        refine wp_call (f := 14) (args := #[.slice (some ⟨b, off, none⟩) ls.length c]) (by simp [execOp, Act.eval, h55, go_sem]) ((show Calls _ _ _ _ (fun e w2 => e = .returned (.agg (BV (rootM ls)).toArray) ∧ Below W.heap.size W w2) from Root_any ls (by omega) hsmH.out W _ c (hr.out.lift (hb1.out.trans (hG.mono hb1.out.size)) (hb1.out.trans (hG.mono hb1.out.size)).size) (hKH.out.below (hb1.out.trans (hG.mono hb1.out.size)) h0) (Nat.lt_of_lt_of_le h0 (hb1.out.trans (hG.mono hb1.out.size)).size)).mono fun e W9 he => ?_)
        obtain ⟨rfl, hbw⟩ := he
        exact hK _ _ (hG.trans (hbw.mono hG.size)) hbw rfl (fun h => by cases h)
      · refine stepJ_any rfl fun ac W hAA hG hDD K hK => ?_
        have h54 := hDD.get 7 54 _ rfl rfl (by kernel_rfl)
        have h56 := hDD.get 9 56 _ rfl rfl (by kernel_rfl)
        have hgd := hDD.get 6 53 _ rfl rfl (by kernel_rfl)
        have hgd := slot_bool hgd
        simp only [Array.getD_eq_getD_getElem?] at h54 h56
        have eq1 := eq1.out
        rw [if_pos (by simp [Region.wanted, yielded, hgd])]
        exact wp_val (v := .bool true) (w' := W) (by simp [execOp, Act.eval, h54, h56, go_sem, eq1]) (hK _ _ hG (Below.refl _ _) rfl (fun h => by cases h))
      · refine stepJ_any rfl fun ac W hAA hG hDD K hK => ?_
        have h53 := hDD.get 6 53 _ rfl rfl (by kernel_rfl)
        have h57 := hDD.get 10 57 _ rfl rfl (by kernel_rfl)
        simp only [Array.getD_eq_getD_getElem?] at h53 h57
        rw [if_pos (by rfl)]
        exact wp_val (v := .bool true) (w' := W) (by simp [execOp, Act.eval, h53, h57, go_sem]) (hK _ _ hG (Below.refl _ _) rfl (fun h => by cases h))
      · refine stepJ_any rfl fun ac W hAA hG hDD K hK => ?_
        have h58 := hDD.get 11 58 _ rfl rfl (by kernel_rfl)
        simp only [Array.getD_eq_getD_getElem?] at h58
        rw [if_pos (by rfl)]
        exact wp_val (v := .bool true) (w' := W) (by simp [execOp, Act.eval, h58, go_sem]) (hK _ _ hG (Below.refl _ _) rfl (fun h => by cases h))
      · refine stepJ_any rfl fun ac W hAA hG hDD K hK => ?_
        have h5 := hAA.getD (t := 5) (by kernel_rfl)
        have hgd := hDD.get 12 59 _ rfl rfl (by kernel_rfl)
        have hgd := slot_bool hgd
        simp only [Array.getD_eq_getD_getElem?] at h5
        rw [if_pos (by simp [Region.wanted, yielded, hgd])]
        exact wp_val (v := .slice a3 pp.length c3) (w' := W) (by simp [execOp, Act.eval, h5, go_sem]) (hK _ _ hG (Below.refl _ _) rfl (fun h => by cases h))
      · refine stepJ_any rfl fun ac W hAA hG hDD K hK => ?_
        have h60 := hDD.get 13 60 _ rfl rfl (by kernel_rfl)
        have hgd := hDD.get 12 59 _ rfl rfl (by kernel_rfl)
        have hgd := slot_bool hgd
        simp only [Array.getD_eq_getD_getElem?] at h60
        rw [if_pos (by simp [Region.wanted, yielded, hgd])]
        exact wp_val (v := .int .i64 (pp.length : Nat)) (w' := W) (by simp [execOp, Act.eval, h60, go_sem]) (hK _ _ hG (Below.refl _ _) rfl (fun h => by cases h))
      · refine stepJ_any rfl fun ac W hAA hG hDD K hK => ?_
        have h61 := hDD.get 14 61 _ rfl rfl (by kernel_rfl)
        have hgd := hDD.get 12 59 _ rfl rfl (by kernel_rfl)
        have hgd := slot_bool hgd
        simp only [Array.getD_eq_getD_getElem?] at h61
        rw [if_pos (by simp [Region.wanted, yielded, hgd])]
        exact wp_val (v := .bool true) (w' := W) (by simp [execOp, Act.eval, h61, go_sem, hpl16]) (hK _ _ hG (Below.refl _ _) rfl (fun h => by cases h))
      · refine stepJ_any rfl fun ac W hAA hG hDD K hK => ?_
        have h59 := hDD.get 12 59 _ rfl rfl (by kernel_rfl)
        have h62 := hDD.get 15 62 _ rfl rfl (by kernel_rfl)
        simp only [Array.getD_eq_getD_getElem?] at h59 h62
        rw [if_pos (by rfl)]
        exact wp_val (v := .bool true) (w' := W) (by simp [execOp, Act.eval, h59, h62, go_sem]) (hK _ _ hG (Below.refl _ _) rfl (fun h => by cases h))
      · refine stepJ_any rfl fun ac W hAA hG hDD K hK => ?_
        have h63 := hDD.get 16 63 _ rfl rfl (by kernel_rfl)
        simp only [Array.getD_eq_getD_getElem?] at h63
        rw [if_pos (by rfl)]
        exact wp_val (v := .bool true) (w' := W) (by simp [execOp, Act.eval, h63, go_sem]) (hK _ _ hG (Below.refl _ _) rfl (fun h => by cases h))
    intro fu T w9 hG hF hne hltb
    have e47 : T 47 = .int .i64 0 := hF 0 _ rfl (by omega)
    have e48 : T 48 = .bool true := hF 1 _ rfl (by omega)
    have e49 : T 49 = .bool true := hF 2 _ rfl (by omega)
    have e50 : T 50 = .int .i64 0 := hF 3 _ rfl (by omega)
    have e51 : T 51 = .bool true := hF 4 _ rfl (by omega)
    have e52 : T 52 = .bool true := hF 5 _ rfl (by omega)
    have e53 : T 53 = .bool true := hF 6 _ rfl (by omega)
    have e54 : T 54 = .agg (BV (rootM ls)).toArray := hF 7 _ rfl (by omega)
    have e55 : T 55 = .slice (some ⟨b, off, none⟩) ls.length c := hF 8 _ rfl (by omega)
    have e56 : T 56 = .agg (BV (rootM ls)).toArray := hF 9 _ rfl (by omega)
    have e57 : T 57 = .bool true := hF 10 _ rfl (by omega)
    have e58 : T 58 = .bool true := hF 11 _ rfl (by omega)
    have e59 : T 59 = .bool true := hF 12 _ rfl (by omega)
    have e60 : T 60 = .slice a3 pp.length c3 := hF 13 _ rfl (by omega)
    have e61 : T 61 = .int .i64 (pp.length : Nat) := hF 14 _ rfl (by omega)
    have e62 : T 62 = .bool true := hF 15 _ rfl (by omega)
    have e63 : T 63 = .bool true := hF 16 _ rfl (by omega)
    have e4 : T 4 = .bool true := hF 17 _ rfl (by omega)
    clear hF hne hltb
    simp only [List.take, fillT, List.setIfInBounds_toArray, List.set_cons_zero, List.set_cons_succ, e47, e48, e49, e50, e51, e52, e53, e54, e55, e56, e57, e58, e59, e60, e61, e62, e63, e4]
    clear e47 e48 e49 e50 e51 e52 e53 e54 e55 e56 e57 e58 e59 e60 e61 e62 e63 e4
    refine wpAny_done (by kernel_rfl) ?_ _
    go_wp2_with fail
    go_ret
    exact ⟨rfl, hb1.out.trans (hG.mono hb1.out.size)⟩
end Go.Proofs.YtfdoiamgbdjbjaaDoor
