/- MerkleChanged: the law. -/
import Derived.Test.YtfdoiamgbdjbjaaDoorNf
import Derived.Test.YtfdoiamgbdjbjaaDoorNe
namespace Go.Proofs.YtfdoiamgbdjbjaaDoor
open Go.RowKit

theorem prove_32' (ls : List (List UInt8)) (z : Int) : ∀ d ∈ (proveP ls z).1, d.length = 32 := by
  unfold proveP
  split
  · intro d hd; cases hd
  · have h := pathP_32 (firstM_32 ls) (Int.toNat z) (rows ls.length)
    rw [firstM_len] at h
    exact h
set_option maxRecDepth 100000 in
set_option maxHeartbeats 2000000 in
theorem changed_any (ls : List (List UInt8)) (z : Int) (l2 : List UInt8) (hlm : ls.length ≤ 9223372036854775807) (w : World) (A B : Option Addr) (c cb : Nat) (hr : LL w w.heap.size ls A) (hrb : RBs w w.heap.size B l2) (hlc : l2.length ≤ cb) (hK : KT w) (h0 : 0 < w.heap.size) :
    Calls Tryd.prog 7 #[.slice A ls.length c, .int .i64 z, .slice B l2.length cb] w fun e w' => e = .returned (.bool true) ∧ Below w.heap.size w w' := by
  have hKH := Lib.hid hK
  have hS := Lib.hid (sane_any w hK h0)
  have hnb := Lib.hid hrb.none2
  clear hK
  replace hr := Lib.hid hr
  replace hrb := Lib.hid hrb
  go_enter Tryd.func7, Tryd.ntmps7
  go_wp2_with fail
  refine hS.out.mono ?_
  rintro e w1 ⟨rfl, hb1⟩
  clear hS
  replace hb1 := Lib.hid hb1
  go_upto_region 3 with fail
  obtain ⟨fb, hfb⟩ : ∃ b, fewB ls = b := ⟨_, rfl⟩
  cases fb with
  | false =>
    refine wp_region_pre 28 0 (fun W => Below w1.heap.size w1 W) (fun W W' => Below W.heap.size W W')
      (fun i v W => match i with
        | 0 => v = .slice A ls.length c
        | 1 => v = .bool false
        | 2 => v = .bool true
        | 3 => v = .bool true
        | 4 => v = undef
        | 5 => v = undef
        | 6 => v = undef
        | 7 => v = .bool true
        | 8 => v = .bool true
        | 9 => v = undef
        | 10 => v = undef
        | 11 => v = .bool true
        | 12 => v = .bool true
        | 13 => v = undef
        | 14 => v = undef
        | 15 => v = undef
        | 16 => v = undef
        | 17 => v = .bool true
        | 18 => v = .bool true
        | 19 => v = undef
        | 20 => v = undef
        | 21 => v = undef
        | 22 => v = undef
        | 23 => v = undef
        | 24 => v = undef
        | 25 => v = undef
        | 26 => v = undef
        | 27 => v = .bool true
        | _ => True) (fun _ => false)
      (by kernel_rfl) (by kernel_rfl) (by kernel_rfl) (by kernel_rfl) (by kernel_rfl) (by kernel_rfl) (by kernel_rfl) ?_ (fun _ _ h => h.size) (dN (Below.refl _ _) 1) ?_ ?_
    · intro i v W W' hb hF
      match i, hF with
      | 0, h => exact h
      | 1, h => exact h
      | 2, h => exact h
      | 3, h => exact h
      | 4, h => exact h
      | 5, h => exact h
      | 6, h => exact h
      | 7, h => exact h
      | 8, h => exact h
      | 9, h => exact h
      | 10, h => exact h
      | 11, h => exact h
      | 12, h => exact h
      | 13, h => exact h
      | 14, h => exact h
      | 15, h => exact h
      | 16, h => exact h
      | 17, h => exact h
      | 18, h => exact h
      | 19, h => exact h
      | 20, h => exact h
      | 21, h => exact h
      | 22, h => exact h
      | 23, h => exact h
      | 24, h => exact h
      | 25, h => exact h
      | 26, h => exact h
      | 27, h => exact h
      | _ + 28, _ => trivial
    · refine ⟨?_, ?_, ?_, ?_, ?_, ?_, ?_, ?_, ?_, ?_, ?_, ?_, ?_, ?_, ?_, ?_, ?_, ?_, ?_, ?_, ?_, ?_, ?_, ?_, ?_, ?_, ?_, ?_, trivial⟩
      · refine stepJ_any rfl fun ac W hAA hG hDD K hK => ?_
        have h0 := hAA.getD (t := 0) (by kernel_rfl)
        simp only [Array.getD_eq_getD_getElem?] at h0
        rw [if_pos (by rfl)]
        exact wp_val (v := .slice A ls.length c) (w' := W) (by simp [execOp, Act.eval, h0, go_sem]) (hK _ _ hG (Below.refl _ _) rfl (fun h => by cases h))
      · refine stepJ_any rfl fun ac W hAA hG hDD K hK => ?_
        have h17 := hDD.get 0 17 _ rfl rfl (by kernel_rfl)
        rw [if_pos (by rfl)]
        simp only [Array.getD_eq_getD_getElem?] at h17
        have hfw := Few_any ls W A c (hr.out.lift (hb1.out.trans (hG.mono hb1.out.size)) (hb1.out.trans (hG.mono hb1.out.size)).size) hlm
        rw [hfb] at hfw
        refine wp_call (f := 11) (args := #[.slice A ls.length c]) (by simp [execOp, Act.eval, h17, go_sem]) (hfw.mono fun e W9 he => ?_)
        obtain ⟨rfl, hbw9⟩ := he
        exact hK _ _ (hG.trans (hbw9.mono hG.size)) hbw9 rfl (fun h => by cases h)
      · refine stepJ_any rfl fun ac W hAA hG hDD K hK => ?_
        have h18 := hDD.get 1 18 _ rfl rfl (by kernel_rfl)
        simp only [Array.getD_eq_getD_getElem?] at h18
        rw [if_pos (by rfl)]
        exact wp_val (v := .bool true) (w' := W) (by simp [execOp, Act.eval, h18, go_sem]) (hK _ _ hG (Below.refl _ _) rfl (fun h => by cases h))
      · refine stepJ_any rfl fun ac W hAA hG hDD K hK => ?_
        have h19 := hDD.get 2 19 _ rfl rfl (by kernel_rfl)
        simp only [Array.getD_eq_getD_getElem?] at h19
        rw [if_pos (by rfl)]
        exact wp_val (v := .bool true) (w' := W) (by simp [execOp, Act.eval, h19, go_sem]) (hK _ _ hG (Below.refl _ _) rfl (fun h => by cases h))
      · refine stepJ_any rfl fun ac W hAA hG hDD K hK => ?_
        have hgd := hDD.get 3 20 _ rfl rfl (by kernel_rfl)
        have hgd := slot_bool hgd
        rw [if_neg (by simp [Region.wanted, yielded, hgd])]
        exact hK undef W hG (Below.refl _ _) rfl (fun h => by cases h)
      · refine stepJ_any rfl fun ac W hAA hG hDD K hK => ?_
        have hgd := hDD.get 3 20 _ rfl rfl (by kernel_rfl)
        have hgd := slot_bool hgd
        rw [if_neg (by simp [Region.wanted, yielded, hgd])]
        exact hK undef W hG (Below.refl _ _) rfl (fun h => by cases h)
      · refine stepJ_any rfl fun ac W hAA hG hDD K hK => ?_
        have hgd := hDD.get 3 20 _ rfl rfl (by kernel_rfl)
        have hgd := slot_bool hgd
        rw [if_neg (by simp [Region.wanted, yielded, hgd])]
        exact hK undef W hG (Below.refl _ _) rfl (fun h => by cases h)
      · refine stepJ_any rfl fun ac W hAA hG hDD K hK => ?_
        have h20 := hDD.get 3 20 _ rfl rfl (by kernel_rfl)
        have h23 := hDD.get 6 23 _ rfl rfl (by kernel_rfl)
        simp only [Array.getD_eq_getD_getElem?] at h20 h23
        rw [if_pos (by rfl)]
        exact wp_val (v := .bool true) (w' := W) (by simp [execOp, Act.eval, h20, h23, go_sem]) (hK _ _ hG (Below.refl _ _) rfl (fun h => by cases h))
      · refine stepJ_any rfl fun ac W hAA hG hDD K hK => ?_
        have h24 := hDD.get 7 24 _ rfl rfl (by kernel_rfl)
        simp only [Array.getD_eq_getD_getElem?] at h24
        rw [if_pos (by rfl)]
        exact wp_val (v := .bool true) (w' := W) (by simp [execOp, Act.eval, h24, go_sem]) (hK _ _ hG (Below.refl _ _) rfl (fun h => by cases h))
      · refine stepJ_any rfl fun ac W hAA hG hDD K hK => ?_
        have hgd := hDD.get 8 25 _ rfl rfl (by kernel_rfl)
        have hgd := slot_bool hgd
        rw [if_neg (by simp [Region.wanted, yielded, hgd])]
        exact hK undef W hG (Below.refl _ _) rfl (fun h => by cases h)
      · refine stepJ_any rfl fun ac W hAA hG hDD K hK => ?_
        have hgd := hDD.get 8 25 _ rfl rfl (by kernel_rfl)
        have hgd := slot_bool hgd
        rw [if_neg (by simp [Region.wanted, yielded, hgd])]
        exact hK undef W hG (Below.refl _ _) rfl (fun h => by cases h)
      · refine stepJ_any rfl fun ac W hAA hG hDD K hK => ?_
        have h25 := hDD.get 8 25 _ rfl rfl (by kernel_rfl)
        have h27 := hDD.get 10 27 _ rfl rfl (by kernel_rfl)
        simp only [Array.getD_eq_getD_getElem?] at h25 h27
        rw [if_pos (by rfl)]
        exact wp_val (v := .bool true) (w' := W) (by simp [execOp, Act.eval, h25, h27, go_sem]) (hK _ _ hG (Below.refl _ _) rfl (fun h => by cases h))
      · refine stepJ_any rfl fun ac W hAA hG hDD K hK => ?_
        have h28 := hDD.get 11 28 _ rfl rfl (by kernel_rfl)
        simp only [Array.getD_eq_getD_getElem?] at h28
        rw [if_pos (by rfl)]
        exact wp_val (v := .bool true) (w' := W) (by simp [execOp, Act.eval, h28, go_sem]) (hK _ _ hG (Below.refl _ _) rfl (fun h => by cases h))
      · refine stepJ_any rfl fun ac W hAA hG hDD K hK => ?_
        have hgd := hDD.get 12 29 _ rfl rfl (by kernel_rfl)
        have hgd := slot_bool hgd
        rw [if_neg (by simp [Region.wanted, yielded, hgd])]
        exact hK undef W hG (Below.refl _ _) rfl (fun h => by cases h)
      · refine stepJ_any rfl fun ac W hAA hG hDD K hK => ?_
        have hgd := hDD.get 12 29 _ rfl rfl (by kernel_rfl)
        have hgd := slot_bool hgd
        rw [if_neg (by simp [Region.wanted, yielded, hgd])]
        exact hK undef W hG (Below.refl _ _) rfl (fun h => by cases h)
      · refine stepJ_any rfl fun ac W hAA hG hDD K hK => ?_
        have hgd := hDD.get 12 29 _ rfl rfl (by kernel_rfl)
        have hgd := slot_bool hgd
        rw [if_neg (by simp [Region.wanted, yielded, hgd])]
        exact hK undef W hG (Below.refl _ _) rfl (fun h => by cases h)
      · refine stepJ_any rfl fun ac W hAA hG hDD K hK => ?_
        have hgd := hDD.get 12 29 _ rfl rfl (by kernel_rfl)
        have hgd := slot_bool hgd
        rw [if_neg (by simp [Region.wanted, yielded, hgd])]
        exact hK undef W hG (Below.refl _ _) rfl (fun h => by cases h)
      · refine stepJ_any rfl fun ac W hAA hG hDD K hK => ?_
        have h29 := hDD.get 12 29 _ rfl rfl (by kernel_rfl)
        have h33 := hDD.get 16 33 _ rfl rfl (by kernel_rfl)
        simp only [Array.getD_eq_getD_getElem?] at h29 h33
        rw [if_pos (by rfl)]
        exact wp_val (v := .bool true) (w' := W) (by simp [execOp, Act.eval, h29, h33, go_sem]) (hK _ _ hG (Below.refl _ _) rfl (fun h => by cases h))
      · refine stepJ_any rfl fun ac W hAA hG hDD K hK => ?_
        have h34 := hDD.get 17 34 _ rfl rfl (by kernel_rfl)
        simp only [Array.getD_eq_getD_getElem?] at h34
        rw [if_pos (by rfl)]
        exact wp_val (v := .bool true) (w' := W) (by simp [execOp, Act.eval, h34, go_sem]) (hK _ _ hG (Below.refl _ _) rfl (fun h => by cases h))
      · refine stepJ_any rfl fun ac W hAA hG hDD K hK => ?_
        have hgd := hDD.get 18 35 _ rfl rfl (by kernel_rfl)
        have hgd := slot_bool hgd
        rw [if_neg (by simp [Region.wanted, yielded, hgd])]
        exact hK undef W hG (Below.refl _ _) rfl (fun h => by cases h)
      · refine stepJ_any rfl fun ac W hAA hG hDD K hK => ?_
        have hgd := hDD.get 18 35 _ rfl rfl (by kernel_rfl)
        have hgd := slot_bool hgd
        rw [if_neg (by simp [Region.wanted, yielded, hgd])]
        exact hK undef W hG (Below.refl _ _) rfl (fun h => by cases h)
      · refine stepJ_any rfl fun ac W hAA hG hDD K hK => ?_
        have hgd := hDD.get 18 35 _ rfl rfl (by kernel_rfl)
        have hgd := slot_bool hgd
        rw [if_neg (by simp [Region.wanted, yielded, hgd])]
        exact hK undef W hG (Below.refl _ _) rfl (fun h => by cases h)
      · refine stepJ_any rfl fun ac W hAA hG hDD K hK => ?_
        have hgd := hDD.get 18 35 _ rfl rfl (by kernel_rfl)
        have hgd := slot_bool hgd
        rw [if_neg (by simp [Region.wanted, yielded, hgd])]
        exact hK undef W hG (Below.refl _ _) rfl (fun h => by cases h)
      · refine stepJ_any rfl fun ac W hAA hG hDD K hK => ?_
        have hgd := hDD.get 18 35 _ rfl rfl (by kernel_rfl)
        have hgd := slot_bool hgd
        rw [if_neg (by simp [Region.wanted, yielded, hgd])]
        exact hK undef W hG (Below.refl _ _) rfl (fun h => by cases h)
      · refine stepJ_any rfl fun ac W hAA hG hDD K hK => ?_
        have hgd := hDD.get 18 35 _ rfl rfl (by kernel_rfl)
        have hgd := slot_bool hgd
        rw [if_neg (by simp [Region.wanted, yielded, hgd])]
        exact hK undef W hG (Below.refl _ _) rfl (fun h => by cases h)
      · refine stepJ_any rfl fun ac W hAA hG hDD K hK => ?_
        have hgd := hDD.get 18 35 _ rfl rfl (by kernel_rfl)
        have hgd := slot_bool hgd
        rw [if_neg (by simp [Region.wanted, yielded, hgd])]
        exact hK undef W hG (Below.refl _ _) rfl (fun h => by cases h)
      · refine stepJ_any rfl fun ac W hAA hG hDD K hK => ?_
        have hgd := hDD.get 18 35 _ rfl rfl (by kernel_rfl)
        have hgd := slot_bool hgd
        rw [if_neg (by simp [Region.wanted, yielded, hgd])]
        exact hK undef W hG (Below.refl _ _) rfl (fun h => by cases h)
      · refine stepJ_any rfl fun ac W hAA hG hDD K hK => ?_
        have h35 := hDD.get 18 35 _ rfl rfl (by kernel_rfl)
        have h43 := hDD.get 26 43 _ rfl rfl (by kernel_rfl)
        simp only [Array.getD_eq_getD_getElem?] at h35 h43
        rw [if_pos (by rfl)]
        exact wp_val (v := .bool true) (w' := W) (by simp [execOp, Act.eval, h35, h43, go_sem]) (hK _ _ hG (Below.refl _ _) rfl (fun h => by cases h))
    intro fu T w2 hG hF hne hltb
    have e17 : T 17 = .slice A ls.length c := hF 0 _ rfl (by omega)
    have e18 : T 18 = .bool false := hF 1 _ rfl (by omega)
    have e19 : T 19 = .bool true := hF 2 _ rfl (by omega)
    have e20 : T 20 = .bool true := hF 3 _ rfl (by omega)
    have e21 : T 21 = undef := hF 4 _ rfl (by omega)
    have e22 : T 22 = undef := hF 5 _ rfl (by omega)
    have e23 : T 23 = undef := hF 6 _ rfl (by omega)
    have e24 : T 24 = .bool true := hF 7 _ rfl (by omega)
    have e25 : T 25 = .bool true := hF 8 _ rfl (by omega)
    have e26 : T 26 = undef := hF 9 _ rfl (by omega)
    have e27 : T 27 = undef := hF 10 _ rfl (by omega)
    have e28 : T 28 = .bool true := hF 11 _ rfl (by omega)
    have e29 : T 29 = .bool true := hF 12 _ rfl (by omega)
    have e30 : T 30 = undef := hF 13 _ rfl (by omega)
    have e31 : T 31 = undef := hF 14 _ rfl (by omega)
    have e32 : T 32 = undef := hF 15 _ rfl (by omega)
    have e33 : T 33 = undef := hF 16 _ rfl (by omega)
    have e34 : T 34 = .bool true := hF 17 _ rfl (by omega)
    have e35 : T 35 = .bool true := hF 18 _ rfl (by omega)
    have e36 : T 36 = undef := hF 19 _ rfl (by omega)
    have e37 : T 37 = undef := hF 20 _ rfl (by omega)
    have e38 : T 38 = undef := hF 21 _ rfl (by omega)
    have e39 : T 39 = undef := hF 22 _ rfl (by omega)
    have e40 : T 40 = undef := hF 23 _ rfl (by omega)
    have e41 : T 41 = undef := hF 24 _ rfl (by omega)
    have e42 : T 42 = undef := hF 25 _ rfl (by omega)
    have e43 : T 43 = undef := hF 26 _ rfl (by omega)
    have e44 : T 44 = .bool true := hF 27 _ rfl (by omega)
    clear hF hne hltb
    simp only [List.take, fillT, List.setIfInBounds_toArray, List.set_cons_zero, List.set_cons_succ, e17, e18, e19, e20, e21, e22, e23, e24, e25, e26, e27, e28, e29, e30, e31, e32, e33, e34, e35, e36, e37, e38, e39, e40, e41, e42, e43, e44]
    clear e17 e18 e19 e20 e21 e22 e23 e24 e25 e26 e27 e28 e29 e30 e31 e32 e33 e34 e35 e36 e37 e38 e39 e40 e41 e42 e43 e44
    refine wpAny_done (by kernel_rfl) ?_ _
    go_wp2_with fail
    go_ret
    exact ⟨rfl, hb1.out.trans (hG.mono hb1.out.size)⟩
  | true =>
  obtain ⟨hl40, hsm⟩ := fewB_iff.1 hfb
  have hsmH : Hid (Small ls) := Lib.hid (fun x hx => Nat.le_trans (hsm x hx) (by decide))
  by_cases s6 : l2.length ≤ 200
  case neg =>
    have f6 := Lib.hid (show decide ((200 : Int) < (l2.length : Int)) = true from decide_eq_true (by omega))
    refine wp_region_pre 28 0 (fun W => Below w1.heap.size w1 W) (fun W W' => Below W.heap.size W W')
      (fun i v W => match i with
        | 0 => v = .slice A ls.length c
        | 1 => v = .bool true
        | 2 => v = .bool false
        | 3 => v = .bool false
        | 4 => v = .slice B l2.length cb
        | 5 => v = .int .i64 (l2.length : Nat)
        | 6 => v = .bool true
        | 7 => v = .bool true
        | 8 => v = .bool true
        | 9 => v = undef
        | 10 => v = undef
        | 11 => v = .bool true
        | 12 => v = .bool true
        | 13 => v = undef
        | 14 => v = undef
        | 15 => v = undef
        | 16 => v = undef
        | 17 => v = .bool true
        | 18 => v = .bool true
        | 19 => v = undef
        | 20 => v = undef
        | 21 => v = undef
        | 22 => v = undef
        | 23 => v = undef
        | 24 => v = undef
        | 25 => v = undef
        | 26 => v = undef
        | 27 => v = .bool true
        | _ => True) (fun _ => false)
      (by kernel_rfl) (by kernel_rfl) (by kernel_rfl) (by kernel_rfl) (by kernel_rfl) (by kernel_rfl) (by kernel_rfl) ?_ (fun _ _ h => h.size) (dN (Below.refl _ _) 1) ?_ ?_
    · intro i v W W' hb hF
      match i, hF with
      | 0, h => exact h
      | 1, h => exact h
      | 2, h => exact h
      | 3, h => exact h
      | 4, h => exact h
      | 5, h => exact h
      | 6, h => exact h
      | 7, h => exact h
      | 8, h => exact h
      | 9, h => exact h
      | 10, h => exact h
      | 11, h => exact h
      | 12, h => exact h
      | 13, h => exact h
      | 14, h => exact h
      | 15, h => exact h
      | 16, h => exact h
      | 17, h => exact h
      | 18, h => exact h
      | 19, h => exact h
      | 20, h => exact h
      | 21, h => exact h
      | 22, h => exact h
      | 23, h => exact h
      | 24, h => exact h
      | 25, h => exact h
      | 26, h => exact h
      | 27, h => exact h
      | _ + 28, _ => trivial
    · refine ⟨?_, ?_, ?_, ?_, ?_, ?_, ?_, ?_, ?_, ?_, ?_, ?_, ?_, ?_, ?_, ?_, ?_, ?_, ?_, ?_, ?_, ?_, ?_, ?_, ?_, ?_, ?_, ?_, trivial⟩
      · refine stepJ_any rfl fun ac W hAA hG hDD K hK => ?_
        have h0 := hAA.getD (t := 0) (by kernel_rfl)
        simp only [Array.getD_eq_getD_getElem?] at h0
        rw [if_pos (by rfl)]
        exact wp_val (v := .slice A ls.length c) (w' := W) (by simp [execOp, Act.eval, h0, go_sem]) (hK _ _ hG (Below.refl _ _) rfl (fun h => by cases h))
      · refine stepJ_any rfl fun ac W hAA hG hDD K hK => ?_
        have h17 := hDD.get 0 17 _ rfl rfl (by kernel_rfl)
        rw [if_pos (by rfl)]
        simp only [Array.getD_eq_getD_getElem?] at h17
        have hfw := Few_any ls W A c (hr.out.lift (hb1.out.trans (hG.mono hb1.out.size)) (hb1.out.trans (hG.mono hb1.out.size)).size) hlm
        rw [hfb] at hfw
        refine wp_call (f := 11) (args := #[.slice A ls.length c]) (by simp [execOp, Act.eval, h17, go_sem]) (hfw.mono fun e W9 he => ?_)
        obtain ⟨rfl, hbw9⟩ := he
        exact hK _ _ (hG.trans (hbw9.mono hG.size)) hbw9 rfl (fun h => by cases h)
      · refine stepJ_any rfl fun ac W hAA hG hDD K hK => ?_
        have h18 := hDD.get 1 18 _ rfl rfl (by kernel_rfl)
        simp only [Array.getD_eq_getD_getElem?] at h18
        rw [if_pos (by rfl)]
        exact wp_val (v := .bool false) (w' := W) (by simp [execOp, Act.eval, h18, go_sem]) (hK _ _ hG (Below.refl _ _) rfl (fun h => by cases h))
      · refine stepJ_any rfl fun ac W hAA hG hDD K hK => ?_
        have h19 := hDD.get 2 19 _ rfl rfl (by kernel_rfl)
        simp only [Array.getD_eq_getD_getElem?] at h19
        rw [if_pos (by rfl)]
        exact wp_val (v := .bool false) (w' := W) (by simp [execOp, Act.eval, h19, go_sem]) (hK _ _ hG (Below.refl _ _) rfl (fun h => by cases h))
      · refine stepJ_any rfl fun ac W hAA hG hDD K hK => ?_
        have h2 := hAA.getD (t := 2) (by kernel_rfl)
        have hgd := hDD.get 3 20 _ rfl rfl (by kernel_rfl)
        have hgd := slot_bool hgd
        simp only [Array.getD_eq_getD_getElem?] at h2
        rw [if_pos (by simp [Region.wanted, yielded, hgd])]
        exact wp_val (v := .slice B l2.length cb) (w' := W) (by simp [execOp, Act.eval, h2, go_sem]) (hK _ _ hG (Below.refl _ _) rfl (fun h => by cases h))
      · refine stepJ_any rfl fun ac W hAA hG hDD K hK => ?_
        have h21 := hDD.get 4 21 _ rfl rfl (by kernel_rfl)
        have hgd := hDD.get 3 20 _ rfl rfl (by kernel_rfl)
        have hgd := slot_bool hgd
        simp only [Array.getD_eq_getD_getElem?] at h21
        rw [if_pos (by simp [Region.wanted, yielded, hgd])]
        exact wp_val (v := .int .i64 (l2.length : Nat)) (w' := W) (by simp [execOp, Act.eval, h21, go_sem]) (hK _ _ hG (Below.refl _ _) rfl (fun h => by cases h))
      · refine stepJ_any rfl fun ac W hAA hG hDD K hK => ?_
        have h22 := hDD.get 5 22 _ rfl rfl (by kernel_rfl)
        have hgd := hDD.get 3 20 _ rfl rfl (by kernel_rfl)
        have hgd := slot_bool hgd
        simp only [Array.getD_eq_getD_getElem?] at h22
        have f6 := f6.out
        rw [if_pos (by simp [Region.wanted, yielded, hgd])]
        exact wp_val (v := .bool true) (w' := W) (by simp [execOp, Act.eval, h22, go_sem, f6]) (hK _ _ hG (Below.refl _ _) rfl (fun h => by cases h))
      · refine stepJ_any rfl fun ac W hAA hG hDD K hK => ?_
        have h20 := hDD.get 3 20 _ rfl rfl (by kernel_rfl)
        have h23 := hDD.get 6 23 _ rfl rfl (by kernel_rfl)
        simp only [Array.getD_eq_getD_getElem?] at h20 h23
        rw [if_pos (by rfl)]
        exact wp_val (v := .bool true) (w' := W) (by simp [execOp, Act.eval, h20, h23, go_sem]) (hK _ _ hG (Below.refl _ _) rfl (fun h => by cases h))
      · refine stepJ_any rfl fun ac W hAA hG hDD K hK => ?_
        have h24 := hDD.get 7 24 _ rfl rfl (by kernel_rfl)
        simp only [Array.getD_eq_getD_getElem?] at h24
        rw [if_pos (by rfl)]
        exact wp_val (v := .bool true) (w' := W) (by simp [execOp, Act.eval, h24, go_sem]) (hK _ _ hG (Below.refl _ _) rfl (fun h => by cases h))
      · refine stepJ_any rfl fun ac W hAA hG hDD K hK => ?_
        have hgd := hDD.get 8 25 _ rfl rfl (by kernel_rfl)
        have hgd := slot_bool hgd
        rw [if_neg (by simp [Region.wanted, yielded, hgd])]
        exact hK undef W hG (Below.refl _ _) rfl (fun h => by cases h)
      · refine stepJ_any rfl fun ac W hAA hG hDD K hK => ?_
        have hgd := hDD.get 8 25 _ rfl rfl (by kernel_rfl)
        have hgd := slot_bool hgd
        rw [if_neg (by simp [Region.wanted, yielded, hgd])]
        exact hK undef W hG (Below.refl _ _) rfl (fun h => by cases h)
      · refine stepJ_any rfl fun ac W hAA hG hDD K hK => ?_
        have h25 := hDD.get 8 25 _ rfl rfl (by kernel_rfl)
        have h27 := hDD.get 10 27 _ rfl rfl (by kernel_rfl)
        simp only [Array.getD_eq_getD_getElem?] at h25 h27
        rw [if_pos (by rfl)]
        exact wp_val (v := .bool true) (w' := W) (by simp [execOp, Act.eval, h25, h27, go_sem]) (hK _ _ hG (Below.refl _ _) rfl (fun h => by cases h))
      · refine stepJ_any rfl fun ac W hAA hG hDD K hK => ?_
        have h28 := hDD.get 11 28 _ rfl rfl (by kernel_rfl)
        simp only [Array.getD_eq_getD_getElem?] at h28
        rw [if_pos (by rfl)]
        exact wp_val (v := .bool true) (w' := W) (by simp [execOp, Act.eval, h28, go_sem]) (hK _ _ hG (Below.refl _ _) rfl (fun h => by cases h))
      · refine stepJ_any rfl fun ac W hAA hG hDD K hK => ?_
        have hgd := hDD.get 12 29 _ rfl rfl (by kernel_rfl)
        have hgd := slot_bool hgd
        rw [if_neg (by simp [Region.wanted, yielded, hgd])]
        exact hK undef W hG (Below.refl _ _) rfl (fun h => by cases h)
      · refine stepJ_any rfl fun ac W hAA hG hDD K hK => ?_
        have hgd := hDD.get 12 29 _ rfl rfl (by kernel_rfl)
        have hgd := slot_bool hgd
        rw [if_neg (by simp [Region.wanted, yielded, hgd])]
        exact hK undef W hG (Below.refl _ _) rfl (fun h => by cases h)
      · refine stepJ_any rfl fun ac W hAA hG hDD K hK => ?_
        have hgd := hDD.get 12 29 _ rfl rfl (by kernel_rfl)
        have hgd := slot_bool hgd
        rw [if_neg (by simp [Region.wanted, yielded, hgd])]
        exact hK undef W hG (Below.refl _ _) rfl (fun h => by cases h)
      · refine stepJ_any rfl fun ac W hAA hG hDD K hK => ?_
        have hgd := hDD.get 12 29 _ rfl rfl (by kernel_rfl)
        have hgd := slot_bool hgd
        rw [if_neg (by simp [Region.wanted, yielded, hgd])]
        exact hK undef W hG (Below.refl _ _) rfl (fun h => by cases h)
      · refine stepJ_any rfl fun ac W hAA hG hDD K hK => ?_
        have h29 := hDD.get 12 29 _ rfl rfl (by kernel_rfl)
        have h33 := hDD.get 16 33 _ rfl rfl (by kernel_rfl)
        simp only [Array.getD_eq_getD_getElem?] at h29 h33
        rw [if_pos (by rfl)]
        exact wp_val (v := .bool true) (w' := W) (by simp [execOp, Act.eval, h29, h33, go_sem]) (hK _ _ hG (Below.refl _ _) rfl (fun h => by cases h))
      · refine stepJ_any rfl fun ac W hAA hG hDD K hK => ?_
        have h34 := hDD.get 17 34 _ rfl rfl (by kernel_rfl)
        simp only [Array.getD_eq_getD_getElem?] at h34
        rw [if_pos (by rfl)]
        exact wp_val (v := .bool true) (w' := W) (by simp [execOp, Act.eval, h34, go_sem]) (hK _ _ hG (Below.refl _ _) rfl (fun h => by cases h))
      · refine stepJ_any rfl fun ac W hAA hG hDD K hK => ?_
        have hgd := hDD.get 18 35 _ rfl rfl (by kernel_rfl)
        have hgd := slot_bool hgd
        rw [if_neg (by simp [Region.wanted, yielded, hgd])]
        exact hK undef W hG (Below.refl _ _) rfl (fun h => by cases h)
      · refine stepJ_any rfl fun ac W hAA hG hDD K hK => ?_
        have hgd := hDD.get 18 35 _ rfl rfl (by kernel_rfl)
        have hgd := slot_bool hgd
        rw [if_neg (by simp [Region.wanted, yielded, hgd])]
        exact hK undef W hG (Below.refl _ _) rfl (fun h => by cases h)
      · refine stepJ_any rfl fun ac W hAA hG hDD K hK => ?_
        have hgd := hDD.get 18 35 _ rfl rfl (by kernel_rfl)
        have hgd := slot_bool hgd
        rw [if_neg (by simp [Region.wanted, yielded, hgd])]
        exact hK undef W hG (Below.refl _ _) rfl (fun h => by cases h)
      · refine stepJ_any rfl fun ac W hAA hG hDD K hK => ?_
        have hgd := hDD.get 18 35 _ rfl rfl (by kernel_rfl)
        have hgd := slot_bool hgd
        rw [if_neg (by simp [Region.wanted, yielded, hgd])]
        exact hK undef W hG (Below.refl _ _) rfl (fun h => by cases h)
      · refine stepJ_any rfl fun ac W hAA hG hDD K hK => ?_
        have hgd := hDD.get 18 35 _ rfl rfl (by kernel_rfl)
        have hgd := slot_bool hgd
        rw [if_neg (by simp [Region.wanted, yielded, hgd])]
        exact hK undef W hG (Below.refl _ _) rfl (fun h => by cases h)
      · refine stepJ_any rfl fun ac W hAA hG hDD K hK => ?_
        have hgd := hDD.get 18 35 _ rfl rfl (by kernel_rfl)
        have hgd := slot_bool hgd
        rw [if_neg (by simp [Region.wanted, yielded, hgd])]
        exact hK undef W hG (Below.refl _ _) rfl (fun h => by cases h)
      · refine stepJ_any rfl fun ac W hAA hG hDD K hK => ?_
        have hgd := hDD.get 18 35 _ rfl rfl (by kernel_rfl)
        have hgd := slot_bool hgd
        rw [if_neg (by simp [Region.wanted, yielded, hgd])]
        exact hK undef W hG (Below.refl _ _) rfl (fun h => by cases h)
      · refine stepJ_any rfl fun ac W hAA hG hDD K hK => ?_
        have hgd := hDD.get 18 35 _ rfl rfl (by kernel_rfl)
        have hgd := slot_bool hgd
        rw [if_neg (by simp [Region.wanted, yielded, hgd])]
        exact hK undef W hG (Below.refl _ _) rfl (fun h => by cases h)
      · refine stepJ_any rfl fun ac W hAA hG hDD K hK => ?_
        have h35 := hDD.get 18 35 _ rfl rfl (by kernel_rfl)
        have h43 := hDD.get 26 43 _ rfl rfl (by kernel_rfl)
        simp only [Array.getD_eq_getD_getElem?] at h35 h43
        rw [if_pos (by rfl)]
        exact wp_val (v := .bool true) (w' := W) (by simp [execOp, Act.eval, h35, h43, go_sem]) (hK _ _ hG (Below.refl _ _) rfl (fun h => by cases h))
    intro fu T w2 hG hF hne hltb
    have e17 : T 17 = .slice A ls.length c := hF 0 _ rfl (by omega)
    have e18 : T 18 = .bool true := hF 1 _ rfl (by omega)
    have e19 : T 19 = .bool false := hF 2 _ rfl (by omega)
    have e20 : T 20 = .bool false := hF 3 _ rfl (by omega)
    have e21 : T 21 = .slice B l2.length cb := hF 4 _ rfl (by omega)
    have e22 : T 22 = .int .i64 (l2.length : Nat) := hF 5 _ rfl (by omega)
    have e23 : T 23 = .bool true := hF 6 _ rfl (by omega)
    have e24 : T 24 = .bool true := hF 7 _ rfl (by omega)
    have e25 : T 25 = .bool true := hF 8 _ rfl (by omega)
    have e26 : T 26 = undef := hF 9 _ rfl (by omega)
    have e27 : T 27 = undef := hF 10 _ rfl (by omega)
    have e28 : T 28 = .bool true := hF 11 _ rfl (by omega)
    have e29 : T 29 = .bool true := hF 12 _ rfl (by omega)
    have e30 : T 30 = undef := hF 13 _ rfl (by omega)
    have e31 : T 31 = undef := hF 14 _ rfl (by omega)
    have e32 : T 32 = undef := hF 15 _ rfl (by omega)
    have e33 : T 33 = undef := hF 16 _ rfl (by omega)
    have e34 : T 34 = .bool true := hF 17 _ rfl (by omega)
    have e35 : T 35 = .bool true := hF 18 _ rfl (by omega)
    have e36 : T 36 = undef := hF 19 _ rfl (by omega)
    have e37 : T 37 = undef := hF 20 _ rfl (by omega)
    have e38 : T 38 = undef := hF 21 _ rfl (by omega)
    have e39 : T 39 = undef := hF 22 _ rfl (by omega)
    have e40 : T 40 = undef := hF 23 _ rfl (by omega)
    have e41 : T 41 = undef := hF 24 _ rfl (by omega)
    have e42 : T 42 = undef := hF 25 _ rfl (by omega)
    have e43 : T 43 = undef := hF 26 _ rfl (by omega)
    have e44 : T 44 = .bool true := hF 27 _ rfl (by omega)
    clear hF hne hltb
    simp only [List.take, fillT, List.setIfInBounds_toArray, List.set_cons_zero, List.set_cons_succ, e17, e18, e19, e20, e21, e22, e23, e24, e25, e26, e27, e28, e29, e30, e31, e32, e33, e34, e35, e36, e37, e38, e39, e40, e41, e42, e43, e44]
    clear e17 e18 e19 e20 e21 e22 e23 e24 e25 e26 e27 e28 e29 e30 e31 e32 e33 e34 e35 e36 e37 e38 e39 e40 e41 e42 e43 e44
    refine wpAny_done (by kernel_rfl) ?_ _
    go_wp2_with fail
    go_ret
    exact ⟨rfl, hb1.out.trans (hG.mono hb1.out.size)⟩
  have f6 := Lib.hid (show decide ((200 : Int) < (l2.length : Int)) = false from decide_eq_false (by omega))
  by_cases s10 : z < 0
  case pos =>
    have f10 := Lib.hid (show decide (z < 0) = true from decide_eq_true s10)
    refine wp_region_pre 28 0 (fun W => Below w1.heap.size w1 W) (fun W W' => Below W.heap.size W W')
      (fun i v W => match i with
        | 0 => v = .slice A ls.length c
        | 1 => v = .bool true
        | 2 => v = .bool false
        | 3 => v = .bool false
        | 4 => v = .slice B l2.length cb
        | 5 => v = .int .i64 (l2.length : Nat)
        | 6 => v = .bool false
        | 7 => v = .bool false
        | 8 => v = .bool false
        | 9 => v = .int .i64 z
        | 10 => v = .bool true
        | 11 => v = .bool true
        | 12 => v = .bool true
        | 13 => v = undef
        | 14 => v = undef
        | 15 => v = undef
        | 16 => v = undef
        | 17 => v = .bool true
        | 18 => v = .bool true
        | 19 => v = undef
        | 20 => v = undef
        | 21 => v = undef
        | 22 => v = undef
        | 23 => v = undef
        | 24 => v = undef
        | 25 => v = undef
        | 26 => v = undef
        | 27 => v = .bool true
        | _ => True) (fun _ => false)
      (by kernel_rfl) (by kernel_rfl) (by kernel_rfl) (by kernel_rfl) (by kernel_rfl) (by kernel_rfl) (by kernel_rfl) ?_ (fun _ _ h => h.size) (dN (Below.refl _ _) 1) ?_ ?_
    · intro i v W W' hb hF
      match i, hF with
      | 0, h => exact h
      | 1, h => exact h
      | 2, h => exact h
      | 3, h => exact h
      | 4, h => exact h
      | 5, h => exact h
      | 6, h => exact h
      | 7, h => exact h
      | 8, h => exact h
      | 9, h => exact h
      | 10, h => exact h
      | 11, h => exact h
      | 12, h => exact h
      | 13, h => exact h
      | 14, h => exact h
      | 15, h => exact h
      | 16, h => exact h
      | 17, h => exact h
      | 18, h => exact h
      | 19, h => exact h
      | 20, h => exact h
      | 21, h => exact h
      | 22, h => exact h
      | 23, h => exact h
      | 24, h => exact h
      | 25, h => exact h
      | 26, h => exact h
      | 27, h => exact h
      | _ + 28, _ => trivial
    · refine ⟨?_, ?_, ?_, ?_, ?_, ?_, ?_, ?_, ?_, ?_, ?_, ?_, ?_, ?_, ?_, ?_, ?_, ?_, ?_, ?_, ?_, ?_, ?_, ?_, ?_, ?_, ?_, ?_, trivial⟩
      · refine stepJ_any rfl fun ac W hAA hG hDD K hK => ?_
        have h0 := hAA.getD (t := 0) (by kernel_rfl)
        simp only [Array.getD_eq_getD_getElem?] at h0
        rw [if_pos (by rfl)]
        exact wp_val (v := .slice A ls.length c) (w' := W) (by simp [execOp, Act.eval, h0, go_sem]) (hK _ _ hG (Below.refl _ _) rfl (fun h => by cases h))
      · refine stepJ_any rfl fun ac W hAA hG hDD K hK => ?_
        have h17 := hDD.get 0 17 _ rfl rfl (by kernel_rfl)
        rw [if_pos (by rfl)]
        simp only [Array.getD_eq_getD_getElem?] at h17
        have hfw := Few_any ls W A c (hr.out.lift (hb1.out.trans (hG.mono hb1.out.size)) (hb1.out.trans (hG.mono hb1.out.size)).size) hlm
        rw [hfb] at hfw
        refine wp_call (f := 11) (args := #[.slice A ls.length c]) (by simp [execOp, Act.eval, h17, go_sem]) (hfw.mono fun e W9 he => ?_)
        obtain ⟨rfl, hbw9⟩ := he
        exact hK _ _ (hG.trans (hbw9.mono hG.size)) hbw9 rfl (fun h => by cases h)
      · refine stepJ_any rfl fun ac W hAA hG hDD K hK => ?_
        have h18 := hDD.get 1 18 _ rfl rfl (by kernel_rfl)
        simp only [Array.getD_eq_getD_getElem?] at h18
        rw [if_pos (by rfl)]
        exact wp_val (v := .bool false) (w' := W) (by simp [execOp, Act.eval, h18, go_sem]) (hK _ _ hG (Below.refl _ _) rfl (fun h => by cases h))
      · refine stepJ_any rfl fun ac W hAA hG hDD K hK => ?_
        have h19 := hDD.get 2 19 _ rfl rfl (by kernel_rfl)
        simp only [Array.getD_eq_getD_getElem?] at h19
        rw [if_pos (by rfl)]
        exact wp_val (v := .bool false) (w' := W) (by simp [execOp, Act.eval, h19, go_sem]) (hK _ _ hG (Below.refl _ _) rfl (fun h => by cases h))
      · refine stepJ_any rfl fun ac W hAA hG hDD K hK => ?_
        have h2 := hAA.getD (t := 2) (by kernel_rfl)
        have hgd := hDD.get 3 20 _ rfl rfl (by kernel_rfl)
        have hgd := slot_bool hgd
        simp only [Array.getD_eq_getD_getElem?] at h2
        rw [if_pos (by simp [Region.wanted, yielded, hgd])]
        exact wp_val (v := .slice B l2.length cb) (w' := W) (by simp [execOp, Act.eval, h2, go_sem]) (hK _ _ hG (Below.refl _ _) rfl (fun h => by cases h))
      · refine stepJ_any rfl fun ac W hAA hG hDD K hK => ?_
        have h21 := hDD.get 4 21 _ rfl rfl (by kernel_rfl)
        have hgd := hDD.get 3 20 _ rfl rfl (by kernel_rfl)
        have hgd := slot_bool hgd
        simp only [Array.getD_eq_getD_getElem?] at h21
        rw [if_pos (by simp [Region.wanted, yielded, hgd])]
        exact wp_val (v := .int .i64 (l2.length : Nat)) (w' := W) (by simp [execOp, Act.eval, h21, go_sem]) (hK _ _ hG (Below.refl _ _) rfl (fun h => by cases h))
      · refine stepJ_any rfl fun ac W hAA hG hDD K hK => ?_
        have h22 := hDD.get 5 22 _ rfl rfl (by kernel_rfl)
        have hgd := hDD.get 3 20 _ rfl rfl (by kernel_rfl)
        have hgd := slot_bool hgd
        simp only [Array.getD_eq_getD_getElem?] at h22
        have f6 := f6.out
        rw [if_pos (by simp [Region.wanted, yielded, hgd])]
        exact wp_val (v := .bool false) (w' := W) (by simp [execOp, Act.eval, h22, go_sem, f6]) (hK _ _ hG (Below.refl _ _) rfl (fun h => by cases h))
      · refine stepJ_any rfl fun ac W hAA hG hDD K hK => ?_
        have h20 := hDD.get 3 20 _ rfl rfl (by kernel_rfl)
        have h23 := hDD.get 6 23 _ rfl rfl (by kernel_rfl)
        simp only [Array.getD_eq_getD_getElem?] at h20 h23
        rw [if_pos (by rfl)]
        exact wp_val (v := .bool false) (w' := W) (by simp [execOp, Act.eval, h20, h23, go_sem]) (hK _ _ hG (Below.refl _ _) rfl (fun h => by cases h))
      · refine stepJ_any rfl fun ac W hAA hG hDD K hK => ?_
        have h24 := hDD.get 7 24 _ rfl rfl (by kernel_rfl)
        simp only [Array.getD_eq_getD_getElem?] at h24
        rw [if_pos (by rfl)]
        exact wp_val (v := .bool false) (w' := W) (by simp [execOp, Act.eval, h24, go_sem]) (hK _ _ hG (Below.refl _ _) rfl (fun h => by cases h))
      · refine stepJ_any rfl fun ac W hAA hG hDD K hK => ?_
        have h1 := hAA.getD (t := 1) (by kernel_rfl)
        have hgd := hDD.get 8 25 _ rfl rfl (by kernel_rfl)
        have hgd := slot_bool hgd
        simp only [Array.getD_eq_getD_getElem?] at h1
        rw [if_pos (by simp [Region.wanted, yielded, hgd])]
        exact wp_val (v := .int .i64 z) (w' := W) (by simp [execOp, Act.eval, h1, go_sem]) (hK _ _ hG (Below.refl _ _) rfl (fun h => by cases h))
      · refine stepJ_any rfl fun ac W hAA hG hDD K hK => ?_
        have h26 := hDD.get 9 26 _ rfl rfl (by kernel_rfl)
        have hgd := hDD.get 8 25 _ rfl rfl (by kernel_rfl)
        have hgd := slot_bool hgd
        simp only [Array.getD_eq_getD_getElem?] at h26
        have f10 := f10.out
        rw [if_pos (by simp [Region.wanted, yielded, hgd])]
        exact wp_val (v := .bool true) (w' := W) (by simp [execOp, Act.eval, h26, go_sem, f10]) (hK _ _ hG (Below.refl _ _) rfl (fun h => by cases h))
      · refine stepJ_any rfl fun ac W hAA hG hDD K hK => ?_
        have h25 := hDD.get 8 25 _ rfl rfl (by kernel_rfl)
        have h27 := hDD.get 10 27 _ rfl rfl (by kernel_rfl)
        simp only [Array.getD_eq_getD_getElem?] at h25 h27
        rw [if_pos (by rfl)]
        exact wp_val (v := .bool true) (w' := W) (by simp [execOp, Act.eval, h25, h27, go_sem]) (hK _ _ hG (Below.refl _ _) rfl (fun h => by cases h))
      · refine stepJ_any rfl fun ac W hAA hG hDD K hK => ?_
        have h28 := hDD.get 11 28 _ rfl rfl (by kernel_rfl)
        simp only [Array.getD_eq_getD_getElem?] at h28
        rw [if_pos (by rfl)]
        exact wp_val (v := .bool true) (w' := W) (by simp [execOp, Act.eval, h28, go_sem]) (hK _ _ hG (Below.refl _ _) rfl (fun h => by cases h))
      · refine stepJ_any rfl fun ac W hAA hG hDD K hK => ?_
        have hgd := hDD.get 12 29 _ rfl rfl (by kernel_rfl)
        have hgd := slot_bool hgd
        rw [if_neg (by simp [Region.wanted, yielded, hgd])]
        exact hK undef W hG (Below.refl _ _) rfl (fun h => by cases h)
      · refine stepJ_any rfl fun ac W hAA hG hDD K hK => ?_
        have hgd := hDD.get 12 29 _ rfl rfl (by kernel_rfl)
        have hgd := slot_bool hgd
        rw [if_neg (by simp [Region.wanted, yielded, hgd])]
        exact hK undef W hG (Below.refl _ _) rfl (fun h => by cases h)
      · refine stepJ_any rfl fun ac W hAA hG hDD K hK => ?_
        have hgd := hDD.get 12 29 _ rfl rfl (by kernel_rfl)
        have hgd := slot_bool hgd
        rw [if_neg (by simp [Region.wanted, yielded, hgd])]
        exact hK undef W hG (Below.refl _ _) rfl (fun h => by cases h)
      · refine stepJ_any rfl fun ac W hAA hG hDD K hK => ?_
        have hgd := hDD.get 12 29 _ rfl rfl (by kernel_rfl)
        have hgd := slot_bool hgd
        rw [if_neg (by simp [Region.wanted, yielded, hgd])]
        exact hK undef W hG (Below.refl _ _) rfl (fun h => by cases h)
      · refine stepJ_any rfl fun ac W hAA hG hDD K hK => ?_
        have h29 := hDD.get 12 29 _ rfl rfl (by kernel_rfl)
        have h33 := hDD.get 16 33 _ rfl rfl (by kernel_rfl)
        simp only [Array.getD_eq_getD_getElem?] at h29 h33
        rw [if_pos (by rfl)]
        exact wp_val (v := .bool true) (w' := W) (by simp [execOp, Act.eval, h29, h33, go_sem]) (hK _ _ hG (Below.refl _ _) rfl (fun h => by cases h))
      · refine stepJ_any rfl fun ac W hAA hG hDD K hK => ?_
        have h34 := hDD.get 17 34 _ rfl rfl (by kernel_rfl)
        simp only [Array.getD_eq_getD_getElem?] at h34
        rw [if_pos (by rfl)]
        exact wp_val (v := .bool true) (w' := W) (by simp [execOp, Act.eval, h34, go_sem]) (hK _ _ hG (Below.refl _ _) rfl (fun h => by cases h))
      · refine stepJ_any rfl fun ac W hAA hG hDD K hK => ?_
        have hgd := hDD.get 18 35 _ rfl rfl (by kernel_rfl)
        have hgd := slot_bool hgd
        rw [if_neg (by simp [Region.wanted, yielded, hgd])]
        exact hK undef W hG (Below.refl _ _) rfl (fun h => by cases h)
      · refine stepJ_any rfl fun ac W hAA hG hDD K hK => ?_
        have hgd := hDD.get 18 35 _ rfl rfl (by kernel_rfl)
        have hgd := slot_bool hgd
        rw [if_neg (by simp [Region.wanted, yielded, hgd])]
        exact hK undef W hG (Below.refl _ _) rfl (fun h => by cases h)
      · refine stepJ_any rfl fun ac W hAA hG hDD K hK => ?_
        have hgd := hDD.get 18 35 _ rfl rfl (by kernel_rfl)
        have hgd := slot_bool hgd
        rw [if_neg (by simp [Region.wanted, yielded, hgd])]
        exact hK undef W hG (Below.refl _ _) rfl (fun h => by cases h)
      · refine stepJ_any rfl fun ac W hAA hG hDD K hK => ?_
        have hgd := hDD.get 18 35 _ rfl rfl (by kernel_rfl)
        have hgd := slot_bool hgd
        rw [if_neg (by simp [Region.wanted, yielded, hgd])]
        exact hK undef W hG (Below.refl _ _) rfl (fun h => by cases h)
      · refine stepJ_any rfl fun ac W hAA hG hDD K hK => ?_
        have hgd := hDD.get 18 35 _ rfl rfl (by kernel_rfl)
        have hgd := slot_bool hgd
        rw [if_neg (by simp [Region.wanted, yielded, hgd])]
        exact hK undef W hG (Below.refl _ _) rfl (fun h => by cases h)
      · refine stepJ_any rfl fun ac W hAA hG hDD K hK => ?_
        have hgd := hDD.get 18 35 _ rfl rfl (by kernel_rfl)
        have hgd := slot_bool hgd
        rw [if_neg (by simp [Region.wanted, yielded, hgd])]
        exact hK undef W hG (Below.refl _ _) rfl (fun h => by cases h)
      · refine stepJ_any rfl fun ac W hAA hG hDD K hK => ?_
        have hgd := hDD.get 18 35 _ rfl rfl (by kernel_rfl)
        have hgd := slot_bool hgd
        rw [if_neg (by simp [Region.wanted, yielded, hgd])]
        exact hK undef W hG (Below.refl _ _) rfl (fun h => by cases h)
      · refine stepJ_any rfl fun ac W hAA hG hDD K hK => ?_
        have hgd := hDD.get 18 35 _ rfl rfl (by kernel_rfl)
        have hgd := slot_bool hgd
        rw [if_neg (by simp [Region.wanted, yielded, hgd])]
        exact hK undef W hG (Below.refl _ _) rfl (fun h => by cases h)
      · refine stepJ_any rfl fun ac W hAA hG hDD K hK => ?_
        have h35 := hDD.get 18 35 _ rfl rfl (by kernel_rfl)
        have h43 := hDD.get 26 43 _ rfl rfl (by kernel_rfl)
        simp only [Array.getD_eq_getD_getElem?] at h35 h43
        rw [if_pos (by rfl)]
        exact wp_val (v := .bool true) (w' := W) (by simp [execOp, Act.eval, h35, h43, go_sem]) (hK _ _ hG (Below.refl _ _) rfl (fun h => by cases h))
    intro fu T w2 hG hF hne hltb
    have e17 : T 17 = .slice A ls.length c := hF 0 _ rfl (by omega)
    have e18 : T 18 = .bool true := hF 1 _ rfl (by omega)
    have e19 : T 19 = .bool false := hF 2 _ rfl (by omega)
    have e20 : T 20 = .bool false := hF 3 _ rfl (by omega)
    have e21 : T 21 = .slice B l2.length cb := hF 4 _ rfl (by omega)
    have e22 : T 22 = .int .i64 (l2.length : Nat) := hF 5 _ rfl (by omega)
    have e23 : T 23 = .bool false := hF 6 _ rfl (by omega)
    have e24 : T 24 = .bool false := hF 7 _ rfl (by omega)
    have e25 : T 25 = .bool false := hF 8 _ rfl (by omega)
    have e26 : T 26 = .int .i64 z := hF 9 _ rfl (by omega)
    have e27 : T 27 = .bool true := hF 10 _ rfl (by omega)
    have e28 : T 28 = .bool true := hF 11 _ rfl (by omega)
    have e29 : T 29 = .bool true := hF 12 _ rfl (by omega)
    have e30 : T 30 = undef := hF 13 _ rfl (by omega)
    have e31 : T 31 = undef := hF 14 _ rfl (by omega)
    have e32 : T 32 = undef := hF 15 _ rfl (by omega)
    have e33 : T 33 = undef := hF 16 _ rfl (by omega)
    have e34 : T 34 = .bool true := hF 17 _ rfl (by omega)
    have e35 : T 35 = .bool true := hF 18 _ rfl (by omega)
    have e36 : T 36 = undef := hF 19 _ rfl (by omega)
    have e37 : T 37 = undef := hF 20 _ rfl (by omega)
    have e38 : T 38 = undef := hF 21 _ rfl (by omega)
    have e39 : T 39 = undef := hF 22 _ rfl (by omega)
    have e40 : T 40 = undef := hF 23 _ rfl (by omega)
    have e41 : T 41 = undef := hF 24 _ rfl (by omega)
    have e42 : T 42 = undef := hF 25 _ rfl (by omega)
    have e43 : T 43 = undef := hF 26 _ rfl (by omega)
    have e44 : T 44 = .bool true := hF 27 _ rfl (by omega)
    clear hF hne hltb
    simp only [List.take, fillT, List.setIfInBounds_toArray, List.set_cons_zero, List.set_cons_succ, e17, e18, e19, e20, e21, e22, e23, e24, e25, e26, e27, e28, e29, e30, e31, e32, e33, e34, e35, e36, e37, e38, e39, e40, e41, e42, e43, e44]
    clear e17 e18 e19 e20 e21 e22 e23 e24 e25 e26 e27 e28 e29 e30 e31 e32 e33 e34 e35 e36 e37 e38 e39 e40 e41 e42 e43 e44
    refine wpAny_done (by kernel_rfl) ?_ _
    go_wp2_with fail
    go_ret
    exact ⟨rfl, hb1.out.trans (hG.mono hb1.out.size)⟩
  have f10 := Lib.hid (show decide (z < 0) = false from decide_eq_false s10)
  by_cases s16 : (ls.length : Int) ≤ z
  case pos =>
    have f16 := Lib.hid (show decide ((ls.length : Int) ≤ z) = true from decide_eq_true s16)
    refine wp_region_pre 28 0 (fun W => Below w1.heap.size w1 W) (fun W W' => Below W.heap.size W W')
      (fun i v W => match i with
        | 0 => v = .slice A ls.length c
        | 1 => v = .bool true
        | 2 => v = .bool false
        | 3 => v = .bool false
        | 4 => v = .slice B l2.length cb
        | 5 => v = .int .i64 (l2.length : Nat)
        | 6 => v = .bool false
        | 7 => v = .bool false
        | 8 => v = .bool false
        | 9 => v = .int .i64 z
        | 10 => v = .bool false
        | 11 => v = .bool false
        | 12 => v = .bool false
        | 13 => v = .int .i64 z
        | 14 => v = .slice A ls.length c
        | 15 => v = .int .i64 (ls.length : Nat)
        | 16 => v = .bool true
        | 17 => v = .bool true
        | 18 => v = .bool true
        | 19 => v = undef
        | 20 => v = undef
        | 21 => v = undef
        | 22 => v = undef
        | 23 => v = undef
        | 24 => v = undef
        | 25 => v = undef
        | 26 => v = undef
        | 27 => v = .bool true
        | _ => True) (fun _ => false)
      (by kernel_rfl) (by kernel_rfl) (by kernel_rfl) (by kernel_rfl) (by kernel_rfl) (by kernel_rfl) (by kernel_rfl) ?_ (fun _ _ h => h.size) (dN (Below.refl _ _) 1) ?_ ?_
    · intro i v W W' hb hF
      match i, hF with
      | 0, h => exact h
      | 1, h => exact h
      | 2, h => exact h
      | 3, h => exact h
      | 4, h => exact h
      | 5, h => exact h
      | 6, h => exact h
      | 7, h => exact h
      | 8, h => exact h
      | 9, h => exact h
      | 10, h => exact h
      | 11, h => exact h
      | 12, h => exact h
      | 13, h => exact h
      | 14, h => exact h
      | 15, h => exact h
      | 16, h => exact h
      | 17, h => exact h
      | 18, h => exact h
      | 19, h => exact h
      | 20, h => exact h
      | 21, h => exact h
      | 22, h => exact h
      | 23, h => exact h
      | 24, h => exact h
      | 25, h => exact h
      | 26, h => exact h
      | 27, h => exact h
      | _ + 28, _ => trivial
    · refine ⟨?_, ?_, ?_, ?_, ?_, ?_, ?_, ?_, ?_, ?_, ?_, ?_, ?_, ?_, ?_, ?_, ?_, ?_, ?_, ?_, ?_, ?_, ?_, ?_, ?_, ?_, ?_, ?_, trivial⟩
      · refine stepJ_any rfl fun ac W hAA hG hDD K hK => ?_
        have h0 := hAA.getD (t := 0) (by kernel_rfl)
        simp only [Array.getD_eq_getD_getElem?] at h0
        rw [if_pos (by rfl)]
        exact wp_val (v := .slice A ls.length c) (w' := W) (by simp [execOp, Act.eval, h0, go_sem]) (hK _ _ hG (Below.refl _ _) rfl (fun h => by cases h))
      · refine stepJ_any rfl fun ac W hAA hG hDD K hK => ?_
        have h17 := hDD.get 0 17 _ rfl rfl (by kernel_rfl)
        rw [if_pos (by rfl)]
        simp only [Array.getD_eq_getD_getElem?] at h17
        have hfw := Few_any ls W A c (hr.out.lift (hb1.out.trans (hG.mono hb1.out.size)) (hb1.out.trans (hG.mono hb1.out.size)).size) hlm
        rw [hfb] at hfw
        refine wp_call (f := 11) (args := #[.slice A ls.length c]) (by simp [execOp, Act.eval, h17, go_sem]) (hfw.mono fun e W9 he => ?_)
        obtain ⟨rfl, hbw9⟩ := he
        exact hK _ _ (hG.trans (hbw9.mono hG.size)) hbw9 rfl (fun h => by cases h)
      · refine stepJ_any rfl fun ac W hAA hG hDD K hK => ?_
        have h18 := hDD.get 1 18 _ rfl rfl (by kernel_rfl)
        simp only [Array.getD_eq_getD_getElem?] at h18
        rw [if_pos (by rfl)]
        exact wp_val (v := .bool false) (w' := W) (by simp [execOp, Act.eval, h18, go_sem]) (hK _ _ hG (Below.refl _ _) rfl (fun h => by cases h))
      · refine stepJ_any rfl fun ac W hAA hG hDD K hK => ?_
        have h19 := hDD.get 2 19 _ rfl rfl (by kernel_rfl)
        simp only [Array.getD_eq_getD_getElem?] at h19
        rw [if_pos (by rfl)]
        exact wp_val (v := .bool false) (w' := W) (by simp [execOp, Act.eval, h19, go_sem]) (hK _ _ hG (Below.refl _ _) rfl (fun h => by cases h))
      · refine stepJ_any rfl fun ac W hAA hG hDD K hK => ?_
        have h2 := hAA.getD (t := 2) (by kernel_rfl)
        have hgd := hDD.get 3 20 _ rfl rfl (by kernel_rfl)
        have hgd := slot_bool hgd
        simp only [Array.getD_eq_getD_getElem?] at h2
        rw [if_pos (by simp [Region.wanted, yielded, hgd])]
        exact wp_val (v := .slice B l2.length cb) (w' := W) (by simp [execOp, Act.eval, h2, go_sem]) (hK _ _ hG (Below.refl _ _) rfl (fun h => by cases h))
      · refine stepJ_any rfl fun ac W hAA hG hDD K hK => ?_
        have h21 := hDD.get 4 21 _ rfl rfl (by kernel_rfl)
        have hgd := hDD.get 3 20 _ rfl rfl (by kernel_rfl)
        have hgd := slot_bool hgd
        simp only [Array.getD_eq_getD_getElem?] at h21
        rw [if_pos (by simp [Region.wanted, yielded, hgd])]
        exact wp_val (v := .int .i64 (l2.length : Nat)) (w' := W) (by simp [execOp, Act.eval, h21, go_sem]) (hK _ _ hG (Below.refl _ _) rfl (fun h => by cases h))
      · refine stepJ_any rfl fun ac W hAA hG hDD K hK => ?_
        have h22 := hDD.get 5 22 _ rfl rfl (by kernel_rfl)
        have hgd := hDD.get 3 20 _ rfl rfl (by kernel_rfl)
        have hgd := slot_bool hgd
        simp only [Array.getD_eq_getD_getElem?] at h22
        have f6 := f6.out
        rw [if_pos (by simp [Region.wanted, yielded, hgd])]
        exact wp_val (v := .bool false) (w' := W) (by simp [execOp, Act.eval, h22, go_sem, f6]) (hK _ _ hG (Below.refl _ _) rfl (fun h => by cases h))
      · refine stepJ_any rfl fun ac W hAA hG hDD K hK => ?_
        have h20 := hDD.get 3 20 _ rfl rfl (by kernel_rfl)
        have h23 := hDD.get 6 23 _ rfl rfl (by kernel_rfl)
        simp only [Array.getD_eq_getD_getElem?] at h20 h23
        rw [if_pos (by rfl)]
        exact wp_val (v := .bool false) (w' := W) (by simp [execOp, Act.eval, h20, h23, go_sem]) (hK _ _ hG (Below.refl _ _) rfl (fun h => by cases h))
      · refine stepJ_any rfl fun ac W hAA hG hDD K hK => ?_
        have h24 := hDD.get 7 24 _ rfl rfl (by kernel_rfl)
        simp only [Array.getD_eq_getD_getElem?] at h24
        rw [if_pos (by rfl)]
        exact wp_val (v := .bool false) (w' := W) (by simp [execOp, Act.eval, h24, go_sem]) (hK _ _ hG (Below.refl _ _) rfl (fun h => by cases h))
      · refine stepJ_any rfl fun ac W hAA hG hDD K hK => ?_
        have h1 := hAA.getD (t := 1) (by kernel_rfl)
        have hgd := hDD.get 8 25 _ rfl rfl (by kernel_rfl)
        have hgd := slot_bool hgd
        simp only [Array.getD_eq_getD_getElem?] at h1
        rw [if_pos (by simp [Region.wanted, yielded, hgd])]
        exact wp_val (v := .int .i64 z) (w' := W) (by simp [execOp, Act.eval, h1, go_sem]) (hK _ _ hG (Below.refl _ _) rfl (fun h => by cases h))
      · refine stepJ_any rfl fun ac W hAA hG hDD K hK => ?_
        have h26 := hDD.get 9 26 _ rfl rfl (by kernel_rfl)
        have hgd := hDD.get 8 25 _ rfl rfl (by kernel_rfl)
        have hgd := slot_bool hgd
        simp only [Array.getD_eq_getD_getElem?] at h26
        have f10 := f10.out
        rw [if_pos (by simp [Region.wanted, yielded, hgd])]
        exact wp_val (v := .bool false) (w' := W) (by simp [execOp, Act.eval, h26, go_sem, f10]) (hK _ _ hG (Below.refl _ _) rfl (fun h => by cases h))
      · refine stepJ_any rfl fun ac W hAA hG hDD K hK => ?_
        have h25 := hDD.get 8 25 _ rfl rfl (by kernel_rfl)
        have h27 := hDD.get 10 27 _ rfl rfl (by kernel_rfl)
        simp only [Array.getD_eq_getD_getElem?] at h25 h27
        rw [if_pos (by rfl)]
        exact wp_val (v := .bool false) (w' := W) (by simp [execOp, Act.eval, h25, h27, go_sem]) (hK _ _ hG (Below.refl _ _) rfl (fun h => by cases h))
      · refine stepJ_any rfl fun ac W hAA hG hDD K hK => ?_
        have h28 := hDD.get 11 28 _ rfl rfl (by kernel_rfl)
        simp only [Array.getD_eq_getD_getElem?] at h28
        rw [if_pos (by rfl)]
        exact wp_val (v := .bool false) (w' := W) (by simp [execOp, Act.eval, h28, go_sem]) (hK _ _ hG (Below.refl _ _) rfl (fun h => by cases h))
      · refine stepJ_any rfl fun ac W hAA hG hDD K hK => ?_
        have h1 := hAA.getD (t := 1) (by kernel_rfl)
        have hgd := hDD.get 12 29 _ rfl rfl (by kernel_rfl)
        have hgd := slot_bool hgd
        simp only [Array.getD_eq_getD_getElem?] at h1
        rw [if_pos (by simp [Region.wanted, yielded, hgd])]
        exact wp_val (v := .int .i64 z) (w' := W) (by simp [execOp, Act.eval, h1, go_sem]) (hK _ _ hG (Below.refl _ _) rfl (fun h => by cases h))
      · refine stepJ_any rfl fun ac W hAA hG hDD K hK => ?_
        have h0 := hAA.getD (t := 0) (by kernel_rfl)
        have hgd := hDD.get 12 29 _ rfl rfl (by kernel_rfl)
        have hgd := slot_bool hgd
        simp only [Array.getD_eq_getD_getElem?] at h0
        rw [if_pos (by simp [Region.wanted, yielded, hgd])]
        exact wp_val (v := .slice A ls.length c) (w' := W) (by simp [execOp, Act.eval, h0, go_sem]) (hK _ _ hG (Below.refl _ _) rfl (fun h => by cases h))
      · refine stepJ_any rfl fun ac W hAA hG hDD K hK => ?_
        have h31 := hDD.get 14 31 _ rfl rfl (by kernel_rfl)
        have hgd := hDD.get 12 29 _ rfl rfl (by kernel_rfl)
        have hgd := slot_bool hgd
        simp only [Array.getD_eq_getD_getElem?] at h31
        rw [if_pos (by simp [Region.wanted, yielded, hgd])]
        exact wp_val (v := .int .i64 (ls.length : Nat)) (w' := W) (by simp [execOp, Act.eval, h31, go_sem]) (hK _ _ hG (Below.refl _ _) rfl (fun h => by cases h))
      · refine stepJ_any rfl fun ac W hAA hG hDD K hK => ?_
        have h30 := hDD.get 13 30 _ rfl rfl (by kernel_rfl)
        have h32 := hDD.get 15 32 _ rfl rfl (by kernel_rfl)
        have hgd := hDD.get 12 29 _ rfl rfl (by kernel_rfl)
        have hgd := slot_bool hgd
        simp only [Array.getD_eq_getD_getElem?] at h30 h32
        have f16 := f16.out
        rw [if_pos (by simp [Region.wanted, yielded, hgd])]
        exact wp_val (v := .bool true) (w' := W) (by simp [execOp, Act.eval, h30, h32, go_sem, f16]) (hK _ _ hG (Below.refl _ _) rfl (fun h => by cases h))
      · refine stepJ_any rfl fun ac W hAA hG hDD K hK => ?_
        have h29 := hDD.get 12 29 _ rfl rfl (by kernel_rfl)
        have h33 := hDD.get 16 33 _ rfl rfl (by kernel_rfl)
        simp only [Array.getD_eq_getD_getElem?] at h29 h33
        rw [if_pos (by rfl)]
        exact wp_val (v := .bool true) (w' := W) (by simp [execOp, Act.eval, h29, h33, go_sem]) (hK _ _ hG (Below.refl _ _) rfl (fun h => by cases h))
      · refine stepJ_any rfl fun ac W hAA hG hDD K hK => ?_
        have h34 := hDD.get 17 34 _ rfl rfl (by kernel_rfl)
        simp only [Array.getD_eq_getD_getElem?] at h34
        rw [if_pos (by rfl)]
        exact wp_val (v := .bool true) (w' := W) (by simp [execOp, Act.eval, h34, go_sem]) (hK _ _ hG (Below.refl _ _) rfl (fun h => by cases h))
      · refine stepJ_any rfl fun ac W hAA hG hDD K hK => ?_
        have hgd := hDD.get 18 35 _ rfl rfl (by kernel_rfl)
        have hgd := slot_bool hgd
        rw [if_neg (by simp [Region.wanted, yielded, hgd])]
        exact hK undef W hG (Below.refl _ _) rfl (fun h => by cases h)
      · refine stepJ_any rfl fun ac W hAA hG hDD K hK => ?_
        have hgd := hDD.get 18 35 _ rfl rfl (by kernel_rfl)
        have hgd := slot_bool hgd
        rw [if_neg (by simp [Region.wanted, yielded, hgd])]
        exact hK undef W hG (Below.refl _ _) rfl (fun h => by cases h)
      · refine stepJ_any rfl fun ac W hAA hG hDD K hK => ?_
        have hgd := hDD.get 18 35 _ rfl rfl (by kernel_rfl)
        have hgd := slot_bool hgd
        rw [if_neg (by simp [Region.wanted, yielded, hgd])]
        exact hK undef W hG (Below.refl _ _) rfl (fun h => by cases h)
      · refine stepJ_any rfl fun ac W hAA hG hDD K hK => ?_
        have hgd := hDD.get 18 35 _ rfl rfl (by kernel_rfl)
        have hgd := slot_bool hgd
        rw [if_neg (by simp [Region.wanted, yielded, hgd])]
        exact hK undef W hG (Below.refl _ _) rfl (fun h => by cases h)
      · refine stepJ_any rfl fun ac W hAA hG hDD K hK => ?_
        have hgd := hDD.get 18 35 _ rfl rfl (by kernel_rfl)
        have hgd := slot_bool hgd
        rw [if_neg (by simp [Region.wanted, yielded, hgd])]
        exact hK undef W hG (Below.refl _ _) rfl (fun h => by cases h)
      · refine stepJ_any rfl fun ac W hAA hG hDD K hK => ?_
        have hgd := hDD.get 18 35 _ rfl rfl (by kernel_rfl)
        have hgd := slot_bool hgd
        rw [if_neg (by simp [Region.wanted, yielded, hgd])]
        exact hK undef W hG (Below.refl _ _) rfl (fun h => by cases h)
      · refine stepJ_any rfl fun ac W hAA hG hDD K hK => ?_
        have hgd := hDD.get 18 35 _ rfl rfl (by kernel_rfl)
        have hgd := slot_bool hgd
        rw [if_neg (by simp [Region.wanted, yielded, hgd])]
        exact hK undef W hG (Below.refl _ _) rfl (fun h => by cases h)
      · refine stepJ_any rfl fun ac W hAA hG hDD K hK => ?_
        have hgd := hDD.get 18 35 _ rfl rfl (by kernel_rfl)
        have hgd := slot_bool hgd
        rw [if_neg (by simp [Region.wanted, yielded, hgd])]
        exact hK undef W hG (Below.refl _ _) rfl (fun h => by cases h)
      · refine stepJ_any rfl fun ac W hAA hG hDD K hK => ?_
        have h35 := hDD.get 18 35 _ rfl rfl (by kernel_rfl)
        have h43 := hDD.get 26 43 _ rfl rfl (by kernel_rfl)
        simp only [Array.getD_eq_getD_getElem?] at h35 h43
        rw [if_pos (by rfl)]
        exact wp_val (v := .bool true) (w' := W) (by simp [execOp, Act.eval, h35, h43, go_sem]) (hK _ _ hG (Below.refl _ _) rfl (fun h => by cases h))
    intro fu T w2 hG hF hne hltb
    have e17 : T 17 = .slice A ls.length c := hF 0 _ rfl (by omega)
    have e18 : T 18 = .bool true := hF 1 _ rfl (by omega)
    have e19 : T 19 = .bool false := hF 2 _ rfl (by omega)
    have e20 : T 20 = .bool false := hF 3 _ rfl (by omega)
    have e21 : T 21 = .slice B l2.length cb := hF 4 _ rfl (by omega)
    have e22 : T 22 = .int .i64 (l2.length : Nat) := hF 5 _ rfl (by omega)
    have e23 : T 23 = .bool false := hF 6 _ rfl (by omega)
    have e24 : T 24 = .bool false := hF 7 _ rfl (by omega)
    have e25 : T 25 = .bool false := hF 8 _ rfl (by omega)
    have e26 : T 26 = .int .i64 z := hF 9 _ rfl (by omega)
    have e27 : T 27 = .bool false := hF 10 _ rfl (by omega)
    have e28 : T 28 = .bool false := hF 11 _ rfl (by omega)
    have e29 : T 29 = .bool false := hF 12 _ rfl (by omega)
    have e30 : T 30 = .int .i64 z := hF 13 _ rfl (by omega)
    have e31 : T 31 = .slice A ls.length c := hF 14 _ rfl (by omega)
    have e32 : T 32 = .int .i64 (ls.length : Nat) := hF 15 _ rfl (by omega)
    have e33 : T 33 = .bool true := hF 16 _ rfl (by omega)
    have e34 : T 34 = .bool true := hF 17 _ rfl (by omega)
    have e35 : T 35 = .bool true := hF 18 _ rfl (by omega)
    have e36 : T 36 = undef := hF 19 _ rfl (by omega)
    have e37 : T 37 = undef := hF 20 _ rfl (by omega)
    have e38 : T 38 = undef := hF 21 _ rfl (by omega)
    have e39 : T 39 = undef := hF 22 _ rfl (by omega)
    have e40 : T 40 = undef := hF 23 _ rfl (by omega)
    have e41 : T 41 = undef := hF 24 _ rfl (by omega)
    have e42 : T 42 = undef := hF 25 _ rfl (by omega)
    have e43 : T 43 = undef := hF 26 _ rfl (by omega)
    have e44 : T 44 = .bool true := hF 27 _ rfl (by omega)
    clear hF hne hltb
    simp only [List.take, fillT, List.setIfInBounds_toArray, List.set_cons_zero, List.set_cons_succ, e17, e18, e19, e20, e21, e22, e23, e24, e25, e26, e27, e28, e29, e30, e31, e32, e33, e34, e35, e36, e37, e38, e39, e40, e41, e42, e43, e44]
    clear e17 e18 e19 e20 e21 e22 e23 e24 e25 e26 e27 e28 e29 e30 e31 e32 e33 e34 e35 e36 e37 e38 e39 e40 e41 e42 e43 e44
    refine wpAny_done (by kernel_rfl) ?_ _
    go_wp2_with fail
    go_ret
    exact ⟨rfl, hb1.out.trans (hG.mono hb1.out.size)⟩
  obtain ⟨I, rfl⟩ : ∃ I : Nat, z = I := ⟨z.toNat, by omega⟩
  have hI : I < ls.length := by omega
  have f16 := Lib.hid (show decide (ls.length ≤ I) = false from decide_eq_false (by omega))
  obtain ⟨b, off, a1, c1, rfl, hbA, hc, hrx, hnx, hcc⟩ := (hr.out.lift hb1.out hb1.out.size).at_ hI
  obtain ⟨x, hx⟩ : ∃ x, ls[I] = x := ⟨_, rfl⟩
  have hxs := hsm x (hx ▸ List.getElem_mem hI)
  rw [hx] at hc hrx hnx hcc
  have hcx : Hid (∀ W, Below w1.heap.size w1 W → W.cell? ⟨b, off + I, none⟩ = some (.slice a1 x.length c1)) := Lib.hid fun W hW => (hW.cell (p := ⟨b, off + I, none⟩) hbA).trans hc
  have hcv1 : Hid (∀ W, Below w1.heap.size w1 W → (convert 34 9 (.slice a1 x.length c1)).run Tryd.prog W = .ok (.string ⟨x.toArray⟩) W) := Lib.hid fun W hW => conv_str (c := c1) (hrx.lift hW hW.size)
  have hcv2 : Hid (∀ W, Below w1.heap.size w1 W → (convert 34 9 (.slice B l2.length cb)).run Tryd.prog W = .ok (.string ⟨l2.toArray⟩) W) := Lib.hid fun W hW => conv_str (c := cb) (hrb.out.lift (hb1.out.trans (hW.mono hb1.out.size)) (hb1.out.trans (hW.mono hb1.out.size)).size)
  have hkI := Lib.hid hI
  replace hrx := Lib.hid hrx
  replace hnx := Lib.hid hnx
  replace hx := Lib.hid hx
  by_cases s26 : x = l2
  case pos =>
    have g26 := Lib.hid (show (x == l2) = true from beq_iff_eq.2 s26)
    clear s26 hc
    refine wp_region_pre 28 0 (fun W => Below w1.heap.size w1 W) (fun W W' => Below W.heap.size W W')
      (fun i v W => match i with
        | 0 => v = .slice (some ⟨b, off, none⟩) ls.length c
        | 1 => v = .bool true
        | 2 => v = .bool false
        | 3 => v = .bool false
        | 4 => v = .slice B l2.length cb
        | 5 => v = .int .i64 (l2.length : Nat)
        | 6 => v = .bool false
        | 7 => v = .bool false
        | 8 => v = .bool false
        | 9 => v = .int .i64 (I : Int)
        | 10 => v = .bool false
        | 11 => v = .bool false
        | 12 => v = .bool false
        | 13 => v = .int .i64 (I : Int)
        | 14 => v = .slice (some ⟨b, off, none⟩) ls.length c
        | 15 => v = .int .i64 (ls.length : Nat)
        | 16 => v = .bool false
        | 17 => v = .bool false
        | 18 => v = .bool false
        | 19 => v = .slice (some ⟨b, off, none⟩) ls.length c
        | 20 => v = .int .i64 (I : Int)
        | 21 => v = .pointer (some ⟨b, off + I, none⟩)
        | 22 => v = .slice a1 x.length c1
        | 23 => v = .string ⟨x.toArray⟩
        | 24 => v = .slice B l2.length cb
        | 25 => v = .string ⟨l2.toArray⟩
        | 26 => v = .bool true
        | 27 => v = .bool true
        | _ => True) (fun _ => false)
      (by kernel_rfl) (by kernel_rfl) (by kernel_rfl) (by kernel_rfl) (by kernel_rfl) (by kernel_rfl) (by kernel_rfl) ?_ (fun _ _ h => h.size) (dN (Below.refl _ _) 1) ?_ ?_
    · intro i v W W' hb hF
      match i, hF with
      | 0, h => exact h
      | 1, h => exact h
      | 2, h => exact h
      | 3, h => exact h
      | 4, h => exact h
      | 5, h => exact h
      | 6, h => exact h
      | 7, h => exact h
      | 8, h => exact h
      | 9, h => exact h
      | 10, h => exact h
      | 11, h => exact h
      | 12, h => exact h
      | 13, h => exact h
      | 14, h => exact h
      | 15, h => exact h
      | 16, h => exact h
      | 17, h => exact h
      | 18, h => exact h
      | 19, h => exact h
      | 20, h => exact h
      | 21, h => exact h
      | 22, h => exact h
      | 23, h => exact h
      | 24, h => exact h
      | 25, h => exact h
      | 26, h => exact h
      | 27, h => exact h
      | _ + 28, _ => trivial
    · refine ⟨?_, ?_, ?_, ?_, ?_, ?_, ?_, ?_, ?_, ?_, ?_, ?_, ?_, ?_, ?_, ?_, ?_, ?_, ?_, ?_, ?_, ?_, ?_, ?_, ?_, ?_, ?_, ?_, trivial⟩
      · refine stepJ_any rfl fun ac W hAA hG hDD K hK => ?_
        have h0 := hAA.getD (t := 0) (by kernel_rfl)
        simp only [Array.getD_eq_getD_getElem?] at h0
        rw [if_pos (by rfl)]
        exact wp_val (v := .slice (some ⟨b, off, none⟩) ls.length c) (w' := W) (by simp [execOp, Act.eval, h0, go_sem]) (hK _ _ hG (Below.refl _ _) rfl (fun h => by cases h))
      · refine stepJ_any rfl fun ac W hAA hG hDD K hK => ?_
        have h17 := hDD.get 0 17 _ rfl rfl (by kernel_rfl)
        rw [if_pos (by rfl)]
        simp only [Array.getD_eq_getD_getElem?] at h17
        have hfw := Few_any ls W (some ⟨b, off, none⟩) c (hr.out.lift (hb1.out.trans (hG.mono hb1.out.size)) (hb1.out.trans (hG.mono hb1.out.size)).size) hlm
        rw [hfb] at hfw
        refine wp_call (f := 11) (args := #[.slice (some ⟨b, off, none⟩) ls.length c]) (by simp [execOp, Act.eval, h17, go_sem]) (hfw.mono fun e W9 he => ?_)
        obtain ⟨rfl, hbw9⟩ := he
        exact hK _ _ (hG.trans (hbw9.mono hG.size)) hbw9 rfl (fun h => by cases h)
      · refine stepJ_any rfl fun ac W hAA hG hDD K hK => ?_
        have h18 := hDD.get 1 18 _ rfl rfl (by kernel_rfl)
        simp only [Array.getD_eq_getD_getElem?] at h18
        rw [if_pos (by rfl)]
        exact wp_val (v := .bool false) (w' := W) (by simp [execOp, Act.eval, h18, go_sem]) (hK _ _ hG (Below.refl _ _) rfl (fun h => by cases h))
      · refine stepJ_any rfl fun ac W hAA hG hDD K hK => ?_
        have h19 := hDD.get 2 19 _ rfl rfl (by kernel_rfl)
        simp only [Array.getD_eq_getD_getElem?] at h19
        rw [if_pos (by rfl)]
        exact wp_val (v := .bool false) (w' := W) (by simp [execOp, Act.eval, h19, go_sem]) (hK _ _ hG (Below.refl _ _) rfl (fun h => by cases h))
      · refine stepJ_any rfl fun ac W hAA hG hDD K hK => ?_
        have h2 := hAA.getD (t := 2) (by kernel_rfl)
        have hgd := hDD.get 3 20 _ rfl rfl (by kernel_rfl)
        have hgd := slot_bool hgd
        simp only [Array.getD_eq_getD_getElem?] at h2
        rw [if_pos (by simp [Region.wanted, yielded, hgd])]
        exact wp_val (v := .slice B l2.length cb) (w' := W) (by simp [execOp, Act.eval, h2, go_sem]) (hK _ _ hG (Below.refl _ _) rfl (fun h => by cases h))
      · refine stepJ_any rfl fun ac W hAA hG hDD K hK => ?_
        have h21 := hDD.get 4 21 _ rfl rfl (by kernel_rfl)
        have hgd := hDD.get 3 20 _ rfl rfl (by kernel_rfl)
        have hgd := slot_bool hgd
        simp only [Array.getD_eq_getD_getElem?] at h21
        rw [if_pos (by simp [Region.wanted, yielded, hgd])]
        exact wp_val (v := .int .i64 (l2.length : Nat)) (w' := W) (by simp [execOp, Act.eval, h21, go_sem]) (hK _ _ hG (Below.refl _ _) rfl (fun h => by cases h))
      · refine stepJ_any rfl fun ac W hAA hG hDD K hK => ?_
        have h22 := hDD.get 5 22 _ rfl rfl (by kernel_rfl)
        have hgd := hDD.get 3 20 _ rfl rfl (by kernel_rfl)
        have hgd := slot_bool hgd
        simp only [Array.getD_eq_getD_getElem?] at h22
        have f6 := f6.out
        rw [if_pos (by simp [Region.wanted, yielded, hgd])]
        exact wp_val (v := .bool false) (w' := W) (by simp [execOp, Act.eval, h22, go_sem, f6]) (hK _ _ hG (Below.refl _ _) rfl (fun h => by cases h))
      · refine stepJ_any rfl fun ac W hAA hG hDD K hK => ?_
        have h20 := hDD.get 3 20 _ rfl rfl (by kernel_rfl)
        have h23 := hDD.get 6 23 _ rfl rfl (by kernel_rfl)
        simp only [Array.getD_eq_getD_getElem?] at h20 h23
        rw [if_pos (by rfl)]
        exact wp_val (v := .bool false) (w' := W) (by simp [execOp, Act.eval, h20, h23, go_sem]) (hK _ _ hG (Below.refl _ _) rfl (fun h => by cases h))
      · refine stepJ_any rfl fun ac W hAA hG hDD K hK => ?_
        have h24 := hDD.get 7 24 _ rfl rfl (by kernel_rfl)
        simp only [Array.getD_eq_getD_getElem?] at h24
        rw [if_pos (by rfl)]
        exact wp_val (v := .bool false) (w' := W) (by simp [execOp, Act.eval, h24, go_sem]) (hK _ _ hG (Below.refl _ _) rfl (fun h => by cases h))
      · refine stepJ_any rfl fun ac W hAA hG hDD K hK => ?_
        have h1 := hAA.getD (t := 1) (by kernel_rfl)
        have hgd := hDD.get 8 25 _ rfl rfl (by kernel_rfl)
        have hgd := slot_bool hgd
        simp only [Array.getD_eq_getD_getElem?] at h1
        rw [if_pos (by simp [Region.wanted, yielded, hgd])]
        exact wp_val (v := .int .i64 (I : Int)) (w' := W) (by simp [execOp, Act.eval, h1, go_sem]) (hK _ _ hG (Below.refl _ _) rfl (fun h => by cases h))
      · refine stepJ_any rfl fun ac W hAA hG hDD K hK => ?_
        have h26 := hDD.get 9 26 _ rfl rfl (by kernel_rfl)
        have hgd := hDD.get 8 25 _ rfl rfl (by kernel_rfl)
        have hgd := slot_bool hgd
        simp only [Array.getD_eq_getD_getElem?] at h26
        have f10 := f10.out
        rw [if_pos (by simp [Region.wanted, yielded, hgd])]
        exact wp_val (v := .bool false) (w' := W) (by simp [execOp, Act.eval, h26, go_sem, f10]) (hK _ _ hG (Below.refl _ _) rfl (fun h => by cases h))
      · refine stepJ_any rfl fun ac W hAA hG hDD K hK => ?_
        have h25 := hDD.get 8 25 _ rfl rfl (by kernel_rfl)
        have h27 := hDD.get 10 27 _ rfl rfl (by kernel_rfl)
        simp only [Array.getD_eq_getD_getElem?] at h25 h27
        rw [if_pos (by rfl)]
        exact wp_val (v := .bool false) (w' := W) (by simp [execOp, Act.eval, h25, h27, go_sem]) (hK _ _ hG (Below.refl _ _) rfl (fun h => by cases h))
      · refine stepJ_any rfl fun ac W hAA hG hDD K hK => ?_
        have h28 := hDD.get 11 28 _ rfl rfl (by kernel_rfl)
        simp only [Array.getD_eq_getD_getElem?] at h28
        rw [if_pos (by rfl)]
        exact wp_val (v := .bool false) (w' := W) (by simp [execOp, Act.eval, h28, go_sem]) (hK _ _ hG (Below.refl _ _) rfl (fun h => by cases h))
      · refine stepJ_any rfl fun ac W hAA hG hDD K hK => ?_
        have h1 := hAA.getD (t := 1) (by kernel_rfl)
        have hgd := hDD.get 12 29 _ rfl rfl (by kernel_rfl)
        have hgd := slot_bool hgd
        simp only [Array.getD_eq_getD_getElem?] at h1
        rw [if_pos (by simp [Region.wanted, yielded, hgd])]
        exact wp_val (v := .int .i64 (I : Int)) (w' := W) (by simp [execOp, Act.eval, h1, go_sem]) (hK _ _ hG (Below.refl _ _) rfl (fun h => by cases h))
      · refine stepJ_any rfl fun ac W hAA hG hDD K hK => ?_
        have h0 := hAA.getD (t := 0) (by kernel_rfl)
        have hgd := hDD.get 12 29 _ rfl rfl (by kernel_rfl)
        have hgd := slot_bool hgd
        simp only [Array.getD_eq_getD_getElem?] at h0
        rw [if_pos (by simp [Region.wanted, yielded, hgd])]
        exact wp_val (v := .slice (some ⟨b, off, none⟩) ls.length c) (w' := W) (by simp [execOp, Act.eval, h0, go_sem]) (hK _ _ hG (Below.refl _ _) rfl (fun h => by cases h))
      · refine stepJ_any rfl fun ac W hAA hG hDD K hK => ?_
        have h31 := hDD.get 14 31 _ rfl rfl (by kernel_rfl)
        have hgd := hDD.get 12 29 _ rfl rfl (by kernel_rfl)
        have hgd := slot_bool hgd
        simp only [Array.getD_eq_getD_getElem?] at h31
        rw [if_pos (by simp [Region.wanted, yielded, hgd])]
        exact wp_val (v := .int .i64 (ls.length : Nat)) (w' := W) (by simp [execOp, Act.eval, h31, go_sem]) (hK _ _ hG (Below.refl _ _) rfl (fun h => by cases h))
      · refine stepJ_any rfl fun ac W hAA hG hDD K hK => ?_
        have h30 := hDD.get 13 30 _ rfl rfl (by kernel_rfl)
        have h32 := hDD.get 15 32 _ rfl rfl (by kernel_rfl)
        have hgd := hDD.get 12 29 _ rfl rfl (by kernel_rfl)
        have hgd := slot_bool hgd
        simp only [Array.getD_eq_getD_getElem?] at h30 h32
        have f16 := f16.out
        rw [if_pos (by simp [Region.wanted, yielded, hgd])]
        exact wp_val (v := .bool false) (w' := W) (by simp [execOp, Act.eval, h30, h32, go_sem, f16]) (hK _ _ hG (Below.refl _ _) rfl (fun h => by cases h))
      · refine stepJ_any rfl fun ac W hAA hG hDD K hK => ?_
        have h29 := hDD.get 12 29 _ rfl rfl (by kernel_rfl)
        have h33 := hDD.get 16 33 _ rfl rfl (by kernel_rfl)
        simp only [Array.getD_eq_getD_getElem?] at h29 h33
        rw [if_pos (by rfl)]
        exact wp_val (v := .bool false) (w' := W) (by simp [execOp, Act.eval, h29, h33, go_sem]) (hK _ _ hG (Below.refl _ _) rfl (fun h => by cases h))
      · refine stepJ_any rfl fun ac W hAA hG hDD K hK => ?_
        have h34 := hDD.get 17 34 _ rfl rfl (by kernel_rfl)
        simp only [Array.getD_eq_getD_getElem?] at h34
        rw [if_pos (by rfl)]
        exact wp_val (v := .bool false) (w' := W) (by simp [execOp, Act.eval, h34, go_sem]) (hK _ _ hG (Below.refl _ _) rfl (fun h => by cases h))
      · refine stepJ_any rfl fun ac W hAA hG hDD K hK => ?_
        have h0 := hAA.getD (t := 0) (by kernel_rfl)
        have hgd := hDD.get 18 35 _ rfl rfl (by kernel_rfl)
        have hgd := slot_bool hgd
        simp only [Array.getD_eq_getD_getElem?] at h0
        rw [if_pos (by simp [Region.wanted, yielded, hgd])]
        exact wp_val (v := .slice (some ⟨b, off, none⟩) ls.length c) (w' := W) (by simp [execOp, Act.eval, h0, go_sem]) (hK _ _ hG (Below.refl _ _) rfl (fun h => by cases h))
      · refine stepJ_any rfl fun ac W hAA hG hDD K hK => ?_
        have h1 := hAA.getD (t := 1) (by kernel_rfl)
        have hgd := hDD.get 18 35 _ rfl rfl (by kernel_rfl)
        have hgd := slot_bool hgd
        simp only [Array.getD_eq_getD_getElem?] at h1
        rw [if_pos (by simp [Region.wanted, yielded, hgd])]
        exact wp_val (v := .int .i64 (I : Int)) (w' := W) (by simp [execOp, Act.eval, h1, go_sem]) (hK _ _ hG (Below.refl _ _) rfl (fun h => by cases h))
      · refine stepJ_any rfl fun ac W hAA hG hDD K hK => ?_
        have h36 := hDD.get 19 36 _ rfl rfl (by kernel_rfl)
        have h37 := hDD.get 20 37 _ rfl rfl (by kernel_rfl)
        have hgd := hDD.get 18 35 _ rfl rfl (by kernel_rfl)
        have hgd := slot_bool hgd
        simp only [Array.getD_eq_getD_getElem?] at h36 h37
        have hkI := hkI.out
        rw [if_pos (by simp [Region.wanted, yielded, hgd])]
        exact wp_val (v := .pointer (some ⟨b, off + I, none⟩)) (w' := W) (by simp [execOp, Act.eval, h36, h37, go_sem, hkI]) (hK _ _ hG (Below.refl _ _) rfl (fun h => by cases h))
      · refine stepJ_any rfl fun ac W hAA hG hDD K hK => ?_
        have h38 := hDD.get 21 38 _ rfl rfl (by kernel_rfl)
        have hgd := hDD.get 18 35 _ rfl rfl (by kernel_rfl)
        have hgd := slot_bool hgd
        simp only [Array.getD_eq_getD_getElem?] at h38
        have k0 := hcx.out W hG
        rw [if_pos (by simp [Region.wanted, yielded, hgd])]
        exact wp_val (v := .slice a1 x.length c1) (w' := W) (by simp [execOp, Act.eval, h38, go_sem, k0]) (hK _ _ hG (Below.refl _ _) rfl (fun h => by cases h))
      · refine stepJ_any rfl fun ac W hAA hG hDD K hK => ?_
        have h39 := hDD.get 22 39 _ rfl rfl (by kernel_rfl)
        have hgd := hDD.get 18 35 _ rfl rfl (by kernel_rfl)
        have hgd := slot_bool hgd
        simp only [Array.getD_eq_getD_getElem?] at h39
        have k0 := hcv1.out W hG
        rw [if_pos (by simp [Region.wanted, yielded, hgd])]
        exact wp_val (v := .string ⟨x.toArray⟩) (w' := W) (by simp [execOp, Act.eval, h39, go_sem, k0]) (hK _ _ hG (Below.refl _ _) rfl (fun h => by cases h))
      · refine stepJ_any rfl fun ac W hAA hG hDD K hK => ?_
        have h2 := hAA.getD (t := 2) (by kernel_rfl)
        have hgd := hDD.get 18 35 _ rfl rfl (by kernel_rfl)
        have hgd := slot_bool hgd
        simp only [Array.getD_eq_getD_getElem?] at h2
        rw [if_pos (by simp [Region.wanted, yielded, hgd])]
        exact wp_val (v := .slice B l2.length cb) (w' := W) (by simp [execOp, Act.eval, h2, go_sem]) (hK _ _ hG (Below.refl _ _) rfl (fun h => by cases h))
      · refine stepJ_any rfl fun ac W hAA hG hDD K hK => ?_
        have h41 := hDD.get 24 41 _ rfl rfl (by kernel_rfl)
        have hgd := hDD.get 18 35 _ rfl rfl (by kernel_rfl)
        have hgd := slot_bool hgd
        simp only [Array.getD_eq_getD_getElem?] at h41
        have k0 := hcv2.out W hG
        rw [if_pos (by simp [Region.wanted, yielded, hgd])]
        exact wp_val (v := .string ⟨l2.toArray⟩) (w' := W) (by simp [execOp, Act.eval, h41, go_sem, k0]) (hK _ _ hG (Below.refl _ _) rfl (fun h => by cases h))
      · refine stepJ_any rfl fun ac W hAA hG hDD K hK => ?_
        have h40 := hDD.get 23 40 _ rfl rfl (by kernel_rfl)
        have h42 := hDD.get 25 42 _ rfl rfl (by kernel_rfl)
        have hgd := hDD.get 18 35 _ rfl rfl (by kernel_rfl)
        have hgd := slot_bool hgd
        simp only [Array.getD_eq_getD_getElem?] at h40 h42
        have g26 := g26.out
        rw [if_pos (by simp [Region.wanted, yielded, hgd])]
        exact wp_val (v := .bool true) (w' := W) (by simp [execOp, Act.eval, h40, h42, go_sem, g26]) (hK _ _ hG (Below.refl _ _) rfl (fun h => by cases h))
      · refine stepJ_any rfl fun ac W hAA hG hDD K hK => ?_
        have h35 := hDD.get 18 35 _ rfl rfl (by kernel_rfl)
        have h43 := hDD.get 26 43 _ rfl rfl (by kernel_rfl)
        simp only [Array.getD_eq_getD_getElem?] at h35 h43
        rw [if_pos (by rfl)]
        exact wp_val (v := .bool true) (w' := W) (by simp [execOp, Act.eval, h35, h43, go_sem]) (hK _ _ hG (Below.refl _ _) rfl (fun h => by cases h))
    intro fu T w2 hG hF hne hltb
    have e17 : T 17 = .slice (some ⟨b, off, none⟩) ls.length c := hF 0 _ rfl (by omega)
    have e18 : T 18 = .bool true := hF 1 _ rfl (by omega)
    have e19 : T 19 = .bool false := hF 2 _ rfl (by omega)
    have e20 : T 20 = .bool false := hF 3 _ rfl (by omega)
    have e21 : T 21 = .slice B l2.length cb := hF 4 _ rfl (by omega)
    have e22 : T 22 = .int .i64 (l2.length : Nat) := hF 5 _ rfl (by omega)
    have e23 : T 23 = .bool false := hF 6 _ rfl (by omega)
    have e24 : T 24 = .bool false := hF 7 _ rfl (by omega)
    have e25 : T 25 = .bool false := hF 8 _ rfl (by omega)
    have e26 : T 26 = .int .i64 (I : Int) := hF 9 _ rfl (by omega)
    have e27 : T 27 = .bool false := hF 10 _ rfl (by omega)
    have e28 : T 28 = .bool false := hF 11 _ rfl (by omega)
    have e29 : T 29 = .bool false := hF 12 _ rfl (by omega)
    have e30 : T 30 = .int .i64 (I : Int) := hF 13 _ rfl (by omega)
    have e31 : T 31 = .slice (some ⟨b, off, none⟩) ls.length c := hF 14 _ rfl (by omega)
    have e32 : T 32 = .int .i64 (ls.length : Nat) := hF 15 _ rfl (by omega)
    have e33 : T 33 = .bool false := hF 16 _ rfl (by omega)
    have e34 : T 34 = .bool false := hF 17 _ rfl (by omega)
    have e35 : T 35 = .bool false := hF 18 _ rfl (by omega)
    have e36 : T 36 = .slice (some ⟨b, off, none⟩) ls.length c := hF 19 _ rfl (by omega)
    have e37 : T 37 = .int .i64 (I : Int) := hF 20 _ rfl (by omega)
    have e38 : T 38 = .pointer (some ⟨b, off + I, none⟩) := hF 21 _ rfl (by omega)
    have e39 : T 39 = .slice a1 x.length c1 := hF 22 _ rfl (by omega)
    have e40 : T 40 = .string ⟨x.toArray⟩ := hF 23 _ rfl (by omega)
    have e41 : T 41 = .slice B l2.length cb := hF 24 _ rfl (by omega)
    have e42 : T 42 = .string ⟨l2.toArray⟩ := hF 25 _ rfl (by omega)
    have e43 : T 43 = .bool true := hF 26 _ rfl (by omega)
    have e44 : T 44 = .bool true := hF 27 _ rfl (by omega)
    clear hF hne hltb
    simp only [List.take, fillT, List.setIfInBounds_toArray, List.set_cons_zero, List.set_cons_succ, e17, e18, e19, e20, e21, e22, e23, e24, e25, e26, e27, e28, e29, e30, e31, e32, e33, e34, e35, e36, e37, e38, e39, e40, e41, e42, e43, e44]
    clear e17 e18 e19 e20 e21 e22 e23 e24 e25 e26 e27 e28 e29 e30 e31 e32 e33 e34 e35 e36 e37 e38 e39 e40 e41 e42 e43 e44
    refine wpAny_done (by kernel_rfl) ?_ _
    go_wp2_with fail
    go_ret
    exact ⟨rfl, hb1.out.trans (hG.mono hb1.out.size)⟩
  have g26 := Lib.hid (show (x == l2) = false from beq_eq_false_iff_ne.2 s26)
  replace s26 := Lib.hid s26
  clear hc
  refine wp_region_pre 28 0 (fun W => Below w1.heap.size w1 W) (fun W W' => Below W.heap.size W W')
    (fun i v W => match i with
      | 0 => v = .slice (some ⟨b, off, none⟩) ls.length c
      | 1 => v = .bool true
      | 2 => v = .bool false
      | 3 => v = .bool false
      | 4 => v = .slice B l2.length cb
      | 5 => v = .int .i64 (l2.length : Nat)
      | 6 => v = .bool false
      | 7 => v = .bool false
      | 8 => v = .bool false
      | 9 => v = .int .i64 (I : Int)
      | 10 => v = .bool false
      | 11 => v = .bool false
      | 12 => v = .bool false
      | 13 => v = .int .i64 (I : Int)
      | 14 => v = .slice (some ⟨b, off, none⟩) ls.length c
      | 15 => v = .int .i64 (ls.length : Nat)
      | 16 => v = .bool false
      | 17 => v = .bool false
      | 18 => v = .bool false
      | 19 => v = .slice (some ⟨b, off, none⟩) ls.length c
      | 20 => v = .int .i64 (I : Int)
      | 21 => v = .pointer (some ⟨b, off + I, none⟩)
      | 22 => v = .slice a1 x.length c1
      | 23 => v = .string ⟨x.toArray⟩
      | 24 => v = .slice B l2.length cb
      | 25 => v = .string ⟨l2.toArray⟩
      | 26 => v = .bool false
      | 27 => v = .bool false
      | _ => True) (fun _ => false)
    (by kernel_rfl) (by kernel_rfl) (by kernel_rfl) (by kernel_rfl) (by kernel_rfl) (by kernel_rfl) (by kernel_rfl) ?_ (fun _ _ h => h.size) (dN (Below.refl _ _) 1) ?_ ?_
  · intro i v W W' hb hF
    match i, hF with
    | 0, h => exact h
    | 1, h => exact h
    | 2, h => exact h
    | 3, h => exact h
    | 4, h => exact h
    | 5, h => exact h
    | 6, h => exact h
    | 7, h => exact h
    | 8, h => exact h
    | 9, h => exact h
    | 10, h => exact h
    | 11, h => exact h
    | 12, h => exact h
    | 13, h => exact h
    | 14, h => exact h
    | 15, h => exact h
    | 16, h => exact h
    | 17, h => exact h
    | 18, h => exact h
    | 19, h => exact h
    | 20, h => exact h
    | 21, h => exact h
    | 22, h => exact h
    | 23, h => exact h
    | 24, h => exact h
    | 25, h => exact h
    | 26, h => exact h
    | 27, h => exact h
    | _ + 28, _ => trivial
  · refine ⟨?_, ?_, ?_, ?_, ?_, ?_, ?_, ?_, ?_, ?_, ?_, ?_, ?_, ?_, ?_, ?_, ?_, ?_, ?_, ?_, ?_, ?_, ?_, ?_, ?_, ?_, ?_, ?_, trivial⟩
    · refine stepJ_any rfl fun ac W hAA hG hDD K hK => ?_
      have h0 := hAA.getD (t := 0) (by kernel_rfl)
      simp only [Array.getD_eq_getD_getElem?] at h0
      rw [if_pos (by rfl)]
      exact wp_val (v := .slice (some ⟨b, off, none⟩) ls.length c) (w' := W) (by simp [execOp, Act.eval, h0, go_sem]) (hK _ _ hG (Below.refl _ _) rfl (fun h => by cases h))
    · refine stepJ_any rfl fun ac W hAA hG hDD K hK => ?_
      have h17 := hDD.get 0 17 _ rfl rfl (by kernel_rfl)
      rw [if_pos (by rfl)]
      simp only [Array.getD_eq_getD_getElem?] at h17
      have hfw := Few_any ls W (some ⟨b, off, none⟩) c (hr.out.lift (hb1.out.trans (hG.mono hb1.out.size)) (hb1.out.trans (hG.mono hb1.out.size)).size) hlm
      rw [hfb] at hfw
      refine wp_call (f := 11) (args := #[.slice (some ⟨b, off, none⟩) ls.length c]) (by simp [execOp, Act.eval, h17, go_sem]) (hfw.mono fun e W9 he => ?_)
      obtain ⟨rfl, hbw9⟩ := he
      exact hK _ _ (hG.trans (hbw9.mono hG.size)) hbw9 rfl (fun h => by cases h)
    · refine stepJ_any rfl fun ac W hAA hG hDD K hK => ?_
      have h18 := hDD.get 1 18 _ rfl rfl (by kernel_rfl)
      simp only [Array.getD_eq_getD_getElem?] at h18
      rw [if_pos (by rfl)]
      exact wp_val (v := .bool false) (w' := W) (by simp [execOp, Act.eval, h18, go_sem]) (hK _ _ hG (Below.refl _ _) rfl (fun h => by cases h))
    · refine stepJ_any rfl fun ac W hAA hG hDD K hK => ?_
      have h19 := hDD.get 2 19 _ rfl rfl (by kernel_rfl)
      simp only [Array.getD_eq_getD_getElem?] at h19
      rw [if_pos (by rfl)]
      exact wp_val (v := .bool false) (w' := W) (by simp [execOp, Act.eval, h19, go_sem]) (hK _ _ hG (Below.refl _ _) rfl (fun h => by cases h))
    · refine stepJ_any rfl fun ac W hAA hG hDD K hK => ?_
      have h2 := hAA.getD (t := 2) (by kernel_rfl)
      have hgd := hDD.get 3 20 _ rfl rfl (by kernel_rfl)
      have hgd := slot_bool hgd
      simp only [Array.getD_eq_getD_getElem?] at h2
      rw [if_pos (by simp [Region.wanted, yielded, hgd])]
      exact wp_val (v := .slice B l2.length cb) (w' := W) (by simp [execOp, Act.eval, h2, go_sem]) (hK _ _ hG (Below.refl _ _) rfl (fun h => by cases h))
    · refine stepJ_any rfl fun ac W hAA hG hDD K hK => ?_
      have h21 := hDD.get 4 21 _ rfl rfl (by kernel_rfl)
      have hgd := hDD.get 3 20 _ rfl rfl (by kernel_rfl)
      have hgd := slot_bool hgd
      simp only [Array.getD_eq_getD_getElem?] at h21
      rw [if_pos (by simp [Region.wanted, yielded, hgd])]
      exact wp_val (v := .int .i64 (l2.length : Nat)) (w' := W) (by simp [execOp, Act.eval, h21, go_sem]) (hK _ _ hG (Below.refl _ _) rfl (fun h => by cases h))
    · refine stepJ_any rfl fun ac W hAA hG hDD K hK => ?_
      have h22 := hDD.get 5 22 _ rfl rfl (by kernel_rfl)
      have hgd := hDD.get 3 20 _ rfl rfl (by kernel_rfl)
      have hgd := slot_bool hgd
      simp only [Array.getD_eq_getD_getElem?] at h22
      have f6 := f6.out
      rw [if_pos (by simp [Region.wanted, yielded, hgd])]
      exact wp_val (v := .bool false) (w' := W) (by simp [execOp, Act.eval, h22, go_sem, f6]) (hK _ _ hG (Below.refl _ _) rfl (fun h => by cases h))
    · refine stepJ_any rfl fun ac W hAA hG hDD K hK => ?_
      have h20 := hDD.get 3 20 _ rfl rfl (by kernel_rfl)
      have h23 := hDD.get 6 23 _ rfl rfl (by kernel_rfl)
      simp only [Array.getD_eq_getD_getElem?] at h20 h23
      rw [if_pos (by rfl)]
      exact wp_val (v := .bool false) (w' := W) (by simp [execOp, Act.eval, h20, h23, go_sem]) (hK _ _ hG (Below.refl _ _) rfl (fun h => by cases h))
    · refine stepJ_any rfl fun ac W hAA hG hDD K hK => ?_
      have h24 := hDD.get 7 24 _ rfl rfl (by kernel_rfl)
      simp only [Array.getD_eq_getD_getElem?] at h24
      rw [if_pos (by rfl)]
      exact wp_val (v := .bool false) (w' := W) (by simp [execOp, Act.eval, h24, go_sem]) (hK _ _ hG (Below.refl _ _) rfl (fun h => by cases h))
    · refine stepJ_any rfl fun ac W hAA hG hDD K hK => ?_
      have h1 := hAA.getD (t := 1) (by kernel_rfl)
      have hgd := hDD.get 8 25 _ rfl rfl (by kernel_rfl)
      have hgd := slot_bool hgd
      simp only [Array.getD_eq_getD_getElem?] at h1
      rw [if_pos (by simp [Region.wanted, yielded, hgd])]
      exact wp_val (v := .int .i64 (I : Int)) (w' := W) (by simp [execOp, Act.eval, h1, go_sem]) (hK _ _ hG (Below.refl _ _) rfl (fun h => by cases h))
    · refine stepJ_any rfl fun ac W hAA hG hDD K hK => ?_
      have h26 := hDD.get 9 26 _ rfl rfl (by kernel_rfl)
      have hgd := hDD.get 8 25 _ rfl rfl (by kernel_rfl)
      have hgd := slot_bool hgd
      simp only [Array.getD_eq_getD_getElem?] at h26
      have f10 := f10.out
      rw [if_pos (by simp [Region.wanted, yielded, hgd])]
      exact wp_val (v := .bool false) (w' := W) (by simp [execOp, Act.eval, h26, go_sem, f10]) (hK _ _ hG (Below.refl _ _) rfl (fun h => by cases h))
    · refine stepJ_any rfl fun ac W hAA hG hDD K hK => ?_
      have h25 := hDD.get 8 25 _ rfl rfl (by kernel_rfl)
      have h27 := hDD.get 10 27 _ rfl rfl (by kernel_rfl)
      simp only [Array.getD_eq_getD_getElem?] at h25 h27
      rw [if_pos (by rfl)]
      exact wp_val (v := .bool false) (w' := W) (by simp [execOp, Act.eval, h25, h27, go_sem]) (hK _ _ hG (Below.refl _ _) rfl (fun h => by cases h))
    · refine stepJ_any rfl fun ac W hAA hG hDD K hK => ?_
      have h28 := hDD.get 11 28 _ rfl rfl (by kernel_rfl)
      simp only [Array.getD_eq_getD_getElem?] at h28
      rw [if_pos (by rfl)]
      exact wp_val (v := .bool false) (w' := W) (by simp [execOp, Act.eval, h28, go_sem]) (hK _ _ hG (Below.refl _ _) rfl (fun h => by cases h))
    · refine stepJ_any rfl fun ac W hAA hG hDD K hK => ?_
      have h1 := hAA.getD (t := 1) (by kernel_rfl)
      have hgd := hDD.get 12 29 _ rfl rfl (by kernel_rfl)
      have hgd := slot_bool hgd
      simp only [Array.getD_eq_getD_getElem?] at h1
      rw [if_pos (by simp [Region.wanted, yielded, hgd])]
      exact wp_val (v := .int .i64 (I : Int)) (w' := W) (by simp [execOp, Act.eval, h1, go_sem]) (hK _ _ hG (Below.refl _ _) rfl (fun h => by cases h))
    · refine stepJ_any rfl fun ac W hAA hG hDD K hK => ?_
      have h0 := hAA.getD (t := 0) (by kernel_rfl)
      have hgd := hDD.get 12 29 _ rfl rfl (by kernel_rfl)
      have hgd := slot_bool hgd
      simp only [Array.getD_eq_getD_getElem?] at h0
      rw [if_pos (by simp [Region.wanted, yielded, hgd])]
      exact wp_val (v := .slice (some ⟨b, off, none⟩) ls.length c) (w' := W) (by simp [execOp, Act.eval, h0, go_sem]) (hK _ _ hG (Below.refl _ _) rfl (fun h => by cases h))
    · refine stepJ_any rfl fun ac W hAA hG hDD K hK => ?_
      have h31 := hDD.get 14 31 _ rfl rfl (by kernel_rfl)
      have hgd := hDD.get 12 29 _ rfl rfl (by kernel_rfl)
      have hgd := slot_bool hgd
      simp only [Array.getD_eq_getD_getElem?] at h31
      rw [if_pos (by simp [Region.wanted, yielded, hgd])]
      exact wp_val (v := .int .i64 (ls.length : Nat)) (w' := W) (by simp [execOp, Act.eval, h31, go_sem]) (hK _ _ hG (Below.refl _ _) rfl (fun h => by cases h))
    · refine stepJ_any rfl fun ac W hAA hG hDD K hK => ?_
      have h30 := hDD.get 13 30 _ rfl rfl (by kernel_rfl)
      have h32 := hDD.get 15 32 _ rfl rfl (by kernel_rfl)
      have hgd := hDD.get 12 29 _ rfl rfl (by kernel_rfl)
      have hgd := slot_bool hgd
      simp only [Array.getD_eq_getD_getElem?] at h30 h32
      have f16 := f16.out
      rw [if_pos (by simp [Region.wanted, yielded, hgd])]
      exact wp_val (v := .bool false) (w' := W) (by simp [execOp, Act.eval, h30, h32, go_sem, f16]) (hK _ _ hG (Below.refl _ _) rfl (fun h => by cases h))
    · refine stepJ_any rfl fun ac W hAA hG hDD K hK => ?_
      have h29 := hDD.get 12 29 _ rfl rfl (by kernel_rfl)
      have h33 := hDD.get 16 33 _ rfl rfl (by kernel_rfl)
      simp only [Array.getD_eq_getD_getElem?] at h29 h33
      rw [if_pos (by rfl)]
      exact wp_val (v := .bool false) (w' := W) (by simp [execOp, Act.eval, h29, h33, go_sem]) (hK _ _ hG (Below.refl _ _) rfl (fun h => by cases h))
    · refine stepJ_any rfl fun ac W hAA hG hDD K hK => ?_
      have h34 := hDD.get 17 34 _ rfl rfl (by kernel_rfl)
      simp only [Array.getD_eq_getD_getElem?] at h34
      rw [if_pos (by rfl)]
      exact wp_val (v := .bool false) (w' := W) (by simp [execOp, Act.eval, h34, go_sem]) (hK _ _ hG (Below.refl _ _) rfl (fun h => by cases h))
    · refine stepJ_any rfl fun ac W hAA hG hDD K hK => ?_
      have h0 := hAA.getD (t := 0) (by kernel_rfl)
      have hgd := hDD.get 18 35 _ rfl rfl (by kernel_rfl)
      have hgd := slot_bool hgd
      simp only [Array.getD_eq_getD_getElem?] at h0
      rw [if_pos (by simp [Region.wanted, yielded, hgd])]
      exact wp_val (v := .slice (some ⟨b, off, none⟩) ls.length c) (w' := W) (by simp [execOp, Act.eval, h0, go_sem]) (hK _ _ hG (Below.refl _ _) rfl (fun h => by cases h))
    · refine stepJ_any rfl fun ac W hAA hG hDD K hK => ?_
      have h1 := hAA.getD (t := 1) (by kernel_rfl)
      have hgd := hDD.get 18 35 _ rfl rfl (by kernel_rfl)
      have hgd := slot_bool hgd
      simp only [Array.getD_eq_getD_getElem?] at h1
      rw [if_pos (by simp [Region.wanted, yielded, hgd])]
      exact wp_val (v := .int .i64 (I : Int)) (w' := W) (by simp [execOp, Act.eval, h1, go_sem]) (hK _ _ hG (Below.refl _ _) rfl (fun h => by cases h))
    · refine stepJ_any rfl fun ac W hAA hG hDD K hK => ?_
      have h36 := hDD.get 19 36 _ rfl rfl (by kernel_rfl)
      have h37 := hDD.get 20 37 _ rfl rfl (by kernel_rfl)
      have hgd := hDD.get 18 35 _ rfl rfl (by kernel_rfl)
      have hgd := slot_bool hgd
      simp only [Array.getD_eq_getD_getElem?] at h36 h37
      have hkI := hkI.out
      rw [if_pos (by simp [Region.wanted, yielded, hgd])]
      exact wp_val (v := .pointer (some ⟨b, off + I, none⟩)) (w' := W) (by simp [execOp, Act.eval, h36, h37, go_sem, hkI]) (hK _ _ hG (Below.refl _ _) rfl (fun h => by cases h))
    · refine stepJ_any rfl fun ac W hAA hG hDD K hK => ?_
      have h38 := hDD.get 21 38 _ rfl rfl (by kernel_rfl)
      have hgd := hDD.get 18 35 _ rfl rfl (by kernel_rfl)
      have hgd := slot_bool hgd
      simp only [Array.getD_eq_getD_getElem?] at h38
      have k0 := hcx.out W hG
      rw [if_pos (by simp [Region.wanted, yielded, hgd])]
      exact wp_val (v := .slice a1 x.length c1) (w' := W) (by simp [execOp, Act.eval, h38, go_sem, k0]) (hK _ _ hG (Below.refl _ _) rfl (fun h => by cases h))
    · refine stepJ_any rfl fun ac W hAA hG hDD K hK => ?_
      have h39 := hDD.get 22 39 _ rfl rfl (by kernel_rfl)
      have hgd := hDD.get 18 35 _ rfl rfl (by kernel_rfl)
      have hgd := slot_bool hgd
      simp only [Array.getD_eq_getD_getElem?] at h39
      have k0 := hcv1.out W hG
      rw [if_pos (by simp [Region.wanted, yielded, hgd])]
      exact wp_val (v := .string ⟨x.toArray⟩) (w' := W) (by simp [execOp, Act.eval, h39, go_sem, k0]) (hK _ _ hG (Below.refl _ _) rfl (fun h => by cases h))
    · refine stepJ_any rfl fun ac W hAA hG hDD K hK => ?_
      have h2 := hAA.getD (t := 2) (by kernel_rfl)
      have hgd := hDD.get 18 35 _ rfl rfl (by kernel_rfl)
      have hgd := slot_bool hgd
      simp only [Array.getD_eq_getD_getElem?] at h2
      rw [if_pos (by simp [Region.wanted, yielded, hgd])]
      exact wp_val (v := .slice B l2.length cb) (w' := W) (by simp [execOp, Act.eval, h2, go_sem]) (hK _ _ hG (Below.refl _ _) rfl (fun h => by cases h))
    · refine stepJ_any rfl fun ac W hAA hG hDD K hK => ?_
      have h41 := hDD.get 24 41 _ rfl rfl (by kernel_rfl)
      have hgd := hDD.get 18 35 _ rfl rfl (by kernel_rfl)
      have hgd := slot_bool hgd
      simp only [Array.getD_eq_getD_getElem?] at h41
      have k0 := hcv2.out W hG
      rw [if_pos (by simp [Region.wanted, yielded, hgd])]
      exact wp_val (v := .string ⟨l2.toArray⟩) (w' := W) (by simp [execOp, Act.eval, h41, go_sem, k0]) (hK _ _ hG (Below.refl _ _) rfl (fun h => by cases h))
    · refine stepJ_any rfl fun ac W hAA hG hDD K hK => ?_
      have h40 := hDD.get 23 40 _ rfl rfl (by kernel_rfl)
      have h42 := hDD.get 25 42 _ rfl rfl (by kernel_rfl)
      have hgd := hDD.get 18 35 _ rfl rfl (by kernel_rfl)
      have hgd := slot_bool hgd
      simp only [Array.getD_eq_getD_getElem?] at h40 h42
      have g26 := g26.out
      rw [if_pos (by simp [Region.wanted, yielded, hgd])]
      exact wp_val (v := .bool false) (w' := W) (by simp [execOp, Act.eval, h40, h42, go_sem, g26]) (hK _ _ hG (Below.refl _ _) rfl (fun h => by cases h))
    · refine stepJ_any rfl fun ac W hAA hG hDD K hK => ?_
      have h35 := hDD.get 18 35 _ rfl rfl (by kernel_rfl)
      have h43 := hDD.get 26 43 _ rfl rfl (by kernel_rfl)
      simp only [Array.getD_eq_getD_getElem?] at h35 h43
      rw [if_pos (by rfl)]
      exact wp_val (v := .bool false) (w' := W) (by simp [execOp, Act.eval, h35, h43, go_sem]) (hK _ _ hG (Below.refl _ _) rfl (fun h => by cases h))
  intro fu T w2 hG hF hne hltb
  have e17 : T 17 = .slice (some ⟨b, off, none⟩) ls.length c := hF 0 _ rfl (by omega)
  have e18 : T 18 = .bool true := hF 1 _ rfl (by omega)
  have e19 : T 19 = .bool false := hF 2 _ rfl (by omega)
  have e20 : T 20 = .bool false := hF 3 _ rfl (by omega)
  have e21 : T 21 = .slice B l2.length cb := hF 4 _ rfl (by omega)
  have e22 : T 22 = .int .i64 (l2.length : Nat) := hF 5 _ rfl (by omega)
  have e23 : T 23 = .bool false := hF 6 _ rfl (by omega)
  have e24 : T 24 = .bool false := hF 7 _ rfl (by omega)
  have e25 : T 25 = .bool false := hF 8 _ rfl (by omega)
  have e26 : T 26 = .int .i64 (I : Int) := hF 9 _ rfl (by omega)
  have e27 : T 27 = .bool false := hF 10 _ rfl (by omega)
  have e28 : T 28 = .bool false := hF 11 _ rfl (by omega)
  have e29 : T 29 = .bool false := hF 12 _ rfl (by omega)
  have e30 : T 30 = .int .i64 (I : Int) := hF 13 _ rfl (by omega)
  have e31 : T 31 = .slice (some ⟨b, off, none⟩) ls.length c := hF 14 _ rfl (by omega)
  have e32 : T 32 = .int .i64 (ls.length : Nat) := hF 15 _ rfl (by omega)
  have e33 : T 33 = .bool false := hF 16 _ rfl (by omega)
  have e34 : T 34 = .bool false := hF 17 _ rfl (by omega)
  have e35 : T 35 = .bool false := hF 18 _ rfl (by omega)
  have e36 : T 36 = .slice (some ⟨b, off, none⟩) ls.length c := hF 19 _ rfl (by omega)
  have e37 : T 37 = .int .i64 (I : Int) := hF 20 _ rfl (by omega)
  have e38 : T 38 = .pointer (some ⟨b, off + I, none⟩) := hF 21 _ rfl (by omega)
  have e39 : T 39 = .slice a1 x.length c1 := hF 22 _ rfl (by omega)
  have e40 : T 40 = .string ⟨x.toArray⟩ := hF 23 _ rfl (by omega)
  have e41 : T 41 = .slice B l2.length cb := hF 24 _ rfl (by omega)
  have e42 : T 42 = .string ⟨l2.toArray⟩ := hF 25 _ rfl (by omega)
  have e43 : T 43 = .bool false := hF 26 _ rfl (by omega)
  have e44 : T 44 = .bool false := hF 27 _ rfl (by omega)
  clear hF hne hltb
  simp only [List.take, fillT, List.setIfInBounds_toArray, List.set_cons_zero, List.set_cons_succ, e17, e18, e19, e20, e21, e22, e23, e24, e25, e26, e27, e28, e29, e30, e31, e32, e33, e34, e35, e36, e37, e38, e39, e40, e41, e42, e43, e44]
  clear e17 e18 e19 e20 e21 e22 e23 e24 e25 e26 e27 e28 e29 e30 e31 e32 e33 e34 e35 e36 e37 e38 e39 e40 e41 e42 e43 e44
  refine wpAny_done (by kernel_rfl) ?_ _
  have hB1 := Lib.hid hG
  replace hb1 := Lib.hid (hb1.out.trans (hG.mono hb1.out.size))
  clear hG hcv1 hcv2 f6 f10 f16 g26
  have hrbw := Lib.hid (hrb.out.lift hb1.out hb1.out.size)
  have hLw := Lib.hid (hr.out.lift hb1.out hb1.out.size)
  obtain ⟨g, cap, W3, hrun, hB3, hg, hcap, hcell, hrow⟩ := copy_any w2 ls b off c 22 hLw.out (by omega) hl40
  have hLs := copy_set hLw.out hB3 hg hcell hrow hI l2 B cb hrbw.out hnb.out hlc
  have hB4 := hB3.setCell (p := ⟨g, I, none⟩) hg (.slice B l2.length cb)
  have hcI : W3.cell? ⟨g, I, none⟩ = some (.slice a1 x.length c1) := (hcell I hI).trans (hcx.out w2 hB1.out)
  have hfI : W3.frozen? ⟨g, I, none⟩ = false := by
    obtain ⟨cur, h1, -⟩ := hrow
    exact frozen_of_row W3 g I _ _ h1
  replace hrun := Lib.hid hrun
  replace hLs := Lib.hid hLs
  replace hB4 := Lib.hid hB4
  clear hcell hrow hB3 hrbw
  go_wp2_with (at_builtin; refine Lib.wpList_append_run _ rfl _ _ _ _ rfl _ _ rfl rfl _ _ hrun.out ?_)
  clear hrun hcI hfI
  generalize W3.setCell ⟨g, I, none⟩ (.slice B l2.length cb) = V at hLs hB4 ⊢
  replace hb1 := Lib.hid (hb1.out.trans (hB4.out.mono hb1.out.size))
  replace hB1 := Lib.hid (hB1.out.trans (hB4.out.mono hB1.out.size))
  clear hB4
  have hlen : (ls.set I l2).length = ls.length := List.length_set
  have hsm2 : Hid (Small (ls.set I l2)) := Lib.hid fun y hy => by
    rcases List.mem_or_eq_of_mem_set hy with h | h
    · exact hsmH.out y h
    · rw [h]; omega
  have hcl1 := proof_climbs ls I hI (by omega)
  have hcl2 := proof_climbs (ls.set I l2) I (by rw [hlen]; exact hI) (by omega)
  have hg1 : ls.getD I [] = x := by rw [List.getD_eq_getElem?_getD, List.getElem?_eq_getElem hI, hx.out]; rfl
  have hg2 : (ls.set I l2).getD I [] = l2 := by rw [List.getD_eq_getElem?_getD, List.getElem?_set_self hI]; rfl
  rw [hg1] at hcl1
  rw [hg2, hlen] at hcl2
  have hP1 : Hid (∀ W, Below V.heap.size V W → Calls Tryd.prog 12 #[.slice (some ⟨b, off, none⟩) ls.length c, .int .i64 (I : Int)] W fun e w' => (∃ v, e = .returned (.tuple #[v, .int .i64 (proveP ls I).2]) ∧ OD w' W.heap.size v (proveP ls I).1) ∧ Below W.heap.size W w') := Lib.hid fun W hW =>
    Prove_any ls I (by omega) hsmH.out W _ c (hr.out.lift (hb1.out.trans (hW.mono hb1.out.size)) (hb1.out.trans (hW.mono hb1.out.size)).size) (hKH.out.below (hb1.out.trans (hW.mono hb1.out.size)) h0) (Nat.lt_of_lt_of_le h0 (hb1.out.trans (hW.mono hb1.out.size)).size)
  have hP2 : Hid (∀ W, Below V.heap.size V W → Calls Tryd.prog 12 #[.slice (some ⟨g, 0, none⟩) ls.length cap, .int .i64 (I : Int)] W fun e w' => (∃ v, e = .returned (.tuple #[v, .int .i64 (proveP (ls.set I l2) I).2]) ∧ OD w' W.heap.size v (proveP (ls.set I l2) I).1) ∧ Below W.heap.size W w') := Lib.hid fun W hW => by
    have h := Prove_any (ls.set I l2) I (by omega) hsm2.out W (some ⟨g, 0, none⟩) cap (hLs.out.lift hW hW.size) (hKH.out.below (hb1.out.trans (hW.mono hb1.out.size)) h0) (Nat.lt_of_lt_of_le h0 (hb1.out.trans (hW.mono hb1.out.size)).size)
    rwa [hlen] at h
  have hR1 := Lib.hid (Root_any ls (by omega) hsmH.out V _ c (hr.out.lift hb1.out hb1.out.size) (hKH.out.below hb1.out h0) (Nat.lt_of_lt_of_le h0 hb1.out.size))
  have hR2 : Hid (∀ W, Below V.heap.size V W → Calls Tryd.prog 14 #[.slice (some ⟨g, 0, none⟩) ls.length cap] W fun e w' => e = .returned (.agg (BV (rootM (ls.set I l2))).toArray) ∧ Below W.heap.size W w') := Lib.hid fun W hW => by
    have h := Root_any (ls.set I l2) (by omega) hsm2.out W (some ⟨g, 0, none⟩) cap (hLs.out.lift hW hW.size) (hKH.out.below (hb1.out.trans (hW.mono hb1.out.size)) h0) (Nat.lt_of_lt_of_le h0 (hb1.out.trans (hW.mono hb1.out.size)).size)
    rwa [hlen] at h
  have e01 : (proveP ls I).2 = 0 := by unfold proveP; rw [if_neg (by rw [show isPl (ls.length : Int) (I : Int) = true from isPl_iff.2 (by omega)]; simp)]
  have e02 : (proveP (ls.set I l2) I).2 = 0 := by unfold proveP; rw [if_neg (by rw [hlen, show isPl (ls.length : Int) (I : Int) = true from isPl_iff.2 (by omega)]; simp)]
  rw [e01] at hP1
  rw [e02] at hP2
  have h321 := Lib.hid (prove_32' ls I)
  have h322 := Lib.hid (prove_32' (ls.set I l2) I)
  have lr1 := Lib.hid (rootM_len ls)
  have lr2 := Lib.hid (rootM_len (ls.set I l2))
  generalize (proveP ls I).1 = p1 at hP1 hcl1 h321
  generalize (proveP (ls.set I l2) I).1 = p2 at hP2 hcl2 h322
  generalize rootM ls = r1 at hR1 hcl1 lr1
  generalize rootM (ls.set I l2) = r2 at hR2 hcl2 lr2
  replace hcl1 := Lib.hid hcl1
  replace hcl2 := Lib.hid hcl2
  replace hlen := Lib.hid hlen
  clear e01 e02 hg1 hg2 hLw hsm
  refine hR1.out.mono ?_
  rintro e w4 ⟨rfl, hb4⟩
  clear hR1
  have hV := Lib.hid hb4
  replace hR2 := Lib.hid (hR2.out w4 hb4)
  clear hb4
  go_wp2_with fail
  refine hR2.out.mono ?_
  rintro e w5 ⟨rfl, hb5⟩
  replace hV := Lib.hid (hV.out.trans (hb5.mono hV.out.size))
  clear hR2 hb5
  have eqR := fun W => eq_digest r1 r2 lr1.out lr2.out W
  by_cases hrr : r1 = r2
  case neg =>
    have g1 : (r1 == r2) = false := beq_eq_false_iff_ne.2 hrr
    have g2 : (r1 != r2) = true := by simpa using hrr
    clear hrr
    go_wp2_with fail
    go_ret
    exact ⟨rfl, hb1.out.trans (hV.out.mono hb1.out.size)⟩
  have g1 : (r1 == r2) = true := beq_iff_eq.2 hrr
  have g2 : (r1 != r2) = false := by simpa using hrr
  replace hrr := Lib.hid hrr
  replace hP1 := Lib.hid (hP1.out w5 hV.out)
  go_wp2_with fail
  refine hP1.out.mono ?_
  rintro e w6 ⟨⟨v1, rfl, ho1⟩, hb6⟩
  obtain ⟨a3, c3, rfl, -⟩ := ho1.reads h321.out
  replace hV := Lib.hid (hV.out.trans (hb6.mono hV.out.size))
  replace ho1 := Lib.hid ho1
  clear hP1 hb6 eqR g1 g2
  replace hP2 := Lib.hid (hP2.out w6 hV.out)
  go_wp2_with fail
  refine hP2.out.mono ?_
  rintro e w7 ⟨⟨v2, rfl, ho2⟩, hb7⟩
  obtain ⟨a4, c4, rfl, hR4⟩ := ho2.reads h322.out
  replace hV := Lib.hid (hV.out.trans (hb7.mono hV.out.size))
  replace ho1 := ho1.out.below hb7
  obtain ⟨a3', c3', e3, hR3⟩ := ho1.reads h321.out
  injection e3 with e31 e32 e33
  subst e31 e33
  clear hP2 hb7 ho1 ho2
  replace hb1 := Lib.hid (hb1.out.trans (hV.out.mono hb1.out.size))
  replace hB1 := Lib.hid (hB1.out.trans (hV.out.mono hB1.out.size))
  have hcw := hcx.out w7 hB1.out
  have hpp := (climb_zero (by rw [hcl1.out])).2
  have hqq := (climb_zero (by rw [hcl2.out])).2
  simp only [Int.toNat_natCast] at hpp hqq
  have d1 := hcl1.out
  have d2 := hcl2.out
  rw [climbP_ok ls.length I (by omega) hI x p1 hpp] at d1
  rw [climbP_ok ls.length I (by omega) hI l2 p2 hqq] at d2
  injection d1 with d1 _
  injection d2 with d2 _
  have hmt : clM ls.length I x p1 (rows ls.length) = clM ls.length I l2 p2 (rows ls.length) := by rw [d1, d2, hrr.out]
  have hCo := Lib.hid (Collide_yes ls.length I (by omega) hI x l2 (by omega) (by omega) p1 p2 hpp hqq w7 a1 B a3 a4 c1 cb c3 c4 (hrx.out.lift hB1.out hB1.out.size) hnx.out (hrb.out.lift hb1.out hb1.out.size) hnb.out hR3 hR4 (hKH.out.below hb1.out h0) (Nat.lt_of_lt_of_le h0 hb1.out.size) s26.out hmt)
  clear hpp hqq d1 d2 hR3 hR4
  replace hmt := Lib.hid hmt
  go_wp2_with fail
  refine hCo.out.mono ?_
  rintro e w8 ⟨⟨v1, v2, K, rfl, ho1, ho2, hk1, hk2, hk3⟩, hb2⟩
  have htx := Lib.hid (tx_meet ls.length I s26.out p1 p2 hmt.out hk1 hk2 hk3)
  have hl1 := Lib.hid (tx_le ls.length I x p1 h321.out K)
  have hl2 := Lib.hid (tx_le ls.length I l2 p2 h322.out K)
  clear hCo hk1 hk2 hk3 hmt hcw
  generalize txM ls.length I x p1 K = t1 at ho1 htx hl1
  generalize txM ls.length I l2 p2 K = t2 at ho2 htx hl2
  replace hb1 := Lib.hid (hb1.out.trans (hb2.mono hb1.out.size))
  clear hb2
  obtain ⟨x1, y1, rfl, -⟩ := ho1.form
  obtain ⟨x2, y2, rfl, -⟩ := ho2.form
  have g6 : (t1 == t2) = false := beq_eq_false_iff_ne.2 htx.out.1
  have g7 : (t1 != t2) = true := by simpa using htx.out.1
  have cv3 := conv_str ho1.reads.1 (c := y1)
  have cv4 := conv_str ho2.reads.1 (c := y2)
  have hSx := Lib.hid (sum_own ho1 (by have := hl1.out; omega) (by have := hl1.out; omega) (hKH.out.below hb1.out h0) (Nat.lt_of_lt_of_le h0 hb1.out.size))
  replace ho2 := Lib.hid ho2
  clear ho1
  go_wp2_with fail
  refine hSx.out.mono ?_
  rintro e w9 ⟨rfl, hb5⟩
  clear hSx cv3 cv4
  have hSy := sum_own (ho2.out.below hb5) (by have := hl2.out; omega) (by have := hl2.out; omega) (hKH.out.below (hb1.out.trans (hb5.mono hb1.out.size)) h0) (Nat.lt_of_lt_of_le h0 (hb1.out.trans (hb5.mono hb1.out.size)).size)
  rw [← htx.out.2] at hSy
  replace hSy := Lib.hid hSy
  replace hb1 := Lib.hid (hb1.out.trans (hb5.mono hb1.out.size))
  have eqS : ∀ W, (Op.equalIn 10000 30 (.agg (BV (sha t1)).toArray) (.agg (BV (sha t1)).toArray)).run Tryd.prog W = .ok true W := fun W => by
    have h := eq_digest (sha t1) (sha t1) (sha_length _) (sha_length _) W
    rwa [beq_self_eq_true] at h
  clear hb5
  go_wp2_with fail
  refine hSy.out.mono ?_
  rintro e w10 ⟨rfl, hb6⟩
  replace hb1 := Lib.hid (hb1.out.trans (hb6.mono hb1.out.size))
  clear hSy hb6
  go_wp2_with fail
  all_goals
    go_ret
    exact ⟨rfl, hb1.out⟩
end Go.Proofs.YtfdoiamgbdjbjaaDoor
