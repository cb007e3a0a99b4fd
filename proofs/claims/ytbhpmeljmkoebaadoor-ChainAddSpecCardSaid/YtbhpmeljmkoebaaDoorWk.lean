/- The reference's Part. -/
/- ChainAddSpec. -/
/- Bytes that came in, opened with what is known of a nil slice and of the capacity. -/
import Derived.Test.YtbhpmeljmkoebaaDoorWf
import Derived.Test.YtbhpmeljmkoebaaDoorVj
import Derived.Test.YtbhpmeljmkoebaaDoorVm
import Derived.Test.YtbhpmeljmkoebaaDoorWg
import Derived.Test.YtbhpmeljmkoebaaDoorVo
namespace Go.Proofs.YtbhpmeljmkoebaaDoor
section
open Go.RowKit

set_option maxRecDepth 100000 in
set_option maxHeartbeats 4000000 in
/-- The reference's loop, from where both lists are known to be chains of one node on. -/
theorem rPart_any (la lb : List Lk) (hla : Short la) (hlb : Short lb) (hma : la.length ≤ 1024) (hmb : lb.length ≤ 1024) (w : World) (a B : Option Addr) (ca cb : Nat) (hQa : QL w w.heap.size la a ca) (hQb : QL w w.heap.size lb B cb) :
    Calls Tryd.prog 13 #[.slice a la.length ca, .slice B lb.length cb] w fun e w' => e = .returned (.tuple (partV la lb)) ∧ Below w.heap.size w w' := by
  have hp : Hid (partV la lb = if chkP la = 0 then (if chkP lb = 0 then (if apartN la lb = true then #[.int .i64 0, .bool false, .int .i64 80] else (firstV (firstD la lb (partN la lb))).push (.int .i64 0)) else #[.int .i64 0, .bool false, .int .i64 (chkP lb)]) else #[.int .i64 0, .bool false, .int .i64 (chkP la)]) := rfl
  generalize partV la lb = pv at hp ⊢
  have hCa : Hid (∀ W, Below w.heap.size w W → Calls Tryd.prog 24 #[.slice a la.length ca] W fun e w' => e = .returned (.int .i64 (chkP la)) ∧ Below W.heap.size W w') := fun W hW => rCheck_any la hla hma W a ca (hQa.lift hW hW.size)
  have hCb : Hid (∀ W, Below w.heap.size w W → Calls Tryd.prog 24 #[.slice B lb.length cb] W fun e w' => e = .returned (.int .i64 (chkP lb)) ∧ Below W.heap.size W w') := fun W hW => rCheck_any lb hlb hmb W B cb (hQb.lift hW hW.size)
  replace hQa := Lib.hid hQa
  replace hQb := Lib.hid hQb
  have hB0 := Lib.hid (Below.refl w.heap.size w)
  rcases chk_cases la with c1 | c1
  case inr =>
    rw [c1] at hCa
    rw [c1, if_neg (by decide)] at hp
    clear c1
    go_enter Tryd.func13, Tryd.ntmps13
    go_wp2_with fail
    refine (hCa.out _ hB0.out).mono ?_
    rintro e w1 ⟨rfl, hb1⟩
    replace hb1 := Lib.hid hb1
    go_wp2_with fail
    go_ret3
    exact ⟨by rw [hp.out]; rfl, hb1.out⟩
  rw [c1] at hCa
  rw [c1, if_pos rfl] at hp
  rcases chk_cases lb with c2 | c2
  case inr =>
    rw [c2] at hCb
    rw [c2, if_neg (by decide)] at hp
    clear c1 c2
    go_enter Tryd.func13, Tryd.ntmps13
    go_wp2_with fail
    refine (hCa.out _ hB0.out).mono ?_
    rintro e w1 ⟨rfl, hb1⟩
    replace hb1 := Lib.hid hb1
    go_wp2_with fail
    refine (hCb.out _ hb1.out).mono ?_
    rintro e w2 ⟨rfl, hb2⟩
    replace hb2 := Lib.hid (hb1.out.trans (hb2.mono hb1.out.size))
    go_wp2_with fail
    go_ret3
    exact ⟨by rw [hp.out]; rfl, hb2.out⟩
  rw [c2] at hCb
  rw [c2, if_pos rfl] at hp
  clear c1 c2
  go_enter Tryd.func13, Tryd.ntmps13
  go_wp2_with fail
  refine (hCa.out _ hB0.out).mono ?_
  rintro e w1 ⟨rfl, hb1⟩
  replace hb1 := Lib.hid hb1
  go_wp2_with fail
  refine (hCb.out _ hb1.out).mono ?_
  rintro e V ⟨rfl, hb2⟩
  have hB := Lib.hid (hb1.out.trans (hb2.mono hb1.out.size))
  clear hb1 hb2 hCa hCb hB0
  go_upto_region 7 with fail
  cases la with
  | nil =>
    have hpv : Hid (pv = #[.int .i64 0, .bool false, .int .i64 0]) := by
      show _ = _
      rw [hp.out, if_neg (show ¬ apartN [] lb = true by simp [apartN]), firstD_none (fun i hi => by rw [partN] at hi; simp at hi)]; rfl
    clear hp
    rw [show ([] : List Lk).length = 0 from rfl] at *
    refine wp_region_pre 19 0 (fun W => Below V.heap.size V W) (fun W W' => Below W.heap.size W W')
      (fun i v W => match i with
        | 0 => v = .slice a 0 ca
        | 1 => v = .int .i64 0
        | 2 => v = .bool false
        | 3 => v = .bool false
        | 4 => v = undef
        | 5 => v = undef
        | 6 => v = undef
        | 7 => v = .bool false
        | 8 => v = .bool false
        | 9 => v = undef
        | 10 => v = undef
        | 11 => v = undef
        | 12 => v = undef
        | 13 => v = undef
        | 14 => v = undef
        | 15 => v = undef
        | 16 => v = undef
        | 17 => v = undef
        | 18 => v = .bool false
        | _ => True) (fun _ => false)
      (by kernel_rfl) (by kernel_rfl) (by kernel_rfl) (by kernel_rfl) (by kernel_rfl) (by kernel_rfl) (by kernel_rfl) ?_ (fun _ _ h => h.size) (dN (Below.refl _ _) 1) ?_ ?_
    · intro i v W W' hb hF
      match i, hF with
      | 0, h => exact h
      | 1, h => exact h
      | 2, h => exact h
      | 3, h => exact h
      | 4, h => exact h
      | 5, h => exact h
      | 6, h => exact h
      | 7, h => exact h
      | 8, h => exact h
      | 9, h => exact h
      | 10, h => exact h
      | 11, h => exact h
      | 12, h => exact h
      | 13, h => exact h
      | 14, h => exact h
      | 15, h => exact h
      | 16, h => exact h
      | 17, h => exact h
      | 18, h => exact h
      | _ + 19, _ => trivial
    · refine ⟨?_, ?_, ?_, ?_, ?_, ?_, ?_, ?_, ?_, ?_, ?_, ?_, ?_, ?_, ?_, ?_, ?_, ?_, ?_, trivial⟩
      · refine stepJ_any rfl fun ac W hAA hG hDD K hK => ?_
        have h0 := hAA.getD (t := 0) (by kernel_rfl)
        simp only [Array.getD_eq_getD_getElem?] at h0
        rw [if_pos (by rfl)]
        exact wp_val (v := .slice a 0 ca) (w' := W) (by simp [execOp, Act.eval, h0, go_sem]) (hK _ _ hG (Below.refl _ _) rfl (fun h => by cases h))
      · refine stepJ_any rfl fun ac W hAA hG hDD K hK => ?_
        have h20 := hDD.get 0 20 _ rfl rfl (by kernel_rfl)
        simp only [Array.getD_eq_getD_getElem?] at h20
        rw [if_pos (by rfl)]
        exact wp_val (v := .int .i64 0) (w' := W) (by simp [execOp, Act.eval, h20, go_sem]) (hK _ _ hG (Below.refl _ _) rfl (fun h => by cases h))
      · refine stepJ_any rfl fun ac W hAA hG hDD K hK => ?_
        have h21 := hDD.get 1 21 _ rfl rfl (by kernel_rfl)
        simp only [Array.getD_eq_getD_getElem?] at h21
        rw [if_pos (by rfl)]
        exact wp_val (v := .bool false) (w' := W) (by simp [execOp, Act.eval, h21, go_sem]) (hK _ _ hG (Below.refl _ _) rfl (fun h => by cases h))
      · refine stepJ_any rfl fun ac W hAA hG hDD K hK => ?_
        have h22 := hDD.get 2 22 _ rfl rfl (by kernel_rfl)
        simp only [Array.getD_eq_getD_getElem?] at h22
        rw [if_pos (by rfl)]
        exact wp_val (v := .bool false) (w' := W) (by simp [execOp, Act.eval, h22, go_sem]) (hK _ _ hG (Below.refl _ _) rfl (fun h => by cases h))
      · refine stepJ_any rfl fun ac W hAA hG hDD K hK => ?_
        have hgd := hDD.get 3 23 _ rfl rfl (by kernel_rfl)
        have hgd := slot_bool hgd
        rw [if_neg (by simp [Region.wanted, yielded, hgd])]
        exact hK undef W hG (Below.refl _ _) rfl (fun h => by cases h)
      · refine stepJ_any rfl fun ac W hAA hG hDD K hK => ?_
        have hgd := hDD.get 3 23 _ rfl rfl (by kernel_rfl)
        have hgd := slot_bool hgd
        rw [if_neg (by simp [Region.wanted, yielded, hgd])]
        exact hK undef W hG (Below.refl _ _) rfl (fun h => by cases h)
      · refine stepJ_any rfl fun ac W hAA hG hDD K hK => ?_
        have hgd := hDD.get 3 23 _ rfl rfl (by kernel_rfl)
        have hgd := slot_bool hgd
        rw [if_neg (by simp [Region.wanted, yielded, hgd])]
        exact hK undef W hG (Below.refl _ _) rfl (fun h => by cases h)
      · refine stepJ_any rfl fun ac W hAA hG hDD K hK => ?_
        have h23 := hDD.get 3 23 _ rfl rfl (by kernel_rfl)
        have h26 := hDD.get 6 26 _ rfl rfl (by kernel_rfl)
        simp only [Array.getD_eq_getD_getElem?] at h23 h26
        rw [if_pos (by rfl)]
        exact wp_val (v := .bool false) (w' := W) (by simp [execOp, Act.eval, h23, h26, go_sem]) (hK _ _ hG (Below.refl _ _) rfl (fun h => by cases h))
      · refine stepJ_any rfl fun ac W hAA hG hDD K hK => ?_
        have h27 := hDD.get 7 27 _ rfl rfl (by kernel_rfl)
        simp only [Array.getD_eq_getD_getElem?] at h27
        rw [if_pos (by rfl)]
        exact wp_val (v := .bool false) (w' := W) (by simp [execOp, Act.eval, h27, go_sem]) (hK _ _ hG (Below.refl _ _) rfl (fun h => by cases h))
      · refine stepJ_any rfl fun ac W hAA hG hDD K hK => ?_
        have hgd := hDD.get 8 28 _ rfl rfl (by kernel_rfl)
        have hgd := slot_bool hgd
        rw [if_neg (by simp [Region.wanted, yielded, hgd])]
        exact hK undef W hG (Below.refl _ _) rfl (fun h => by cases h)
      · refine stepJ_any rfl fun ac W hAA hG hDD K hK => ?_
        have hgd := hDD.get 8 28 _ rfl rfl (by kernel_rfl)
        have hgd := slot_bool hgd
        rw [if_neg (by simp [Region.wanted, yielded, hgd])]
        exact hK undef W hG (Below.refl _ _) rfl (fun h => by cases h)
      · refine stepJ_any rfl fun ac W hAA hG hDD K hK => ?_
        have hgd := hDD.get 8 28 _ rfl rfl (by kernel_rfl)
        have hgd := slot_bool hgd
        rw [if_neg (by simp [Region.wanted, yielded, hgd])]
        exact hK undef W hG (Below.refl _ _) rfl (fun h => by cases h)
      · refine stepJ_any rfl fun ac W hAA hG hDD K hK => ?_
        have hgd := hDD.get 8 28 _ rfl rfl (by kernel_rfl)
        have hgd := slot_bool hgd
        rw [if_neg (by simp [Region.wanted, yielded, hgd])]
        exact hK undef W hG (Below.refl _ _) rfl (fun h => by cases h)
      · refine stepJ_any rfl fun ac W hAA hG hDD K hK => ?_
        have hgd := hDD.get 8 28 _ rfl rfl (by kernel_rfl)
        have hgd := slot_bool hgd
        rw [if_neg (by simp [Region.wanted, yielded, hgd])]
        exact hK undef W hG (Below.refl _ _) rfl (fun h => by cases h)
      · refine stepJ_any rfl fun ac W hAA hG hDD K hK => ?_
        have hgd := hDD.get 8 28 _ rfl rfl (by kernel_rfl)
        have hgd := slot_bool hgd
        rw [if_neg (by simp [Region.wanted, yielded, hgd])]
        exact hK undef W hG (Below.refl _ _) rfl (fun h => by cases h)
      · refine stepJ_any rfl fun ac W hAA hG hDD K hK => ?_
        have hgd := hDD.get 8 28 _ rfl rfl (by kernel_rfl)
        have hgd := slot_bool hgd
        rw [if_neg (by simp [Region.wanted, yielded, hgd])]
        exact hK undef W hG (Below.refl _ _) rfl (fun h => by cases h)
      · refine stepJ_any rfl fun ac W hAA hG hDD K hK => ?_
        have hgd := hDD.get 8 28 _ rfl rfl (by kernel_rfl)
        have hgd := slot_bool hgd
        rw [if_neg (by simp [Region.wanted, yielded, hgd])]
        exact hK undef W hG (Below.refl _ _) rfl (fun h => by cases h)
      · refine stepJ_any rfl fun ac W hAA hG hDD K hK => ?_
        have hgd := hDD.get 8 28 _ rfl rfl (by kernel_rfl)
        have hgd := slot_bool hgd
        rw [if_neg (by simp [Region.wanted, yielded, hgd])]
        exact hK undef W hG (Below.refl _ _) rfl (fun h => by cases h)
      · refine stepJ_any rfl fun ac W hAA hG hDD K hK => ?_
        have h28 := hDD.get 8 28 _ rfl rfl (by kernel_rfl)
        have h37 := hDD.get 17 37 _ rfl rfl (by kernel_rfl)
        simp only [Array.getD_eq_getD_getElem?] at h28 h37
        rw [if_pos (by rfl)]
        exact wp_val (v := .bool false) (w' := W) (by simp [execOp, Act.eval, h28, h37, go_sem]) (hK _ _ hG (Below.refl _ _) rfl (fun h => by cases h))
    intro fu T W9 hG hF hne hltb
    have e20 : T 20 = .slice a 0 ca := hF 0 _ rfl (by omega)
    have e21 : T 21 = .int .i64 0 := hF 1 _ rfl (by omega)
    have e22 : T 22 = .bool false := hF 2 _ rfl (by omega)
    have e23 : T 23 = .bool false := hF 3 _ rfl (by omega)
    have e24 : T 24 = undef := hF 4 _ rfl (by omega)
    have e25 : T 25 = undef := hF 5 _ rfl (by omega)
    have e26 : T 26 = undef := hF 6 _ rfl (by omega)
    have e27 : T 27 = .bool false := hF 7 _ rfl (by omega)
    have e28 : T 28 = .bool false := hF 8 _ rfl (by omega)
    have e29 : T 29 = undef := hF 9 _ rfl (by omega)
    have e30 : T 30 = undef := hF 10 _ rfl (by omega)
    have e31 : T 31 = undef := hF 11 _ rfl (by omega)
    have e32 : T 32 = undef := hF 12 _ rfl (by omega)
    have e33 : T 33 = undef := hF 13 _ rfl (by omega)
    have e34 : T 34 = undef := hF 14 _ rfl (by omega)
    have e35 : T 35 = undef := hF 15 _ rfl (by omega)
    have e36 : T 36 = undef := hF 16 _ rfl (by omega)
    have e37 : T 37 = undef := hF 17 _ rfl (by omega)
    have e38 : T 38 = .bool false := hF 18 _ rfl (by omega)
    clear hF hne hltb
    simp only [List.take, fillT, List.setIfInBounds_toArray, List.set_cons_zero, List.set_cons_succ, e20, e21, e22, e23, e24, e25, e26, e27, e28, e29, e30, e31, e32, e33, e34, e35, e36, e37, e38]
    clear e20 e21 e22 e23 e24 e25 e26 e27 e28 e29 e30 e31 e32 e33 e34 e35 e36 e37 e38
    refine wpAny_done (by kernel_rfl) ?_ _
    replace hB := Lib.hid (hB.out.trans (hG.mono hB.out.size))
    clear hG
    go_wp2_with fail
    go_loopw [9] (fun i wr => i = .int .i64 0 ∧ Hid (Below w.heap.size w wr)) (fun _ _ => 0)
    case atStart => exact ⟨rfl, hB⟩
    case round =>
      obtain ⟨rfl, hb⟩ := hrel
      go_wp2_with fail
      go_ret3
      exact ⟨by rw [hpv.out]; rfl, hb.out⟩
  | cons x0 r =>
    have p1n : 0 < (x0 :: r).length := by rw [List.length_cons]; omega
    have p1 : (0 : Int) < (x0 :: r).length := by omega
    cases lb with
    | nil =>
      have hpv : Hid (pv = #[.int .i64 0, .bool false, .int .i64 0]) := by
        show _ = _
        rw [hp.out, if_neg (show ¬ apartN (x0 :: r) [] = true by simp [apartN, belongsP]), firstD_none (fun i hi => by rw [partN] at hi; simp at hi)]; rfl
      clear hp
      rw [show ([] : List Lk).length = 0 from rfl] at *
      generalize (x0 :: r) = la at *
      refine wp_region_pre 19 0 (fun W => Below V.heap.size V W) (fun W W' => Below W.heap.size W W')
        (fun i v W => match i with
          | 0 => v = .slice a la.length ca
          | 1 => v = .int .i64 (la.length : Nat)
          | 2 => v = .bool true
          | 3 => v = .bool true
          | 4 => v = .slice B 0 cb
          | 5 => v = .int .i64 0
          | 6 => v = .bool false
          | 7 => v = .bool false
          | 8 => v = .bool false
          | 9 => v = undef
          | 10 => v = undef
          | 11 => v = undef
          | 12 => v = undef
          | 13 => v = undef
          | 14 => v = undef
          | 15 => v = undef
          | 16 => v = undef
          | 17 => v = undef
          | 18 => v = .bool false
          | _ => True) (fun _ => false)
        (by kernel_rfl) (by kernel_rfl) (by kernel_rfl) (by kernel_rfl) (by kernel_rfl) (by kernel_rfl) (by kernel_rfl) ?_ (fun _ _ h => h.size) (dN (Below.refl _ _) 1) ?_ ?_
      · intro i v W W' hb hF
        match i, hF with
        | 0, h => exact h
        | 1, h => exact h
        | 2, h => exact h
        | 3, h => exact h
        | 4, h => exact h
        | 5, h => exact h
        | 6, h => exact h
        | 7, h => exact h
        | 8, h => exact h
        | 9, h => exact h
        | 10, h => exact h
        | 11, h => exact h
        | 12, h => exact h
        | 13, h => exact h
        | 14, h => exact h
        | 15, h => exact h
        | 16, h => exact h
        | 17, h => exact h
        | 18, h => exact h
        | _ + 19, _ => trivial
      · refine ⟨?_, ?_, ?_, ?_, ?_, ?_, ?_, ?_, ?_, ?_, ?_, ?_, ?_, ?_, ?_, ?_, ?_, ?_, ?_, trivial⟩
        · refine stepJ_any rfl fun ac W hAA hG hDD K hK => ?_
          have h0 := hAA.getD (t := 0) (by kernel_rfl)
          simp only [Array.getD_eq_getD_getElem?] at h0
          rw [if_pos (by rfl)]
          exact wp_val (v := .slice a la.length ca) (w' := W) (by simp [execOp, Act.eval, h0, go_sem]) (hK _ _ hG (Below.refl _ _) rfl (fun h => by cases h))
        · refine stepJ_any rfl fun ac W hAA hG hDD K hK => ?_
          have h20 := hDD.get 0 20 _ rfl rfl (by kernel_rfl)
          simp only [Array.getD_eq_getD_getElem?] at h20
          rw [if_pos (by rfl)]
          exact wp_val (v := .int .i64 (la.length : Nat)) (w' := W) (by simp [execOp, Act.eval, h20, go_sem]) (hK _ _ hG (Below.refl _ _) rfl (fun h => by cases h))
        · refine stepJ_any rfl fun ac W hAA hG hDD K hK => ?_
          have h21 := hDD.get 1 21 _ rfl rfl (by kernel_rfl)
          simp only [Array.getD_eq_getD_getElem?] at h21
          rw [if_pos (by rfl)]
          exact wp_val (v := .bool true) (w' := W) (by simp [execOp, Act.eval, h21, go_sem, p1, p1n]) (hK _ _ hG (Below.refl _ _) rfl (fun h => by cases h))
        · refine stepJ_any rfl fun ac W hAA hG hDD K hK => ?_
          have h22 := hDD.get 2 22 _ rfl rfl (by kernel_rfl)
          simp only [Array.getD_eq_getD_getElem?] at h22
          rw [if_pos (by rfl)]
          exact wp_val (v := .bool true) (w' := W) (by simp [execOp, Act.eval, h22, go_sem]) (hK _ _ hG (Below.refl _ _) rfl (fun h => by cases h))
        · refine stepJ_any rfl fun ac W hAA hG hDD K hK => ?_
          have h1 := hAA.getD (t := 1) (by kernel_rfl)
          have hgd := hDD.get 3 23 _ rfl rfl (by kernel_rfl)
          have hgd := slot_bool hgd
          simp only [Array.getD_eq_getD_getElem?] at h1
          rw [if_pos (by simp [Region.wanted, yielded, hgd])]
          exact wp_val (v := .slice B 0 cb) (w' := W) (by simp [execOp, Act.eval, h1, go_sem]) (hK _ _ hG (Below.refl _ _) rfl (fun h => by cases h))
        · refine stepJ_any rfl fun ac W hAA hG hDD K hK => ?_
          have h24 := hDD.get 4 24 _ rfl rfl (by kernel_rfl)
          have hgd := hDD.get 3 23 _ rfl rfl (by kernel_rfl)
          have hgd := slot_bool hgd
          simp only [Array.getD_eq_getD_getElem?] at h24
          rw [if_pos (by simp [Region.wanted, yielded, hgd])]
          exact wp_val (v := .int .i64 0) (w' := W) (by simp [execOp, Act.eval, h24, go_sem]) (hK _ _ hG (Below.refl _ _) rfl (fun h => by cases h))
        · refine stepJ_any rfl fun ac W hAA hG hDD K hK => ?_
          have h25 := hDD.get 5 25 _ rfl rfl (by kernel_rfl)
          have hgd := hDD.get 3 23 _ rfl rfl (by kernel_rfl)
          have hgd := slot_bool hgd
          simp only [Array.getD_eq_getD_getElem?] at h25
          rw [if_pos (by simp [Region.wanted, yielded, hgd])]
          exact wp_val (v := .bool false) (w' := W) (by simp [execOp, Act.eval, h25, go_sem]) (hK _ _ hG (Below.refl _ _) rfl (fun h => by cases h))
        · refine stepJ_any rfl fun ac W hAA hG hDD K hK => ?_
          have h23 := hDD.get 3 23 _ rfl rfl (by kernel_rfl)
          have h26 := hDD.get 6 26 _ rfl rfl (by kernel_rfl)
          simp only [Array.getD_eq_getD_getElem?] at h23 h26
          rw [if_pos (by rfl)]
          exact wp_val (v := .bool false) (w' := W) (by simp [execOp, Act.eval, h23, h26, go_sem]) (hK _ _ hG (Below.refl _ _) rfl (fun h => by cases h))
        · refine stepJ_any rfl fun ac W hAA hG hDD K hK => ?_
          have h27 := hDD.get 7 27 _ rfl rfl (by kernel_rfl)
          simp only [Array.getD_eq_getD_getElem?] at h27
          rw [if_pos (by rfl)]
          exact wp_val (v := .bool false) (w' := W) (by simp [execOp, Act.eval, h27, go_sem]) (hK _ _ hG (Below.refl _ _) rfl (fun h => by cases h))
        · refine stepJ_any rfl fun ac W hAA hG hDD K hK => ?_
          have hgd := hDD.get 8 28 _ rfl rfl (by kernel_rfl)
          have hgd := slot_bool hgd
          rw [if_neg (by simp [Region.wanted, yielded, hgd])]
          exact hK undef W hG (Below.refl _ _) rfl (fun h => by cases h)
        · refine stepJ_any rfl fun ac W hAA hG hDD K hK => ?_
          have hgd := hDD.get 8 28 _ rfl rfl (by kernel_rfl)
          have hgd := slot_bool hgd
          rw [if_neg (by simp [Region.wanted, yielded, hgd])]
          exact hK undef W hG (Below.refl _ _) rfl (fun h => by cases h)
        · refine stepJ_any rfl fun ac W hAA hG hDD K hK => ?_
          have hgd := hDD.get 8 28 _ rfl rfl (by kernel_rfl)
          have hgd := slot_bool hgd
          rw [if_neg (by simp [Region.wanted, yielded, hgd])]
          exact hK undef W hG (Below.refl _ _) rfl (fun h => by cases h)
        · refine stepJ_any rfl fun ac W hAA hG hDD K hK => ?_
          have hgd := hDD.get 8 28 _ rfl rfl (by kernel_rfl)
          have hgd := slot_bool hgd
          rw [if_neg (by simp [Region.wanted, yielded, hgd])]
          exact hK undef W hG (Below.refl _ _) rfl (fun h => by cases h)
        · refine stepJ_any rfl fun ac W hAA hG hDD K hK => ?_
          have hgd := hDD.get 8 28 _ rfl rfl (by kernel_rfl)
          have hgd := slot_bool hgd
          rw [if_neg (by simp [Region.wanted, yielded, hgd])]
          exact hK undef W hG (Below.refl _ _) rfl (fun h => by cases h)
        · refine stepJ_any rfl fun ac W hAA hG hDD K hK => ?_
          have hgd := hDD.get 8 28 _ rfl rfl (by kernel_rfl)
          have hgd := slot_bool hgd
          rw [if_neg (by simp [Region.wanted, yielded, hgd])]
          exact hK undef W hG (Below.refl _ _) rfl (fun h => by cases h)
        · refine stepJ_any rfl fun ac W hAA hG hDD K hK => ?_
          have hgd := hDD.get 8 28 _ rfl rfl (by kernel_rfl)
          have hgd := slot_bool hgd
          rw [if_neg (by simp [Region.wanted, yielded, hgd])]
          exact hK undef W hG (Below.refl _ _) rfl (fun h => by cases h)
        · refine stepJ_any rfl fun ac W hAA hG hDD K hK => ?_
          have hgd := hDD.get 8 28 _ rfl rfl (by kernel_rfl)
          have hgd := slot_bool hgd
          rw [if_neg (by simp [Region.wanted, yielded, hgd])]
          exact hK undef W hG (Below.refl _ _) rfl (fun h => by cases h)
        · refine stepJ_any rfl fun ac W hAA hG hDD K hK => ?_
          have hgd := hDD.get 8 28 _ rfl rfl (by kernel_rfl)
          have hgd := slot_bool hgd
          rw [if_neg (by simp [Region.wanted, yielded, hgd])]
          exact hK undef W hG (Below.refl _ _) rfl (fun h => by cases h)
        · refine stepJ_any rfl fun ac W hAA hG hDD K hK => ?_
          have h28 := hDD.get 8 28 _ rfl rfl (by kernel_rfl)
          have h37 := hDD.get 17 37 _ rfl rfl (by kernel_rfl)
          simp only [Array.getD_eq_getD_getElem?] at h28 h37
          rw [if_pos (by rfl)]
          exact wp_val (v := .bool false) (w' := W) (by simp [execOp, Act.eval, h28, h37, go_sem]) (hK _ _ hG (Below.refl _ _) rfl (fun h => by cases h))
      intro fu T W9 hG hF hne hltb
      have e20 : T 20 = .slice a la.length ca := hF 0 _ rfl (by omega)
      have e21 : T 21 = .int .i64 (la.length : Nat) := hF 1 _ rfl (by omega)
      have e22 : T 22 = .bool true := hF 2 _ rfl (by omega)
      have e23 : T 23 = .bool true := hF 3 _ rfl (by omega)
      have e24 : T 24 = .slice B 0 cb := hF 4 _ rfl (by omega)
      have e25 : T 25 = .int .i64 0 := hF 5 _ rfl (by omega)
      have e26 : T 26 = .bool false := hF 6 _ rfl (by omega)
      have e27 : T 27 = .bool false := hF 7 _ rfl (by omega)
      have e28 : T 28 = .bool false := hF 8 _ rfl (by omega)
      have e29 : T 29 = undef := hF 9 _ rfl (by omega)
      have e30 : T 30 = undef := hF 10 _ rfl (by omega)
      have e31 : T 31 = undef := hF 11 _ rfl (by omega)
      have e32 : T 32 = undef := hF 12 _ rfl (by omega)
      have e33 : T 33 = undef := hF 13 _ rfl (by omega)
      have e34 : T 34 = undef := hF 14 _ rfl (by omega)
      have e35 : T 35 = undef := hF 15 _ rfl (by omega)
      have e36 : T 36 = undef := hF 16 _ rfl (by omega)
      have e37 : T 37 = undef := hF 17 _ rfl (by omega)
      have e38 : T 38 = .bool false := hF 18 _ rfl (by omega)
      clear hF hne hltb
      simp only [List.take, fillT, List.setIfInBounds_toArray, List.set_cons_zero, List.set_cons_succ, e20, e21, e22, e23, e24, e25, e26, e27, e28, e29, e30, e31, e32, e33, e34, e35, e36, e37, e38]
      clear e20 e21 e22 e23 e24 e25 e26 e27 e28 e29 e30 e31 e32 e33 e34 e35 e36 e37 e38
      refine wpAny_done (by kernel_rfl) ?_ _
      replace hB := Lib.hid (hB.out.trans (hG.mono hB.out.size))
      clear hG
      go_wp2_with fail
      go_loopw [9] (fun i wr => i = .int .i64 0 ∧ Hid (Below w.heap.size w wr)) (fun _ _ => 0)
      case atStart => exact ⟨rfl, hB⟩
      case round =>
        obtain ⟨rfl, hb⟩ := hrel
        have q1 : decide ((0 : Int) < la.length) = true := decide_eq_true p1
        go_wp2_with fail
        go_ret3
        exact ⟨by rw [hpv.out]; rfl, hb.out⟩
    | cons y0 s =>
      have p2n : 0 < (y0 :: s).length := by rw [List.length_cons]; omega
      have p2 : (0 : Int) < (y0 :: s).length := by omega
      obtain ⟨b1, o1, da, dc, hA, hb1B, hr1, -⟩ := (hQa.out.lift hB.out hB.out.size).at_ (i := 0) (by simp)
      obtain ⟨b2, o2, da', dc', hA2, hb2B, hr2, -⟩ := (hQb.out.lift hB.out hB.out.size).at_ (i := 0) (by simp)
      have hx0 := (range_parts (hQa.out.fine x0 (by simp)).prev (x := x0) hr1).1
      have hy0 := (range_parts (hQb.out.fine y0 (by simp)).prev (x := y0) hr2).1
      rw [Nat.zero_mul, Nat.add_zero] at hx0 hy0
      obtain ⟨n1, hn1⟩ : ∃ n1, x0.node = n1 := ⟨_, rfl⟩
      obtain ⟨n2, hn2⟩ : ∃ n2, y0.node = n2 := ⟨_, rfl⟩
      have hap : apartN (x0 :: r) (y0 :: s) = (n1 != n2) := by
        show (!(y0.node == x0.node)) = _
        rw [hn1, hn2, bne]
        congr 1
        rw [Bool.eq_iff_iff, beq_iff_eq, beq_iff_eq]
        exact ⟨Eq.symm, Eq.symm⟩
      rw [hn1] at hx0
      rw [hn2] at hy0
      have hc1 : Hid (∀ W, Below V.heap.size V W → W.cell? ⟨b1, o1, none⟩ = some (.int .i64 n1)) := fun W hW => (hW.cell (p := ⟨b1, o1, none⟩) hb1B).trans hx0
      have hc2 : Hid (∀ W, Below V.heap.size V W → W.cell? ⟨b2, o2, none⟩ = some (.int .i64 n2)) := fun W hW => (hW.cell (p := ⟨b2, o2, none⟩) hb2B).trans hy0
      rw [hap] at hp
      subst hA hA2
      clear hr1 hr2 hx0 hy0 hb1B hb2B hap hn1 hn2
      generalize (x0 :: r) = la at *
      generalize (y0 :: s) = lb at *
      rcases Bool.eq_false_or_eq_true (n1 != n2) with gn | gn
      case inl =>
        rw [gn, if_pos rfl] at hp
        refine wp_region_pre 19 0 (fun W => Below V.heap.size V W) (fun W W' => Below W.heap.size W W')
          (fun i v W => match i with
            | 0 => v = .slice (some ⟨b1, o1, none⟩) la.length ca
            | 1 => v = .int .i64 (la.length : Nat)
            | 2 => v = .bool true
            | 3 => v = .bool true
            | 4 => v = .slice (some ⟨b2, o2, none⟩) lb.length cb
            | 5 => v = .int .i64 (lb.length : Nat)
            | 6 => v = .bool true
            | 7 => v = .bool true
            | 8 => v = .bool true
            | 9 => v = .slice (some ⟨b1, o1, none⟩) la.length ca
            | 10 => v = .pointer (some ⟨b1, o1, none⟩)
            | 11 => v = .pointer (some ⟨b1, o1, none⟩)
            | 12 => v = .int .i64 n1
            | 13 => v = .slice (some ⟨b2, o2, none⟩) lb.length cb
            | 14 => v = .pointer (some ⟨b2, o2, none⟩)
            | 15 => v = .pointer (some ⟨b2, o2, none⟩)
            | 16 => v = .int .i64 n2
            | 17 => v = .bool true
            | 18 => v = .bool true
            | _ => True) (fun _ => false)
          (by kernel_rfl) (by kernel_rfl) (by kernel_rfl) (by kernel_rfl) (by kernel_rfl) (by kernel_rfl) (by kernel_rfl) ?_ (fun _ _ h => h.size) (dN (Below.refl _ _) 1) ?_ ?_
        · intro i v W W' hb hF
          match i, hF with
          | 0, h => exact h
          | 1, h => exact h
          | 2, h => exact h
          | 3, h => exact h
          | 4, h => exact h
          | 5, h => exact h
          | 6, h => exact h
          | 7, h => exact h
          | 8, h => exact h
          | 9, h => exact h
          | 10, h => exact h
          | 11, h => exact h
          | 12, h => exact h
          | 13, h => exact h
          | 14, h => exact h
          | 15, h => exact h
          | 16, h => exact h
          | 17, h => exact h
          | 18, h => exact h
          | _ + 19, _ => trivial
        · refine ⟨?_, ?_, ?_, ?_, ?_, ?_, ?_, ?_, ?_, ?_, ?_, ?_, ?_, ?_, ?_, ?_, ?_, ?_, ?_, trivial⟩
          · refine stepJ_any rfl fun ac W hAA hG hDD K hK => ?_
            have h0 := hAA.getD (t := 0) (by kernel_rfl)
            simp only [Array.getD_eq_getD_getElem?] at h0
            rw [if_pos (by rfl)]
            exact wp_val (v := .slice (some ⟨b1, o1, none⟩) la.length ca) (w' := W) (by simp [execOp, Act.eval, h0, go_sem]) (hK _ _ hG (Below.refl _ _) rfl (fun h => by cases h))
          · refine stepJ_any rfl fun ac W hAA hG hDD K hK => ?_
            have h20 := hDD.get 0 20 _ rfl rfl (by kernel_rfl)
            simp only [Array.getD_eq_getD_getElem?] at h20
            rw [if_pos (by rfl)]
            exact wp_val (v := .int .i64 (la.length : Nat)) (w' := W) (by simp [execOp, Act.eval, h20, go_sem]) (hK _ _ hG (Below.refl _ _) rfl (fun h => by cases h))
          · refine stepJ_any rfl fun ac W hAA hG hDD K hK => ?_
            have h21 := hDD.get 1 21 _ rfl rfl (by kernel_rfl)
            simp only [Array.getD_eq_getD_getElem?] at h21
            rw [if_pos (by rfl)]
            exact wp_val (v := .bool true) (w' := W) (by simp [execOp, Act.eval, h21, go_sem, p1, p1n]) (hK _ _ hG (Below.refl _ _) rfl (fun h => by cases h))
          · refine stepJ_any rfl fun ac W hAA hG hDD K hK => ?_
            have h22 := hDD.get 2 22 _ rfl rfl (by kernel_rfl)
            simp only [Array.getD_eq_getD_getElem?] at h22
            rw [if_pos (by rfl)]
            exact wp_val (v := .bool true) (w' := W) (by simp [execOp, Act.eval, h22, go_sem]) (hK _ _ hG (Below.refl _ _) rfl (fun h => by cases h))
          · refine stepJ_any rfl fun ac W hAA hG hDD K hK => ?_
            have h1 := hAA.getD (t := 1) (by kernel_rfl)
            have hgd := hDD.get 3 23 _ rfl rfl (by kernel_rfl)
            have hgd := slot_bool hgd
            simp only [Array.getD_eq_getD_getElem?] at h1
            rw [if_pos (by simp [Region.wanted, yielded, hgd])]
            exact wp_val (v := .slice (some ⟨b2, o2, none⟩) lb.length cb) (w' := W) (by simp [execOp, Act.eval, h1, go_sem]) (hK _ _ hG (Below.refl _ _) rfl (fun h => by cases h))
          · refine stepJ_any rfl fun ac W hAA hG hDD K hK => ?_
            have h24 := hDD.get 4 24 _ rfl rfl (by kernel_rfl)
            have hgd := hDD.get 3 23 _ rfl rfl (by kernel_rfl)
            have hgd := slot_bool hgd
            simp only [Array.getD_eq_getD_getElem?] at h24
            rw [if_pos (by simp [Region.wanted, yielded, hgd])]
            exact wp_val (v := .int .i64 (lb.length : Nat)) (w' := W) (by simp [execOp, Act.eval, h24, go_sem]) (hK _ _ hG (Below.refl _ _) rfl (fun h => by cases h))
          · refine stepJ_any rfl fun ac W hAA hG hDD K hK => ?_
            have h25 := hDD.get 5 25 _ rfl rfl (by kernel_rfl)
            have hgd := hDD.get 3 23 _ rfl rfl (by kernel_rfl)
            have hgd := slot_bool hgd
            simp only [Array.getD_eq_getD_getElem?] at h25
            rw [if_pos (by simp [Region.wanted, yielded, hgd])]
            exact wp_val (v := .bool true) (w' := W) (by simp [execOp, Act.eval, h25, go_sem, p2, p2n]) (hK _ _ hG (Below.refl _ _) rfl (fun h => by cases h))
          · refine stepJ_any rfl fun ac W hAA hG hDD K hK => ?_
            have h23 := hDD.get 3 23 _ rfl rfl (by kernel_rfl)
            have h26 := hDD.get 6 26 _ rfl rfl (by kernel_rfl)
            simp only [Array.getD_eq_getD_getElem?] at h23 h26
            rw [if_pos (by rfl)]
            exact wp_val (v := .bool true) (w' := W) (by simp [execOp, Act.eval, h23, h26, go_sem]) (hK _ _ hG (Below.refl _ _) rfl (fun h => by cases h))
          · refine stepJ_any rfl fun ac W hAA hG hDD K hK => ?_
            have h27 := hDD.get 7 27 _ rfl rfl (by kernel_rfl)
            simp only [Array.getD_eq_getD_getElem?] at h27
            rw [if_pos (by rfl)]
            exact wp_val (v := .bool true) (w' := W) (by simp [execOp, Act.eval, h27, go_sem]) (hK _ _ hG (Below.refl _ _) rfl (fun h => by cases h))
          · refine stepJ_any rfl fun ac W hAA hG hDD K hK => ?_
            have h0 := hAA.getD (t := 0) (by kernel_rfl)
            have hgd := hDD.get 8 28 _ rfl rfl (by kernel_rfl)
            have hgd := slot_bool hgd
            simp only [Array.getD_eq_getD_getElem?] at h0
            rw [if_pos (by simp [Region.wanted, yielded, hgd])]
            exact wp_val (v := .slice (some ⟨b1, o1, none⟩) la.length ca) (w' := W) (by simp [execOp, Act.eval, h0, go_sem]) (hK _ _ hG (Below.refl _ _) rfl (fun h => by cases h))
          · refine stepJ_any rfl fun ac W hAA hG hDD K hK => ?_
            have h29 := hDD.get 9 29 _ rfl rfl (by kernel_rfl)
            have hgd := hDD.get 8 28 _ rfl rfl (by kernel_rfl)
            have hgd := slot_bool hgd
            simp only [Array.getD_eq_getD_getElem?] at h29
            rw [if_pos (by simp [Region.wanted, yielded, hgd])]
            exact wp_val (v := .pointer (some ⟨b1, o1, none⟩)) (w' := W) (by simp [execOp, Act.eval, h29, go_sem, p1, p1n]) (hK _ _ hG (Below.refl _ _) rfl (fun h => by cases h))
          · refine stepJ_any rfl fun ac W hAA hG hDD K hK => ?_
            have h30 := hDD.get 10 30 _ rfl rfl (by kernel_rfl)
            have hgd := hDD.get 8 28 _ rfl rfl (by kernel_rfl)
            have hgd := slot_bool hgd
            simp only [Array.getD_eq_getD_getElem?] at h30
            rw [if_pos (by simp [Region.wanted, yielded, hgd])]
            exact wp_val (v := .pointer (some ⟨b1, o1, none⟩)) (w' := W) (by simp [execOp, Act.eval, h30, go_sem]) (hK _ _ hG (Below.refl _ _) rfl (fun h => by cases h))
          · refine stepJ_any rfl fun ac W hAA hG hDD K hK => ?_
            have h31 := hDD.get 11 31 _ rfl rfl (by kernel_rfl)
            have hgd := hDD.get 8 28 _ rfl rfl (by kernel_rfl)
            have hgd := slot_bool hgd
            simp only [Array.getD_eq_getD_getElem?] at h31
            have m1 := hc1.out W hG
            rw [if_pos (by simp [Region.wanted, yielded, hgd])]
            exact wp_val (v := .int .i64 n1) (w' := W) (by simp [execOp, Act.eval, h31, go_sem, m1]) (hK _ _ hG (Below.refl _ _) rfl (fun h => by cases h))
          · refine stepJ_any rfl fun ac W hAA hG hDD K hK => ?_
            have h1 := hAA.getD (t := 1) (by kernel_rfl)
            have hgd := hDD.get 8 28 _ rfl rfl (by kernel_rfl)
            have hgd := slot_bool hgd
            simp only [Array.getD_eq_getD_getElem?] at h1
            rw [if_pos (by simp [Region.wanted, yielded, hgd])]
            exact wp_val (v := .slice (some ⟨b2, o2, none⟩) lb.length cb) (w' := W) (by simp [execOp, Act.eval, h1, go_sem]) (hK _ _ hG (Below.refl _ _) rfl (fun h => by cases h))
          · refine stepJ_any rfl fun ac W hAA hG hDD K hK => ?_
            have h33 := hDD.get 13 33 _ rfl rfl (by kernel_rfl)
            have hgd := hDD.get 8 28 _ rfl rfl (by kernel_rfl)
            have hgd := slot_bool hgd
            simp only [Array.getD_eq_getD_getElem?] at h33
            rw [if_pos (by simp [Region.wanted, yielded, hgd])]
            exact wp_val (v := .pointer (some ⟨b2, o2, none⟩)) (w' := W) (by simp [execOp, Act.eval, h33, go_sem, p2, p2n]) (hK _ _ hG (Below.refl _ _) rfl (fun h => by cases h))
          · refine stepJ_any rfl fun ac W hAA hG hDD K hK => ?_
            have h34 := hDD.get 14 34 _ rfl rfl (by kernel_rfl)
            have hgd := hDD.get 8 28 _ rfl rfl (by kernel_rfl)
            have hgd := slot_bool hgd
            simp only [Array.getD_eq_getD_getElem?] at h34
            rw [if_pos (by simp [Region.wanted, yielded, hgd])]
            exact wp_val (v := .pointer (some ⟨b2, o2, none⟩)) (w' := W) (by simp [execOp, Act.eval, h34, go_sem]) (hK _ _ hG (Below.refl _ _) rfl (fun h => by cases h))
          · refine stepJ_any rfl fun ac W hAA hG hDD K hK => ?_
            have h35 := hDD.get 15 35 _ rfl rfl (by kernel_rfl)
            have hgd := hDD.get 8 28 _ rfl rfl (by kernel_rfl)
            have hgd := slot_bool hgd
            simp only [Array.getD_eq_getD_getElem?] at h35
            have m2 := hc2.out W hG
            rw [if_pos (by simp [Region.wanted, yielded, hgd])]
            exact wp_val (v := .int .i64 n2) (w' := W) (by simp [execOp, Act.eval, h35, go_sem, m2]) (hK _ _ hG (Below.refl _ _) rfl (fun h => by cases h))
          · refine stepJ_any rfl fun ac W hAA hG hDD K hK => ?_
            have h32 := hDD.get 12 32 _ rfl rfl (by kernel_rfl)
            have h36 := hDD.get 16 36 _ rfl rfl (by kernel_rfl)
            have hgd := hDD.get 8 28 _ rfl rfl (by kernel_rfl)
            have hgd := slot_bool hgd
            simp only [Array.getD_eq_getD_getElem?] at h32 h36
            rw [if_pos (by simp [Region.wanted, yielded, hgd])]
            exact wp_val (v := .bool true) (w' := W) (by simp [execOp, Act.eval, h32, h36, go_sem, gn]) (hK _ _ hG (Below.refl _ _) rfl (fun h => by cases h))
          · refine stepJ_any rfl fun ac W hAA hG hDD K hK => ?_
            have h28 := hDD.get 8 28 _ rfl rfl (by kernel_rfl)
            have h37 := hDD.get 17 37 _ rfl rfl (by kernel_rfl)
            simp only [Array.getD_eq_getD_getElem?] at h28 h37
            rw [if_pos (by rfl)]
            exact wp_val (v := .bool true) (w' := W) (by simp [execOp, Act.eval, h28, h37, go_sem]) (hK _ _ hG (Below.refl _ _) rfl (fun h => by cases h))
        intro fu T W9 hG hF hne hltb
        have e20 : T 20 = .slice (some ⟨b1, o1, none⟩) la.length ca := hF 0 _ rfl (by omega)
        have e21 : T 21 = .int .i64 (la.length : Nat) := hF 1 _ rfl (by omega)
        have e22 : T 22 = .bool true := hF 2 _ rfl (by omega)
        have e23 : T 23 = .bool true := hF 3 _ rfl (by omega)
        have e24 : T 24 = .slice (some ⟨b2, o2, none⟩) lb.length cb := hF 4 _ rfl (by omega)
        have e25 : T 25 = .int .i64 (lb.length : Nat) := hF 5 _ rfl (by omega)
        have e26 : T 26 = .bool true := hF 6 _ rfl (by omega)
        have e27 : T 27 = .bool true := hF 7 _ rfl (by omega)
        have e28 : T 28 = .bool true := hF 8 _ rfl (by omega)
        have e29 : T 29 = .slice (some ⟨b1, o1, none⟩) la.length ca := hF 9 _ rfl (by omega)
        have e30 : T 30 = .pointer (some ⟨b1, o1, none⟩) := hF 10 _ rfl (by omega)
        have e31 : T 31 = .pointer (some ⟨b1, o1, none⟩) := hF 11 _ rfl (by omega)
        have e32 : T 32 = .int .i64 n1 := hF 12 _ rfl (by omega)
        have e33 : T 33 = .slice (some ⟨b2, o2, none⟩) lb.length cb := hF 13 _ rfl (by omega)
        have e34 : T 34 = .pointer (some ⟨b2, o2, none⟩) := hF 14 _ rfl (by omega)
        have e35 : T 35 = .pointer (some ⟨b2, o2, none⟩) := hF 15 _ rfl (by omega)
        have e36 : T 36 = .int .i64 n2 := hF 16 _ rfl (by omega)
        have e37 : T 37 = .bool true := hF 17 _ rfl (by omega)
        have e38 : T 38 = .bool true := hF 18 _ rfl (by omega)
        clear hF hne hltb
        simp only [List.take, fillT, List.setIfInBounds_toArray, List.set_cons_zero, List.set_cons_succ, e20, e21, e22, e23, e24, e25, e26, e27, e28, e29, e30, e31, e32, e33, e34, e35, e36, e37, e38]
        clear e20 e21 e22 e23 e24 e25 e26 e27 e28 e29 e30 e31 e32 e33 e34 e35 e36 e37 e38
        refine wpAny_done (by kernel_rfl) ?_ _
        replace hB := Lib.hid (hB.out.trans (hG.mono hB.out.size))
        clear hG hc1 hc2
        go_wp2_with fail
        go_ret3
        exact ⟨by rw [hp.out]; rfl, hB.out⟩
      rw [gn, if_neg (by decide)] at hp
      have hpv := hp
      clear hp
      refine wp_region_pre 19 0 (fun W => Below V.heap.size V W) (fun W W' => Below W.heap.size W W')
        (fun i v W => match i with
          | 0 => v = .slice (some ⟨b1, o1, none⟩) la.length ca
          | 1 => v = .int .i64 (la.length : Nat)
          | 2 => v = .bool true
          | 3 => v = .bool true
          | 4 => v = .slice (some ⟨b2, o2, none⟩) lb.length cb
          | 5 => v = .int .i64 (lb.length : Nat)
          | 6 => v = .bool true
          | 7 => v = .bool true
          | 8 => v = .bool true
          | 9 => v = .slice (some ⟨b1, o1, none⟩) la.length ca
          | 10 => v = .pointer (some ⟨b1, o1, none⟩)
          | 11 => v = .pointer (some ⟨b1, o1, none⟩)
          | 12 => v = .int .i64 n1
          | 13 => v = .slice (some ⟨b2, o2, none⟩) lb.length cb
          | 14 => v = .pointer (some ⟨b2, o2, none⟩)
          | 15 => v = .pointer (some ⟨b2, o2, none⟩)
          | 16 => v = .int .i64 n2
          | 17 => v = .bool false
          | 18 => v = .bool false
          | _ => True) (fun _ => false)
        (by kernel_rfl) (by kernel_rfl) (by kernel_rfl) (by kernel_rfl) (by kernel_rfl) (by kernel_rfl) (by kernel_rfl) ?_ (fun _ _ h => h.size) (dN (Below.refl _ _) 1) ?_ ?_
      · intro i v W W' hb hF
        match i, hF with
        | 0, h => exact h
        | 1, h => exact h
        | 2, h => exact h
        | 3, h => exact h
        | 4, h => exact h
        | 5, h => exact h
        | 6, h => exact h
        | 7, h => exact h
        | 8, h => exact h
        | 9, h => exact h
        | 10, h => exact h
        | 11, h => exact h
        | 12, h => exact h
        | 13, h => exact h
        | 14, h => exact h
        | 15, h => exact h
        | 16, h => exact h
        | 17, h => exact h
        | 18, h => exact h
        | _ + 19, _ => trivial
      · refine ⟨?_, ?_, ?_, ?_, ?_, ?_, ?_, ?_, ?_, ?_, ?_, ?_, ?_, ?_, ?_, ?_, ?_, ?_, ?_, trivial⟩
        · refine stepJ_any rfl fun ac W hAA hG hDD K hK => ?_
          have h0 := hAA.getD (t := 0) (by kernel_rfl)
          simp only [Array.getD_eq_getD_getElem?] at h0
          rw [if_pos (by rfl)]
          exact wp_val (v := .slice (some ⟨b1, o1, none⟩) la.length ca) (w' := W) (by simp [execOp, Act.eval, h0, go_sem]) (hK _ _ hG (Below.refl _ _) rfl (fun h => by cases h))
        · refine stepJ_any rfl fun ac W hAA hG hDD K hK => ?_
          have h20 := hDD.get 0 20 _ rfl rfl (by kernel_rfl)
          simp only [Array.getD_eq_getD_getElem?] at h20
          rw [if_pos (by rfl)]
          exact wp_val (v := .int .i64 (la.length : Nat)) (w' := W) (by simp [execOp, Act.eval, h20, go_sem]) (hK _ _ hG (Below.refl _ _) rfl (fun h => by cases h))
        · refine stepJ_any rfl fun ac W hAA hG hDD K hK => ?_
          have h21 := hDD.get 1 21 _ rfl rfl (by kernel_rfl)
          simp only [Array.getD_eq_getD_getElem?] at h21
          rw [if_pos (by rfl)]
          exact wp_val (v := .bool true) (w' := W) (by simp [execOp, Act.eval, h21, go_sem, p1, p1n]) (hK _ _ hG (Below.refl _ _) rfl (fun h => by cases h))
        · refine stepJ_any rfl fun ac W hAA hG hDD K hK => ?_
          have h22 := hDD.get 2 22 _ rfl rfl (by kernel_rfl)
          simp only [Array.getD_eq_getD_getElem?] at h22
          rw [if_pos (by rfl)]
          exact wp_val (v := .bool true) (w' := W) (by simp [execOp, Act.eval, h22, go_sem]) (hK _ _ hG (Below.refl _ _) rfl (fun h => by cases h))
        · refine stepJ_any rfl fun ac W hAA hG hDD K hK => ?_
          have h1 := hAA.getD (t := 1) (by kernel_rfl)
          have hgd := hDD.get 3 23 _ rfl rfl (by kernel_rfl)
          have hgd := slot_bool hgd
          simp only [Array.getD_eq_getD_getElem?] at h1
          rw [if_pos (by simp [Region.wanted, yielded, hgd])]
          exact wp_val (v := .slice (some ⟨b2, o2, none⟩) lb.length cb) (w' := W) (by simp [execOp, Act.eval, h1, go_sem]) (hK _ _ hG (Below.refl _ _) rfl (fun h => by cases h))
        · refine stepJ_any rfl fun ac W hAA hG hDD K hK => ?_
          have h24 := hDD.get 4 24 _ rfl rfl (by kernel_rfl)
          have hgd := hDD.get 3 23 _ rfl rfl (by kernel_rfl)
          have hgd := slot_bool hgd
          simp only [Array.getD_eq_getD_getElem?] at h24
          rw [if_pos (by simp [Region.wanted, yielded, hgd])]
          exact wp_val (v := .int .i64 (lb.length : Nat)) (w' := W) (by simp [execOp, Act.eval, h24, go_sem]) (hK _ _ hG (Below.refl _ _) rfl (fun h => by cases h))
        · refine stepJ_any rfl fun ac W hAA hG hDD K hK => ?_
          have h25 := hDD.get 5 25 _ rfl rfl (by kernel_rfl)
          have hgd := hDD.get 3 23 _ rfl rfl (by kernel_rfl)
          have hgd := slot_bool hgd
          simp only [Array.getD_eq_getD_getElem?] at h25
          rw [if_pos (by simp [Region.wanted, yielded, hgd])]
          exact wp_val (v := .bool true) (w' := W) (by simp [execOp, Act.eval, h25, go_sem, p2, p2n]) (hK _ _ hG (Below.refl _ _) rfl (fun h => by cases h))
        · refine stepJ_any rfl fun ac W hAA hG hDD K hK => ?_
          have h23 := hDD.get 3 23 _ rfl rfl (by kernel_rfl)
          have h26 := hDD.get 6 26 _ rfl rfl (by kernel_rfl)
          simp only [Array.getD_eq_getD_getElem?] at h23 h26
          rw [if_pos (by rfl)]
          exact wp_val (v := .bool true) (w' := W) (by simp [execOp, Act.eval, h23, h26, go_sem]) (hK _ _ hG (Below.refl _ _) rfl (fun h => by cases h))
        · refine stepJ_any rfl fun ac W hAA hG hDD K hK => ?_
          have h27 := hDD.get 7 27 _ rfl rfl (by kernel_rfl)
          simp only [Array.getD_eq_getD_getElem?] at h27
          rw [if_pos (by rfl)]
          exact wp_val (v := .bool true) (w' := W) (by simp [execOp, Act.eval, h27, go_sem]) (hK _ _ hG (Below.refl _ _) rfl (fun h => by cases h))
        · refine stepJ_any rfl fun ac W hAA hG hDD K hK => ?_
          have h0 := hAA.getD (t := 0) (by kernel_rfl)
          have hgd := hDD.get 8 28 _ rfl rfl (by kernel_rfl)
          have hgd := slot_bool hgd
          simp only [Array.getD_eq_getD_getElem?] at h0
          rw [if_pos (by simp [Region.wanted, yielded, hgd])]
          exact wp_val (v := .slice (some ⟨b1, o1, none⟩) la.length ca) (w' := W) (by simp [execOp, Act.eval, h0, go_sem]) (hK _ _ hG (Below.refl _ _) rfl (fun h => by cases h))
        · refine stepJ_any rfl fun ac W hAA hG hDD K hK => ?_
          have h29 := hDD.get 9 29 _ rfl rfl (by kernel_rfl)
          have hgd := hDD.get 8 28 _ rfl rfl (by kernel_rfl)
          have hgd := slot_bool hgd
          simp only [Array.getD_eq_getD_getElem?] at h29
          rw [if_pos (by simp [Region.wanted, yielded, hgd])]
          exact wp_val (v := .pointer (some ⟨b1, o1, none⟩)) (w' := W) (by simp [execOp, Act.eval, h29, go_sem, p1, p1n]) (hK _ _ hG (Below.refl _ _) rfl (fun h => by cases h))
        · refine stepJ_any rfl fun ac W hAA hG hDD K hK => ?_
          have h30 := hDD.get 10 30 _ rfl rfl (by kernel_rfl)
          have hgd := hDD.get 8 28 _ rfl rfl (by kernel_rfl)
          have hgd := slot_bool hgd
          simp only [Array.getD_eq_getD_getElem?] at h30
          rw [if_pos (by simp [Region.wanted, yielded, hgd])]
          exact wp_val (v := .pointer (some ⟨b1, o1, none⟩)) (w' := W) (by simp [execOp, Act.eval, h30, go_sem]) (hK _ _ hG (Below.refl _ _) rfl (fun h => by cases h))
        · refine stepJ_any rfl fun ac W hAA hG hDD K hK => ?_
          have h31 := hDD.get 11 31 _ rfl rfl (by kernel_rfl)
          have hgd := hDD.get 8 28 _ rfl rfl (by kernel_rfl)
          have hgd := slot_bool hgd
          simp only [Array.getD_eq_getD_getElem?] at h31
          have m1 := hc1.out W hG
          rw [if_pos (by simp [Region.wanted, yielded, hgd])]
          exact wp_val (v := .int .i64 n1) (w' := W) (by simp [execOp, Act.eval, h31, go_sem, m1]) (hK _ _ hG (Below.refl _ _) rfl (fun h => by cases h))
        · refine stepJ_any rfl fun ac W hAA hG hDD K hK => ?_
          have h1 := hAA.getD (t := 1) (by kernel_rfl)
          have hgd := hDD.get 8 28 _ rfl rfl (by kernel_rfl)
          have hgd := slot_bool hgd
          simp only [Array.getD_eq_getD_getElem?] at h1
          rw [if_pos (by simp [Region.wanted, yielded, hgd])]
          exact wp_val (v := .slice (some ⟨b2, o2, none⟩) lb.length cb) (w' := W) (by simp [execOp, Act.eval, h1, go_sem]) (hK _ _ hG (Below.refl _ _) rfl (fun h => by cases h))
        · refine stepJ_any rfl fun ac W hAA hG hDD K hK => ?_
          have h33 := hDD.get 13 33 _ rfl rfl (by kernel_rfl)
          have hgd := hDD.get 8 28 _ rfl rfl (by kernel_rfl)
          have hgd := slot_bool hgd
          simp only [Array.getD_eq_getD_getElem?] at h33
          rw [if_pos (by simp [Region.wanted, yielded, hgd])]
          exact wp_val (v := .pointer (some ⟨b2, o2, none⟩)) (w' := W) (by simp [execOp, Act.eval, h33, go_sem, p2, p2n]) (hK _ _ hG (Below.refl _ _) rfl (fun h => by cases h))
        · refine stepJ_any rfl fun ac W hAA hG hDD K hK => ?_
          have h34 := hDD.get 14 34 _ rfl rfl (by kernel_rfl)
          have hgd := hDD.get 8 28 _ rfl rfl (by kernel_rfl)
          have hgd := slot_bool hgd
          simp only [Array.getD_eq_getD_getElem?] at h34
          rw [if_pos (by simp [Region.wanted, yielded, hgd])]
          exact wp_val (v := .pointer (some ⟨b2, o2, none⟩)) (w' := W) (by simp [execOp, Act.eval, h34, go_sem]) (hK _ _ hG (Below.refl _ _) rfl (fun h => by cases h))
        · refine stepJ_any rfl fun ac W hAA hG hDD K hK => ?_
          have h35 := hDD.get 15 35 _ rfl rfl (by kernel_rfl)
          have hgd := hDD.get 8 28 _ rfl rfl (by kernel_rfl)
          have hgd := slot_bool hgd
          simp only [Array.getD_eq_getD_getElem?] at h35
          have m2 := hc2.out W hG
          rw [if_pos (by simp [Region.wanted, yielded, hgd])]
          exact wp_val (v := .int .i64 n2) (w' := W) (by simp [execOp, Act.eval, h35, go_sem, m2]) (hK _ _ hG (Below.refl _ _) rfl (fun h => by cases h))
        · refine stepJ_any rfl fun ac W hAA hG hDD K hK => ?_
          have h32 := hDD.get 12 32 _ rfl rfl (by kernel_rfl)
          have h36 := hDD.get 16 36 _ rfl rfl (by kernel_rfl)
          have hgd := hDD.get 8 28 _ rfl rfl (by kernel_rfl)
          have hgd := slot_bool hgd
          simp only [Array.getD_eq_getD_getElem?] at h32 h36
          rw [if_pos (by simp [Region.wanted, yielded, hgd])]
          exact wp_val (v := .bool false) (w' := W) (by simp [execOp, Act.eval, h32, h36, go_sem, gn]) (hK _ _ hG (Below.refl _ _) rfl (fun h => by cases h))
        · refine stepJ_any rfl fun ac W hAA hG hDD K hK => ?_
          have h28 := hDD.get 8 28 _ rfl rfl (by kernel_rfl)
          have h37 := hDD.get 17 37 _ rfl rfl (by kernel_rfl)
          simp only [Array.getD_eq_getD_getElem?] at h28 h37
          rw [if_pos (by rfl)]
          exact wp_val (v := .bool false) (w' := W) (by simp [execOp, Act.eval, h28, h37, go_sem]) (hK _ _ hG (Below.refl _ _) rfl (fun h => by cases h))
      intro fu T W9 hG hF hne hltb
      have e20 : T 20 = .slice (some ⟨b1, o1, none⟩) la.length ca := hF 0 _ rfl (by omega)
      have e21 : T 21 = .int .i64 (la.length : Nat) := hF 1 _ rfl (by omega)
      have e22 : T 22 = .bool true := hF 2 _ rfl (by omega)
      have e23 : T 23 = .bool true := hF 3 _ rfl (by omega)
      have e24 : T 24 = .slice (some ⟨b2, o2, none⟩) lb.length cb := hF 4 _ rfl (by omega)
      have e25 : T 25 = .int .i64 (lb.length : Nat) := hF 5 _ rfl (by omega)
      have e26 : T 26 = .bool true := hF 6 _ rfl (by omega)
      have e27 : T 27 = .bool true := hF 7 _ rfl (by omega)
      have e28 : T 28 = .bool true := hF 8 _ rfl (by omega)
      have e29 : T 29 = .slice (some ⟨b1, o1, none⟩) la.length ca := hF 9 _ rfl (by omega)
      have e30 : T 30 = .pointer (some ⟨b1, o1, none⟩) := hF 10 _ rfl (by omega)
      have e31 : T 31 = .pointer (some ⟨b1, o1, none⟩) := hF 11 _ rfl (by omega)
      have e32 : T 32 = .int .i64 n1 := hF 12 _ rfl (by omega)
      have e33 : T 33 = .slice (some ⟨b2, o2, none⟩) lb.length cb := hF 13 _ rfl (by omega)
      have e34 : T 34 = .pointer (some ⟨b2, o2, none⟩) := hF 14 _ rfl (by omega)
      have e35 : T 35 = .pointer (some ⟨b2, o2, none⟩) := hF 15 _ rfl (by omega)
      have e36 : T 36 = .int .i64 n2 := hF 16 _ rfl (by omega)
      have e37 : T 37 = .bool false := hF 17 _ rfl (by omega)
      have e38 : T 38 = .bool false := hF 18 _ rfl (by omega)
      clear hF hne hltb
      simp only [List.take, fillT, List.setIfInBounds_toArray, List.set_cons_zero, List.set_cons_succ, e20, e21, e22, e23, e24, e25, e26, e27, e28, e29, e30, e31, e32, e33, e34, e35, e36, e37, e38]
      clear e20 e21 e22 e23 e24 e25 e26 e27 e28 e29 e30 e31 e32 e33 e34 e35 e36 e37 e38
      refine wpAny_done (by kernel_rfl) ?_ _
      replace hB := Lib.hid (hB.out.trans (hG.mono hB.out.size))
      clear hG hc1 hc2 gn p1 p2
      go_wp2_with fail
      go_loopw [9] (fun i wr => ∃ k : Nat, i = .int .i64 (k : Int) ∧ k ≤ partN la lb ∧ Hid (Below w.heap.size w wr) ∧ Hid (∀ j, j < k → difAt la lb j = false)) (fun i _ => partN la lb - (intOf i).toNat)
      case atStart => exact ⟨0, rfl, by omega, hB, fun j hj => by omega⟩
      case round =>
        obtain ⟨k, rfl, hk, hb, hno⟩ := hrel
        by_cases hkl : k < partN la lb
        · have k1 : k < la.length := by unfold partN at hkl; omega
          have k2 : k < lb.length := by unfold partN at hkl; omega
          obtain ⟨c1, p1, da, dc, hA, hb1B, hr1, hD1⟩ := (hQa.out.lift hb.out hb.out.size).at_ k1
          obtain ⟨c2, p2, da', dc', hA2, hb2B, hr2, hD2⟩ := (hQb.out.lift hb.out hb.out.size).at_ k2
          injection hA with hA
          injection hA with e1 e2
          injection hA2 with hA2
          injection hA2 with e3 e4
          subst e1 e2 e3 e4
          have hfx := (hQa.out.fine la[k] (List.getElem_mem k1)).prev
          have hfy := (hQb.out.fine lb[k] (List.getElem_mem k2)).prev
          have hdif := difAt_eq k1 k2
          have i0 : (0 : Int) ≤ k := by omega
          have i1 : (k : Int) < la.length := by omega
          have i2 : (k : Int) < lb.length := by omega
          have hx : Hid (∀ W, Below wr.heap.size wr W → W.rangeAt b1 (o1 + k * 35) (LW la[k] da dc)) := fun W hW j v hv => (hW.cell (p := ⟨b1, o1 + k * 35 + j, none⟩) hb1B).trans (hr1 j v hv)
          have hy : Hid (∀ W, Below wr.heap.size wr W → W.rangeAt b2 (o2 + k * 35) (LW lb[k] da' dc')) := fun W hW j v hv => (hW.cell (p := ⟨b2, o2 + k * 35 + j, none⟩) hb2B).trans (hr2 j v hv)
          have hsx := Lib.hid (LW_info (a := da) (c := dc) hfx)
          have hsy := Lib.hid (LW_info (a := da') (c := dc') hfy)
          have hSl : Hid (∀ W, Below wr.heap.size wr W → Calls Tryd.prog 18 #[.agg (LW la[k] da dc).toArray, .agg (LW lb[k] da' dc').toArray] W fun e w' => e = .returned (.bool (!difAt la lb k)) ∧ Below W.heap.size W w') := fun W hW => by
            have := SameLink_any la[k] lb[k] hfx hfy W da da' dc dc' (hD1.read.lift hW hW.size) (hD2.read.lift hW hW.size)
            rwa [hdif, Bool.not_not]
          clear hr1 hr2 hD1 hD2 hfx hfy hdif hb1B hb2B
          generalize la[k] = x at *
          generalize lb[k] = y at *
          cases hdk : difAt la lb k with
          | true =>
            rw [hdk] at hSl
            have hf : Hid (firstD la lb (partN la lb) = some k) := firstD_some hkl hno.out hdk
            go_wp2_with fail
            refine wp_region_pre 10 0 (fun W => Below wr.heap.size wr W) (fun W W' => Below W.heap.size W W')
              (fun i v W => match i with
                | 0 => v = .slice (some ⟨b1, o1, none⟩) la.length ca
                | 1 => v = .int .i64 (k : Int)
                | 2 => v = .pointer (some ⟨b1, o1 + k * 35, none⟩)
                | 3 => v = .agg (LW x da dc).toArray
                | 4 => v = .slice (some ⟨b2, o2, none⟩) lb.length cb
                | 5 => v = .int .i64 (k : Int)
                | 6 => v = .pointer (some ⟨b2, o2 + k * 35, none⟩)
                | 7 => v = .agg (LW y da' dc').toArray
                | 8 => v = .bool false
                | 9 => v = .bool true
                | _ => True) (fun _ => false)
              (by kernel_rfl) (by kernel_rfl) (by kernel_rfl) (by kernel_rfl) (by kernel_rfl) (by kernel_rfl) (by kernel_rfl) ?_ (fun _ _ h => h.size) (dN (Below.refl _ _) 1) ?_ ?_
            · intro i v W W' hb hF
              match i, hF with
              | 0, h => exact h
              | 1, h => exact h
              | 2, h => exact h
              | 3, h => exact h
              | 4, h => exact h
              | 5, h => exact h
              | 6, h => exact h
              | 7, h => exact h
              | 8, h => exact h
              | 9, h => exact h
              | _ + 10, _ => trivial
            · refine ⟨?_, ?_, ?_, ?_, ?_, ?_, ?_, ?_, ?_, ?_, trivial⟩
              · refine stepJ_any rfl fun ac W hAA hG hDD K hK => ?_
                have h0 := hAA.getD (t := 0) (by kernel_rfl)
                simp only [Array.getD_eq_getD_getElem?] at h0
                rw [if_pos (by rfl)]
                exact wp_val (v := .slice (some ⟨b1, o1, none⟩) la.length ca) (w' := W) (by simp [execOp, Act.eval, h0, go_sem]) (hK _ _ hG (Below.refl _ _) rfl (fun h => by cases h))
              · refine stepJ_any rfl fun ac W hAA hG hDD K hK => ?_
                have h9 := hAA.getD (t := 9) (by kernel_rfl)
                simp only [Array.getD_eq_getD_getElem?] at h9
                rw [if_pos (by rfl)]
                exact wp_val (v := .int .i64 (k : Int)) (w' := W) (by simp [execOp, Act.eval, h9, go_sem]) (hK _ _ hG (Below.refl _ _) rfl (fun h => by cases h))
              · refine stepJ_any rfl fun ac W hAA hG hDD K hK => ?_
                have h51 := hDD.get 0 51 _ rfl rfl (by kernel_rfl)
                have h52 := hDD.get 1 52 _ rfl rfl (by kernel_rfl)
                simp only [Array.getD_eq_getD_getElem?] at h51 h52
                rw [if_pos (by rfl)]
                exact wp_val (v := .pointer (some ⟨b1, o1 + k * 35, none⟩)) (w' := W) (by simp [execOp, Act.eval, h51, h52, go_sem, i0, i1]) (hK _ _ hG (Below.refl _ _) rfl (fun h => by cases h))
              · refine stepJ_any rfl fun ac W hAA hG hDD K hK => ?_
                have h53 := hDD.get 2 53 _ rfl rfl (by kernel_rfl)
                rw [if_pos (by rfl)]
                exact wp_load_mid 37 _ rfl b1 (o1 + k * 35) h53 (LW x da dc) _ (hx.out W hG) Tryd.underlying37 rfl hsx.out (hK _ _ hG (Below.refl _ _) rfl (fun h => by cases h))
              · refine stepJ_any rfl fun ac W hAA hG hDD K hK => ?_
                have h1 := hAA.getD (t := 1) (by kernel_rfl)
                simp only [Array.getD_eq_getD_getElem?] at h1
                rw [if_pos (by rfl)]
                exact wp_val (v := .slice (some ⟨b2, o2, none⟩) lb.length cb) (w' := W) (by simp [execOp, Act.eval, h1, go_sem]) (hK _ _ hG (Below.refl _ _) rfl (fun h => by cases h))
              · refine stepJ_any rfl fun ac W hAA hG hDD K hK => ?_
                have h9 := hAA.getD (t := 9) (by kernel_rfl)
                simp only [Array.getD_eq_getD_getElem?] at h9
                rw [if_pos (by rfl)]
                exact wp_val (v := .int .i64 (k : Int)) (w' := W) (by simp [execOp, Act.eval, h9, go_sem]) (hK _ _ hG (Below.refl _ _) rfl (fun h => by cases h))
              · refine stepJ_any rfl fun ac W hAA hG hDD K hK => ?_
                have h55 := hDD.get 4 55 _ rfl rfl (by kernel_rfl)
                have h56 := hDD.get 5 56 _ rfl rfl (by kernel_rfl)
                simp only [Array.getD_eq_getD_getElem?] at h55 h56
                rw [if_pos (by rfl)]
                exact wp_val (v := .pointer (some ⟨b2, o2 + k * 35, none⟩)) (w' := W) (by simp [execOp, Act.eval, h55, h56, go_sem, i0, i2]) (hK _ _ hG (Below.refl _ _) rfl (fun h => by cases h))
              · refine stepJ_any rfl fun ac W hAA hG hDD K hK => ?_
                have h57 := hDD.get 6 57 _ rfl rfl (by kernel_rfl)
                rw [if_pos (by rfl)]
                exact wp_load_mid 37 _ rfl b2 (o2 + k * 35) h57 (LW y da' dc') _ (hy.out W hG) Tryd.underlying37 rfl hsy.out (hK _ _ hG (Below.refl _ _) rfl (fun h => by cases h))
              · refine stepJ_any rfl fun ac W hAA hG hDD K hK => ?_
                have h54 := hDD.get 3 54 _ rfl rfl (by kernel_rfl)
                have h58 := hDD.get 7 58 _ rfl rfl (by kernel_rfl)
                simp only [Array.getD_eq_getD_getElem?] at h54 h58
                rw [if_pos (by rfl)]
                refine wp_call (f := 18) (args := #[.agg (LW x da dc).toArray, .agg (LW y da' dc').toArray]) (by simp [execOp, Act.eval, h54, h58, go_sem]) ((hSl.out W hG).mono fun e W9 he => ?_)
                obtain ⟨rfl, hbw⟩ := he
                exact hK _ _ (hG.trans (hbw.mono hG.size)) hbw rfl (fun h => by cases h)
              · refine stepJ_any rfl fun ac W hAA hG hDD K hK => ?_
                have h59 := hDD.get 8 59 _ rfl rfl (by kernel_rfl)
                simp only [Array.getD_eq_getD_getElem?] at h59
                rw [if_pos (by rfl)]
                exact wp_val (v := .bool true) (w' := W) (by simp [execOp, Act.eval, h59, go_sem]) (hK _ _ hG (Below.refl _ _) rfl (fun h => by cases h))
            intro fu T W9 hG hF hne hltb
            have e51 : T 51 = .slice (some ⟨b1, o1, none⟩) la.length ca := hF 0 _ rfl (by omega)
            have e52 : T 52 = .int .i64 (k : Int) := hF 1 _ rfl (by omega)
            have e53 : T 53 = .pointer (some ⟨b1, o1 + k * 35, none⟩) := hF 2 _ rfl (by omega)
            have e54 : T 54 = .agg (LW x da dc).toArray := hF 3 _ rfl (by omega)
            have e55 : T 55 = .slice (some ⟨b2, o2, none⟩) lb.length cb := hF 4 _ rfl (by omega)
            have e56 : T 56 = .int .i64 (k : Int) := hF 5 _ rfl (by omega)
            have e57 : T 57 = .pointer (some ⟨b2, o2 + k * 35, none⟩) := hF 6 _ rfl (by omega)
            have e58 : T 58 = .agg (LW y da' dc').toArray := hF 7 _ rfl (by omega)
            have e59 : T 59 = .bool false := hF 8 _ rfl (by omega)
            have e60 : T 60 = .bool true := hF 9 _ rfl (by omega)
            clear hF hne hltb
            simp only [List.take, fillT, List.setIfInBounds_toArray, List.set_cons_zero, List.set_cons_succ, e51, e52, e53, e54, e55, e56, e57, e58, e59, e60]
            clear e51 e52 e53 e54 e55 e56 e57 e58 e59 e60
            refine wpAny_done (by kernel_rfl) ?_ _
            have hb2 := Lib.hid (hb.out.trans (hG.mono hb.out.size))
            clear hG hx hy hSl
            go_wp2_with fail
            go_ret3
            exact ⟨by rw [hpv.out, hf.out]; rfl, hb2.out⟩
          | false =>
            rw [hdk] at hSl
            go_wp2_with fail
            refine wp_region_pre 10 0 (fun W => Below wr.heap.size wr W) (fun W W' => Below W.heap.size W W')
              (fun i v W => match i with
                | 0 => v = .slice (some ⟨b1, o1, none⟩) la.length ca
                | 1 => v = .int .i64 (k : Int)
                | 2 => v = .pointer (some ⟨b1, o1 + k * 35, none⟩)
                | 3 => v = .agg (LW x da dc).toArray
                | 4 => v = .slice (some ⟨b2, o2, none⟩) lb.length cb
                | 5 => v = .int .i64 (k : Int)
                | 6 => v = .pointer (some ⟨b2, o2 + k * 35, none⟩)
                | 7 => v = .agg (LW y da' dc').toArray
                | 8 => v = .bool true
                | 9 => v = .bool false
                | _ => True) (fun _ => false)
              (by kernel_rfl) (by kernel_rfl) (by kernel_rfl) (by kernel_rfl) (by kernel_rfl) (by kernel_rfl) (by kernel_rfl) ?_ (fun _ _ h => h.size) (dN (Below.refl _ _) 1) ?_ ?_
            · intro i v W W' hb hF
              match i, hF with
              | 0, h => exact h
              | 1, h => exact h
              | 2, h => exact h
              | 3, h => exact h
              | 4, h => exact h
              | 5, h => exact h
              | 6, h => exact h
              | 7, h => exact h
              | 8, h => exact h
              | 9, h => exact h
              | _ + 10, _ => trivial
            · refine ⟨?_, ?_, ?_, ?_, ?_, ?_, ?_, ?_, ?_, ?_, trivial⟩
              · refine stepJ_any rfl fun ac W hAA hG hDD K hK => ?_
                have h0 := hAA.getD (t := 0) (by kernel_rfl)
                simp only [Array.getD_eq_getD_getElem?] at h0
                rw [if_pos (by rfl)]
                exact wp_val (v := .slice (some ⟨b1, o1, none⟩) la.length ca) (w' := W) (by simp [execOp, Act.eval, h0, go_sem]) (hK _ _ hG (Below.refl _ _) rfl (fun h => by cases h))
              · refine stepJ_any rfl fun ac W hAA hG hDD K hK => ?_
                have h9 := hAA.getD (t := 9) (by kernel_rfl)
                simp only [Array.getD_eq_getD_getElem?] at h9
                rw [if_pos (by rfl)]
                exact wp_val (v := .int .i64 (k : Int)) (w' := W) (by simp [execOp, Act.eval, h9, go_sem]) (hK _ _ hG (Below.refl _ _) rfl (fun h => by cases h))
              · refine stepJ_any rfl fun ac W hAA hG hDD K hK => ?_
                have h51 := hDD.get 0 51 _ rfl rfl (by kernel_rfl)
                have h52 := hDD.get 1 52 _ rfl rfl (by kernel_rfl)
                simp only [Array.getD_eq_getD_getElem?] at h51 h52
                rw [if_pos (by rfl)]
                exact wp_val (v := .pointer (some ⟨b1, o1 + k * 35, none⟩)) (w' := W) (by simp [execOp, Act.eval, h51, h52, go_sem, i0, i1]) (hK _ _ hG (Below.refl _ _) rfl (fun h => by cases h))
              · refine stepJ_any rfl fun ac W hAA hG hDD K hK => ?_
                have h53 := hDD.get 2 53 _ rfl rfl (by kernel_rfl)
                rw [if_pos (by rfl)]
                exact wp_load_mid 37 _ rfl b1 (o1 + k * 35) h53 (LW x da dc) _ (hx.out W hG) Tryd.underlying37 rfl hsx.out (hK _ _ hG (Below.refl _ _) rfl (fun h => by cases h))
              · refine stepJ_any rfl fun ac W hAA hG hDD K hK => ?_
                have h1 := hAA.getD (t := 1) (by kernel_rfl)
                simp only [Array.getD_eq_getD_getElem?] at h1
                rw [if_pos (by rfl)]
                exact wp_val (v := .slice (some ⟨b2, o2, none⟩) lb.length cb) (w' := W) (by simp [execOp, Act.eval, h1, go_sem]) (hK _ _ hG (Below.refl _ _) rfl (fun h => by cases h))
              · refine stepJ_any rfl fun ac W hAA hG hDD K hK => ?_
                have h9 := hAA.getD (t := 9) (by kernel_rfl)
                simp only [Array.getD_eq_getD_getElem?] at h9
                rw [if_pos (by rfl)]
                exact wp_val (v := .int .i64 (k : Int)) (w' := W) (by simp [execOp, Act.eval, h9, go_sem]) (hK _ _ hG (Below.refl _ _) rfl (fun h => by cases h))
              · refine stepJ_any rfl fun ac W hAA hG hDD K hK => ?_
                have h55 := hDD.get 4 55 _ rfl rfl (by kernel_rfl)
                have h56 := hDD.get 5 56 _ rfl rfl (by kernel_rfl)
                simp only [Array.getD_eq_getD_getElem?] at h55 h56
                rw [if_pos (by rfl)]
                exact wp_val (v := .pointer (some ⟨b2, o2 + k * 35, none⟩)) (w' := W) (by simp [execOp, Act.eval, h55, h56, go_sem, i0, i2]) (hK _ _ hG (Below.refl _ _) rfl (fun h => by cases h))
              · refine stepJ_any rfl fun ac W hAA hG hDD K hK => ?_
                have h57 := hDD.get 6 57 _ rfl rfl (by kernel_rfl)
                rw [if_pos (by rfl)]
                exact wp_load_mid 37 _ rfl b2 (o2 + k * 35) h57 (LW y da' dc') _ (hy.out W hG) Tryd.underlying37 rfl hsy.out (hK _ _ hG (Below.refl _ _) rfl (fun h => by cases h))
              · refine stepJ_any rfl fun ac W hAA hG hDD K hK => ?_
                have h54 := hDD.get 3 54 _ rfl rfl (by kernel_rfl)
                have h58 := hDD.get 7 58 _ rfl rfl (by kernel_rfl)
                simp only [Array.getD_eq_getD_getElem?] at h54 h58
                rw [if_pos (by rfl)]
                refine wp_call (f := 18) (args := #[.agg (LW x da dc).toArray, .agg (LW y da' dc').toArray]) (by simp [execOp, Act.eval, h54, h58, go_sem]) ((hSl.out W hG).mono fun e W9 he => ?_)
                obtain ⟨rfl, hbw⟩ := he
                exact hK _ _ (hG.trans (hbw.mono hG.size)) hbw rfl (fun h => by cases h)
              · refine stepJ_any rfl fun ac W hAA hG hDD K hK => ?_
                have h59 := hDD.get 8 59 _ rfl rfl (by kernel_rfl)
                simp only [Array.getD_eq_getD_getElem?] at h59
                rw [if_pos (by rfl)]
                exact wp_val (v := .bool false) (w' := W) (by simp [execOp, Act.eval, h59, go_sem]) (hK _ _ hG (Below.refl _ _) rfl (fun h => by cases h))
            intro fu T W9 hG hF hne hltb
            have e51 : T 51 = .slice (some ⟨b1, o1, none⟩) la.length ca := hF 0 _ rfl (by omega)
            have e52 : T 52 = .int .i64 (k : Int) := hF 1 _ rfl (by omega)
            have e53 : T 53 = .pointer (some ⟨b1, o1 + k * 35, none⟩) := hF 2 _ rfl (by omega)
            have e54 : T 54 = .agg (LW x da dc).toArray := hF 3 _ rfl (by omega)
            have e55 : T 55 = .slice (some ⟨b2, o2, none⟩) lb.length cb := hF 4 _ rfl (by omega)
            have e56 : T 56 = .int .i64 (k : Int) := hF 5 _ rfl (by omega)
            have e57 : T 57 = .pointer (some ⟨b2, o2 + k * 35, none⟩) := hF 6 _ rfl (by omega)
            have e58 : T 58 = .agg (LW y da' dc').toArray := hF 7 _ rfl (by omega)
            have e59 : T 59 = .bool true := hF 8 _ rfl (by omega)
            have e60 : T 60 = .bool false := hF 9 _ rfl (by omega)
            clear hF hne hltb
            simp only [List.take, fillT, List.setIfInBounds_toArray, List.set_cons_zero, List.set_cons_succ, e51, e52, e53, e54, e55, e56, e57, e58, e59, e60]
            clear e51 e52 e53 e54 e55 e56 e57 e58 e59 e60
            refine wpAny_done (by kernel_rfl) ?_ _
            have hb2 := Lib.hid (hb.out.trans (hG.mono hb.out.size))
            clear hG hx hy hSl
            go_wp2_with fail
            go_roundw
            case rel => exact ⟨k + 1, by go_num, by omega, hb2, fun j hj => by
              by_cases e : j = k
              · rw [e]; exact hdk
              · exact hno.out j (by omega)⟩
            case measure => simp [intOf]; omega
        · obtain rfl : k = partN la lb := by omega
          have hf : Hid (firstD la lb (partN la lb) = none) := firstD_none hno.out
          have hend : ¬ ((partN la lb : Int) < la.length) ∨ ¬ ((partN la lb : Int) < lb.length) := by unfold partN; omega
          by_cases e1 : (partN la lb : Int) < la.length
          · have e2 : ¬ ((partN la lb : Int) < lb.length) := hend.resolve_left (fun h => h e1)
            have e1b : decide ((partN la lb : Int) < la.length) = true := decide_eq_true e1
            have e2b : decide ((partN la lb : Int) < lb.length) = false := decide_eq_false e2
            clear hend
            go_wp2_with fail
            go_ret3
            exact ⟨by rw [hpv.out, hf.out]; rfl, hb.out⟩
          · have e1b : decide ((partN la lb : Int) < la.length) = false := decide_eq_false e1
            clear hend
            go_wp2_with fail
            go_ret3
            exact ⟨by rw [hpv.out, hf.out]; rfl, hb.out⟩
end
section
open Go.RowKit

theorem partV_form (la lb : List Lk) : ∃ p q e, partV la lb = #[.int .i64 p, .bool q, .int .i64 e] := by
  unfold partV
  split
  · split
    · split
      · exact ⟨_, _, _, rfl⟩
      · cases firstD la lb (partN la lb) with
        | none => exact ⟨_, _, _, rfl⟩
        | some i => exact ⟨_, _, _, rfl⟩
    · exact ⟨_, _, _, rfl⟩
  · exact ⟨_, _, _, rfl⟩
theorem sameLs_self (l : List Lk) : sameLs l l = true := by
  unfold sameLs
  rw [firstD_none (fun i hi => by rw [difAt_eq hi hi]; simp [sameL])]
  simp
theorem addL_len (l : List Lk) (node : Int) (d : List UInt8) : (addL l node d).length ≤ l.length + 1 := by
  unfold addL
  split <;> simp

set_option maxRecDepth 100000 in
set_option maxHeartbeats 4000000 in
theorem add_law (la lb : List Lk) (node : Int) (hn : I64 node) (d : List UInt8) (w : World) (a B A : Option Addr) (ca cb c : Nat) (hQa : QL w w.heap.size la a ca) (hQb : QL w w.heap.size lb B cb)
    (hR : RBs w w.heap.size A d) (hA : A = none → d = []) (hdc : d.length ≤ c) (hcm : c ≤ 9223372036854775807) (hKT : KT w) (h0 : 0 < w.heap.size) :
    Calls Tryd.prog 3 #[.slice a la.length ca, .slice B lb.length cb, .int .i64 node, .slice A d.length c] w fun e w' => e = .returned (.bool true) ∧ Below w.heap.size w w' := by
  replace hQa := Lib.hid hQa
  replace hQb := Lib.hid hQb
  replace hR := Lib.hid hR
  have hK : Hid (∀ W, Below w.heap.size w W → KT W ∧ 0 < W.heap.size) := fun W hW => ⟨hKT.below hW h0, Nat.lt_of_lt_of_le h0 hW.size⟩
  have hS0 := Lib.hid (sane_any w hKT h0)
  clear hKT h0
  go_enter Tryd.func3, Tryd.ntmps3
  go_wp2_with fail
  refine hS0.out.mono ?_
  rintro e w1 ⟨rfl, hb1⟩
  have hB := Lib.hid hb1
  clear hS0 hb1
  go_wp2_with fail
  refine (Few_any la w1 a ca (hQa.out.lift hB.out hB.out.size)).mono ?_
  rintro e w2 ⟨rfl, hb2⟩
  replace hB := Lib.hid (hB.out.trans (hb2.mono hB.out.size))
  clear hb2
  rcases Bool.eq_false_or_eq_true (fewP la) with f1 | f1
  case inr =>
    rw [f1]
    go_wp2_with fail
    go_ret
    exact ⟨rfl, hB.out⟩
  rw [f1]
  replace f1 := Lib.hid f1
  go_wp2_with fail
  refine (Few_any lb w2 B cb (hQb.out.lift hB.out hB.out.size)).mono ?_
  rintro e w3 ⟨rfl, hb3⟩
  replace hB := Lib.hid (hB.out.trans (hb3.mono hB.out.size))
  clear hb3
  rcases Bool.eq_false_or_eq_true (fewP lb) with f2 | f2
  case inr =>
    rw [f2]
    go_wp2_with fail
    go_ret
    exact ⟨rfl, hB.out⟩
  rw [f2]
  replace f2 := Lib.hid f2
  have hla := few_len f1.out
  have hlb := few_len f2.out
  have hA1 : Hid (∀ W, Below w.heap.size w W → Calls Tryd.prog 10 #[.slice a la.length ca, .int .i64 node, .slice A d.length c] W fun e w' => (∃ v, e = .returned (.tuple #[v, .int .i64 (addE la node d.length)]) ∧ GL w' v (addL la node d)) ∧ Below W.heap.size W w') := fun W hW => Add_any la (few_short f1.out) (by omega) node hn d W a A ca c (hQa.out.lift hW hW.size) (hR.out.lift hW hW.size) (hK.out W hW).1 (hK.out W hW).2
  have hA2 : Hid (∀ W, Below w.heap.size w W → Calls Tryd.prog 11 #[.slice a la.length ca, .int .i64 node, .slice A d.length c] W fun e w' => (∃ v, e = .returned (.tuple #[v, .int .i64 (addE la node d.length)]) ∧ GL w' v (addL la node d)) ∧ Below W.heap.size W w') := fun W hW => rAdd_any la (few_short f1.out) (by omega) node hn d W a A ca c (hQa.out.lift hW hW.size) (hR.out.lift hW hW.size) hA hdc hcm
  have hP1 : Hid (∀ W, Below w.heap.size w W → Calls Tryd.prog 12 #[.slice a la.length ca, .slice B lb.length cb] W fun e w' => e = .returned (.tuple (partV la lb)) ∧ Below W.heap.size W w') := fun W hW => Part_any la lb (few_short f1.out) (few_short f2.out) (by omega) (by omega) W a B ca cb (hQa.out.lift hW hW.size) (hQb.out.lift hW hW.size) (hK.out W hW).1 (hK.out W hW).2
  have hP2 : Hid (∀ W, Below w.heap.size w W → Calls Tryd.prog 13 #[.slice a la.length ca, .slice B lb.length cb] W fun e w' => e = .returned (.tuple (partV la lb)) ∧ Below W.heap.size W w') := fun W hW => rPart_any la lb (few_short f1.out) (few_short f2.out) (by omega) (by omega) W a B ca cb (hQa.out.lift hW hW.size) (hQb.out.lift hW hW.size)
  have hL17 : (addL la node d).length ≤ 1000000 := by have := addL_len la node d; omega
  obtain ⟨p, q, e0, hpv⟩ := partV_form la lb
  rw [hpv] at hP1 hP2
  have hS : Hid (∀ W a' b' c' d', Below w.heap.size w W → QL W W.heap.size (addL la node d) a' c' → QL W W.heap.size (addL la node d) b' d' → Calls Tryd.prog 14 #[.slice a' (addL la node d).length c', .slice b' (addL la node d).length d'] W fun e w' => e = .returned (.bool true) ∧ Below W.heap.size W w') := fun W a' b' c' d' _ h1 h2 => by
    have := Same_any _ _ hL17 W a' b' c' d' h1 h2
    rwa [sameLs_self] at this
  clear hpv f1 f2 hK hQa hQb hR hA hdc hcm hL17 hla hlb
  generalize addE la node d.length = ev at *
  generalize addL la node d = L at *
  generalize la.length = n1 at *
  generalize lb.length = n2 at *
  generalize hdn : d.length = n3 at *
  by_cases hd1 : (300 : Int) < n3
  case pos =>
    by_cases hd2 : (n3 : Int) ≤ 65536
    case pos =>
      go_wp2_with fail
      go_ret
      exact ⟨rfl, hB.out⟩
    go_wp2_with fail
    clear hd1 hd2
    refine (hA1.out _ hB.out).mono ?_
    rintro e w4 ⟨⟨v1, rfl, a1, c1, rfl, q1⟩, hb4⟩
    replace hB := Lib.hid (hB.out.trans (hb4.mono hB.out.size))
    replace q1 := Lib.hid q1
    clear hb4 hA1
    go_wp2_with fail
    refine (hA2.out _ hB.out).mono ?_
    rintro e w5 ⟨⟨v2, rfl, a2, c2, rfl, q2⟩, hb5⟩
    replace hB := Lib.hid (hB.out.trans (hb5.mono hB.out.size))
    replace q1 := Lib.hid (q1.out.lift hb5 hb5.size)
    replace q2 := Lib.hid q2
    clear hb5 hA2
    go_wp2_with fail
    refine (hP1.out _ hB.out).mono ?_
    rintro e w6 ⟨rfl, hb6⟩
    replace hB := Lib.hid (hB.out.trans (hb6.mono hB.out.size))
    replace q1 := Lib.hid (q1.out.lift hb6 hb6.size)
    replace q2 := Lib.hid (q2.out.lift hb6 hb6.size)
    clear hb6 hP1
    go_wp2_with fail
    refine (hP2.out _ hB.out).mono ?_
    rintro e w7 ⟨rfl, hb7⟩
    replace hB := Lib.hid (hB.out.trans (hb7.mono hB.out.size))
    replace q1 := Lib.hid (q1.out.lift hb7 hb7.size)
    replace q2 := Lib.hid (q2.out.lift hb7 hb7.size)
    clear hb7 hP2
    go_wp2_with fail
    refine (hS.out _ _ _ _ _ hB.out q1.out q2.out).mono ?_
    rintro e w8 ⟨rfl, hb8⟩
    replace hB := Lib.hid (hB.out.trans (hb8.mono hB.out.size))
    clear hb8 hS q1 q2
    go_wp2_with fail
    go_ret
    exact ⟨rfl, hB.out⟩
  go_wp2_with fail
  clear hd1
  refine (hA1.out _ hB.out).mono ?_
  rintro e w4 ⟨⟨v1, rfl, a1, c1, rfl, q1⟩, hb4⟩
  replace hB := Lib.hid (hB.out.trans (hb4.mono hB.out.size))
  replace q1 := Lib.hid q1
  clear hb4 hA1
  go_wp2_with fail
  refine (hA2.out _ hB.out).mono ?_
  rintro e w5 ⟨⟨v2, rfl, a2, c2, rfl, q2⟩, hb5⟩
  replace hB := Lib.hid (hB.out.trans (hb5.mono hB.out.size))
  replace q1 := Lib.hid (q1.out.lift hb5 hb5.size)
  replace q2 := Lib.hid q2
  clear hb5 hA2
  go_wp2_with fail
  refine (hP1.out _ hB.out).mono ?_
  rintro e w6 ⟨rfl, hb6⟩
  replace hB := Lib.hid (hB.out.trans (hb6.mono hB.out.size))
  replace q1 := Lib.hid (q1.out.lift hb6 hb6.size)
  replace q2 := Lib.hid (q2.out.lift hb6 hb6.size)
  clear hb6 hP1
  go_wp2_with fail
  refine (hP2.out _ hB.out).mono ?_
  rintro e w7 ⟨rfl, hb7⟩
  replace hB := Lib.hid (hB.out.trans (hb7.mono hB.out.size))
  replace q1 := Lib.hid (q1.out.lift hb7 hb7.size)
  replace q2 := Lib.hid (q2.out.lift hb7 hb7.size)
  clear hb7 hP2
  go_wp2_with fail
  refine (hS.out _ _ _ _ _ hB.out q1.out q2.out).mono ?_
  rintro e w8 ⟨rfl, hb8⟩
  replace hB := Lib.hid (hB.out.trans (hb8.mono hB.out.size))
  clear hb8 hS q1 q2
  go_wp2_with fail
  go_ret
  exact ⟨rfl, hB.out⟩
end
section
open Go.ChangeShapes Go.WideShapes Go.ChangeAt Go.RowKit Go.Deep

set_option maxRecDepth 100000 in
theorem openBy {H : Type} {enc : TypeId × Value → H} {sp : Nat → Bool} {r : Reach} {b0 : Nat} {W : World} {v : Value} {x : DataW H} {p : List MemPlace} (hv : Value.okWide Tryd.prog W r b0 23 v)
    (h : DataW.Trod enc Tryd.prog W 0 sp true 23 v x p) : ∃ (A : Option Addr) (bs : List UInt8) (cap : Nat), v = .slice A bs.length cap ∧ bs.length ≤ cap ∧ cap ≤ 9223372036854775807 ∧ (A = none → bs = []) ∧ RBs W W.heap.size A bs := by
  have hc := okWide_sliceV Tryd.underlying23 hv
  obtain ⟨n, hn⟩ := h
  obtain ⟨A, bs, cap, e, h1, h2, h3, h4⟩ := raw_bytes hn
  rw [hc] at e
  simp only [List.cons.injEq, and_true] at e
  exact ⟨A, bs, cap, e, h1, h2, h3, h4⟩
end
end Go.Proofs.YtbhpmeljmkoebaaDoor
