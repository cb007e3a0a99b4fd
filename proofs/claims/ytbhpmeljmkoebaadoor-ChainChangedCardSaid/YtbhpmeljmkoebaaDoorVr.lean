/- clash; ChainEqual. -/
import Derived.Test.YtbhpmeljmkoebaaDoorVp
import Derived.Test.YtbhpmeljmkoebaaDoorVm
namespace Go.Proofs.YtbhpmeljmkoebaaDoor
open Go.RowKit

set_option maxRecDepth 100000 in
set_option maxHeartbeats 4000000 in
theorem clash_any (la lb ra rb : List Lk) (x y : Lk) (hla : la = ra ++ [x]) (hlb : lb = rb ++ [y]) (hsa : Short la) (hsb : Short lb) (hma : la.length ≤ 1000000) (hmb : lb.length ≤ 1000000) (w : World) (a B : Option Addr) (ca cb : Nat) (hQa : QL w w.heap.size la a ca) (hQb : QL w w.heap.size lb B cb) (hKT : KT w) (h0 : 0 < w.heap.size) :
    Calls Tryd.prog 17 #[.slice a la.length ca, .slice B lb.length cb] w fun e w' => e = .returned (.bool (clashP x y)) ∧ Below w.heap.size w w' := by
  have hTa := Lib.hid (Text_any la hsa (by omega) ra x hla w a ca hQa)
  have hTb : Hid (∀ W, Below w.heap.size w W → Calls Tryd.prog 33 #[.slice B lb.length cb] W fun e w' => (∃ v, e = .returned (.tuple #[.string linkB, v]) ∧ OB w' W.heap.size v (txtL y)) ∧ Below W.heap.size W w') := fun W hW => Text_any lb hsb (by omega) rb y hlb W B cb (hQb.lift hW hW.size)
  have hHa : Hid (∀ W, Below w.heap.size w W → Calls Tryd.prog 15 #[.slice a la.length ca] W fun e w' => e = .returned (.agg (BV (headX x)).toArray) ∧ Below W.heap.size W w') := fun W hW => by
    have := Head_any la hsa (by omega) W a ca (hQa.lift hW hW.size) (hKT.below hW h0) (Nat.lt_of_lt_of_le h0 hW.size)
    rwa [hla, headP_snoc, ← hla] at this
  have hHb : Hid (∀ W, Below w.heap.size w W → Calls Tryd.prog 15 #[.slice B lb.length cb] W fun e w' => e = .returned (.agg (BV (headX y)).toArray) ∧ Below W.heap.size W w') := fun W hW => by
    have := Head_any lb hsb (by omega) W B cb (hQb.lift hW hW.size) (hKT.below hW h0) (Nat.lt_of_lt_of_le h0 hW.size)
    rwa [hlb, headP_snoc, ← hlb] at this
  have heq := fun W => eq_digest (headX x) (headX y) (headX_len x) (headX_len y) W
  obtain ⟨r, hr⟩ : ∃ r, clashP x y = r := ⟨_, rfl⟩
  rw [hr]
  unfold clashP at hr
  clear hla hlb hsa hsb hma hmb hQa hQb hKT h0
  rcases Bool.eq_false_or_eq_true (txtL x == txtL y) with c1 | c1
  case inl =>
    obtain rfl : r = false := by rw [← hr, c1]; rfl
    have c2 : (txtL x != txtL y) = false := by rw [bne, c1]; rfl
    clear hr
    go_enter Tryd.func17, Tryd.ntmps17
    go_wp2_with fail
    refine hTa.out.mono ?_
    rintro e w1 ⟨⟨v1, rfl, ho1⟩, hb1⟩
    replace ho1 := Lib.hid ho1
    replace hb1 := Lib.hid hb1
    go_wp2_with fail
    refine (hTb.out _ hb1.out).mono ?_
    rintro e w2 ⟨⟨v2, rfl, ho2⟩, hb2⟩
    replace ho1 := ho1.out.below hb2
    replace hb1 := Lib.hid (hb1.out.trans (hb2.mono hb1.out.size))
    obtain ⟨a1, c1', rfl, -⟩ := ho1.form
    obtain ⟨a2, c2', rfl, -⟩ := ho2.form
    have cv1 := conv_str ho1.reads.1 (c := c1')
    have cv2 := conv_str ho2.reads.1 (c := c2')
    clear ho1 ho2 hb2 hTa hTb
    go_wp2_with fail
    go_ret
    exact ⟨rfl, hb1.out⟩
  have c2 : (txtL x != txtL y) = true := by rw [bne, c1]; rfl
  rw [c1, Bool.not_false, Bool.true_and] at hr
  rw [hr] at heq
  clear hr
  go_enter Tryd.func17, Tryd.ntmps17
  go_wp2_with fail
  refine hTa.out.mono ?_
  rintro e w1 ⟨⟨v1, rfl, ho1⟩, hb1⟩
  replace ho1 := Lib.hid ho1
  replace hb1 := Lib.hid hb1
  go_wp2_with fail
  refine (hTb.out _ hb1.out).mono ?_
  rintro e w2 ⟨⟨v2, rfl, ho2⟩, hb2⟩
  replace ho1 := ho1.out.below hb2
  replace hb1 := Lib.hid (hb1.out.trans (hb2.mono hb1.out.size))
  obtain ⟨a1, c1', rfl, -⟩ := ho1.form
  obtain ⟨a2, c2', rfl, -⟩ := ho2.form
  have cv1 := conv_str ho1.reads.1 (c := c1')
  have cv2 := conv_str ho2.reads.1 (c := c2')
  clear ho1 ho2 hb2 hTa hTb
  go_wp2_with fail
  refine (hHa.out _ hb1.out).mono ?_
  rintro e w3 ⟨rfl, hb3⟩
  replace hb1 := Lib.hid (hb1.out.trans (hb3.mono hb1.out.size))
  clear hb3 cv1 cv2 hHa
  go_wp2_with fail
  refine (hHb.out _ hb1.out).mono ?_
  rintro e w4 ⟨rfl, hb4⟩
  replace hb1 := Lib.hid (hb1.out.trans (hb4.mono hb1.out.size))
  clear hb4 hHb
  go_wp2_with fail
  go_ret
  exact ⟨rfl, hb1.out⟩

set_option maxRecDepth 100000 in
set_option maxHeartbeats 4000000 in
theorem equal_law (la lb : List Lk) (w : World) (a B : Option Addr) (ca cb : Nat) (hQa : QL w w.heap.size la a ca) (hQb : QL w w.heap.size lb B cb) (hKT : KT w) (h0 : 0 < w.heap.size) :
    Calls Tryd.prog 5 #[.slice a la.length ca, .slice B lb.length cb] w fun e w' => e = .returned (.bool true) ∧ Below w.heap.size w w' := by
  replace hQa := Lib.hid hQa
  replace hQb := Lib.hid hQb
  have hK : Hid (∀ W, Below w.heap.size w W → KT W ∧ 0 < W.heap.size) := fun W hW => ⟨hKT.below hW h0, Nat.lt_of_lt_of_le h0 hW.size⟩
  have hS0 := Lib.hid (sane_any w hKT h0)
  clear hKT h0
  go_enter Tryd.func5, Tryd.ntmps5
  go_wp2_with fail
  refine hS0.out.mono ?_
  rintro e w1 ⟨rfl, hb1⟩
  have hB := Lib.hid hb1
  clear hS0 hb1
  go_wp2_with fail
  refine (Few_any la w1 a ca (hQa.out.lift hB.out hB.out.size)).mono ?_
  rintro e w2 ⟨rfl, hb2⟩
  replace hB := Lib.hid (hB.out.trans (hb2.mono hB.out.size))
  clear hb2
  rcases Bool.eq_false_or_eq_true (fewP la) with f1 | f1
  case inr =>
    rw [f1]
    go_wp2_with fail
    go_ret
    exact ⟨rfl, hB.out⟩
  rw [f1]
  have hla := few_len f1
  have hsa : Hid (Short la) := few_short f1
  clear f1
  go_wp2_with fail
  refine (Few_any lb w2 B cb (hQb.out.lift hB.out hB.out.size)).mono ?_
  rintro e w3 ⟨rfl, hb3⟩
  replace hB := Lib.hid (hB.out.trans (hb3.mono hB.out.size))
  clear hb3
  rcases Bool.eq_false_or_eq_true (fewP lb) with f2 | f2
  case inr =>
    rw [f2]
    go_wp2_with fail
    go_ret
    exact ⟨rfl, hB.out⟩
  rw [f2]
  have hlb := few_len f2
  have hsb : Hid (Short lb) := few_short f2
  clear f2
  go_wp2_with fail
  refine (Check_any la hsa.out (by omega) w3 a ca (hQa.out.lift hB.out hB.out.size) (hK.out _ hB.out).1 (hK.out _ hB.out).2).mono ?_
  rintro e w4 ⟨rfl, hb4⟩
  replace hB := Lib.hid (hB.out.trans (hb4.mono hB.out.size))
  clear hb4
  rcases chk_cases la with c1 | c1
  case inr =>
    rw [c1]
    go_wp2_with fail
    go_ret
    exact ⟨rfl, hB.out⟩
  rw [c1]
  replace c1 := Lib.hid c1
  go_wp2_with fail
  refine (Check_any lb hsb.out (by omega) w4 B cb (hQb.out.lift hB.out hB.out.size) (hK.out _ hB.out).1 (hK.out _ hB.out).2).mono ?_
  rintro e w5 ⟨rfl, hb5⟩
  replace hB := Lib.hid (hB.out.trans (hb5.mono hB.out.size))
  clear hb5
  rcases chk_cases lb with c2 | c2
  case inr =>
    rw [c2]
    go_wp2_with fail
    go_ret
    exact ⟨rfl, hB.out⟩
  rw [c2]
  replace c2 := Lib.hid c2
  by_cases hlen : la.length = lb.length
  case neg =>
    have hne : ((la.length : Int) != (lb.length : Int)) = true := by simp; omega
    go_wp2_with fail
    go_ret
    exact ⟨rfl, hB.out⟩
  have hlenH := Lib.hid hlen
  rw [← hlen]
  clear hlen
  go_wp2_with fail
  refine (Head_any la hsa.out (by omega) w5 a ca (hQa.out.lift hB.out hB.out.size) (hK.out _ hB.out).1 (hK.out _ hB.out).2).mono ?_
  rintro e w6 ⟨rfl, hb6⟩
  replace hB := Lib.hid (hB.out.trans (hb6.mono hB.out.size))
  clear hb6
  have hHb := Lib.hid (Head_any lb hsb.out (by omega) w6 B cb (hQb.out.lift hB.out hB.out.size) (hK.out _ hB.out).1 (hK.out _ hB.out).2)
  rw [← hlenH.out] at hHb
  go_wp2_with fail
  refine hHb.out.mono ?_
  rintro e w7 ⟨rfl, hb7⟩
  replace hB := Lib.hid (hB.out.trans (hb7.mono hB.out.size))
  clear hb7 hHb
  have heq := fun W => eq_digest (headP la) (headP lb) (headP_len la) (headP_len lb) W
  rcases Bool.eq_false_or_eq_true (headP la == headP lb) with c3 | c3
  case inr =>
    simp only [c3] at heq
    go_wp2_with fail
    go_ret
    exact ⟨rfl, hB.out⟩
  simp only [c3] at heq
  replace c3 : Hid (headP la = headP lb) := by show _ = _; simpa using c3
  have hSm : Hid (Calls Tryd.prog 14 #[.slice a la.length ca, .slice B la.length cb] w7 fun e w' => e = .returned (.bool (sameLs la lb)) ∧ Below w7.heap.size w7 w') := by
    have := Same_any la lb (by omega) w7 a B ca cb (hQa.out.lift hB.out hB.out.size) (hQb.out.lift hB.out hB.out.size)
    rwa [← hlenH.out] at this
  go_wp2_with fail
  clear heq
  refine hSm.out.mono ?_
  rintro e w8 ⟨rfl, hb8⟩
  replace hB := Lib.hid (hB.out.trans (hb8.mono hB.out.size))
  clear hb8 hSm
  rcases Bool.eq_false_or_eq_true (sameLs la lb) with c4 | c4
  case inl =>
    rw [c4]
    go_wp2_with fail
    go_ret
    exact ⟨rfl, hB.out⟩
  rw [c4]
  have hne : Hid (la ≠ lb) := fun e => by rw [sameLs_iff.2 e] at c4; cases c4
  clear c4
  go_wp2_with fail
  go_loopw [5] (fun i wr => ∃ k : Nat, i = .int .i64 ((k : Int) + 1) ∧ k ≤ la.length ∧ Hid (Below w.heap.size w wr) ∧ Hid (∀ i (h1 : i < la.length) (h2 : i < lb.length), i < k → clashP la[i] lb[i] = false)) (fun i _ => la.length + 1 - (intOf i).toNat)
  case atStart => exact ⟨0, rfl, by omega, hB, fun i _ _ h => by omega⟩
  case round =>
    obtain ⟨k, rfl, hk, hb, hno⟩ := hrel
    by_cases hkl : k < la.length
    · have hkb : k < lb.length := by have := hlenH.out; omega
      have hkl1 : (k : Int) + 1 ≤ la.length := by omega
      have hs1 : Hid (∀ W, (Instr.slice 22 (.slice a la.length ca) none (some (.int .i64 ((k : Int) + 1))) none).run Tryd.prog W = .ok (.slice a (k + 1) ca) W) := fun W => by
        have h := slice_to a la.length ca (k + 1) (Nat.le_trans (by omega) hQa.out.1) W
        rw [show ((k + 1 : Nat) : Int) = (k : Int) + 1 by omega] at h
        exact h
      have hs2 : Hid (∀ W, (Instr.slice 22 (.slice B la.length cb) none (some (.int .i64 ((k : Int) + 1))) none).run Tryd.prog W = .ok (.slice B (k + 1) cb) W) := fun W => by
        have h := slice_to B la.length cb (k + 1) (Nat.le_trans (by omega) hQb.out.1) W
        rw [show ((k + 1 : Nat) : Int) = (k : Int) + 1 by omega] at h
        exact h
      have hcl : Hid (∀ W, Below wr.heap.size wr W → Calls Tryd.prog 17 #[.slice a (k + 1) ca, .slice B (k + 1) cb] W fun e w' => e = .returned (.bool (clashP la[k] lb[k])) ∧ Below W.heap.size W w') := fun W hW => by
        have hb' := hb.out.trans (hW.mono hb.out.size)
        have l1 : (la.take (k + 1)).length = k + 1 := by rw [List.length_take]; omega
        have l2 : (lb.take (k + 1)).length = k + 1 := by rw [List.length_take]; omega
        have := clash_any (la.take (k + 1)) (lb.take (k + 1)) (la.take k) (lb.take k) la[k] lb[k] (List.take_succ_eq_append_getElem hkl) (List.take_succ_eq_append_getElem hkb) (hsa.out.take _) (hsb.out.take _) (by omega) (by omega) W a B ca cb
          ((hQa.out.lift hb' hb'.size).cut (by omega) (Nat.le_trans (by omega) hQa.out.1) (Nat.le_refl _) id (.inl rfl)) ((hQb.out.lift hb' hb'.size).cut (by omega) (Nat.le_trans (by omega) hQb.out.1) (Nat.le_refl _) id (.inl rfl)) (hK.out _ hb').1 (hK.out _ hb').2
        rwa [l1, l2] at this
      rcases Bool.eq_false_or_eq_true (clashP la[k] lb[k]) with ck | ck
      case inl =>
        rw [ck] at hcl
        clear ck
        go_wp2_with fail
        refine wp_region_pre 7 0 (fun W => Below wr.heap.size wr W) (fun W W' => Below W.heap.size W W')
          (fun i v W => match i with
            | 0 => v = .slice a la.length ca
            | 1 => v = .int .i64 ((k : Int) + 1)
            | 2 => v = .slice a (k + 1) ca
            | 3 => v = .slice B la.length cb
            | 4 => v = .int .i64 ((k : Int) + 1)
            | 5 => v = .slice B (k + 1) cb
            | 6 => v = .bool true
            | _ => True) (fun _ => false)
          (by kernel_rfl) (by kernel_rfl) (by kernel_rfl) (by kernel_rfl) (by kernel_rfl) (by kernel_rfl) (by kernel_rfl) ?_ (fun _ _ h => h.size) (dN (Below.refl _ _) 1) ?_ ?_
        · intro i v W W' hb hF
          match i, hF with
          | 0, h => exact h
          | 1, h => exact h
          | 2, h => exact h
          | 3, h => exact h
          | 4, h => exact h
          | 5, h => exact h
          | 6, h => exact h
          | _ + 7, _ => trivial
        · refine ⟨?_, ?_, ?_, ?_, ?_, ?_, ?_, trivial⟩
          · refine stepJ_any rfl fun ac W hAA hG hDD K hK => ?_
            have h0 := hAA.getD (t := 0) (by kernel_rfl)
            simp only [Array.getD_eq_getD_getElem?] at h0
            rw [if_pos (by rfl)]
            exact wp_val (v := .slice a la.length ca) (w' := W) (by simp [execOp, Act.eval, h0, go_sem]) (hK _ _ hG (Below.refl _ _) rfl (fun h => by cases h))
          · refine stepJ_any rfl fun ac W hAA hG hDD K hK => ?_
            have h5 := hAA.getD (t := 5) (by kernel_rfl)
            simp only [Array.getD_eq_getD_getElem?] at h5
            rw [if_pos (by rfl)]
            exact wp_val (v := .int .i64 ((k : Int) + 1)) (w' := W) (by simp [execOp, Act.eval, h5, go_sem]) (hK _ _ hG (Below.refl _ _) rfl (fun h => by cases h))
          · refine stepJ_any rfl fun ac W hAA hG hDD K hK => ?_
            have h49 := hDD.get 0 49 _ rfl rfl (by kernel_rfl)
            have h50 := hDD.get 1 50 _ rfl rfl (by kernel_rfl)
            simp only [Array.getD_eq_getD_getElem?] at h49 h50
            have hs := hs1.out W
            rw [if_pos (by rfl)]
            exact wp_val (v := .slice a (k + 1) ca) (w' := W) (by simp [execOp, Act.eval, h49, h50, go_sem, hs]) (hK _ _ hG (Below.refl _ _) rfl (fun h => by cases h))
          · refine stepJ_any rfl fun ac W hAA hG hDD K hK => ?_
            have h1 := hAA.getD (t := 1) (by kernel_rfl)
            simp only [Array.getD_eq_getD_getElem?] at h1
            rw [if_pos (by rfl)]
            exact wp_val (v := .slice B la.length cb) (w' := W) (by simp [execOp, Act.eval, h1, go_sem]) (hK _ _ hG (Below.refl _ _) rfl (fun h => by cases h))
          · refine stepJ_any rfl fun ac W hAA hG hDD K hK => ?_
            have h5 := hAA.getD (t := 5) (by kernel_rfl)
            simp only [Array.getD_eq_getD_getElem?] at h5
            rw [if_pos (by rfl)]
            exact wp_val (v := .int .i64 ((k : Int) + 1)) (w' := W) (by simp [execOp, Act.eval, h5, go_sem]) (hK _ _ hG (Below.refl _ _) rfl (fun h => by cases h))
          · refine stepJ_any rfl fun ac W hAA hG hDD K hK => ?_
            have h52 := hDD.get 3 52 _ rfl rfl (by kernel_rfl)
            have h53 := hDD.get 4 53 _ rfl rfl (by kernel_rfl)
            simp only [Array.getD_eq_getD_getElem?] at h52 h53
            have hs := hs2.out W
            rw [if_pos (by rfl)]
            exact wp_val (v := .slice B (k + 1) cb) (w' := W) (by simp [execOp, Act.eval, h52, h53, go_sem, hs]) (hK _ _ hG (Below.refl _ _) rfl (fun h => by cases h))
          · refine stepJ_any rfl fun ac W hAA hG hDD K hK => ?_
            have h51 := hDD.get 2 51 _ rfl rfl (by kernel_rfl)
            have h54 := hDD.get 5 54 _ rfl rfl (by kernel_rfl)
            simp only [Array.getD_eq_getD_getElem?] at h51 h54
            rw [if_pos (by rfl)]
            refine wp_call (f := 17) (args := #[.slice a (k + 1) ca, .slice B (k + 1) cb]) (by simp [execOp, Act.eval, h51, h54, go_sem]) ((hcl.out W hG).mono fun e W9 he => ?_)
            obtain ⟨rfl, hbw⟩ := he
            exact hK _ _ (hG.trans (hbw.mono hG.size)) hbw rfl (fun h => by cases h)
        intro fu T W9 hG hF hne hltb
        have e49 : T 49 = .slice a la.length ca := hF 0 _ rfl (by omega)
        have e50 : T 50 = .int .i64 ((k : Int) + 1) := hF 1 _ rfl (by omega)
        have e51 : T 51 = .slice a (k + 1) ca := hF 2 _ rfl (by omega)
        have e52 : T 52 = .slice B la.length cb := hF 3 _ rfl (by omega)
        have e53 : T 53 = .int .i64 ((k : Int) + 1) := hF 4 _ rfl (by omega)
        have e54 : T 54 = .slice B (k + 1) cb := hF 5 _ rfl (by omega)
        have e55 : T 55 = .bool true := hF 6 _ rfl (by omega)
        clear hF hne hltb
        simp only [List.take, fillT, List.setIfInBounds_toArray, List.set_cons_zero, List.set_cons_succ, e49, e50, e51, e52, e53, e54, e55]
        clear e49 e50 e51 e52 e53 e54 e55
        refine wpAny_done (by kernel_rfl) ?_ _
        have hb2 := Lib.hid (hb.out.trans (hG.mono hb.out.size))
        clear hG hcl
        go_wp2_with fail
        go_ret
        exact ⟨rfl, hb2.out⟩
      rw [ck] at hcl
      replace ck := Lib.hid ck
      go_wp2_with fail
      refine wp_region_pre 7 0 (fun W => Below wr.heap.size wr W) (fun W W' => Below W.heap.size W W')
        (fun i v W => match i with
          | 0 => v = .slice a la.length ca
          | 1 => v = .int .i64 ((k : Int) + 1)
          | 2 => v = .slice a (k + 1) ca
          | 3 => v = .slice B la.length cb
          | 4 => v = .int .i64 ((k : Int) + 1)
          | 5 => v = .slice B (k + 1) cb
          | 6 => v = .bool false
          | _ => True) (fun _ => false)
        (by kernel_rfl) (by kernel_rfl) (by kernel_rfl) (by kernel_rfl) (by kernel_rfl) (by kernel_rfl) (by kernel_rfl) ?_ (fun _ _ h => h.size) (dN (Below.refl _ _) 1) ?_ ?_
      · intro i v W W' hb hF
        match i, hF with
        | 0, h => exact h
        | 1, h => exact h
        | 2, h => exact h
        | 3, h => exact h
        | 4, h => exact h
        | 5, h => exact h
        | 6, h => exact h
        | _ + 7, _ => trivial
      · refine ⟨?_, ?_, ?_, ?_, ?_, ?_, ?_, trivial⟩
        · refine stepJ_any rfl fun ac W hAA hG hDD K hK => ?_
          have h0 := hAA.getD (t := 0) (by kernel_rfl)
          simp only [Array.getD_eq_getD_getElem?] at h0
          rw [if_pos (by rfl)]
          exact wp_val (v := .slice a la.length ca) (w' := W) (by simp [execOp, Act.eval, h0, go_sem]) (hK _ _ hG (Below.refl _ _) rfl (fun h => by cases h))
        · refine stepJ_any rfl fun ac W hAA hG hDD K hK => ?_
          have h5 := hAA.getD (t := 5) (by kernel_rfl)
          simp only [Array.getD_eq_getD_getElem?] at h5
          rw [if_pos (by rfl)]
          exact wp_val (v := .int .i64 ((k : Int) + 1)) (w' := W) (by simp [execOp, Act.eval, h5, go_sem]) (hK _ _ hG (Below.refl _ _) rfl (fun h => by cases h))
        · refine stepJ_any rfl fun ac W hAA hG hDD K hK => ?_
          have h49 := hDD.get 0 49 _ rfl rfl (by kernel_rfl)
          have h50 := hDD.get 1 50 _ rfl rfl (by kernel_rfl)
          simp only [Array.getD_eq_getD_getElem?] at h49 h50
          have hs := hs1.out W
          rw [if_pos (by rfl)]
          exact wp_val (v := .slice a (k + 1) ca) (w' := W) (by simp [execOp, Act.eval, h49, h50, go_sem, hs]) (hK _ _ hG (Below.refl _ _) rfl (fun h => by cases h))
        · refine stepJ_any rfl fun ac W hAA hG hDD K hK => ?_
          have h1 := hAA.getD (t := 1) (by kernel_rfl)
          simp only [Array.getD_eq_getD_getElem?] at h1
          rw [if_pos (by rfl)]
          exact wp_val (v := .slice B la.length cb) (w' := W) (by simp [execOp, Act.eval, h1, go_sem]) (hK _ _ hG (Below.refl _ _) rfl (fun h => by cases h))
        · refine stepJ_any rfl fun ac W hAA hG hDD K hK => ?_
          have h5 := hAA.getD (t := 5) (by kernel_rfl)
          simp only [Array.getD_eq_getD_getElem?] at h5
          rw [if_pos (by rfl)]
          exact wp_val (v := .int .i64 ((k : Int) + 1)) (w' := W) (by simp [execOp, Act.eval, h5, go_sem]) (hK _ _ hG (Below.refl _ _) rfl (fun h => by cases h))
        · refine stepJ_any rfl fun ac W hAA hG hDD K hK => ?_
          have h52 := hDD.get 3 52 _ rfl rfl (by kernel_rfl)
          have h53 := hDD.get 4 53 _ rfl rfl (by kernel_rfl)
          simp only [Array.getD_eq_getD_getElem?] at h52 h53
          have hs := hs2.out W
          rw [if_pos (by rfl)]
          exact wp_val (v := .slice B (k + 1) cb) (w' := W) (by simp [execOp, Act.eval, h52, h53, go_sem, hs]) (hK _ _ hG (Below.refl _ _) rfl (fun h => by cases h))
        · refine stepJ_any rfl fun ac W hAA hG hDD K hK => ?_
          have h51 := hDD.get 2 51 _ rfl rfl (by kernel_rfl)
          have h54 := hDD.get 5 54 _ rfl rfl (by kernel_rfl)
          simp only [Array.getD_eq_getD_getElem?] at h51 h54
          rw [if_pos (by rfl)]
          refine wp_call (f := 17) (args := #[.slice a (k + 1) ca, .slice B (k + 1) cb]) (by simp [execOp, Act.eval, h51, h54, go_sem]) ((hcl.out W hG).mono fun e W9 he => ?_)
          obtain ⟨rfl, hbw⟩ := he
          exact hK _ _ (hG.trans (hbw.mono hG.size)) hbw rfl (fun h => by cases h)
      intro fu T W9 hG hF hne hltb
      have e49 : T 49 = .slice a la.length ca := hF 0 _ rfl (by omega)
      have e50 : T 50 = .int .i64 ((k : Int) + 1) := hF 1 _ rfl (by omega)
      have e51 : T 51 = .slice a (k + 1) ca := hF 2 _ rfl (by omega)
      have e52 : T 52 = .slice B la.length cb := hF 3 _ rfl (by omega)
      have e53 : T 53 = .int .i64 ((k : Int) + 1) := hF 4 _ rfl (by omega)
      have e54 : T 54 = .slice B (k + 1) cb := hF 5 _ rfl (by omega)
      have e55 : T 55 = .bool false := hF 6 _ rfl (by omega)
      clear hF hne hltb
      simp only [List.take, fillT, List.setIfInBounds_toArray, List.set_cons_zero, List.set_cons_succ, e49, e50, e51, e52, e53, e54, e55]
      clear e49 e50 e51 e52 e53 e54 e55
      refine wpAny_done (by kernel_rfl) ?_ _
      have hb2 := Lib.hid (hb.out.trans (hG.mono hb.out.size))
      clear hG hcl
      go_wp2_with fail
      go_roundw
      case rel => exact ⟨k + 1, by go_num, by omega, hb2, fun i h1 h2 hi => by
        by_cases e : i = k
        · subst e; exact ck.out
        · exact hno.out i h1 h2 (by omega)⟩
      case measure => simp [intOf]; omega
    · obtain rfl : k = la.length := by omega
      exfalso
      apply hne.out
      have := equal_take c1.out c2.out la.length (Nat.le_refl _) (by have := hlenH.out; omega) (by rw [List.take_length, hlenH.out, List.take_length]; exact c3.out) hno.out
      rw [List.take_length, hlenH.out, List.take_length] at this
      exact this
end Go.Proofs.YtbhpmeljmkoebaaDoor
