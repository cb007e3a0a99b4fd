/- ChainParts. -/
import Derived.Test.YtbhpmeljmkoebaaDoorVm
namespace Go.Proofs.YtbhpmeljmkoebaaDoor
open Go.RowKit

theorem difAt_comm (la lb : List Lk) (i : Nat) : difAt la lb i = difAt lb la i := by
  unfold difAt
  cases la[i]? with
  | none => cases lb[i]? <;> rfl
  | some x =>
    cases lb[i]? with
    | none => rfl
    | some y =>
      show (!sameL x y) = !sameL y x
      have : sameL x y = sameL y x := by
        rw [Bool.eq_iff_iff, sameL_iff, sameL_iff]
        exact ⟨Eq.symm, Eq.symm⟩
      rw [this]
theorem firstD_comm (la lb : List Lk) (n : Nat) : firstD la lb n = firstD lb la n := by
  have : difAt la lb = difAt lb la := funext (difAt_comm la lb)
  unfold firstD
  rw [this]
theorem belongs_cons (x : Lk) (r : List Lk) (n : Int) : belongsP (x :: r) n = (x.node == n) := rfl
theorem apartN_comm (la lb : List Lk) : apartN la lb = apartN lb la := by
  cases la with
  | nil => cases lb <;> rfl
  | cons x r =>
    cases lb with
    | nil => rfl
    | cons y s =>
      show (!(y.node == x.node)) = !(x.node == y.node)
      have : (y.node == x.node) = (x.node == y.node) := by
        rw [Bool.eq_iff_iff, beq_iff_eq, beq_iff_eq]
        exact ⟨Eq.symm, Eq.symm⟩
      rw [this]
theorem take_same {la lb : List Lk} {k : Nat} (h1 : k ≤ la.length) (h2 : k ≤ lb.length) (h : ∀ i, i < k → difAt la lb i = false) : la.take k = lb.take k := by
  refine List.ext_getElem (by simp; omega) fun i hi hj => ?_
  rw [List.length_take] at hi hj
  rw [List.getElem_take, List.getElem_take]
  exact (difAt_false (by omega) (by omega)).1 (h i (by omega))
/-- How two chains part, and what is seen the other way round. -/
theorem parts_cases (la lb : List Lk) :
    (partV la lb = #[.int .i64 0, .bool false, .int .i64 80] ∧ partV lb la = #[.int .i64 0, .bool false, .int .i64 80]) ∨
    (partV la lb = #[.int .i64 0, .bool false, .int .i64 0] ∧ partV lb la = #[.int .i64 0, .bool false, .int .i64 0] ∧ la.take (partN la lb) = lb.take (partN la lb)) ∨
    ∃ k, ∃ (h1 : k < la.length) (h2 : k < lb.length), partV la lb = #[.int .i64 (k : Int), .bool true, .int .i64 0] ∧ partV lb la = #[.int .i64 (k : Int), .bool true, .int .i64 0] ∧ la.take k = lb.take k ∧ sameL la[k] lb[k] = false := by
  have hn : partN lb la = partN la lb := Nat.min_comm _ _
  rcases chk_cases la with c1 | c1 <;> rcases chk_cases lb with c2 | c2
  · cases hap : apartN la lb with
    | true =>
      refine .inl ⟨?_, ?_⟩
      · unfold partV; rw [if_pos c1, if_pos c2, if_pos hap]
      · unfold partV; rw [if_pos c2, if_pos c1, apartN_comm, if_pos hap]
    | false =>
      refine .inr ?_
      have e1 : partV la lb = (firstV (firstD la lb (partN la lb))).push (.int .i64 0) := by unfold partV; rw [if_pos c1, if_pos c2, if_neg (by rw [hap]; decide)]
      have e2 : partV lb la = (firstV (firstD la lb (partN la lb))).push (.int .i64 0) := by unfold partV; rw [if_pos c2, if_pos c1, if_neg (by rw [apartN_comm, hap]; decide), hn, firstD_comm]
      cases hf : firstD la lb (partN la lb) with
      | none =>
        refine .inl ⟨by rw [e1, hf]; rfl, by rw [e2, hf]; rfl, take_same (by unfold partN; omega) (by unfold partN; omega) (firstD_none_iff.1 hf)⟩
      | some k =>
        have hk := firstD_lt hf
        have h1 : k < la.length := by unfold partN at hk; omega
        have h2 : k < lb.length := by unfold partN at hk; omega
        refine .inr ⟨k, h1, h2, by rw [e1, hf]; rfl, by rw [e2, hf]; rfl, take_same (by omega) (by omega) (firstD_before hf), ?_⟩
        have := firstD_dif hf
        rw [difAt_eq h1 h2] at this
        simpa using this
  · refine .inl ⟨?_, ?_⟩
    · unfold partV; rw [if_pos c1, if_neg (by omega), c2]
    · unfold partV; rw [if_neg (by omega), c2]
  · refine .inl ⟨?_, ?_⟩
    · unfold partV; rw [if_neg (by omega), c1]
    · unfold partV; rw [if_pos c2, if_neg (by omega), c1]
  · refine .inl ⟨?_, ?_⟩
    · unfold partV; rw [if_neg (by omega), c1]
    · unfold partV; rw [if_neg (by omega), c2]

set_option maxRecDepth 100000 in
set_option maxHeartbeats 4000000 in
theorem parts_law (la lb : List Lk) (w : World) (a B : Option Addr) (ca cb : Nat) (hQa : QL w w.heap.size la a ca) (hQb : QL w w.heap.size lb B cb) (hKT : KT w) (h0 : 0 < w.heap.size) :
    Calls Tryd.prog 7 #[.slice a la.length ca, .slice B lb.length cb] w fun e w' => e = .returned (.bool true) ∧ Below w.heap.size w w' := by
  replace hQa := Lib.hid hQa
  replace hQb := Lib.hid hQb
  have hK : Hid (∀ W, Below w.heap.size w W → KT W ∧ 0 < W.heap.size) := fun W hW => ⟨hKT.below hW h0, Nat.lt_of_lt_of_le h0 hW.size⟩
  have hS0 := Lib.hid (sane_any w hKT h0)
  clear hKT h0
  go_enter Tryd.func7, Tryd.ntmps7
  go_wp2_with fail
  refine hS0.out.mono ?_
  rintro e w1 ⟨rfl, hb1⟩
  have hB := Lib.hid hb1
  clear hS0 hb1
  go_wp2_with fail
  refine (Few_any la w1 a ca (hQa.out.lift hB.out hB.out.size)).mono ?_
  rintro e w2 ⟨rfl, hb2⟩
  replace hB := Lib.hid (hB.out.trans (hb2.mono hB.out.size))
  clear hb2
  rcases Bool.eq_false_or_eq_true (fewP la) with f1 | f1
  case inr =>
    rw [f1]
    go_wp2_with fail
    go_ret
    exact ⟨rfl, hB.out⟩
  rw [f1]
  replace f1 := Lib.hid f1
  go_wp2_with fail
  refine (Few_any lb w2 B cb (hQb.out.lift hB.out hB.out.size)).mono ?_
  rintro e w3 ⟨rfl, hb3⟩
  replace hB := Lib.hid (hB.out.trans (hb3.mono hB.out.size))
  clear hb3
  rcases Bool.eq_false_or_eq_true (fewP lb) with f2 | f2
  case inr =>
    rw [f2]
    go_wp2_with fail
    go_ret
    exact ⟨rfl, hB.out⟩
  rw [f2]
  replace f2 := Lib.hid f2
  have hla := few_len f1.out
  have hlb := few_len f2.out
  have hP1 : Hid (∀ W, Below w.heap.size w W → Calls Tryd.prog 12 #[.slice a la.length ca, .slice B lb.length cb] W fun e w' => e = .returned (.tuple (partV la lb)) ∧ Below W.heap.size W w') := fun W hW => Part_any la lb (few_short f1.out) (few_short f2.out) (by omega) (by omega) W a B ca cb (hQa.out.lift hW hW.size) (hQb.out.lift hW hW.size) (hK.out _ hW).1 (hK.out _ hW).2
  have hP2 : Hid (∀ W, Below w.heap.size w W → Calls Tryd.prog 12 #[.slice B lb.length cb, .slice a la.length ca] W fun e w' => e = .returned (.tuple (partV lb la)) ∧ Below W.heap.size W w') := fun W hW => Part_any lb la (few_short f2.out) (few_short f1.out) (by omega) (by omega) W B a cb ca (hQb.out.lift hW hW.size) (hQa.out.lift hW hW.size) (hK.out _ hW).1 (hK.out _ hW).2
  rcases parts_cases la lb with ⟨p1, p2⟩ | ⟨p1, p2, p3⟩ | ⟨k, k2, k3, p1, p2, p3, p4⟩
  · rw [p1] at hP1
    rw [p2] at hP2
    clear p1 p2
    go_wp2_with fail
    refine (hP1.out _ hB.out).mono ?_
    rintro e w4 ⟨rfl, hb4⟩
    replace hB := Lib.hid (hB.out.trans (hb4.mono hB.out.size))
    clear hb4
    go_wp2_with fail
    refine (hP2.out _ hB.out).mono ?_
    rintro e w5 ⟨rfl, hb5⟩
    replace hB := Lib.hid (hB.out.trans (hb5.mono hB.out.size))
    clear hb5 hP1 hP2
    go_wp2_with fail
    go_ret
    exact ⟨rfl, hB.out⟩
  · rw [p1] at hP1
    rw [p2] at hP2
    clear p1 p2
    obtain ⟨N, hN⟩ : ∃ N, partN la lb = N := ⟨_, rfl⟩
    have hN' : min la.length lb.length = N := hN
    rw [hN] at p3
    have hmin : min (la.length : Int) (lb.length : Int) = (N : Int) := by omega
    have hs1 := fun W => slice_to a la.length ca N (Nat.le_trans (by omega) hQa.out.1) W
    have hs2 := fun W => slice_to B lb.length cb N (Nat.le_trans (by omega) hQb.out.1) W
    have hSm : Hid (∀ W, Below w.heap.size w W → Calls Tryd.prog 14 #[.slice a N ca, .slice B N cb] W fun e w' => e = .returned (.bool true) ∧ Below W.heap.size W w') := fun W hW => by
      have l1 : (la.take N).length = N := by rw [List.length_take]; omega
      have l2 : (lb.take N).length = N := by rw [List.length_take]; omega
      have := Same_any (la.take N) (lb.take N) (by omega) W a B ca cb ((hQa.out.lift hW hW.size).cut (by omega) (Nat.le_trans (by omega) hQa.out.1) (Nat.le_refl _) id (.inl rfl)) ((hQb.out.lift hW hW.size).cut (by omega) (Nat.le_trans (by omega) hQb.out.1) (Nat.le_refl _) id (.inl rfl))
      rwa [l1, l2, sameLs_iff.2 p3] at this
    clear p3 hN hN'
    go_wp2_with fail
    refine (hP1.out _ hB.out).mono ?_
    rintro e w4 ⟨rfl, hb4⟩
    replace hB := Lib.hid (hB.out.trans (hb4.mono hB.out.size))
    clear hb4
    go_wp2_with fail
    refine (hP2.out _ hB.out).mono ?_
    rintro e V ⟨rfl, hb5⟩
    replace hB := Lib.hid (hB.out.trans (hb5.mono hB.out.size))
    clear hb5 hP1 hP2
    go_wp2_with fail
    refine wp_region_pre 12 0 (fun W => Below V.heap.size V W) (fun W W' => Below W.heap.size W W')
      (fun i v W => match i with
        | 0 => v = .int .i64 0
        | 1 => v = .bool true
        | 2 => v = .bool true
        | 3 => v = .slice a la.length ca
        | 4 => v = .int .i64 (N : Int)
        | 5 => v = .slice a N ca
        | 6 => v = .slice B lb.length cb
        | 7 => v = .int .i64 (N : Int)
        | 8 => v = .slice B N cb
        | 9 => v = .bool true
        | 10 => v = .bool true
        | 11 => v = .bool true
        | _ => True) (fun _ => false)
      (by kernel_rfl) (by kernel_rfl) (by kernel_rfl) (by kernel_rfl) (by kernel_rfl) (by kernel_rfl) (by kernel_rfl) ?_ (fun _ _ h => h.size) (dN (Below.refl _ _) 1) ?_ ?_
    · intro i v W W' hb hF
      match i, hF with
      | 0, h => exact h
      | 1, h => exact h
      | 2, h => exact h
      | 3, h => exact h
      | 4, h => exact h
      | 5, h => exact h
      | 6, h => exact h
      | 7, h => exact h
      | 8, h => exact h
      | 9, h => exact h
      | 10, h => exact h
      | 11, h => exact h
      | _ + 12, _ => trivial
    · refine ⟨?_, ?_, ?_, ?_, ?_, ?_, ?_, ?_, ?_, ?_, ?_, ?_, trivial⟩
      · refine stepJ_any rfl fun ac W hAA hG hDD K hK => ?_
        have h5 := hAA.getD (t := 5) (by kernel_rfl)
        simp only [Array.getD_eq_getD_getElem?] at h5
        rw [if_pos (by rfl)]
        exact wp_val (v := .int .i64 0) (w' := W) (by simp [execOp, Act.eval, h5, go_sem]) (hK _ _ hG (Below.refl _ _) rfl (fun h => by cases h))
      · refine stepJ_any rfl fun ac W hAA hG hDD K hK => ?_
        have h67 := hDD.get 0 67 _ rfl rfl (by kernel_rfl)
        simp only [Array.getD_eq_getD_getElem?] at h67
        rw [if_pos (by rfl)]
        exact wp_val (v := .bool true) (w' := W) (by simp [execOp, Act.eval, h67, go_sem]) (hK _ _ hG (Below.refl _ _) rfl (fun h => by cases h))
      · refine stepJ_any rfl fun ac W hAA hG hDD K hK => ?_
        have h68 := hDD.get 1 68 _ rfl rfl (by kernel_rfl)
        simp only [Array.getD_eq_getD_getElem?] at h68
        rw [if_pos (by rfl)]
        exact wp_val (v := .bool true) (w' := W) (by simp [execOp, Act.eval, h68, go_sem]) (hK _ _ hG (Below.refl _ _) rfl (fun h => by cases h))
      · refine stepJ_any rfl fun ac W hAA hG hDD K hK => ?_
        have h0 := hAA.getD (t := 0) (by kernel_rfl)
        have hgd := hDD.get 2 69 _ rfl rfl (by kernel_rfl)
        have hgd := slot_bool hgd
        simp only [Array.getD_eq_getD_getElem?] at h0
        rw [if_pos (by simp [Region.wanted, yielded, hgd])]
        exact wp_val (v := .slice a la.length ca) (w' := W) (by simp [execOp, Act.eval, h0, go_sem]) (hK _ _ hG (Below.refl _ _) rfl (fun h => by cases h))
      · refine stepJ_any rfl fun ac W hAA hG hDD K hK => ?_
        have h11 := hAA.getD (t := 11) (by kernel_rfl)
        have hgd := hDD.get 2 69 _ rfl rfl (by kernel_rfl)
        have hgd := slot_bool hgd
        simp only [Array.getD_eq_getD_getElem?] at h11
        rw [if_pos (by simp [Region.wanted, yielded, hgd])]
        exact wp_val (v := .int .i64 (N : Int)) (w' := W) (by simp [execOp, Act.eval, h11, go_sem]) (hK _ _ hG (Below.refl _ _) rfl (fun h => by cases h))
      · refine stepJ_any rfl fun ac W hAA hG hDD K hK => ?_
        have h70 := hDD.get 3 70 _ rfl rfl (by kernel_rfl)
        have h71 := hDD.get 4 71 _ rfl rfl (by kernel_rfl)
        have hgd := hDD.get 2 69 _ rfl rfl (by kernel_rfl)
        have hgd := slot_bool hgd
        simp only [Array.getD_eq_getD_getElem?] at h70 h71
        have hs := hs1 W
        rw [if_pos (by simp [Region.wanted, yielded, hgd])]
        exact wp_val (v := .slice a N ca) (w' := W) (by simp [execOp, Act.eval, h70, h71, go_sem, hs]) (hK _ _ hG (Below.refl _ _) rfl (fun h => by cases h))
      · refine stepJ_any rfl fun ac W hAA hG hDD K hK => ?_
        have h1 := hAA.getD (t := 1) (by kernel_rfl)
        have hgd := hDD.get 2 69 _ rfl rfl (by kernel_rfl)
        have hgd := slot_bool hgd
        simp only [Array.getD_eq_getD_getElem?] at h1
        rw [if_pos (by simp [Region.wanted, yielded, hgd])]
        exact wp_val (v := .slice B lb.length cb) (w' := W) (by simp [execOp, Act.eval, h1, go_sem]) (hK _ _ hG (Below.refl _ _) rfl (fun h => by cases h))
      · refine stepJ_any rfl fun ac W hAA hG hDD K hK => ?_
        have h11 := hAA.getD (t := 11) (by kernel_rfl)
        have hgd := hDD.get 2 69 _ rfl rfl (by kernel_rfl)
        have hgd := slot_bool hgd
        simp only [Array.getD_eq_getD_getElem?] at h11
        rw [if_pos (by simp [Region.wanted, yielded, hgd])]
        exact wp_val (v := .int .i64 (N : Int)) (w' := W) (by simp [execOp, Act.eval, h11, go_sem]) (hK _ _ hG (Below.refl _ _) rfl (fun h => by cases h))
      · refine stepJ_any rfl fun ac W hAA hG hDD K hK => ?_
        have h73 := hDD.get 6 73 _ rfl rfl (by kernel_rfl)
        have h74 := hDD.get 7 74 _ rfl rfl (by kernel_rfl)
        have hgd := hDD.get 2 69 _ rfl rfl (by kernel_rfl)
        have hgd := slot_bool hgd
        simp only [Array.getD_eq_getD_getElem?] at h73 h74
        have hs := hs2 W
        rw [if_pos (by simp [Region.wanted, yielded, hgd])]
        exact wp_val (v := .slice B N cb) (w' := W) (by simp [execOp, Act.eval, h73, h74, go_sem, hs]) (hK _ _ hG (Below.refl _ _) rfl (fun h => by cases h))
      · refine stepJ_any rfl fun ac W hAA hG hDD K hK => ?_
        have h72 := hDD.get 5 72 _ rfl rfl (by kernel_rfl)
        have h75 := hDD.get 8 75 _ rfl rfl (by kernel_rfl)
        have hgd := hDD.get 2 69 _ rfl rfl (by kernel_rfl)
        have hgd := slot_bool hgd
        simp only [Array.getD_eq_getD_getElem?] at h72 h75
        rw [if_pos (by simp [Region.wanted, yielded, hgd])]
        refine wp_call (f := 14) (args := #[.slice a N ca, .slice B N cb]) (by simp [execOp, Act.eval, h72, h75, go_sem]) ((hSm.out W (hB.out.trans (hG.mono hB.out.size))).mono fun e W9 he => ?_)
        obtain ⟨rfl, hbw⟩ := he
        exact hK _ _ (hG.trans (hbw.mono hG.size)) hbw rfl (fun h => by cases h)
      · refine stepJ_any rfl fun ac W hAA hG hDD K hK => ?_
        have h69 := hDD.get 2 69 _ rfl rfl (by kernel_rfl)
        have h76 := hDD.get 9 76 _ rfl rfl (by kernel_rfl)
        simp only [Array.getD_eq_getD_getElem?] at h69 h76
        rw [if_pos (by rfl)]
        exact wp_val (v := .bool true) (w' := W) (by simp [execOp, Act.eval, h69, h76, go_sem]) (hK _ _ hG (Below.refl _ _) rfl (fun h => by cases h))
      · refine stepJ_any rfl fun ac W hAA hG hDD K hK => ?_
        have h77 := hDD.get 10 77 _ rfl rfl (by kernel_rfl)
        simp only [Array.getD_eq_getD_getElem?] at h77
        rw [if_pos (by rfl)]
        exact wp_val (v := .bool true) (w' := W) (by simp [execOp, Act.eval, h77, go_sem]) (hK _ _ hG (Below.refl _ _) rfl (fun h => by cases h))
    intro fu T W9 hG hF hne hltb
    have e67 : T 67 = .int .i64 0 := hF 0 _ rfl (by omega)
    have e68 : T 68 = .bool true := hF 1 _ rfl (by omega)
    have e69 : T 69 = .bool true := hF 2 _ rfl (by omega)
    have e70 : T 70 = .slice a la.length ca := hF 3 _ rfl (by omega)
    have e71 : T 71 = .int .i64 (N : Int) := hF 4 _ rfl (by omega)
    have e72 : T 72 = .slice a N ca := hF 5 _ rfl (by omega)
    have e73 : T 73 = .slice B lb.length cb := hF 6 _ rfl (by omega)
    have e74 : T 74 = .int .i64 (N : Int) := hF 7 _ rfl (by omega)
    have e75 : T 75 = .slice B N cb := hF 8 _ rfl (by omega)
    have e76 : T 76 = .bool true := hF 9 _ rfl (by omega)
    have e77 : T 77 = .bool true := hF 10 _ rfl (by omega)
    have e4 : T 4 = .bool true := hF 11 _ rfl (by omega)
    clear hF hne hltb
    simp only [List.take, fillT, List.setIfInBounds_toArray, List.set_cons_zero, List.set_cons_succ, e67, e68, e69, e70, e71, e72, e73, e74, e75, e76, e77, e4]
    clear e67 e68 e69 e70 e71 e72 e73 e74 e75 e76 e77 e4
    refine wpAny_done (by kernel_rfl) ?_ _
    replace hB := Lib.hid (hB.out.trans (hG.mono hB.out.size))
    clear hG hSm
    go_wp2_with fail
    go_ret
    exact ⟨rfl, hB.out⟩
  · rw [p1] at hP1
    rw [p2] at hP2
    clear p1 p2
    obtain ⟨N, hN⟩ : ∃ N, min la.length lb.length = N := ⟨_, rfl⟩
    have hmin : min (la.length : Int) (lb.length : Int) = (N : Int) := by omega
    have hs1 := fun W => slice_to a la.length ca k (Nat.le_trans (by omega) hQa.out.1) W
    have hs2 := fun W => slice_to B lb.length cb k (Nat.le_trans (by omega) hQb.out.1) W
    have hSm : Hid (∀ W, Below w.heap.size w W → Calls Tryd.prog 14 #[.slice a k ca, .slice B k cb] W fun e w' => e = .returned (.bool true) ∧ Below W.heap.size W w') := fun W hW => by
      have l1 : (la.take k).length = k := by rw [List.length_take]; omega
      have l2 : (lb.take k).length = k := by rw [List.length_take]; omega
      have := Same_any (la.take k) (lb.take k) (by omega) W a B ca cb ((hQa.out.lift hW hW.size).cut (by omega) (Nat.le_trans (by omega) hQa.out.1) (Nat.le_refl _) id (.inl rfl)) ((hQb.out.lift hW hW.size).cut (by omega) (Nat.le_trans (by omega) hQb.out.1) (Nat.le_refl _) id (.inl rfl))
      rwa [l1, l2, sameLs_iff.2 p3] at this
    have k1 : (k : Int) < (N : Int) := by omega
    have k0 : (0 : Int) ≤ k := by omega
    have k2i : (k : Int) < la.length := by omega
    have k3i : (k : Int) < lb.length := by omega
    clear p3 hN
    go_wp2_with fail
    refine (hP1.out _ hB.out).mono ?_
    rintro e w4 ⟨rfl, hb4⟩
    replace hB := Lib.hid (hB.out.trans (hb4.mono hB.out.size))
    clear hb4
    go_wp2_with fail
    refine (hP2.out _ hB.out).mono ?_
    rintro e V ⟨rfl, hb5⟩
    replace hB := Lib.hid (hB.out.trans (hb5.mono hB.out.size))
    clear hb5 hP1 hP2
    obtain ⟨b1, o1, da, dc, ha, hb1B, hr1, hD1⟩ := (hQa.out.lift hB.out hB.out.size).at_ k2
    obtain ⟨b2, o2, da', dc', hA, hb2B, hr2, hD2⟩ := (hQb.out.lift hB.out hB.out.size).at_ k3
    have hfx := (hQa.out.fine la[k] (List.getElem_mem k2)).prev
    have hfy := (hQb.out.fine lb[k] (List.getElem_mem k3)).prev
    have hx : Hid (∀ W, Below V.heap.size V W → W.rangeAt b1 (o1 + k * 35) (LW la[k] da dc)) := fun W hW j v hv => (hW.cell (p := ⟨b1, o1 + k * 35 + j, none⟩) hb1B).trans (hr1 j v hv)
    have hy : Hid (∀ W, Below V.heap.size V W → W.rangeAt b2 (o2 + k * 35) (LW lb[k] da' dc')) := fun W hW j v hv => (hW.cell (p := ⟨b2, o2 + k * 35 + j, none⟩) hb2B).trans (hr2 j v hv)
    have hsx := Lib.hid (LW_info (a := da) (c := dc) hfx)
    have hsy := Lib.hid (LW_info (a := da') (c := dc') hfy)
    have hSl : Hid (∀ W, Below V.heap.size V W → Calls Tryd.prog 18 #[.agg (LW la[k] da dc).toArray, .agg (LW lb[k] da' dc').toArray] W fun e w' => e = .returned (.bool false) ∧ Below W.heap.size W w') := fun W hW => by
      have := SameLink_any la[k] lb[k] hfx hfy W da da' dc dc' (hD1.read.lift hW hW.size) (hD2.read.lift hW hW.size)
      rwa [p4] at this
    subst ha hA
    clear hr1 hr2 hD1 hD2 hfx hfy p4 hb1B hb2B hQa hQb
    generalize la[k] = x at *
    generalize lb[k] = y at *
    go_wp2_with fail
    refine wp_region_pre 29 0 (fun W => Below V.heap.size V W) (fun W W' => Below W.heap.size W W')
      (fun i v W => match i with
        | 0 => v = .int .i64 (k : Int)
        | 1 => v = .bool true
        | 2 => v = .bool true
        | 3 => v = .int .i64 (k : Int)
        | 4 => v = .int .i64 (N : Int)
        | 5 => v = .bool true
        | 6 => v = .bool true
        | 7 => v = .bool true
        | 8 => v = .slice (some ⟨b1, o1, none⟩) la.length ca
        | 9 => v = .int .i64 (k : Int)
        | 10 => v = .slice (some ⟨b1, o1, none⟩) k ca
        | 11 => v = .slice (some ⟨b2, o2, none⟩) lb.length cb
        | 12 => v = .int .i64 (k : Int)
        | 13 => v = .slice (some ⟨b2, o2, none⟩) k cb
        | 14 => v = .bool true
        | 15 => v = .bool true
        | 16 => v = .bool true
        | 17 => v = .slice (some ⟨b1, o1, none⟩) la.length ca
        | 18 => v = .int .i64 (k : Int)
        | 19 => v = .pointer (some ⟨b1, o1 + k * 35, none⟩)
        | 20 => v = .agg (LW x da dc).toArray
        | 21 => v = .slice (some ⟨b2, o2, none⟩) lb.length cb
        | 22 => v = .int .i64 (k : Int)
        | 23 => v = .pointer (some ⟨b2, o2 + k * 35, none⟩)
        | 24 => v = .agg (LW y da' dc').toArray
        | 25 => v = .bool false
        | 26 => v = .bool true
        | 27 => v = .bool true
        | 28 => v = .bool true
        | _ => True) (fun _ => false)
      (by kernel_rfl) (by kernel_rfl) (by kernel_rfl) (by kernel_rfl) (by kernel_rfl) (by kernel_rfl) (by kernel_rfl) ?_ (fun _ _ h => h.size) (dN (Below.refl _ _) 1) ?_ ?_
    · intro i v W W' hb hF
      match i, hF with
      | 0, h => exact h
      | 1, h => exact h
      | 2, h => exact h
      | 3, h => exact h
      | 4, h => exact h
      | 5, h => exact h
      | 6, h => exact h
      | 7, h => exact h
      | 8, h => exact h
      | 9, h => exact h
      | 10, h => exact h
      | 11, h => exact h
      | 12, h => exact h
      | 13, h => exact h
      | 14, h => exact h
      | 15, h => exact h
      | 16, h => exact h
      | 17, h => exact h
      | 18, h => exact h
      | 19, h => exact h
      | 20, h => exact h
      | 21, h => exact h
      | 22, h => exact h
      | 23, h => exact h
      | 24, h => exact h
      | 25, h => exact h
      | 26, h => exact h
      | 27, h => exact h
      | 28, h => exact h
      | _ + 29, _ => trivial
    · refine ⟨?_, ?_, ?_, ?_, ?_, ?_, ?_, ?_, ?_, ?_, ?_, ?_, ?_, ?_, ?_, ?_, ?_, ?_, ?_, ?_, ?_, ?_, ?_, ?_, ?_, ?_, ?_, ?_, ?_, trivial⟩
      · refine stepJ_any rfl fun ac W hAA hG hDD K hK => ?_
        have h5 := hAA.getD (t := 5) (by kernel_rfl)
        simp only [Array.getD_eq_getD_getElem?] at h5
        rw [if_pos (by rfl)]
        exact wp_val (v := .int .i64 (k : Int)) (w' := W) (by simp [execOp, Act.eval, h5, go_sem]) (hK _ _ hG (Below.refl _ _) rfl (fun h => by cases h))
      · refine stepJ_any rfl fun ac W hAA hG hDD K hK => ?_
        have h78 := hDD.get 0 78 _ rfl rfl (by kernel_rfl)
        simp only [Array.getD_eq_getD_getElem?] at h78
        rw [if_pos (by rfl)]
        exact wp_val (v := .bool true) (w' := W) (by simp [execOp, Act.eval, h78, go_sem, k0]) (hK _ _ hG (Below.refl _ _) rfl (fun h => by cases h))
      · refine stepJ_any rfl fun ac W hAA hG hDD K hK => ?_
        have h79 := hDD.get 1 79 _ rfl rfl (by kernel_rfl)
        simp only [Array.getD_eq_getD_getElem?] at h79
        rw [if_pos (by rfl)]
        exact wp_val (v := .bool true) (w' := W) (by simp [execOp, Act.eval, h79, go_sem]) (hK _ _ hG (Below.refl _ _) rfl (fun h => by cases h))
      · refine stepJ_any rfl fun ac W hAA hG hDD K hK => ?_
        have h5 := hAA.getD (t := 5) (by kernel_rfl)
        have hgd := hDD.get 2 80 _ rfl rfl (by kernel_rfl)
        have hgd := slot_bool hgd
        simp only [Array.getD_eq_getD_getElem?] at h5
        rw [if_pos (by simp [Region.wanted, yielded, hgd])]
        exact wp_val (v := .int .i64 (k : Int)) (w' := W) (by simp [execOp, Act.eval, h5, go_sem]) (hK _ _ hG (Below.refl _ _) rfl (fun h => by cases h))
      · refine stepJ_any rfl fun ac W hAA hG hDD K hK => ?_
        have h11 := hAA.getD (t := 11) (by kernel_rfl)
        have hgd := hDD.get 2 80 _ rfl rfl (by kernel_rfl)
        have hgd := slot_bool hgd
        simp only [Array.getD_eq_getD_getElem?] at h11
        rw [if_pos (by simp [Region.wanted, yielded, hgd])]
        exact wp_val (v := .int .i64 (N : Int)) (w' := W) (by simp [execOp, Act.eval, h11, go_sem]) (hK _ _ hG (Below.refl _ _) rfl (fun h => by cases h))
      · refine stepJ_any rfl fun ac W hAA hG hDD K hK => ?_
        have h81 := hDD.get 3 81 _ rfl rfl (by kernel_rfl)
        have h82 := hDD.get 4 82 _ rfl rfl (by kernel_rfl)
        have hgd := hDD.get 2 80 _ rfl rfl (by kernel_rfl)
        have hgd := slot_bool hgd
        simp only [Array.getD_eq_getD_getElem?] at h81 h82
        rw [if_pos (by simp [Region.wanted, yielded, hgd])]
        exact wp_val (v := .bool true) (w' := W) (by simp [execOp, Act.eval, h81, h82, go_sem, k1]) (hK _ _ hG (Below.refl _ _) rfl (fun h => by cases h))
      · refine stepJ_any rfl fun ac W hAA hG hDD K hK => ?_
        have h80 := hDD.get 2 80 _ rfl rfl (by kernel_rfl)
        have h83 := hDD.get 5 83 _ rfl rfl (by kernel_rfl)
        simp only [Array.getD_eq_getD_getElem?] at h80 h83
        rw [if_pos (by rfl)]
        exact wp_val (v := .bool true) (w' := W) (by simp [execOp, Act.eval, h80, h83, go_sem]) (hK _ _ hG (Below.refl _ _) rfl (fun h => by cases h))
      · refine stepJ_any rfl fun ac W hAA hG hDD K hK => ?_
        have h84 := hDD.get 6 84 _ rfl rfl (by kernel_rfl)
        simp only [Array.getD_eq_getD_getElem?] at h84
        rw [if_pos (by rfl)]
        exact wp_val (v := .bool true) (w' := W) (by simp [execOp, Act.eval, h84, go_sem]) (hK _ _ hG (Below.refl _ _) rfl (fun h => by cases h))
      · refine stepJ_any rfl fun ac W hAA hG hDD K hK => ?_
        have h0 := hAA.getD (t := 0) (by kernel_rfl)
        have hgd := hDD.get 7 85 _ rfl rfl (by kernel_rfl)
        have hgd := slot_bool hgd
        simp only [Array.getD_eq_getD_getElem?] at h0
        rw [if_pos (by simp [Region.wanted, yielded, hgd])]
        exact wp_val (v := .slice (some ⟨b1, o1, none⟩) la.length ca) (w' := W) (by simp [execOp, Act.eval, h0, go_sem]) (hK _ _ hG (Below.refl _ _) rfl (fun h => by cases h))
      · refine stepJ_any rfl fun ac W hAA hG hDD K hK => ?_
        have h5 := hAA.getD (t := 5) (by kernel_rfl)
        have hgd := hDD.get 7 85 _ rfl rfl (by kernel_rfl)
        have hgd := slot_bool hgd
        simp only [Array.getD_eq_getD_getElem?] at h5
        rw [if_pos (by simp [Region.wanted, yielded, hgd])]
        exact wp_val (v := .int .i64 (k : Int)) (w' := W) (by simp [execOp, Act.eval, h5, go_sem]) (hK _ _ hG (Below.refl _ _) rfl (fun h => by cases h))
      · refine stepJ_any rfl fun ac W hAA hG hDD K hK => ?_
        have h86 := hDD.get 8 86 _ rfl rfl (by kernel_rfl)
        have h87 := hDD.get 9 87 _ rfl rfl (by kernel_rfl)
        have hgd := hDD.get 7 85 _ rfl rfl (by kernel_rfl)
        have hgd := slot_bool hgd
        simp only [Array.getD_eq_getD_getElem?] at h86 h87
        have hs := hs1 W
        rw [if_pos (by simp [Region.wanted, yielded, hgd])]
        exact wp_val (v := .slice (some ⟨b1, o1, none⟩) k ca) (w' := W) (by simp [execOp, Act.eval, h86, h87, go_sem, hs]) (hK _ _ hG (Below.refl _ _) rfl (fun h => by cases h))
      · refine stepJ_any rfl fun ac W hAA hG hDD K hK => ?_
        have h1 := hAA.getD (t := 1) (by kernel_rfl)
        have hgd := hDD.get 7 85 _ rfl rfl (by kernel_rfl)
        have hgd := slot_bool hgd
        simp only [Array.getD_eq_getD_getElem?] at h1
        rw [if_pos (by simp [Region.wanted, yielded, hgd])]
        exact wp_val (v := .slice (some ⟨b2, o2, none⟩) lb.length cb) (w' := W) (by simp [execOp, Act.eval, h1, go_sem]) (hK _ _ hG (Below.refl _ _) rfl (fun h => by cases h))
      · refine stepJ_any rfl fun ac W hAA hG hDD K hK => ?_
        have h5 := hAA.getD (t := 5) (by kernel_rfl)
        have hgd := hDD.get 7 85 _ rfl rfl (by kernel_rfl)
        have hgd := slot_bool hgd
        simp only [Array.getD_eq_getD_getElem?] at h5
        rw [if_pos (by simp [Region.wanted, yielded, hgd])]
        exact wp_val (v := .int .i64 (k : Int)) (w' := W) (by simp [execOp, Act.eval, h5, go_sem]) (hK _ _ hG (Below.refl _ _) rfl (fun h => by cases h))
      · refine stepJ_any rfl fun ac W hAA hG hDD K hK => ?_
        have h89 := hDD.get 11 89 _ rfl rfl (by kernel_rfl)
        have h90 := hDD.get 12 90 _ rfl rfl (by kernel_rfl)
        have hgd := hDD.get 7 85 _ rfl rfl (by kernel_rfl)
        have hgd := slot_bool hgd
        simp only [Array.getD_eq_getD_getElem?] at h89 h90
        have hs := hs2 W
        rw [if_pos (by simp [Region.wanted, yielded, hgd])]
        exact wp_val (v := .slice (some ⟨b2, o2, none⟩) k cb) (w' := W) (by simp [execOp, Act.eval, h89, h90, go_sem, hs]) (hK _ _ hG (Below.refl _ _) rfl (fun h => by cases h))
      · refine stepJ_any rfl fun ac W hAA hG hDD K hK => ?_
        have h88 := hDD.get 10 88 _ rfl rfl (by kernel_rfl)
        have h91 := hDD.get 13 91 _ rfl rfl (by kernel_rfl)
        have hgd := hDD.get 7 85 _ rfl rfl (by kernel_rfl)
        have hgd := slot_bool hgd
        simp only [Array.getD_eq_getD_getElem?] at h88 h91
        rw [if_pos (by simp [Region.wanted, yielded, hgd])]
        refine wp_call (f := 14) (args := #[.slice (some ⟨b1, o1, none⟩) k ca, .slice (some ⟨b2, o2, none⟩) k cb]) (by simp [execOp, Act.eval, h88, h91, go_sem]) ((hSm.out W (hB.out.trans (hG.mono hB.out.size))).mono fun e W9 he => ?_)
        obtain ⟨rfl, hbw⟩ := he
        exact hK _ _ (hG.trans (hbw.mono hG.size)) hbw rfl (fun h => by cases h)
      · refine stepJ_any rfl fun ac W hAA hG hDD K hK => ?_
        have h85 := hDD.get 7 85 _ rfl rfl (by kernel_rfl)
        have h92 := hDD.get 14 92 _ rfl rfl (by kernel_rfl)
        simp only [Array.getD_eq_getD_getElem?] at h85 h92
        rw [if_pos (by rfl)]
        exact wp_val (v := .bool true) (w' := W) (by simp [execOp, Act.eval, h85, h92, go_sem]) (hK _ _ hG (Below.refl _ _) rfl (fun h => by cases h))
      · refine stepJ_any rfl fun ac W hAA hG hDD K hK => ?_
        have h93 := hDD.get 15 93 _ rfl rfl (by kernel_rfl)
        simp only [Array.getD_eq_getD_getElem?] at h93
        rw [if_pos (by rfl)]
        exact wp_val (v := .bool true) (w' := W) (by simp [execOp, Act.eval, h93, go_sem]) (hK _ _ hG (Below.refl _ _) rfl (fun h => by cases h))
      · refine stepJ_any rfl fun ac W hAA hG hDD K hK => ?_
        have h0 := hAA.getD (t := 0) (by kernel_rfl)
        have hgd := hDD.get 16 94 _ rfl rfl (by kernel_rfl)
        have hgd := slot_bool hgd
        simp only [Array.getD_eq_getD_getElem?] at h0
        rw [if_pos (by simp [Region.wanted, yielded, hgd])]
        exact wp_val (v := .slice (some ⟨b1, o1, none⟩) la.length ca) (w' := W) (by simp [execOp, Act.eval, h0, go_sem]) (hK _ _ hG (Below.refl _ _) rfl (fun h => by cases h))
      · refine stepJ_any rfl fun ac W hAA hG hDD K hK => ?_
        have h5 := hAA.getD (t := 5) (by kernel_rfl)
        have hgd := hDD.get 16 94 _ rfl rfl (by kernel_rfl)
        have hgd := slot_bool hgd
        simp only [Array.getD_eq_getD_getElem?] at h5
        rw [if_pos (by simp [Region.wanted, yielded, hgd])]
        exact wp_val (v := .int .i64 (k : Int)) (w' := W) (by simp [execOp, Act.eval, h5, go_sem]) (hK _ _ hG (Below.refl _ _) rfl (fun h => by cases h))
      · refine stepJ_any rfl fun ac W hAA hG hDD K hK => ?_
        have h95 := hDD.get 17 95 _ rfl rfl (by kernel_rfl)
        have h96 := hDD.get 18 96 _ rfl rfl (by kernel_rfl)
        have hgd := hDD.get 16 94 _ rfl rfl (by kernel_rfl)
        have hgd := slot_bool hgd
        simp only [Array.getD_eq_getD_getElem?] at h95 h96
        rw [if_pos (by simp [Region.wanted, yielded, hgd])]
        exact wp_val (v := .pointer (some ⟨b1, o1 + k * 35, none⟩)) (w' := W) (by simp [execOp, Act.eval, h95, h96, go_sem, k0, k2i]) (hK _ _ hG (Below.refl _ _) rfl (fun h => by cases h))
      · refine stepJ_any rfl fun ac W hAA hG hDD K hK => ?_
        have h97 := hDD.get 19 97 _ rfl rfl (by kernel_rfl)
        have hgd := hDD.get 16 94 _ rfl rfl (by kernel_rfl)
        have hgd := slot_bool hgd
        rw [if_pos (by simp [Region.wanted, yielded, hgd])]
        exact wp_load_mid 37 _ rfl b1 (o1 + k * 35) h97 (LW x da dc) _ (hx.out W hG) Tryd.underlying37 rfl hsx.out (hK _ _ hG (Below.refl _ _) rfl (fun h => by cases h))
      · refine stepJ_any rfl fun ac W hAA hG hDD K hK => ?_
        have h1 := hAA.getD (t := 1) (by kernel_rfl)
        have hgd := hDD.get 16 94 _ rfl rfl (by kernel_rfl)
        have hgd := slot_bool hgd
        simp only [Array.getD_eq_getD_getElem?] at h1
        rw [if_pos (by simp [Region.wanted, yielded, hgd])]
        exact wp_val (v := .slice (some ⟨b2, o2, none⟩) lb.length cb) (w' := W) (by simp [execOp, Act.eval, h1, go_sem]) (hK _ _ hG (Below.refl _ _) rfl (fun h => by cases h))
      · refine stepJ_any rfl fun ac W hAA hG hDD K hK => ?_
        have h5 := hAA.getD (t := 5) (by kernel_rfl)
        have hgd := hDD.get 16 94 _ rfl rfl (by kernel_rfl)
        have hgd := slot_bool hgd
        simp only [Array.getD_eq_getD_getElem?] at h5
        rw [if_pos (by simp [Region.wanted, yielded, hgd])]
        exact wp_val (v := .int .i64 (k : Int)) (w' := W) (by simp [execOp, Act.eval, h5, go_sem]) (hK _ _ hG (Below.refl _ _) rfl (fun h => by cases h))
      · refine stepJ_any rfl fun ac W hAA hG hDD K hK => ?_
        have h99 := hDD.get 21 99 _ rfl rfl (by kernel_rfl)
        have h100 := hDD.get 22 100 _ rfl rfl (by kernel_rfl)
        have hgd := hDD.get 16 94 _ rfl rfl (by kernel_rfl)
        have hgd := slot_bool hgd
        simp only [Array.getD_eq_getD_getElem?] at h99 h100
        rw [if_pos (by simp [Region.wanted, yielded, hgd])]
        exact wp_val (v := .pointer (some ⟨b2, o2 + k * 35, none⟩)) (w' := W) (by simp [execOp, Act.eval, h99, h100, go_sem, k0, k3i]) (hK _ _ hG (Below.refl _ _) rfl (fun h => by cases h))
      · refine stepJ_any rfl fun ac W hAA hG hDD K hK => ?_
        have h101 := hDD.get 23 101 _ rfl rfl (by kernel_rfl)
        have hgd := hDD.get 16 94 _ rfl rfl (by kernel_rfl)
        have hgd := slot_bool hgd
        rw [if_pos (by simp [Region.wanted, yielded, hgd])]
        exact wp_load_mid 37 _ rfl b2 (o2 + k * 35) h101 (LW y da' dc') _ (hy.out W hG) Tryd.underlying37 rfl hsy.out (hK _ _ hG (Below.refl _ _) rfl (fun h => by cases h))
      · refine stepJ_any rfl fun ac W hAA hG hDD K hK => ?_
        have h98 := hDD.get 20 98 _ rfl rfl (by kernel_rfl)
        have h102 := hDD.get 24 102 _ rfl rfl (by kernel_rfl)
        have hgd := hDD.get 16 94 _ rfl rfl (by kernel_rfl)
        have hgd := slot_bool hgd
        simp only [Array.getD_eq_getD_getElem?] at h98 h102
        rw [if_pos (by simp [Region.wanted, yielded, hgd])]
        refine wp_call (f := 18) (args := #[.agg (LW x da dc).toArray, .agg (LW y da' dc').toArray]) (by simp [execOp, Act.eval, h98, h102, go_sem]) ((hSl.out W hG).mono fun e W9 he => ?_)
        obtain ⟨rfl, hbw⟩ := he
        exact hK _ _ (hG.trans (hbw.mono hG.size)) hbw rfl (fun h => by cases h)
      · refine stepJ_any rfl fun ac W hAA hG hDD K hK => ?_
        have h103 := hDD.get 25 103 _ rfl rfl (by kernel_rfl)
        have hgd := hDD.get 16 94 _ rfl rfl (by kernel_rfl)
        have hgd := slot_bool hgd
        simp only [Array.getD_eq_getD_getElem?] at h103
        rw [if_pos (by simp [Region.wanted, yielded, hgd])]
        exact wp_val (v := .bool true) (w' := W) (by simp [execOp, Act.eval, h103, go_sem]) (hK _ _ hG (Below.refl _ _) rfl (fun h => by cases h))
      · refine stepJ_any rfl fun ac W hAA hG hDD K hK => ?_
        have h94 := hDD.get 16 94 _ rfl rfl (by kernel_rfl)
        have h104 := hDD.get 26 104 _ rfl rfl (by kernel_rfl)
        simp only [Array.getD_eq_getD_getElem?] at h94 h104
        rw [if_pos (by rfl)]
        exact wp_val (v := .bool true) (w' := W) (by simp [execOp, Act.eval, h94, h104, go_sem]) (hK _ _ hG (Below.refl _ _) rfl (fun h => by cases h))
      · refine stepJ_any rfl fun ac W hAA hG hDD K hK => ?_
        have h105 := hDD.get 27 105 _ rfl rfl (by kernel_rfl)
        simp only [Array.getD_eq_getD_getElem?] at h105
        rw [if_pos (by rfl)]
        exact wp_val (v := .bool true) (w' := W) (by simp [execOp, Act.eval, h105, go_sem]) (hK _ _ hG (Below.refl _ _) rfl (fun h => by cases h))
    intro fu T W9 hG hF hne hltb
    have e78 : T 78 = .int .i64 (k : Int) := hF 0 _ rfl (by omega)
    have e79 : T 79 = .bool true := hF 1 _ rfl (by omega)
    have e80 : T 80 = .bool true := hF 2 _ rfl (by omega)
    have e81 : T 81 = .int .i64 (k : Int) := hF 3 _ rfl (by omega)
    have e82 : T 82 = .int .i64 (N : Int) := hF 4 _ rfl (by omega)
    have e83 : T 83 = .bool true := hF 5 _ rfl (by omega)
    have e84 : T 84 = .bool true := hF 6 _ rfl (by omega)
    have e85 : T 85 = .bool true := hF 7 _ rfl (by omega)
    have e86 : T 86 = .slice (some ⟨b1, o1, none⟩) la.length ca := hF 8 _ rfl (by omega)
    have e87 : T 87 = .int .i64 (k : Int) := hF 9 _ rfl (by omega)
    have e88 : T 88 = .slice (some ⟨b1, o1, none⟩) k ca := hF 10 _ rfl (by omega)
    have e89 : T 89 = .slice (some ⟨b2, o2, none⟩) lb.length cb := hF 11 _ rfl (by omega)
    have e90 : T 90 = .int .i64 (k : Int) := hF 12 _ rfl (by omega)
    have e91 : T 91 = .slice (some ⟨b2, o2, none⟩) k cb := hF 13 _ rfl (by omega)
    have e92 : T 92 = .bool true := hF 14 _ rfl (by omega)
    have e93 : T 93 = .bool true := hF 15 _ rfl (by omega)
    have e94 : T 94 = .bool true := hF 16 _ rfl (by omega)
    have e95 : T 95 = .slice (some ⟨b1, o1, none⟩) la.length ca := hF 17 _ rfl (by omega)
    have e96 : T 96 = .int .i64 (k : Int) := hF 18 _ rfl (by omega)
    have e97 : T 97 = .pointer (some ⟨b1, o1 + k * 35, none⟩) := hF 19 _ rfl (by omega)
    have e98 : T 98 = .agg (LW x da dc).toArray := hF 20 _ rfl (by omega)
    have e99 : T 99 = .slice (some ⟨b2, o2, none⟩) lb.length cb := hF 21 _ rfl (by omega)
    have e100 : T 100 = .int .i64 (k : Int) := hF 22 _ rfl (by omega)
    have e101 : T 101 = .pointer (some ⟨b2, o2 + k * 35, none⟩) := hF 23 _ rfl (by omega)
    have e102 : T 102 = .agg (LW y da' dc').toArray := hF 24 _ rfl (by omega)
    have e103 : T 103 = .bool false := hF 25 _ rfl (by omega)
    have e104 : T 104 = .bool true := hF 26 _ rfl (by omega)
    have e105 : T 105 = .bool true := hF 27 _ rfl (by omega)
    have e4 : T 4 = .bool true := hF 28 _ rfl (by omega)
    clear hF hne hltb
    simp only [List.take, fillT, List.setIfInBounds_toArray, List.set_cons_zero, List.set_cons_succ, e78, e79, e80, e81, e82, e83, e84, e85, e86, e87, e88, e89, e90, e91, e92, e93, e94, e95, e96, e97, e98, e99, e100, e101, e102, e103, e104, e105, e4]
    clear e78 e79 e80 e81 e82 e83 e84 e85 e86 e87 e88 e89 e90 e91 e92 e93 e94 e95 e96 e97 e98 e99 e100 e101 e102 e103 e104 e105 e4
    refine wpAny_done (by kernel_rfl) ?_ _
    replace hB := Lib.hid (hB.out.trans (hG.mono hB.out.size))
    clear hG hSm hSl hx hy
    go_wp2_with fail
    go_ret
    exact ⟨rfl, hB.out⟩
end Go.Proofs.YtbhpmeljmkoebaaDoor
