/- The beginnings of a list of links, with their heads: beginnings and its iterator. -/
import Derived.Test.YtbhpmeljmkoebaaDoorVe
import Derived.Test.YtbhpmeljmkoebaaDoorIw
import Derived.Test.YtbhpmeljmkoebaaDoorIr
import Derived.RangeFuncBox
namespace Go.Proofs.YtbhpmeljmkoebaaDoor
open Go.RowKit Go.Shelf

theorem QL.toto' {w : World} {B : Nat} {l : List Lk} {a : Option Addr} {cap k : Nat} (h : QL w B l a cap) (hk : k ≤ l.length) : QL w B (l.take k) a k :=
  h.cut hk (Nat.le_refl _) (Nat.le_trans hk h.1) id (.inl rfl)
theorem beginnings_any (a : Option Addr) (n cap : Nat) (w : World) : Calls Tryd.prog 31 #[.slice a n cap] w fun e w' => e = .returned (.func (.func 41) #[] #[.pointer (some ⟨w.heap.size, 0, none⟩)]) ∧
    w' = w.alloc (.cells #[.slice a n cap] 22) := by
  go_enter Tryd.func31, Tryd.ntmps31
  go_wp2_with fail
  go_ret
  exact ⟨rfl, rfl⟩

def beginV (a : Option Addr) (l : List Lk) (k : Nat) : Array Value := #[.slice a k k, .agg (BV (headP (l.take k))).toArray]
set_option maxRecDepth 100000 in
set_option maxHeartbeats 2000000 in
theorem begins_gives (q : Nat) (hq : 1 ≤ q) (Bl : Nat) (l : List Lk) (hl : Short l) (hm : l.length ≤ 1000000000) (a : Option Addr) (cap : Nat) (w : World) (hBl : Bl < w.heap.size) (hQ : QL w w.heap.size l a cap) (hKT : KT w) (h0 : 0 < w.heap.size)
    (c0 : w.cell? ⟨Bl, 0, none⟩ = some (.slice a l.length cap)) :
    GivesAt Fence.wide q Tryd.prog 41 #[.pointer (some ⟨Bl, 0, none⟩)] (beginV a l) (fun W W' => Below w.heap.size W W') l.length w := fun lf J Jx W hW hJ _ hY hJ0 => by
  have hro : Fence.wide.round = none := rfl
  have d0 := (hW.cell (p := ⟨Bl, 0, none⟩) hBl).trans c0
  replace c0 := Lib.hid c0
  replace hQ := Lib.hid hQ
  replace hl := Lib.hid hl
  replace hKT := Lib.hid hKT
  refine callsIn_of_wp Tryd.func41 rfl trivial ?_ hro
  simp only [Tryd.ntmps41, List.size_toArray, List.length_cons, List.length_nil, Nat.reduceAdd, Nat.reduceSub, Array.replicate_succ, Array.replicate_zero, List.push_toArray, List.append_toArray, List.nil_append, List.cons_append]
  gi_wp2
  clear d0
  gi_loopw [3, 6] (fun _ i wr => ∃ k : Nat, k ≤ l.length ∧ i = .int .i64 (k : Int) ∧ J k wr ∧ Hid (Below w.heap.size w wr)) (fun _ i _ => l.length - (intOf i).toNat)
  case atStart => exact ⟨0, Nat.zero_le _, rfl, hJ0, Lib.hid hW⟩
  case round =>
    obtain ⟨k, hk, rfl, hJk, hb⟩ := hrel
    by_cases hlt : k < l.length
    · have hQr := hQ.out.lift hb.out hb.out.size
      have hkc : k ≤ cap := Nat.le_trans hk hQr.1
      obtain ⟨A2, hs2, hQ2⟩ := hQr.to hk
      have hlen : (l.take k).length = k := by rw [List.length_take]; omega
      have hc0 : Hid (∀ W, Below wr.heap.size wr W → W.cell? ⟨Bl, 0, none⟩ = some (.slice a l.length cap)) := fun W hW' => ((hb.out.trans (hW'.mono hb.out.size)).cell (p := ⟨Bl, 0, none⟩) hBl).trans c0.out
      have hH : Hid (∀ W, Below wr.heap.size wr W → Calls Tryd.prog 15 #[.slice A2 k cap] W fun e w' => e = .returned (.agg (BV (headP (l.take k))).toArray) ∧ Below W.heap.size W w') := fun W hW' => by
        have hb' := hb.out.trans (hW'.mono hb.out.size)
        have := Head_any (l.take k) (hl.out.take k) (by rw [hlen]; omega) W A2 cap (hQ2.lift hW' hW'.size) (hKT.out.below hb' h0) (Nat.lt_of_lt_of_le h0 hb'.size)
        rwa [hlen] at this
      replace hs2 := Lib.hid hs2
      replace hJk := Lib.hid hJk
      have i1 : (k : Int) < l.length := by omega
      clear hQr hQ2 hlen
      gi_wp2
      refine wpIn_region_preF _ 9 2 (fun W => Below wr.heap.size wr W) (fun W W' => Below W.heap.size W W')
        (fun i v W => match i with
          | 0 => v = .func (.yield lf) #[] #[]
          | 1 => v = .slice a l.length cap
          | 2 => v = .int .i64 (k : Int)
          | 3 => v = .int .i64 (k : Int)
          | 4 => v = .slice a k k
          | 5 => v = .slice a l.length cap
          | 6 => v = .int .i64 (k : Int)
          | 7 => v = .slice A2 k cap
          | 8 => v = .agg (BV (headP (l.take k))).toArray
          | _ => True) (fun _ => false)
        (by kernel_rfl) (by kernel_rfl) (by kernel_rfl) (by kernel_rfl) (by kernel_rfl) (by kernel_rfl) (by kernel_rfl) ?_ (fun _ _ h => h.size) (dN (Below.refl _ _) 1) ?_ ?_
      · intro i v W W' hb hF
        match i, hF with
        | 0, h => exact h
        | 1, h => exact h
        | 2, h => exact h
        | 3, h => exact h
        | 4, h => exact h
        | 5, h => exact h
        | 6, h => exact h
        | 7, h => exact h
        | 8, h => exact h
        | _ + 9, _ => trivial
      · refine ⟨?_, ?_, ?_, ?_, ?_, ?_, ?_, ?_, ?_, trivial⟩
        · refine stepJ_any rfl fun ac W hAA hG hDD K hK => ?_
          have h0 := hAA.getD (t := 0) (by kernel_rfl)
          simp only [Array.getD_eq_getD_getElem?] at h0
          rw [if_pos (by rfl)]
          exact wp_val (v := .func (.yield lf) #[] #[]) (w' := W) (by simp [execOp, Act.eval, h0, go_sem]) (hK _ _ hG (Below.refl _ _) rfl (fun h => by cases h))
        · refine stepJ_any rfl fun ac W hAA hG hDD K hK => ?_
          have h1 := hAA.getD (t := 1) (by kernel_rfl)
          simp only [Array.getD_eq_getD_getElem?] at h1
          have m0 := hc0.out W hG
          rw [if_pos (by rfl)]
          exact wp_val (v := .slice a l.length cap) (w' := W) (by simp [execOp, Act.eval, h1, go_sem, m0]) (hK _ _ hG (Below.refl _ _) rfl (fun h => by cases h))
        · refine stepJ_any rfl fun ac W hAA hG hDD K hK => ?_
          have h3 := hAA.getD (t := 3) (by kernel_rfl)
          simp only [Array.getD_eq_getD_getElem?] at h3
          rw [if_pos (by rfl)]
          exact wp_val (v := .int .i64 (k : Int)) (w' := W) (by simp [execOp, Act.eval, h3, go_sem]) (hK _ _ hG (Below.refl _ _) rfl (fun h => by cases h))
        · refine stepJ_any rfl fun ac W hAA hG hDD K hK => ?_
          have h3 := hAA.getD (t := 3) (by kernel_rfl)
          simp only [Array.getD_eq_getD_getElem?] at h3
          rw [if_pos (by rfl)]
          exact wp_val (v := .int .i64 (k : Int)) (w' := W) (by simp [execOp, Act.eval, h3, go_sem]) (hK _ _ hG (Below.refl _ _) rfl (fun h => by cases h))
        · refine stepJ_any rfl fun ac W hAA hG hDD K hK => ?_
          have h10 := hDD.get 1 10 _ rfl rfl (by kernel_rfl)
          have h11 := hDD.get 2 11 _ rfl rfl (by kernel_rfl)
          have h12 := hDD.get 3 12 _ rfl rfl (by kernel_rfl)
          simp only [Array.getD_eq_getD_getElem?] at h10 h11 h12
          have hs := slice_toto a l.length cap k hkc W
          rw [if_pos (by rfl)]
          exact wp_val (v := .slice a k k) (w' := W) (by simp [execOp, Act.eval, h10, h11, h12, go_sem, hs]) (hK _ _ hG (Below.refl _ _) rfl (fun h => by cases h))
        · refine stepJ_any rfl fun ac W hAA hG hDD K hK => ?_
          have h1 := hAA.getD (t := 1) (by kernel_rfl)
          simp only [Array.getD_eq_getD_getElem?] at h1
          have m0 := hc0.out W hG
          rw [if_pos (by rfl)]
          exact wp_val (v := .slice a l.length cap) (w' := W) (by simp [execOp, Act.eval, h1, go_sem, m0]) (hK _ _ hG (Below.refl _ _) rfl (fun h => by cases h))
        · refine stepJ_any rfl fun ac W hAA hG hDD K hK => ?_
          have h3 := hAA.getD (t := 3) (by kernel_rfl)
          simp only [Array.getD_eq_getD_getElem?] at h3
          rw [if_pos (by rfl)]
          exact wp_val (v := .int .i64 (k : Int)) (w' := W) (by simp [execOp, Act.eval, h3, go_sem]) (hK _ _ hG (Below.refl _ _) rfl (fun h => by cases h))
        · refine stepJ_any rfl fun ac W hAA hG hDD K hK => ?_
          have h14 := hDD.get 5 14 _ rfl rfl (by kernel_rfl)
          have h15 := hDD.get 6 15 _ rfl rfl (by kernel_rfl)
          simp only [Array.getD_eq_getD_getElem?] at h14 h15
          have hs := hs2.out W
          rw [if_pos (by rfl)]
          exact wp_val (v := .slice A2 k cap) (w' := W) (by simp [execOp, Act.eval, h14, h15, go_sem, hs]) (hK _ _ hG (Below.refl _ _) rfl (fun h => by cases h))
        · refine stepJ_any rfl fun ac W hAA hG hDD K hK => ?_
          have h16 := hDD.get 7 16 _ rfl rfl (by kernel_rfl)
          simp only [Array.getD_eq_getD_getElem?] at h16
          rw [if_pos (by rfl)]
          refine wp_call (f := 15) (args := #[.slice A2 k cap]) (by simp [execOp, Act.eval, h16, go_sem]) ((hH.out W hG).mono fun e W9 he => ?_)
          obtain ⟨rfl, hbw⟩ := he
          exact hK _ _ (hG.trans (hbw.mono hG.size)) hbw rfl (fun h => by cases h)
      intro fu T W9 hG hF hne hltb
      have e9 : T 9 = .func (.yield lf) #[] #[] := hF 0 _ rfl (by omega)
      have e10 : T 10 = .slice a l.length cap := hF 1 _ rfl (by omega)
      have e11 : T 11 = .int .i64 (k : Int) := hF 2 _ rfl (by omega)
      have e12 : T 12 = .int .i64 (k : Int) := hF 3 _ rfl (by omega)
      have e13 : T 13 = .slice a k k := hF 4 _ rfl (by omega)
      have e14 : T 14 = .slice a l.length cap := hF 5 _ rfl (by omega)
      have e15 : T 15 = .int .i64 (k : Int) := hF 6 _ rfl (by omega)
      have e16 : T 16 = .slice A2 k cap := hF 7 _ rfl (by omega)
      have e17 : T 17 = .agg (BV (headP (l.take k))).toArray := hF 8 _ rfl (by omega)
      clear hF hne hltb
      simp only [List.take, fillT, List.setIfInBounds_toArray, List.set_cons_zero, List.set_cons_succ, e9, e10, e11, e12, e13, e14, e15, e16, e17]
      clear e9 e10 e11 e12 e13 e14 e15 e16 e17
      have hJ9 : J k W9 := hJ k wr W9 none hJk.out ⟨hG.os, hG.tape, hG.output, hG.size, fun k' hk' _ => hG.block k' hk'⟩ (fun r e => by cases e)
      obtain ⟨fn, tmps, assign, body, hy, hR⟩ := hY k W9 hlt hJ9
      replace hb := Lib.hid (hb.out.trans (hG.mono hb.out.size))
      clear hc0 hH hs2 hJk hJ9 hG hkc
      refine wpAnyIn_ready (rs := [9]) (by kernel_rfl) (by simp) (AllReadyIn.cons (o := ⟨(some 18), (Op.call { callee := (Callee.value (Operand.tmp 9)), args := #[(Operand.tmp 13), (Operand.tmp 17)], argTypes := #[22, 35] }), _, _, _, none⟩) rfl (fun K1 hK1 => ?_) AllReadyIn.nil)
      rw [if_pos (by rfl)]
      refine ⟨fun _ _ => trivial, ?_⟩
      unfold beginV at hy
      simp [Oper.semAt_none, execOp, Act.eval, go_sem, hy]
      refine ⟨fun _ => hq, hR.mono ?_⟩
      rintro e W3 (⟨rfl, hJ3, hk3⟩ | ⟨rfl, hJx3⟩)
      · refine hK1 _ _ ?_
        clear hK1 K1 hy hR
        try simp only [Act.put, List.setIfInBounds_toArray, List.set_cons_zero, List.set_cons_succ]
        refine wpAnyIn_ready (rs := [10]) (by kernel_rfl) (by simp) (AllReadyIn.cons (o := ⟨(some 19), (Op.unOp UnOp.not 4 (Operand.tmp 18)), _, _, _, none⟩) rfl (fun K1 hK1 => ?_) AllReadyIn.nil)
        rw [if_pos (by rfl)]
        refine (oper_wide _ (wp_val (v := .bool false) (w' := W3) (by simp [execOp, Act.eval, go_sem]) ?_))
        refine hK1 _ _ ?_
        clear hK1 K1
        refine wpAnyIn_done (by kernel_rfl) ?_ _
        simp only [Act.put, List.setIfInBounds_toArray, List.set_cons_zero, List.set_cons_succ]
        replace hb := Lib.hid (hb.out.trans hk3)
        clear hk3
        gi_wp2
        go_roundw
        case rel => exact ⟨k + 1, by omega, by go_num, hJ3, hb⟩
        case measure => simp [intOf]; omega
      · refine hK1 _ _ ?_
        clear hK1 K1 hy hR
        try simp only [Act.put, List.setIfInBounds_toArray, List.set_cons_zero, List.set_cons_succ]
        refine wpAnyIn_ready (rs := [10]) (by kernel_rfl) (by simp) (AllReadyIn.cons (o := ⟨(some 19), (Op.unOp UnOp.not 4 (Operand.tmp 18)), _, _, _, none⟩) rfl (fun K1 hK1 => ?_) AllReadyIn.nil)
        rw [if_pos (by rfl)]
        refine (oper_wide _ (wp_val (v := .bool true) (w' := W3) (by simp [execOp, Act.eval, go_sem]) ?_))
        refine hK1 _ _ ?_
        clear hK1 K1
        refine wpAnyIn_done (by kernel_rfl) ?_ _
        simp only [Act.put, List.setIfInBounds_toArray, List.set_cons_zero, List.set_cons_succ]
        gi_wp2
        refine bodyPost_ret (results_none rfl _ _ _) rfl ?_
        exact ⟨⟨_, rfl⟩, .inr ⟨k, hlt, hJx3⟩⟩
    · obtain rfl : k = l.length := by omega
      gi_wp2
      go_end0
      exact ⟨⟨_, rfl⟩, .inl hJk⟩
end Go.Proofs.YtbhpmeljmkoebaaDoor
