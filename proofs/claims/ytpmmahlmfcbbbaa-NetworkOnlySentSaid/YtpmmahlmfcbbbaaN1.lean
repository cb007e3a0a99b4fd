/- The iterator over the other links. -/
import Derived.RangeFuncNested
import Derived.RangeFuncBound
import Derived.RangeFuncCalls
import Derived.RangeFuncLeaves
import Derived.Shelf.Abstract
import Derived.Shelf.RegionOpen
import Derived.WalkKit
import Derived.OwnWalkIn
import Derived.TacticsInMore
import Derived.LoopNIn
import Derived.LoopIn
import Derived.Test.YtpmmahlmfcbbbaaNy
namespace Go.Proofs.Ytpmmahlmfcbbbaa
open Go.RowKit Go.Shelf
attribute [local go_sem] Oper.semAt_some

/-- A link as it lies. -/
def lkV (x : Int × Int) : Array Value := #[.agg #[.int .i64 x.1, .int .i64 x.2]]
/-- What a round keeps: what lay below, and the boxes of the list and of the link. -/
def KpN (n0 Bs Bk : Nat) (X Y : World) : Prop := Below n0 X Y ∧ Y.heap[Bs]? = X.heap[Bs]? ∧ Y.heap[Bk]? = X.heap[Bk]?
theorem KpN.refl (n0 Bs Bk : Nat) (X : World) : KpN n0 Bs Bk X X := ⟨Below.refl _ _, rfl, rfl⟩
theorem KpN.trans {n0 Bs Bk : Nat} {X Y Z : World} (h : KpN n0 Bs Bk X Y) (k : KpN n0 Bs Bk Y Z) : KpN n0 Bs Bk X Z := ⟨h.1.trans k.1, k.2.1.trans h.2.1, k.2.2.trans h.2.2⟩
theorem KpN.alloc {n0 Bs Bk : Nat} {X : World} (o : Obj) (h0 : n0 ≤ X.heap.size) (h1 : Bs < X.heap.size) (h2 : Bk < X.heap.size) : KpN n0 Bs Bk X (X.alloc o) := ⟨(Below.refl n0 X).alloc h0 o, Below.heap_alloc X o Bs h1, Below.heap_alloc X o Bk h2⟩
/-- The others. -/
def oth (ls : List (Int × Int)) (k : Int × Int) : List (Int × Int) := ls.filter fun x => decide (x ≠ k)
theorem oth_skip {ls : List (Int × Int)} {k : Int × Int} {i : Nat} (h : i < ls.length) (e : ls[i] = k) : oth (ls.take (i + 1)) k = oth (ls.take i) k := by
  unfold oth; rw [List.take_succ_eq_append_getElem h, List.filter_append]; simp [e]
theorem oth_take {ls : List (Int × Int)} {k : Int × Int} {i : Nat} (h : i < ls.length) (e : ls[i] ≠ k) : oth (ls.take (i + 1)) k = oth (ls.take i) k ++ [ls[i]] := by
  unfold oth; rw [List.take_succ_eq_append_getElem h, List.filter_append]; simp [e]
theorem oth_len (ls : List (Int × Int)) (k : Int × Int) (i : Nat) (h : i < ls.length) : (oth (ls.take i) k).length < ls.length := by
  have : (oth (ls.take i) k).length ≤ (ls.take i).length := List.length_filter_le _ _
  rw [List.length_take] at this
  omega

set_option maxRecDepth 100000 in
set_option maxHeartbeats 2000000 in
/-- The closure, for every loop body that keeps what lay below n0, and the two boxes. -/
theorem oth1_in (F : Fence) (n : Nat) (hF : F.fn 46) (hro : F.round = none) (hn : 1 ≤ n) (l Bs Bk n0 cap : Nat) (ls : List (Int × Int)) (k : Int × Int) (hreach : ls.length ≤ 4096) (A : Option Addr)
    (J Jx : List (Int × Int) → World → Prop)
    (hY : ∀ pre x W, J pre W → pre.length < ls.length → YieldAt F (n - 1) Try.prog l (lkV x) W fun e W' =>
      (e = .returned (.bool true) ∧ J (pre ++ [x]) W' ∧ KpN n0 Bs Bk W W') ∨ (e = .returned (.bool false) ∧ Jx (pre ++ [x]) W'))
    (W : World) (hJ : ∀ pre W' o, J pre W' → J pre (W'.alloc o)) (hz : n0 ≤ W.heap.size)
    (hBs : W.heap[Bs]? = some (.cells #[.slice A ls.length cap] 23 (0, 0))) (hBk : W.heap[Bk]? = some (.cells #[.int .i64 k.1, .int .i64 k.2] 55 (0, 0))) (hL : LR W (· < n0) A ls) (h0 : J [] W) :
    CallsIn F n Try.prog 46 #[.func (.yield l) #[] #[], .pointer (some ⟨Bs, 0, none⟩), .pointer (some ⟨Bk, 0, none⟩)] W fun e W' => (∃ v, e = .returned v) ∧
      ((∃ ys, ys = oth ls k ∧ J ys W') ∨ (∃ pre, True ∧ Jx pre W')) := by
  refine callsIn_of_wp Try.func46 rfl hF ?_ hro
  simp only [Try.ntmps46, List.size_toArray, List.length_cons, List.length_nil, Nat.reduceAdd, Nat.reduceSub, Array.replicate_succ, Array.replicate_zero, List.push_toArray, List.append_toArray, List.nil_append, List.cons_append]
  have hs0 : W.cell? ⟨Bs, 0, none⟩ = some (.slice A ls.length cap) := (cell_of_row W Bs 0 _ _ _ hBs).trans rfl
  have hEq := fun (a b : Int × Int) (W : World) => run_equalIn_two (P := Try.prog) W 9998 55 3 Try.underlying55 Try.underlying3 Try.sizeOf3 a.1 a.2 b.1 b.2
  replace hEq := Lib.hid hEq
  replace hY := Lib.hid hY
  replace hJ := Lib.hid hJ
  replace hL := Lib.hid hL
  replace hBs := Lib.hid hBs
  replace hBk := Lib.hid hBk
  gi_wp2
  clear hs0
  gi_loopw [5, 8] (fun _ i wr => ∃ q : Nat, q ≤ ls.length ∧ i = .int .i64 q ∧ Hid (J (oth (ls.take q) k) wr) ∧ KpN n0 Bs Bk W wr)
    (fun _ i _ => ls.length - (intOf i).toNat)
  case atStart => exact ⟨0, Nat.zero_le _, rfl, h0, KpN.refl _ _ _ _⟩
  case round =>
    obtain ⟨q, hq, rfl, hJs, hnx⟩ := hrel
    by_cases hlt : q < ls.length
    · obtain ⟨b, off, rfl, hb, hc0, hc1, hI⟩ := (hL.out.keep (Kept.below hnx.1)).at_ hlt
      have kS := hnx.2.1.trans hBs.out
      have kK := hnx.2.2.trans hBk.out
      have hBsl := (Array.getElem?_eq_some_iff.1 kS).1
      have hBkl := (Array.getElem?_eq_some_iff.1 kK).1
      have hzr : n0 ≤ wr.heap.size := Nat.le_trans hz hnx.1.size
      have kL := heap_alloc_new wr (.cells #[.int .i64 ls[q].1, .int .i64 ls[q].2] 55)
      have hkp := hnx.trans (KpN.alloc (X := wr) (.cells #[.int .i64 ls[q].1, .int .i64 ls[q].2] 55) hzr hBsl hBkl)
      have hJ1 := hJ.out _ _ (.cells #[.int .i64 ls[q].1, .int .i64 ls[q].2] 55) hJs.out
      have k0 : (wr.alloc (.cells #[.int .i64 ls[q].1, .int .i64 ls[q].2] 55)).cell? ⟨Bk, 0, none⟩ = some (.int .i64 k.1) := (World.cell?_alloc_lt wr _ ⟨Bk, 0, none⟩ hBkl).trans (cell_of_row wr Bk 0 _ _ _ kK)
      have k1 : (wr.alloc (.cells #[.int .i64 ls[q].1, .int .i64 ls[q].2] 55)).cell? ⟨Bk, 1, none⟩ = some (.int .i64 k.2) := (World.cell?_alloc_lt wr _ ⟨Bk, 1, none⟩ hBkl).trans (cell_of_row wr Bk 1 _ _ _ kK)
      have q0 : wr.cell? ⟨Bk, 0, none⟩ = some (.int .i64 k.1) := cell_of_row wr Bk 0 _ _ _ kK
      have q1 : wr.cell? ⟨Bk, 1, none⟩ = some (.int .i64 k.2) := cell_of_row wr Bk 1 _ _ _ kK
      have hE := hEq.out ls[q] k (wr.alloc (.cells #[.int .i64 ls[q].1, .int .i64 ls[q].2] 55))
      by_cases he : ls[q] = k
      · have hsk := Lib.hid (oth_skip hlt he)
        rw [show (decide (ls[q].1 = k.1) && decide (ls[q].2 = k.2)) = true by rw [he]; simp] at hE
        replace hkp := Lib.hid hkp
        replace hJ1 := Lib.hid hJ1
        clear he hnx hJs kS kK kL
        gi_wp2
        refine ⟨fun _ h => (by cases h), ?_⟩
        gi_wp2
        go_roundw
        case rel => exact ⟨q + 1, by omega, by go_num, by rw [hsk.out]; exact hJ1, hkp.out⟩
        case measure => simp [intOf]; omega
      · have hsk := Lib.hid (oth_take hlt he)
        rw [show (decide (ls[q].1 = k.1) && decide (ls[q].2 = k.2)) = false by
          rw [Bool.and_eq_false_iff, decide_eq_false_iff_not, decide_eq_false_iff_not]
          exact Decidable.not_and_iff_or_not.1 fun h => he (Prod.ext h.1 h.2)] at hE
        obtain ⟨fn, tmps, assign, body, hy, hR⟩ := hY.out _ ls[q] _ hJ1 (oth_len ls k q hlt)
        replace hkp := Lib.hid hkp
        simp only [lkV] at hy
        clear he hnx hJs kS kK kL hJ1
        gi_wp2
        refine hR.mono ?_
        rintro e W3 (⟨rfl, hJ3, hk3⟩ | ⟨rfl, hJx3⟩)
        · replace hJ3 := Lib.hid hJ3
          gi_wp2
          go_roundw
          case rel => exact ⟨q + 1, by omega, by go_num, by rw [hsk.out]; exact hJ3, hkp.out.trans hk3⟩
          case measure => simp [intOf]; omega
        · gi_wp2
          refine bodyPost_ret (results_none rfl _ _ _) rfl ?_
          exact ⟨⟨_, rfl⟩, .inr ⟨_, trivial, hJx3⟩⟩
    · obtain rfl : q = ls.length := by omega
      have hJs := Lib.hid (show J (oth ls k) wr by have := hJs.out; rwa [List.take_of_length_le (Nat.le_refl _)] at this)
      gi_wp2
      go_end0
      exact ⟨⟨_, rfl⟩, .inl ⟨_, rfl, hJs.out⟩⟩

set_option maxHeartbeats 1000000 in
theorem others_in (F : Fence) (n : Nat) (hF : F.fn 36) (hro : F.round = none) (A : Option Addr) (len cap : Nat) (k : Int × Int) (w : World) :
    CallsIn F n Try.prog 36 #[.slice A len cap, .agg #[.int .i64 k.1, .int .i64 k.2]] w fun e w' => e = .returned (.func (.func 46) #[] #[.pointer (some ⟨w.heap.size, 0, none⟩), .pointer (some ⟨w.heap.size + 1, 0, none⟩)]) ∧ w' = (w.alloc (.cells #[.slice A len cap] 23)).alloc (.cells #[.int .i64 k.1, .int .i64 k.2] 55) := by
  refine callsIn_of_wp Try.func36 rfl hF ?_ hro
  simp only [Try.ntmps36, List.size_toArray, List.length_cons, List.length_nil, Nat.reduceAdd, Nat.reduceSub, Array.replicate_succ, Array.replicate_zero, List.push_toArray, List.append_toArray, List.nil_append, List.cons_append]
  gi_wp2
  go_ret
  exact ⟨rfl, rfl⟩
theorem others_stops (F : Fence) (n : Nat) (hF : F.fn 46) (hro : F.round = none) (hn : 1 ≤ n) (Bs Bk n0 cap : Nat) (ls : List (Int × Int)) (k : Int × Int) (hreach : ls.length ≤ 4096) (A : Option Addr) (w : World)
    (hn0 : n0 ≤ w.heap.size) (hBs : w.heap[Bs]? = some (.cells #[.slice A ls.length cap] 23 (0, 0))) (hBk : w.heap[Bk]? = some (.cells #[.int .i64 k.1, .int .i64 k.2] 55 (0, 0))) (hL : LR w (· < n0) A ls) :
    SeqStopsK F n Try.prog 46 #[.pointer (some ⟨Bs, 0, none⟩), .pointer (some ⟨Bk, 0, none⟩)] lkV (KpN n0 Bs Bk) (fun ys => ys = oth ls k) (fun _ => True) ls.length w := fun l J Jx W hW hJ _ hY h0 =>
  oth1_in F n hF hro hn l Bs Bk n0 cap ls k hreach A J Jx hY W (fun pre W' o h => hJ pre W' _ none h (World.grownBy_alloc W' o none) (fun r e => by cases e)) (Nat.le_trans hn0 hW.size) (blk_step hBs hW) (blk_step hBk hW) ((hL.keep (Kept.below (hW.mono hn0)))) h0
end Go.Proofs.Ytpmmahlmfcbbbaa
