/- slices.Chunk, and its iterator. -/
import Derived.RangeFuncNested
import Derived.RangeFuncBound
import Derived.RangeFuncCalls
import Derived.RangeFuncLeaves
import Derived.Shelf.Abstract
import Derived.Shelf.RegionOpen
import Derived.OwnWalkIn
import Derived.TacticsInMore
import Derived.LoopNIn
import Derived.LoopIn
import Derived.Sort.QuietIn
import Derived.Test.YtalphobaohffnaaDoorPa
namespace Go.Proofs.YtalphobaohffnaaDoor
open Go.RowKit Go.Shelf
attribute [local go_sem] Oper.semAt_some

set_option maxRecDepth 100000 in
theorem chunk_in (F : Fence) (n : Nat) (hf : F.fn 29) (hro : F.round = none) (a : Option Addr) (len cap : Nat) (w : World) :
    CallsIn F n Tryd.prog 29 #[.slice a len cap, .int .i64 64] w fun e w' => e = .returned (.func (.func 39) #[] #[.pointer (some ⟨w.heap.size, 0, none⟩), .pointer (some ⟨w.heap.size + 1, 0, none⟩)]) ∧
      w' = (w.alloc (.cells #[.slice a len cap] 22)).alloc (.cells #[.int .i64 64] 3) := by
  refine callsIn_of_wp Tryd.func29 rfl hf ?_ hro
  simp only [Tryd.ntmps29, List.size_toArray, List.length_cons, List.length_nil, Nat.reduceAdd, Nat.reduceSub, Array.replicate_succ, Array.replicate_zero, List.push_toArray, List.append_toArray, List.nil_append, List.cons_append]
  gi_wp2
  go_ret
  exact ⟨rfl, rfl⟩

theorem Tryd.size8 : ∀ w, (Go.sizeOf 5).run Tryd.prog w = .ok 1 w := fun _ => by kernel_rfl
theorem slice_chunk (g len cap k : Nat) (h : 64 * k + 64 ≤ cap) (W : World) : (Instr.slice 22 (.slice (some ⟨g, 0, none⟩) len cap) (some (.int .i64 (64 * (k : Int)))) (some (.int .i64 (64 * (k : Int) + 64))) (some (.int .i64 (64 * (k : Int) + 64)))).run Tryd.prog W = .ok (.slice (some ⟨g, 64 * k, none⟩) 64 64) W := by
  have ht : Tryd.prog.underlying 22 = some (.slice (Tryd.prog.elem 22)) := by kernel_rfl
  have he : Tryd.prog.elem 22 = 5 := by kernel_rfl
  rw [run_slice_lhm W _ _ _ _ ht .i64 .i64 .i64 _ _ _ (by omega) (by omega) (by omega) (by omega), he, Tryd.size8]
  have e1 : (64 * (k : Int)).toNat = 64 * k := by omega
  have e2 : (64 * (k : Int) + 64).toNat = 64 * k + 64 := by omega
  simp only [Result.andThen, sliced, e1, e2]
  rw [if_neg (by omega)]
  simp only [Option.map_some, Nat.mul_one, add_none, Nat.zero_add]
  congr 2 <;> omega
theorem slice_rest (g len cap k : Nat) (h : 64 * k ≤ len) : ∃ A, ∀ W, (Instr.slice 22 (.slice (some ⟨g, 0, none⟩) len cap) (some (.int .i64 (64 * (k : Int)))) none none).run Tryd.prog W = .ok (.slice A (len - 64 * k) (cap - 64 * k)) W := by
  have ht : Tryd.prog.underlying 22 = some (.slice (Tryd.prog.elem 22)) := by kernel_rfl
  have he : Tryd.prog.elem 22 = 5 := by kernel_rfl
  refine ⟨if cap = 64 * k then some ⟨g, 0, none⟩ else (some (⟨g, 0, none⟩ : Addr)).map (·.add (64 * k * 1)), fun W => ?_⟩
  rw [run_slice_l W _ _ _ _ ht .i64 _ (by omega) (by omega), he, Tryd.size8]
  have e1 : (64 * (k : Int)).toNat = 64 * k := by omega
  simp only [Result.andThen, sliced, e1]

/-- What a round has to keep for the iterator: its two boxes. -/
def KpB (Bs Bn : Nat) (W W' : World) : Prop := W'.cell? ⟨Bs, 0, none⟩ = W.cell? ⟨Bs, 0, none⟩ ∧ W'.cell? ⟨Bn, 0, none⟩ = W.cell? ⟨Bn, 0, none⟩

set_option maxRecDepth 100000 in
set_option maxHeartbeats 2000000 in
/-- The iterator of Chunk, 64 bytes a round. -/
theorem chunk1_in (F : Fence) (n : Nat) (hf : F.fn 39) (hro : F.round = none) (hn : 1 ≤ n) (l Bs Bn g R len cap : Nat) (hlen : len = 64 * R) (hR : R ≤ 100) (hcap : len ≤ cap) (J Jx : List Nat → World → Prop)
    (hY : ∀ pre x W, x < R → J pre W → pre.length < R → YieldAt F (n - 1) Tryd.prog l #[.slice (some ⟨g, 64 * x, none⟩) 64 64] W fun e W' =>
      (e = .returned (.bool true) ∧ J (pre ++ [x]) W' ∧ KpB Bs Bn W W') ∨ (e = .returned (.bool false) ∧ Jx (pre ++ [x]) W'))
    (hJd : ∀ pre W m, J pre W → J pre (W.drewN m))
    (W : World) (hBs : W.cell? ⟨Bs, 0, none⟩ = some (.slice (some ⟨g, 0, none⟩) len cap)) (hBn : W.cell? ⟨Bn, 0, none⟩ = some (.int .i64 64)) (h0 : J [] W) :
    CallsIn F n Tryd.prog 39 #[.func (.yield l) #[] #[], .pointer (some ⟨Bs, 0, none⟩), .pointer (some ⟨Bn, 0, none⟩)] W fun e W' => (∃ v, e = .returned v) ∧
      ((∃ ys, ys = List.range R ∧ J ys W') ∨ (∃ pre, (∃ k, k ≤ R ∧ pre = List.range k) ∧ Jx pre W')) := by
  subst hlen
  have hsl1 := slice_rest g (64 * R) cap
  have hsl2 := slice_chunk g (64 * R) cap
  have H1 := Lib.hid hsl1
  have H2 := Lib.hid hsl2
  clear hsl1 hsl2
  refine callsIn_of_wp Tryd.func39 rfl hf ?_ hro
  simp only [Tryd.ntmps39, List.size_toArray, List.length_cons, List.length_nil, Nat.reduceAdd, Nat.reduceSub, Array.replicate_succ, Array.replicate_zero, List.push_toArray, List.append_toArray, List.nil_append, List.cons_append]
  gi_wp2
  gi_loopw [4, 5] (fun i _ wr => ∃ k : Nat, k ≤ R ∧ i = .int .i64 (64 * (k : Int)) ∧ J (List.range k) wr ∧ wr.cell? ⟨Bs, 0, none⟩ = some (.slice (some ⟨g, 0, none⟩) (64 * R) cap) ∧ wr.cell? ⟨Bn, 0, none⟩ = some (.int .i64 64))
    (fun i _ _ => 64 * R - (intOf i).toNat)
  case atStart => exact ⟨0, Nat.zero_le _, rfl, h0, hBs, hBn⟩
  case round =>
    obtain ⟨k, hk, rfl, hJ, c0, c1⟩ := hrel
    by_cases hlt : k < R
    · obtain ⟨A, hs1⟩ := H1.out k (by omega)
      have hs2 := H2.out k (by omega)
      have hmin : min (64 : Int) ((64 * R - 64 * k : Nat) : Int) = 64 := by omega
      have hd : decide (64 * (k : Int) < 64 * R) = true := by simp; omega
      have hJ' := Lib.hid hJ
      clear hJ
      gi_wp2
      refine wpIn_region_quiet_lit hro (by kernel_rfl) (by kernel_rfl) ?_
      repeat (gi_big_quiet_step (fail))
      refine wpQuietIn_nil ?_
      intro _ hw'
      obtain ⟨nq, hw''⟩ := hw'
      subst hw''
      obtain ⟨fn, tmps, assign, body, hy, hR⟩ := hY (List.range k) k (wr.drewN nq) hlt (hJd _ _ _ hJ'.out) (by simp; omega)
      have c0' : (wr.drewN nq).cell? ⟨Bs, 0, none⟩ = some (.slice (some ⟨g, 0, none⟩) (64 * R) cap) := c0
      have c1' : (wr.drewN nq).cell? ⟨Bn, 0, none⟩ = some (.int .i64 64) := c1
      generalize wr.drewN nq = w2 at hy hR c0' c1' ⊢
      clear c0 c1 hJ' hs1 hmin
      gi_wp2
      refine hR.mono ?_
      rintro e W3 (⟨rfl, hJ3, hk0, hk1⟩ | ⟨rfl, hJx3⟩)
      · have c0 := hk0.trans c0'
        have c1 := hk1.trans c1'
        clear hk0 hk1 c0' c1' hd
        gi_wp2
        go_roundw
        case rel => exact ⟨k + 1, by omega, congrArg (Value.int .i64) (by omega), by rw [List.range_succ]; exact hJ3, c0, c1⟩
        case measure => simp [intOf] ; omega
      · gi_wp2
        refine bodyPost_ret (results_none rfl _ _ _) rfl ?_
        exact ⟨⟨_, rfl⟩, .inr ⟨_, ⟨k + 1, by omega, List.range_succ.symm⟩, hJx3⟩⟩
    · obtain rfl : k = R := by omega
      gi_wp2
      go_end0
      exact ⟨⟨_, rfl⟩, .inl ⟨_, rfl, hJ⟩⟩

/-- The value of Chunk gives the chunks in their order. -/
theorem chunk_stops (F : Fence) (n : Nat) (hf : F.fn 39) (hro : F.round = none) (hn : 1 ≤ n) (Bs Bn g R len cap : Nat) (hlen : len = 64 * R) (hR : R ≤ 100) (hcap : len ≤ cap) (w : World) (hBs : Bs < w.heap.size) (hBn : Bn < w.heap.size)
    (c0 : w.cell? ⟨Bs, 0, none⟩ = some (.slice (some ⟨g, 0, none⟩) len cap)) (c1 : w.cell? ⟨Bn, 0, none⟩ = some (.int .i64 64)) :
    SeqStopsK F n Tryd.prog 39 #[.pointer (some ⟨Bs, 0, none⟩), .pointer (some ⟨Bn, 0, none⟩)] (fun x : Fin R => #[Value.slice (some ⟨g, 64 * x.val, none⟩) 64 64]) (KpB Bs Bn) (fun ys => ys.map (·.val) = List.range R) (fun _ => True) R w := fun l J Jx W hW hJ _ hY h0 => by
  have d0 := (hW.cell (p := ⟨Bs, 0, none⟩) hBs).trans c0
  have d1 := (hW.cell (p := ⟨Bn, 0, none⟩) hBn).trans c1
  refine (chunk1_in F n hf hro hn l Bs Bn g R len cap hlen hR hcap (fun pre W => ∃ p' : List (Fin R), pre = p'.map (·.val) ∧ J p' W) (fun pre W => ∃ p' : List (Fin R), pre = p'.map (·.val) ∧ Jx p' W) ?_ ?_ W d0 d1 ⟨[], rfl, h0⟩).mono ?_
  · rintro pre x W1 hx ⟨p', rfl, hj⟩ hlt
    obtain ⟨fn, tmps, assign, body, hy, hR'⟩ := hY p' ⟨x, hx⟩ W1 hj (by simpa using hlt)
    refine ⟨fn, tmps, assign, body, hy, hR'.mono ?_⟩
    rintro e W' (⟨he, hj', hk⟩ | ⟨he, hj'⟩)
    · exact .inl ⟨he, ⟨_, by simp, hj'⟩, hk⟩
    · exact .inr ⟨he, ⟨_, by simp, hj'⟩⟩
  · rintro pre W1 m ⟨p', rfl, hj⟩
    exact ⟨p', rfl, hJ p' W1 _ none hj ⟨rfl, rfl, rfl, Nat.le_refl _, fun _ _ _ => rfl⟩ (fun r e => by cases e)⟩
  · rintro e W' ⟨he, ⟨ys, rfl, p', hp, hj⟩ | ⟨pre, -, p', hp, hj⟩⟩
    · exact ⟨he, .inl ⟨p', hp.symm, hj⟩⟩
    · exact ⟨he, .inr ⟨p', trivial, hj⟩⟩
end Go.Proofs.YtalphobaohffnaaDoor
