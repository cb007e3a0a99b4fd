/- slices.Chunk over digests, two at a time, and its iterator. -/
import Derived.Test.YtgddfdejkmnfkaaDoorMj
import Derived.Test.YtgddfdejkmnfkaaDoorCk
namespace Go.Proofs.YtgddfdejkmnfkaaDoor
open Go.RowKit Go.Shelf
attribute [local go_sem] Oper.semAt_some

/-- How many digests the chunk k of len has. -/
def cnt (len k : Nat) : Nat := min 2 (len - 2 * k)
def chunkV (b off len k : Nat) : Array Value := #[.slice (some ⟨b, off + k * 64, none⟩) (cnt len k) (cnt len k)]
theorem chunkD_any (a : Option Addr) (len cap : Nat) (w : World) : Calls Tryd.prog 44 #[.slice a len cap, .int .i64 2] w fun e w' => e = .returned (.func (.func 58) #[] #[.pointer (some ⟨w.heap.size, 0, none⟩), .pointer (some ⟨w.heap.size + 1, 0, none⟩)]) ∧
    w' = (w.alloc (.cells #[.slice a len cap] 25)).alloc (.cells #[.int .i64 2] 3) := by
  go_enter Tryd.func44, Tryd.ntmps44
  go_wp2_with fail
  go_ret
  exact ⟨rfl, rfl⟩
theorem sliceD_rest (b off len cap k : Nat) (h : 2 * k ≤ len) (hc : len ≤ cap) : ∃ A, ∀ W, (Instr.slice 25 (.slice (some ⟨b, off, none⟩) len cap) (some (.int .i64 (2 * (k : Int)))) none none).run Tryd.prog W = .ok (.slice A (len - 2 * k) (cap - 2 * k)) W := by
  have ht : Tryd.prog.underlying 25 = some (.slice (Tryd.prog.elem 25)) := by kernel_rfl
  have he : Tryd.prog.elem 25 = 30 := by kernel_rfl
  refine ⟨if cap = 2 * k then some ⟨b, off, none⟩ else (some (⟨b, off, none⟩ : Addr)).map (·.add (2 * k * 32)), fun W => ?_⟩
  rw [run_slice_l W _ _ _ _ ht .i64 _ (by omega) (by omega), he, Tryd.size24]
  have e1 : (2 * (k : Int)).toNat = 2 * k := by omega
  simp only [Result.andThen, sliced, e1]
theorem sliceD_chunk (b off len cap k m : Nat) (mi : Int) (hmi : mi = m) (hm : 0 < m) (h : 2 * k + m ≤ len) (hc : len ≤ cap) (W : World) : (Instr.slice 25 (.slice (some ⟨b, off, none⟩) len cap) (some (.int .i64 (2 * (k : Int)))) (some (.int .i64 (2 * (k : Int) + mi))) (some (.int .i64 (2 * (k : Int) + mi)))).run Tryd.prog W = .ok (.slice (some ⟨b, off + k * 64, none⟩) m m) W := by
  have ht : Tryd.prog.underlying 25 = some (.slice (Tryd.prog.elem 25)) := by kernel_rfl
  have he : Tryd.prog.elem 25 = 30 := by kernel_rfl
  rw [run_slice_lhm W _ _ _ _ ht .i64 .i64 .i64 _ _ _ (by omega) (by omega) (by omega) (by omega), he, Tryd.size24]
  have e1 : (2 * (k : Int)).toNat = 2 * k := by omega
  have e2 : (2 * (k : Int) + mi).toNat = 2 * k + m := by omega
  simp only [Result.andThen, sliced, e1, e2]
  rw [if_neg (by omega)]
  simp only [Option.map_some, add_none]
  congr 2
  · rw [show off + 2 * k * 32 = off + k * 64 by omega]
  · omega
  · omega

set_option maxRecDepth 100000 in
set_option maxHeartbeats 2000000 in
theorem chunkD_gives (F : Fence) (q : Nat) (hf : F.fn 58) (hro : F.round = none) (hq : 1 ≤ q) (Bs Bn b off len cap : Nat) (hl : len ≤ 1000000) (hc : len ≤ cap) (w : World) (hBs : Bs < w.heap.size) (hBn : Bn < w.heap.size)
    (c0 : w.cell? ⟨Bs, 0, none⟩ = some (.slice (some ⟨b, off, none⟩) len cap)) (c1 : w.cell? ⟨Bn, 0, none⟩ = some (.int .i64 2)) :
    GivesAt F q Tryd.prog 58 #[.pointer (some ⟨Bs, 0, none⟩), .pointer (some ⟨Bn, 0, none⟩)] (chunkV b off len) (KpB Bs Bn) ((len + 1) / 2) w := fun l J Jx W hW hJ _ hY h0 => by
  have d0 := (hW.cell (p := ⟨Bs, 0, none⟩) hBs).trans c0
  have d1 := (hW.cell (p := ⟨Bn, 0, none⟩) hBn).trans c1
  clear c0 c1
  refine callsIn_of_wp Tryd.func58 rfl hf ?_ hro
  simp only [Tryd.ntmps58, List.size_toArray, List.length_cons, List.length_nil, Nat.reduceAdd, Nat.reduceSub, Array.replicate_succ, Array.replicate_zero, List.push_toArray, List.append_toArray, List.nil_append, List.cons_append]
  gi_wp2
  gi_loopw [4, 5] (fun i _ wr => ∃ k : Nat, k ≤ (len + 1) / 2 ∧ i = .int .i64 (2 * (k : Int)) ∧ J k wr ∧ wr.cell? ⟨Bs, 0, none⟩ = some (.slice (some ⟨b, off, none⟩) len cap) ∧ wr.cell? ⟨Bn, 0, none⟩ = some (.int .i64 2))
    (fun i _ _ => len + 2 - (intOf i).toNat)
  case atStart => exact ⟨0, Nat.zero_le _, rfl, h0, d0, d1⟩
  case round =>
    obtain ⟨k, hk, rfl, hJk, e0, e1⟩ := hrel
    by_cases hlt : k < (len + 1) / 2
    · by_cases hfull : 2 * k + 2 ≤ len
      · have hm : cnt len k = 2 := by unfold cnt; omega
        obtain ⟨A, hs1⟩ := sliceD_rest b off len cap k (by omega) hc
        have hs2 := sliceD_chunk b off len cap k 2 2 rfl (by omega) (by omega) hc
        have hmin : min (2 : Int) ((len - 2 * k : Nat) : Int) = 2 := by omega
        have hw2 : IntKind.i64.wrap (2 * (k : Int) + 2) = 2 * (k : Int) + 2 := IntWalk.i64_in _ (by omega)
        have hd : decide (2 * (k : Int) < (len : Int)) = true := by simp; omega
        have hJ' := Lib.hid hJk
        have hmh := Lib.hid hm
        clear hJk hm
        gi_wp2
        refine wpIn_region_quiet_lit hro (by kernel_rfl) (by kernel_rfl) ?_
        repeat (gi_big_quiet_step (fail))
        refine wpQuietIn_nil ?_
        intro _ hw'
        obtain ⟨nq, hw''⟩ := hw'
        subst hw''
        have hJ2 : J k (wr.drewN nq) := hJ k wr _ none hJ'.out ⟨rfl, rfl, rfl, Nat.le_refl _, fun _ _ _ => rfl⟩ (fun r e => by cases e)
        obtain ⟨fn, tmps, assign, body, hy, hR⟩ := hY k (wr.drewN nq) hlt hJ2
        unfold chunkV at hy
        rw [hmh.out] at hy
        have e0' : (wr.drewN nq).cell? ⟨Bs, 0, none⟩ = some (.slice (some ⟨b, off, none⟩) len cap) := e0
        have e1' : (wr.drewN nq).cell? ⟨Bn, 0, none⟩ = some (.int .i64 2) := e1
        generalize wr.drewN nq = w2 at hy hR e0' e1' ⊢
        clear e0 e1 hJ' hs1 hJ2
        gi_wp2
        refine hR.mono ?_
        rintro e W3 (⟨rfl, hJ3, hk0, hk1⟩ | ⟨rfl, hJx3⟩)
        · have f0 := hk0.trans e0'
          have f1 := hk1.trans e1'
          clear hk0 hk1 e0' e1' hd
          gi_wp2
          go_roundw
          case rel => exact ⟨k + 1, by omega, congrArg (Value.int .i64) (by omega), hJ3, f0, f1⟩
          case measure => simp [intOf]; omega
        · gi_wp2
          refine bodyPost_ret (results_none rfl _ _ _) rfl ?_
          exact ⟨⟨_, rfl⟩, .inr ⟨k, hlt, hJx3⟩⟩
      · have hm : cnt len k = 1 := by unfold cnt; omega
        obtain ⟨A, hs1⟩ := sliceD_rest b off len cap k (by omega) hc
        have hs2 := sliceD_chunk b off len cap k 1 1 rfl (by omega) (by omega) hc
        rw [show len - 2 * k = 1 by omega] at hs1
        have hw1 : IntKind.i64.wrap (2 * (k : Int) + 1) = 2 * (k : Int) + 1 := IntWalk.i64_in _ (by omega)
        have hw2 : IntKind.i64.wrap (2 * (k : Int) + 2) = 2 * (k : Int) + 2 := IntWalk.i64_in _ (by omega)
        have hd : decide (2 * (k : Int) < (len : Int)) = true := by simp; omega
        have hJ' := Lib.hid hJk
        have hmh := Lib.hid hm
        clear hJk hm
        gi_wp2
        refine wpIn_region_quiet_lit hro (by kernel_rfl) (by kernel_rfl) ?_
        repeat (gi_big_quiet_step (fail))
        refine wpQuietIn_nil ?_
        intro _ hw'
        obtain ⟨nq, hw''⟩ := hw'
        subst hw''
        have hJ2 : J k (wr.drewN nq) := hJ k wr _ none hJ'.out ⟨rfl, rfl, rfl, Nat.le_refl _, fun _ _ _ => rfl⟩ (fun r e => by cases e)
        obtain ⟨fn, tmps, assign, body, hy, hR⟩ := hY k (wr.drewN nq) hlt hJ2
        unfold chunkV at hy
        rw [hmh.out] at hy
        have e0' : (wr.drewN nq).cell? ⟨Bs, 0, none⟩ = some (.slice (some ⟨b, off, none⟩) len cap) := e0
        have e1' : (wr.drewN nq).cell? ⟨Bn, 0, none⟩ = some (.int .i64 2) := e1
        generalize wr.drewN nq = w2 at hy hR e0' e1' ⊢
        clear e0 e1 hJ' hs1 hJ2
        gi_wp2
        refine hR.mono ?_
        rintro e W3 (⟨rfl, hJ3, hk0, hk1⟩ | ⟨rfl, hJx3⟩)
        · have f0 := hk0.trans e0'
          have f1 := hk1.trans e1'
          clear hk0 hk1 e0' e1' hd
          gi_wp2
          go_roundw
          case rel => exact ⟨k + 1, by omega, congrArg (Value.int .i64) (by omega), hJ3, f0, f1⟩
          case measure => simp [intOf]; omega
        · gi_wp2
          refine bodyPost_ret (results_none rfl _ _ _) rfl ?_
          exact ⟨⟨_, rfl⟩, .inr ⟨k, hlt, hJx3⟩⟩
    · obtain rfl : k = (len + 1) / 2 := by omega
      have hd : decide (2 * (((len + 1) / 2 : Nat) : Int) < (len : Int)) = false := by simp; omega
      gi_wp2
      go_end0
      exact ⟨⟨_, rfl⟩, .inl hJk⟩
end Go.Proofs.YtgddfdejkmnfkaaDoor
