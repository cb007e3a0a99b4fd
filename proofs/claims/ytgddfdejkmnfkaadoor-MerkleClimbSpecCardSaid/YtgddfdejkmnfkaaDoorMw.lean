/- The way of a leaf: its steps, and the iterator that gives them in their order. -/
import Derived.Test.YtgddfdejkmnfkaaDoorMc
import Derived.Test.YtgddfdejkmnfkaaDoorIt
import Derived.Sort.QuietIn
import Derived.Shelf.Abstract
import Derived.Shelf.RegionOpen
namespace Go.Proofs.YtgddfdejkmnfkaaDoor
open Go.RowKit Go.Shelf
attribute [local go_sem] Oper.semAt_some

def rowN (n : Nat) : Nat → Nat
  | 0 => n
  | k + 1 => rowN n k - rowN n k / 2
def rowI (i : Nat) : Nat → Nat
  | 0 => i
  | k + 1 => rowI i k / 2
/-- How many steps there are. -/
def rows (n : Nat) : Nat := if h : n ≤ 1 then 0 else rows (n - n / 2) + 1
termination_by n
decreasing_by omega
theorem rowN_shift (n k : Nat) : rowN n (k + 1) = rowN (n - n / 2) k := by
  induction k with
  | zero => rfl
  | succ k ih => rw [rowN, ih]; rfl
theorem rowI_shift (i k : Nat) : rowI i (k + 1) = rowI (i / 2) k := by
  induction k with
  | zero => rfl
  | succ k ih => rw [rowI, ih]; rfl
theorem rowN_gt (k : Nat) : ∀ n, k < rows n → 1 < rowN n k := by
  induction k with
  | zero =>
    intro n h
    rw [rows] at h
    split at h
    · omega
    · show 1 < n; omega
  | succ k ih =>
    intro n h
    rw [rows] at h
    split at h
    · omega
    · rw [rowN_shift]; exact ih _ (by omega)
theorem rows_end (m : Nat) : ∀ n, rows n = m → rowN n m ≤ 1 := by
  induction m with
  | zero =>
    intro n h
    rw [rows] at h
    split at h
    · assumption
    · omega
  | succ m ih =>
    intro n h
    rw [rows] at h
    split at h
    · omega
    · rw [rowN_shift]; exact ih _ (by omega)
theorem rowN_end (n : Nat) : rowN n (rows n) ≤ 1 := rows_end _ n rfl
theorem rowN_le (n k : Nat) : rowN n k ≤ n := by
  induction k with
  | zero => exact Nat.le_refl _
  | succ k ih => rw [rowN]; omega
theorem rowI_le (i k : Nat) : rowI i k ≤ i := by
  induction k with
  | zero => exact Nat.le_refl _
  | succ k ih => rw [rowI]; omega
theorem rowI_lt {n i : Nat} (h : i < n) (k : Nat) : rowI i k < rowN n k := by
  induction k with
  | zero => exact h
  | succ k ih => rw [rowN, rowI]; omega
theorem rows_le (m : Nat) : ∀ n, n ≤ 2 ^ m → rows n ≤ m := by
  induction m with
  | zero =>
    intro n h
    rw [rows, dif_pos (by simpa using h)]
    exact Nat.le_refl _
  | succ m ih =>
    intro n h
    rw [rows]
    split
    · omega
    · have := ih (n - n / 2) (by rw [Nat.pow_succ] at h; omega)
      omega
theorem rows_16 {n : Nat} (h : n ≤ 65536) : rows n ≤ 16 := rows_le 16 n (by simpa using h)
/-- Is the digest of the step k left alone? -/
def lone (n i k : Nat) : Bool := decide (rowN n k ≤ oth (rowI i k))
/-- How many digests have come from the path ahead of the step k. -/
def used (n i : Nat) : Nat → Nat
  | 0 => 0
  | k + 1 => if lone n i k = true then used n i k else used n i k + 1
theorem used_le (n i k : Nat) : used n i k ≤ k := by
  induction k with
  | zero => exact Nat.le_refl _
  | succ k ih => rw [used]; split <;> omega
theorem used_mono (n i k m : Nat) (h : k ≤ m) : used n i k ≤ used n i m := by
  induction m with
  | zero => rw [show k = 0 by omega]; exact Nat.le_refl _
  | succ m ih =>
    by_cases e : k = m + 1
    · rw [e]; exact Nat.le_refl _
    · have := ih (by omega)
      rw [used]
      split <;> omega
/-- The length of a path. -/
def pathN (n i : Nat) : Nat := used n i (rows n)

def wayV (n i k : Nat) : Array Value := #[.agg #[.int .i64 (rowN n k : Int), .int .i64 (rowI i k : Int)]]
theorem way_any (n i : Int) (w : World) : Calls Tryd.prog 25 #[.int .i64 n, .int .i64 i] w fun e w' => e = .returned (.func (.func 43) #[] #[.pointer (some ⟨w.heap.size, 0, none⟩), .pointer (some ⟨w.heap.size + 1, 0, none⟩)]) ∧
    w' = (w.alloc (.cells #[.int .i64 n] 3)).alloc (.cells #[.int .i64 i] 3) := by
  go_enter Tryd.func25, Tryd.ntmps25
  go_wp2_with fail
  go_ret
  exact ⟨rfl, rfl⟩

set_option maxRecDepth 100000 in
set_option maxHeartbeats 2000000 in
theorem way_gives (F : Fence) (q : Nat) (hf : F.fn 43) (hro : F.round = none) (hq : 1 ≤ q) (Bn Bi n i : Nat) (hn : n ≤ 65536) (hi : i < n) (w : World) (hBn : Bn < w.heap.size) (hBi : Bi < w.heap.size)
    (c0 : w.cell? ⟨Bn, 0, none⟩ = some (.int .i64 (n : Int))) (c1 : w.cell? ⟨Bi, 0, none⟩ = some (.int .i64 (i : Int))) :
    GivesAt F q Tryd.prog 43 #[.pointer (some ⟨Bn, 0, none⟩), .pointer (some ⟨Bi, 0, none⟩)] (wayV n i) (fun _ _ => True) (rows n) w := fun l J Jx W hW hJ _ hY h0 => by
  have d0 := (hW.cell (p := ⟨Bn, 0, none⟩) hBn).trans c0
  have d1 := (hW.cell (p := ⟨Bi, 0, none⟩) hBi).trans c1
  clear c0 c1
  refine callsIn_of_wp Tryd.func43 rfl hf ?_ hro
  simp only [Tryd.ntmps43, List.size_toArray, List.length_cons, List.length_nil, Nat.reduceAdd, Nat.reduceSub, Array.replicate_succ, Array.replicate_zero, List.push_toArray, List.append_toArray, List.nil_append, List.cons_append]
  gi_wp2
  refine wpIn_region_quiet_lit hro (by kernel_rfl) (by kernel_rfl) ?_
  repeat (gi_big_quiet_step (fail))
  refine wpQuietIn_nil ?_
  intro _ hw'
  obtain ⟨nq, hw''⟩ := hw'
  subst hw''
  have h0' : J 0 (W.drewN nq) := hJ 0 W _ none h0 ⟨rfl, rfl, rfl, Nat.le_refl _, fun _ _ _ => rfl⟩ (fun r e => by cases e)
  generalize W.drewN nq = V at h0' ⊢
  clear d0 d1
  gi_wp2
  gi_loopw [4, 5] (fun a b wr => ∃ k : Nat, k ≤ rows n ∧ a = .int .i64 (rowN n k : Int) ∧ b = .int .i64 (rowI i k : Int) ∧ J k wr) (fun a _ _ => (intOf a).toNat)
  case atStart => exact ⟨0, Nat.zero_le _, rfl, rfl, h0'⟩
  case round =>
    obtain ⟨k, hk, rfl, rfl, hJk⟩ := hrel
    by_cases hlt : k < rows n
    · have hgt := rowN_gt k n hlt
      have hle := rowN_le n k
      have hle2 := rowI_le i k
      obtain ⟨fn, tmps, assign, body, hy, hR⟩ := hY k wr hlt hJk
      unfold wayV at hy
      have hd : decide ((1 : Int) < (rowN n k : Int)) = true := by simp; omega
      gi_wp2
      refine hR.mono ?_
      rintro e W3 (⟨rfl, hJ3, -⟩ | ⟨rfl, hJx3⟩)
      · gi_wp2
        go_roundw
        case rel => exact ⟨k + 1, by omega, congrArg (Value.int .i64) (by rw [rowN]; omega), congrArg (Value.int .i64) (by rw [rowI]; omega), hJ3⟩
        case measure => simp [intOf]; omega
      · gi_wp2
        refine bodyPost_ret (results_none rfl _ _ _) rfl ?_
        exact ⟨⟨_, rfl⟩, .inr ⟨k, hlt, hJx3⟩⟩
    · obtain rfl : k = rows n := by omega
      have hend := rowN_end n
      have hd : decide ((1 : Int) < (rowN n (rows n) : Int)) = false := by simp; omega
      gi_wp2
      go_end0
      exact ⟨⟨_, rfl⟩, .inl hJk⟩
end Go.Proofs.YtgddfdejkmnfkaaDoor
