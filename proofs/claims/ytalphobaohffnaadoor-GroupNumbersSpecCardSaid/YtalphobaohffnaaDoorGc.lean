/- Contracts: the field's sums, the group's product, square, Valid; the reference's power, Valid. -/
import Derived.WalkKit
import Derived.Deep.Draws
import Derived.Lib.Hide
import Derived.Test.YtalphobaohffnaaDoorGb
namespace Go.Proofs.YtalphobaohffnaaDoor
open Go.RowKit

def I64 (n : Int) : Prop := -9223372036854775808 ≤ n ∧ n ≤ 9223372036854775807
theorem I64.wf {n : Int} (h : -2^63 ≤ n ∧ n < 2^63) : I64 n := by unfold I64; have : (2:Int)^63 = 9223372036854775808 := rfl; omega
theorem I64.lit {n : Int} (h : (decide (-9223372036854775808 ≤ n) && decide (n ≤ 9223372036854775807)) = true) : I64 n := by
  unfold I64
  simpa using h
theorem retB {a b : Bool} (h : a = b) : Ending.returned (.bool a) = .returned (.bool b) := by rw [h]
theorem retI {k : IntKind} {a b : Int} (h : a = b) : Ending.returned (.int k a) = .returned (.int k b) := by rw [h]

/-- The number from 0 to Q - 1 for which an integer stands. -/
def md (n : Int) : Int := n % 1073741789
theorem md_range (n : Int) : 0 ≤ md n ∧ md n < 1073741789 := by unfold md; omega
theorem rem_md {n : Int} (h : ¬ n.tmod 1073741789 < 0) : n.tmod 1073741789 = md n := by
  unfold md
  rw [Int.tmod_eq_emod] at h ⊢
  split at h <;> rename_i h0 <;> simp only [h0, if_true, if_false, Bool.false_eq_true] at h ⊢ <;> omega
theorem rem_md' {n : Int} (h : n.tmod 1073741789 < 0) : n.tmod 1073741789 + 1073741789 = md n := by
  unfold md
  rw [Int.tmod_eq_emod] at h ⊢
  split at h <;> rename_i h0 <;> simp only [h0, if_true, if_false, Bool.false_eq_true] at h ⊢ <;> omega
theorem rem_lo (n : Int) : -1073741789 < n.tmod 1073741789 := by
  rw [Int.tmod_eq_emod]
  split <;> omega
theorem rem_loP (n : Int) : -2147483579 < n.tmod 2147483579 := by
  rw [Int.tmod_eq_emod]
  split <;> omega

set_option maxRecDepth 100000 in
set_option maxHeartbeats 1000000 in
theorem Mod_any (n : Int) (w : World) : Calls Tryd.prog 41 #[.int .i64 n] w fun e w' => e = .returned (.int .i64 (md n)) ∧ w' = w := by
  go_enter Tryd.func41, Tryd.ntmps41
  go_wp2_with fail
  all_goals
    rename_i h
    go_ret
    refine ⟨retI ?_, rfl⟩
  · rw [IntWalk.wrap64_in _ (by have := rem_lo n; omega)]
    exact rem_md' h
  · exact rem_md (by omega)

theorem mul_lt {a b : Nat} (ha : a < 2147483579) (hb : b < 2147483579) : (0 : Int) ≤ (a : Int) * b ∧ (a : Int) * b ≤ 4611685717779682084 := by
  refine ⟨Int.mul_nonneg (by omega) (by omega), ?_⟩
  have := Nat.mul_le_mul (show a ≤ 2147483578 by omega) (show b ≤ 2147483578 by omega)
  have e : ((a * b : Nat) : Int) = (a : Int) * b := Int.natCast_mul a b
  omega
theorem mul_rem {a b : Nat} : ((a : Int) * b) % 2147483579 = ((a * b % 2147483579 : Nat) : Int) := by
  rw [← Int.natCast_mul]
  rfl
set_option maxRecDepth 100000 in
set_option maxHeartbeats 1000000 in
theorem product_any (a b : Nat) (ha : a < 2147483579) (hb : b < 2147483579) (w : World) : Calls Tryd.prog 22 #[.int .i64 (a : Int), .int .i64 (b : Int)] w fun e w' => e = .returned (.int .i64 ((a * b % 2147483579 : Nat) : Int)) ∧ w' = w := by
  have h := mul_lt ha hb
  go_enter Tryd.func22, Tryd.ntmps22
  go_wp2_with fail
  go_ret
  exact ⟨retI mul_rem, rfl⟩

/-- The rows of the field's sums: integers that are read at an address. -/
def IR (w : World) (S : Nat → Prop) (A : Option Addr) (ls : List Int) : Prop :=
  0 < ls.length → ∃ b off, A = some ⟨b, off, none⟩ ∧ S b ∧ ∀ i (h : i < ls.length), w.cell? ⟨b, off + i, none⟩ = some (.int .i64 ls[i]) ∧ I64 ls[i]
def Kept (S : Nat → Prop) (w w' : World) : Prop := ∀ b o, S b → w'.cell? ⟨b, o, none⟩ = w.cell? ⟨b, o, none⟩
theorem Kept.below {B : Nat} {w w' : World} (hb : Below B w w') : Kept (· < B) w w' := fun b o h => hb.cell (p := ⟨b, o, none⟩) h
theorem IR.keep {w w' : World} {S : Nat → Prop} {A : Option Addr} {ls : List Int} (hk : Kept S w w') (h : IR w S A ls) : IR w' S A ls := fun hp => by
  obtain ⟨b, off, e, hs, hc⟩ := h hp
  refine ⟨b, off, e, hs, fun i hi => ?_⟩
  obtain ⟨h0, h1⟩ := hc i hi
  exact ⟨(hk _ _ hs).trans h0, h1⟩
theorem IR.mono {w : World} {S S' : Nat → Prop} (hS : ∀ b, S b → S' b) {A : Option Addr} {ls : List Int} (h : IR w S A ls) : IR w S' A ls := fun hp => by
  obtain ⟨b, off, e, hs, hc⟩ := h hp
  exact ⟨b, off, e, hS b hs, hc⟩
theorem IR.step {w w' : World} {A : Option Addr} {ls : List Int} (h : IR w (· < w.heap.size) A ls) (hb : Below w.heap.size w w') : IR w' (· < w'.heap.size) A ls := (h.keep (Kept.below hb)).mono fun _ hlt => Nat.lt_of_lt_of_le hlt hb.size
theorem IR.at_ {w : World} {S : Nat → Prop} {A : Option Addr} {ls : List Int} (h : IR w S A ls) {i : Nat} (hi : i < ls.length) :
    ∃ b off, A = some ⟨b, off, none⟩ ∧ S b ∧ w.cell? ⟨b, off + i, none⟩ = some (.int .i64 ls[i]) ∧ I64 ls[i] := by
  obtain ⟨b, off, e, hs, hc⟩ := h (by omega)
  obtain ⟨h0, h1⟩ := hc i hi
  exact ⟨b, off, e, hs, h0, h1⟩
theorem IR.one {a : Int} (ha : I64 a) (w : World) (t : TypeId) : IR (w.alloc (.cells #[.int .i64 a] t)) (· < (w.alloc (.cells #[.int .i64 a] t)).heap.size) (some ⟨w.heap.size, 0, none⟩) [a] := by
  intro _
  refine ⟨w.heap.size, 0, rfl, by simp, fun i hi => ?_⟩
  match i, hi with
  | 0, _ => exact ⟨by rw [World.cell?_alloc_at _ _ _ _ rfl]; rfl, ha⟩
theorem IR.two {a b : Int} (ha : I64 a) (hb : I64 b) (w : World) (t : TypeId) : IR (w.alloc (.cells #[.int .i64 a, .int .i64 b] t)) (· < (w.alloc (.cells #[.int .i64 a, .int .i64 b] t)).heap.size) (some ⟨w.heap.size, 0, none⟩) [a, b] := by
  intro _
  refine ⟨w.heap.size, 0, rfl, by simp, fun i hi => ?_⟩
  match i, hi with
  | 0, _ => exact ⟨by rw [World.cell?_alloc_at _ _ _ _ rfl]; rfl, ha⟩
  | 1, _ => exact ⟨by rw [World.cell?_alloc_at _ _ _ _ rfl]; rfl, hb⟩
theorem bnew (w : World) (o : Obj) : Below w.heap.size w (w.alloc o) := (Below.refl _ w).alloc (Nat.le_refl _) o

/-- The sum of integers, not reduced. -/
def sumI : List Int → Int
  | [] => 0
  | x :: r => x + sumI r
theorem sumI_app (a b : List Int) : sumI (a ++ b) = sumI a + sumI b := by
  induction a with
  | nil => simp [sumI]
  | cons x r ih => simp only [List.cons_append, sumI, ih]; omega
theorem sumI_take (l : List Int) (k : Nat) (h : k < l.length) : md (md (sumI (l.take k)) + md l[k]) = md (sumI (l.take (k + 1))) := by
  rw [List.take_succ_eq_append_getElem h, sumI_app, show sumI [l[k]] = l[k] by simp [sumI]]
  unfold md
  omega

set_option maxRecDepth 100000 in
set_option maxHeartbeats 1000000 in
theorem sum_any (ls : List Int) (hm : ls.length ≤ 9223372036854775807) (w : World) (A : Option Addr) (c : Nat) (h : IR w (· < w.heap.size) A ls) :
    Calls Tryd.prog 34 #[.slice A ls.length c] w fun e w' => e = .returned (.int .i64 (md (sumI ls))) ∧ w' = w := by
  have hh := Lib.hid h
  clear h
  go_enter Tryd.func34, Tryd.ntmps34
  go_wp2_with fail
  go_loopw [2, 7] (fun n i wr => wr = w ∧ ∃ k : Nat, k ≤ ls.length ∧ n = .int .i64 (md (sumI (ls.take k))) ∧ i = .int .i64 (k : Int)) (fun _ i _ => ls.length - (intOf i).toNat)
  case atStart => exact ⟨rfl, 0, Nat.zero_le _, rfl, rfl⟩
  case round =>
    obtain ⟨rfl, k, hk, rfl, rfl⟩ := hrel
    by_cases hlt : k < ls.length
    · obtain ⟨b, off, rfl, hs, hc0, hI⟩ := hh.out.at_ hlt
      have hst := sumI_take ls k hlt
      have hr1 := md_range (sumI (ls.take k))
      have hr2 := md_range ls[k]
      have j0 : (0 : Int) ≤ k := by omega
      have j1 : (k : Int) < ls.length := by omega
      replace hst := Lib.hid hst
      generalize ls[k] = x at *
      go_wp2_with fail
      refine (Mod_any x _).mono ?_
      rintro e w1 ⟨rfl, rfl⟩
      go_wp2_with fail
      refine (Mod_any _ _).mono ?_
      rintro e w1 ⟨rfl, rfl⟩
      go_wp2_with fail
      go_roundw
      case rel => exact ⟨trivial, k + 1, by omega, by rw [← hst.out], by go_num⟩
      case measure => simp [intOf]; omega
    · have hle : ¬ ((k : Int) < ls.length) := by omega
      have hkl : k = ls.length := by omega
      rw [hkl, List.take_of_length_le (Nat.le_refl _)]
      rw [hkl] at hle
      clear hlt hkl
      go_wp2_with fail
      go_ret
      exact ⟨rfl, rfl⟩
theorem two_sum (a b : Int) : md (sumI [a, b]) = md (a + b) := by simp [sumI]
set_option maxRecDepth 100000 in
set_option maxHeartbeats 1000000 in
theorem Add_any (a b : Int) (ha : I64 a) (hb : I64 b) (w : World) : Calls Tryd.prog 25 #[.int .i64 a, .int .i64 b] w fun e w' => e = .returned (.int .i64 (md (a + b))) ∧ Below w.heap.size w w' := by
  have hl := Lib.hid (IR.two ha hb w 3)
  have hB := Lib.hid (bnew w (.cells #[.int .i64 a, .int .i64 b] 3))
  go_enter Tryd.func25, Tryd.ntmps25
  go_wp2_with fail
  refine (sum_any [a, b] (by simp) _ _ _ hl.out).mono ?_
  rintro e w1 ⟨rfl, rfl⟩
  go_wp2_with fail
  go_ret
  exact ⟨retI (two_sum a b), hB.out⟩
theorem md_I64 (n : Int) : I64 (md n) := by have := md_range n; unfold I64; omega
set_option maxRecDepth 100000 in
set_option maxHeartbeats 1000000 in
theorem modulo_any (ls : List Int) (hm : ls.length ≤ 9223372036854775807) (w : World) (A : Option Addr) (c : Nat) (h : IR w (· < w.heap.size) A ls) :
    Calls Tryd.prog 17 #[.slice A ls.length c] w fun e w' => e = .returned (.int .i64 (md (sumI ls))) ∧ Below w.heap.size w w' := by
  have hh := Lib.hid h
  clear h
  go_enter Tryd.func17, Tryd.ntmps17
  go_wp2_with fail
  go_loopw [2, 7] (fun n i wr => Hid (Below w.heap.size w wr) ∧ ∃ k : Nat, k ≤ ls.length ∧ n = .int .i64 (md (sumI (ls.take k))) ∧ i = .int .i64 (k : Int)) (fun _ i _ => ls.length - (intOf i).toNat)
  case atStart => exact ⟨Lib.hid (Below.refl _ _), 0, Nat.zero_le _, rfl, rfl⟩
  case round =>
    obtain ⟨hB, k, hk, rfl, rfl⟩ := hrel
    by_cases hlt : k < ls.length
    · obtain ⟨b, off, rfl, hs, hc0, hI⟩ := (hh.out.keep (Kept.below hB.out)).at_ hlt
      have hst := sumI_take ls k hlt
      have j0 : (0 : Int) ≤ k := by omega
      have j1 : (k : Int) < ls.length := by omega
      replace hst := Lib.hid hst
      generalize ls[k] = x at *
      replace hI := Lib.hid hI
      go_wp2_with fail
      refine (Add_any (md (sumI (ls.take k))) x (md_I64 _) hI.out _).mono ?_
      rintro e w1 ⟨rfl, hb1⟩
      replace hB := Lib.hid (hB.out.trans (hb1.mono hB.out.size))
      clear hb1 hc0
      have hst2 := Lib.hid (show md (md (sumI (ls.take k)) + x) = md (sumI (ls.take (k + 1))) by rw [← hst.out]; unfold md; omega)
      go_wp2_with fail
      go_roundw
      case rel => exact ⟨hB, k + 1, by omega, by rw [← hst2.out], by go_num⟩
      case measure => simp [intOf]; omega
    · have hle : ¬ ((k : Int) < ls.length) := by omega
      have hkl : k = ls.length := by omega
      rw [hkl, List.take_of_length_le (Nat.le_refl _)]
      rw [hkl] at hle
      clear hlt hkl
      go_wp2_with fail
      go_ret
      exact ⟨rfl, hB.out⟩
end Go.Proofs.YtalphobaohffnaaDoor
