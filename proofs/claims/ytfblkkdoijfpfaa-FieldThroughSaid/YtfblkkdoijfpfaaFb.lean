/- How points and integers read in memory; Mod, in, and the reference's Mod, Add, Mul: contracts. -/
import Derived.WalkKit
import Derived.Deep.Draws
import Derived.Lib.Hide
import Derived.Test.YtfblkkdoijfpfaaFa
namespace Go.Proofs.Ytfblkkdoijfpfaa
open Go.RowKit

def I64 (n : Int) : Prop := -9223372036854775808 ≤ n ∧ n ≤ 9223372036854775807
/-- Points that are read at an address; S: which blocks may be read. -/
def PR (w : World) (S : Nat → Prop) (A : Option Addr) (ls : List (Int × Int)) : Prop :=
  0 < ls.length → ∃ b off, A = some ⟨b, off, none⟩ ∧ S b ∧ ∀ i (h : i < ls.length), w.cell? ⟨b, off + i * 2, none⟩ = some (.int .i64 ls[i].1) ∧ w.cell? ⟨b, off + i * 2 + 1, none⟩ = some (.int .i64 ls[i].2) ∧ I64 ls[i].1 ∧ I64 ls[i].2
/-- Integers that are read at an address. -/
def IR (w : World) (S : Nat → Prop) (A : Option Addr) (ls : List Int) : Prop :=
  0 < ls.length → ∃ b off, A = some ⟨b, off, none⟩ ∧ S b ∧ ∀ i (h : i < ls.length), w.cell? ⟨b, off + i, none⟩ = some (.int .i64 ls[i]) ∧ I64 ls[i]
def Kept (S : Nat → Prop) (w w' : World) : Prop := ∀ b o, S b → w'.cell? ⟨b, o, none⟩ = w.cell? ⟨b, o, none⟩
theorem Kept.below {B : Nat} {w w' : World} (hb : Below B w w') : Kept (· < B) w w' := fun b o h => hb.cell (p := ⟨b, o, none⟩) h
theorem Kept.of {S : Nat → Prop} {B : Nat} {w w' : World} (hS : ∀ b, S b → b < B) (hb : Below B w w') : Kept S w w' := fun b o h => hb.cell (p := ⟨b, o, none⟩) (hS b h)
theorem PR.keep {w w' : World} {S : Nat → Prop} {A : Option Addr} {ls : List (Int × Int)} (hk : Kept S w w') (h : PR w S A ls) : PR w' S A ls := fun hp => by
  obtain ⟨b, off, e, hs, hc⟩ := h hp
  refine ⟨b, off, e, hs, fun i hi => ?_⟩
  obtain ⟨h0, h1, h2⟩ := hc i hi
  exact ⟨(hk _ _ hs).trans h0, (hk _ _ hs).trans h1, h2⟩
theorem PR.mono {w : World} {S S' : Nat → Prop} (hS : ∀ b, S b → S' b) {A : Option Addr} {ls : List (Int × Int)} (h : PR w S A ls) : PR w S' A ls := fun hp => by
  obtain ⟨b, off, e, hs, hc⟩ := h hp
  exact ⟨b, off, e, hS b hs, hc⟩
theorem PR.step {w w' : World} {A : Option Addr} {ls : List (Int × Int)} (h : PR w (· < w.heap.size) A ls) (hb : Below w.heap.size w w') : PR w' (· < w'.heap.size) A ls := (h.keep (Kept.below hb)).mono fun _ hlt => Nat.lt_of_lt_of_le hlt hb.size
theorem PR.at_ {w : World} {S : Nat → Prop} {A : Option Addr} {ls : List (Int × Int)} (h : PR w S A ls) {i : Nat} (hi : i < ls.length) :
    ∃ b off, A = some ⟨b, off, none⟩ ∧ S b ∧ w.cell? ⟨b, off + i * 2, none⟩ = some (.int .i64 ls[i].1) ∧ w.cell? ⟨b, off + i * 2 + 1, none⟩ = some (.int .i64 ls[i].2) ∧ I64 ls[i].1 ∧ I64 ls[i].2 := by
  obtain ⟨b, off, e, hs, hc⟩ := h (by omega)
  obtain ⟨h0, h1, h2⟩ := hc i hi
  exact ⟨b, off, e, hs, h0, h1, h2⟩
theorem IR.keep {w w' : World} {S : Nat → Prop} {A : Option Addr} {ls : List Int} (hk : Kept S w w') (h : IR w S A ls) : IR w' S A ls := fun hp => by
  obtain ⟨b, off, e, hs, hc⟩ := h hp
  refine ⟨b, off, e, hs, fun i hi => ?_⟩
  obtain ⟨h0, h1⟩ := hc i hi
  exact ⟨(hk _ _ hs).trans h0, h1⟩
theorem IR.mono {w : World} {S S' : Nat → Prop} (hS : ∀ b, S b → S' b) {A : Option Addr} {ls : List Int} (h : IR w S A ls) : IR w S' A ls := fun hp => by
  obtain ⟨b, off, e, hs, hc⟩ := h hp
  exact ⟨b, off, e, hS b hs, hc⟩
theorem IR.step {w w' : World} {A : Option Addr} {ls : List Int} (h : IR w (· < w.heap.size) A ls) (hb : Below w.heap.size w w') : IR w' (· < w'.heap.size) A ls := (h.keep (Kept.below hb)).mono fun _ hlt => Nat.lt_of_lt_of_le hlt hb.size
theorem IR.at_ {w : World} {S : Nat → Prop} {A : Option Addr} {ls : List Int} (h : IR w S A ls) {i : Nat} (hi : i < ls.length) :
    ∃ b off, A = some ⟨b, off, none⟩ ∧ S b ∧ w.cell? ⟨b, off + i, none⟩ = some (.int .i64 ls[i]) ∧ I64 ls[i] := by
  obtain ⟨b, off, e, hs, hc⟩ := h (by omega)
  obtain ⟨h0, h1⟩ := hc i hi
  exact ⟨b, off, e, hs, h0, h1⟩
theorem PR.nil (w : World) (S : Nat → Prop) (A : Option Addr) : PR w S A [] := fun h => absurd h (Nat.lt_irrefl 0)
theorem IR.nil (w : World) (S : Nat → Prop) (A : Option Addr) : IR w S A [] := fun h => absurd h (Nat.lt_irrefl 0)
theorem bnew (w : World) (o : Obj) : Below w.heap.size w (w.alloc o) := (Below.refl _ w).alloc (Nat.le_refl _) o

theorem rem_md {n : Int} (h : ¬ n.tmod 1073741789 < 0) : n.tmod 1073741789 = md n := by
  unfold md
  rw [Int.tmod_eq_emod] at h ⊢
  split at h <;> rename_i h0 <;> simp only [h0, if_true, if_false, Bool.false_eq_true] at h ⊢ <;> omega
theorem rem_md' {n : Int} (h : n.tmod 1073741789 < 0) : n.tmod 1073741789 + 1073741789 = md n := by
  unfold md
  rw [Int.tmod_eq_emod] at h ⊢
  split at h <;> rename_i h0 <;> simp only [h0, if_true, if_false, Bool.false_eq_true] at h ⊢ <;> omega
theorem rem_pos {n : Int} (h : 0 ≤ n) : n.tmod 1073741789 = md n := by
  unfold md
  exact Int.tmod_eq_emod_of_nonneg h

theorem md_mul_range (a b : Int) : 0 ≤ md a * md b ∧ md a * md b ≤ 1152921427297436944 := by
  obtain ⟨h1, h2⟩ := md_range a
  obtain ⟨h3, h4⟩ := md_range b
  refine ⟨Int.mul_nonneg h1 h3, ?_⟩
  have := Int.mul_le_mul (show md a ≤ 1073741788 by omega) (show md b ≤ 1073741788 by omega) h3 (by omega)
  omega
theorem rem_lo (n : Int) : -1073741789 < n.tmod 1073741789 := by
  rw [Int.tmod_eq_emod]
  split <;> omega
theorem retB {a b : Bool} (h : a = b) : Ending.returned (.bool a) = .returned (.bool b) := by rw [h]
theorem retI {k : IntKind} {a b : Int} (h : a = b) : Ending.returned (.int k a) = .returned (.int k b) := by rw [h]

set_option maxRecDepth 100000 in
set_option maxHeartbeats 1000000 in
theorem Mod_any (n : Int) (w : World) : Calls Try.prog 10 #[.int .i64 n] w fun e w' => e = .returned (.int .i64 (md n)) ∧ w' = w := by
  go_enter Try.func10, Try.ntmps10
  go_wp2_with fail
  all_goals
    rename_i h
    go_ret
    refine ⟨retI ?_, rfl⟩
  · rw [IntWalk.wrap64_in _ (by have := rem_lo n; omega)]
    exact rem_md' h
  · exact rem_md (by omega)

set_option maxRecDepth 100000 in
set_option maxHeartbeats 1000000 in
theorem rMod_any (n : Int) (w : World) : Calls Try.prog 11 #[.int .i64 n] w fun e w' => e = .returned (.int .i64 (md n)) ∧ w' = w := by
  go_enter Try.func11, Try.ntmps11
  go_wp2_with fail
  all_goals
    rename_i h
    go_ret
    refine ⟨retI ?_, rfl⟩
  · rw [IntWalk.wrap64_in _ (by have := rem_lo n; omega)]
    exact rem_md' h
  · exact rem_md (by omega)

def inB (n : Int) : Bool := decide (0 ≤ n) && decide (n < 1073741789)
theorem inB_md (n : Int) : inB (md n) = true := by have := md_range n; unfold inB; simp [this.1, this.2]
set_option maxRecDepth 100000 in
set_option maxHeartbeats 1000000 in
theorem in_any (n : Int) (w : World) : Calls Try.prog 16 #[.int .i64 n] w fun e w' => e = .returned (.bool (inB n)) ∧ w' = w := by
  go_enter Try.func16, Try.ntmps16
  go_wp2_with fail
  all_goals
    rename_i h
    go_ret
    refine ⟨retB ?_, rfl⟩
    unfold inB
  · simp [h]
  · simp [show ¬ 0 ≤ n by omega]

set_option maxRecDepth 100000 in
set_option maxHeartbeats 1000000 in
theorem rAdd_any (a b : Int) (w : World) : Calls Try.prog 13 #[.int .i64 a, .int .i64 b] w fun e w' => e = .returned (.int .i64 (addF a b)) ∧ w' = w := by
  have ha := md_range a
  have hb := md_range b
  go_enter Try.func13, Try.ntmps13
  go_wp2_with fail
  refine (rMod_any a _).mono ?_
  rintro e w1 ⟨rfl, rfl⟩
  go_wp2_with fail
  refine (rMod_any b _).mono ?_
  rintro e w1 ⟨rfl, rfl⟩
  go_wp2_with fail
  go_ret
  refine ⟨retI ?_, rfl⟩
  exact md_eq ((md_cg a).add (md_cg b))

set_option maxRecDepth 100000 in
set_option maxHeartbeats 1000000 in
theorem rMul_any (a b : Int) (w : World) : Calls Try.prog 15 #[.int .i64 a, .int .i64 b] w fun e w' => e = .returned (.int .i64 (mulF a b)) ∧ w' = w := by
  have h := md_mul_range a b
  go_enter Try.func15, Try.ntmps15
  go_wp2_with fail
  refine (rMod_any a _).mono ?_
  rintro e w1 ⟨rfl, rfl⟩
  go_wp2_with fail
  refine (rMod_any b _).mono ?_
  rintro e w1 ⟨rfl, rfl⟩
  go_wp2_with fail
  go_ret
  refine ⟨retI ?_, rfl⟩
  exact md_eq ((md_cg a).mul (md_cg b))

set_option maxRecDepth 100000 in
set_option maxHeartbeats 1000000 in
theorem Mul_any (a b : Int) (w : World) : Calls Try.prog 14 #[.int .i64 a, .int .i64 b] w fun e w' => e = .returned (.int .i64 (mulF a b)) ∧ w' = w := by
  have h := md_mul_range a b
  go_enter Try.func14, Try.ntmps14
  go_wp2_with fail
  refine (Mod_any a _).mono ?_
  rintro e w1 ⟨rfl, rfl⟩
  go_wp2_with fail
  refine (Mod_any b _).mono ?_
  rintro e w1 ⟨rfl, rfl⟩
  go_wp2_with fail
  refine (Mod_any _ _).mono ?_
  rintro e w1 ⟨rfl, rfl⟩
  go_wp2_with fail
  go_ret
  refine ⟨retI ?_, rfl⟩
  exact md_eq ((md_cg a).mul (md_cg b))
end Go.Proofs.Ytfblkkdoijfpfaa
