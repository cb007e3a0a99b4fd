/- A sector that is made; the index of a sector. -/
import Derived.Test.YtalkbccofiiojaaProg
import Derived.Test.YtalkbccofiiojaaDk
import Derived.Outline
import Derived.IntWalk
import Derived.Laws.MakeOwn
import Derived.Laws.CopyOwn
namespace Go.Proofs.Ytalkbccofiiojaa
open Go.RowKit

/-- Bytes as cells. -/
def BV (l : List UInt8) : List Value := l.map fun b => .int .u8 (b.toNat : Int)
theorem BV_length (l : List UInt8) : (BV l).length = l.length := by simp [BV]
theorem BV_append (l m : List UInt8) : BV (l ++ m) = BV l ++ BV m := by simp [BV]
theorem BV_one (l : List UInt8) : ∀ u ∈ BV l, u.oneCell' = true := by
  intro u h
  simp only [BV, List.mem_map] at h
  obtain ⟨b, -, rfl⟩ := h
  rfl
theorem BV_get (l : List UInt8) (i : Nat) (h : i < l.length) : (BV l)[i]? = some (.int .u8 (l[i].toNat : Int)) := by simp [BV, h]
/-- A block of bytes. -/
def DB (w : World) (g : Nat) (bs : List UInt8) : Prop := w.heap[g]? = some (.cells (BV bs).toArray 5 (0, 0))
theorem DB.cell {w : World} {g i : Nat} {bs : List UInt8} (h : DB w g bs) (hi : i < bs.length) : w.cell? ⟨g, i, none⟩ = some (.int .u8 (bs[i].toNat : Int)) := by
  rw [cell_of_row w g i _ _ _ h]
  simp [BV, hi]
theorem DB.frozen {w : World} {g : Nat} {bs : List UInt8} (h : DB w g bs) (i : Nat) : w.frozen? ⟨g, i, none⟩ = false := frozen_of_row w g i _ _ h
theorem DB.lt {w : World} {g : Nat} {bs : List UInt8} (h : DB w g bs) : g < w.heap.size := (Array.getElem?_eq_some_iff.1 h).1
theorem DB.below {w w' : World} {g B : Nat} {bs : List UInt8} (h : DB w g bs) (hb : Below B w w') (hg : g < B) : DB w' g bs := by
  unfold DB; rw [hb.block g hg]; exact h
theorem DB.reads {w : World} {g : Nat} {bs : List UInt8} (h : DB w g bs) : RBs w (· < w.heap.size) (some ⟨g, 0, none⟩) bs := fun _ =>
  ⟨g, 0, rfl, h.lt, fun j hj => by rw [Nat.zero_add]; exact h.cell hj⟩
theorem DB.readsIn {w : World} {g : Nat} {bs : List UInt8} (h : DB w g bs) {S : Nat → Prop} (hS : S g) : RBs w S (some ⟨g, 0, none⟩) bs := fun _ =>
  ⟨g, 0, rfl, hS, fun j hj => by rw [Nat.zero_add]; exact h.cell hj⟩
theorem DB.set {w : World} {g i : Nat} {bs : List UInt8} (h : DB w g bs) (x : UInt8) : DB (w.setCell ⟨g, i, none⟩ (.int .u8 (x.toNat : Int))) g (bs.set i x) := by
  have := heap_setCell_same w g i _ 5 (.int .u8 (x.toNat : Int)) h
  unfold DB
  rw [this]
  congr 2
  apply Array.toList_inj.1
  simp [BV, List.map_set]

theorem Try.info8 : (Try.prog.info? 5).map (fun i => (i.zero, i.size, i.bytes)) = some (some (.int .u8 0), 1, 1) := by kernel_rfl
theorem made_bytes (n : Nat) : madeCells #[.int .u8 0] n = (BV (List.replicate n 0)).toArray := by
  apply Array.toList_inj.1
  rw [toList_madeCells_one]
  simp [BV]
theorem make128 (W : World) : (Instr.makeSlice 35 (.int .i64 128) (.int .i64 128)).run Try.prog W = .ok (.slice (some ⟨W.heap.size, 0, none⟩) 128 128) (W.alloc (.cells (BV zero128).toArray 5)) := by
  obtain ⟨i0, hi0, hz0, hz1, hz2⟩ := info_parts Try.info8
  have h := run_make (P := Try.prog) W 35 5 i0 (.int .u8 0) Try.underlying35 hi0 hz0 .i64 .i64 128 128 (by omega) (by omega) (by rw [hz2]; omega) (by omega)
  rw [hz1, show (Value.int .u8 0).cells = #[.int .u8 0] from rfl, show (Int.toNat 128) * 1 = 128 from rfl, made_bytes] at h
  exact h

theorem RBs.src {w : World} {S : Nat → Prop} {A : Option Addr} {bs : List UInt8} (h : RBs w S A bs) (hp : 0 < bs.length) : ∃ ad, A = some ad ∧ ∀ j v, (BV bs)[j]? = some v → w.cell? (ad.add j) = some v := by
  obtain ⟨b, off, e, -, hc⟩ := h hp
  refine ⟨_, e, fun j v hv => ?_⟩
  rw [add_none]
  have hj : j < bs.length := by
    have := (List.getElem?_eq_some_iff.1 hv).1
    rwa [BV_length] at this
  rw [BV_get bs j hj] at hv
  injection hv with hv
  rw [← hv]
  exact hc j hj
theorem RBs.take {w : World} {S : Nat → Prop} {A : Option Addr} {bs : List UInt8} (h : RBs w S A bs) (n : Nat) : RBs w S A (bs.take n) := fun hp => by
  rw [List.length_take] at hp
  obtain ⟨b, off, e, hs, hc⟩ := h (by omega)
  refine ⟨b, off, e, hs, fun j hj => ?_⟩
  rw [List.length_take] at hj
  rw [List.getElem_take]
  exact hc j (by omega)

theorem splice_pad (b : List UInt8) : splice (BV zero128) 0 (BV (b.take 128)) = BV (pad b) := by
  unfold splice pad zero128 BV
  simp only [List.take_zero, List.nil_append, Nat.zero_add, List.length_map, List.length_take, List.map_append]
  congr 1
  rw [← List.map_drop, List.drop_replicate]
  congr 2
  omega

set_option maxRecDepth 100000 in
set_option maxHeartbeats 400000 in
theorem sector_any (b : List UInt8) (w : World) (A : Option Addr) (c : Nat) (S : Nat → Prop) (hS : ∀ g, S g → g < w.heap.size) (hb : RBs w S A b) :
    Calls Try.prog 29 #[.slice A b.length c] w fun e w' => e = .returned (.slice (some ⟨w.heap.size, 0, none⟩) 128 128) ∧ DB w' w.heap.size (pad b) ∧ Below w.heap.size w w' := by
  have hmk := make128
  have hr := ((hb.take 128).keep (w' := w.alloc (.cells (BV zero128).toArray 5)) fun g o hg => World.cell?_alloc_lt w _ ⟨g, o, none⟩ (hS g hg))
  have hz := heap_alloc_new w (.cells (BV zero128).toArray 5)
  have hB := bnew w (.cells (BV zero128).toArray 5)
  obtain ⟨Z, hZ⟩ : ∃ Z, Z = BV zero128 := ⟨_, rfl⟩
  obtain ⟨X, hX⟩ : ∃ X, X = BV (b.take 128) := ⟨_, rfl⟩
  have hsp := splice_pad b
  have hXl : X.length = Nat.min b.length 128 := by rw [hX, BV_length, List.length_take, Nat.min_comm]
  have hZl : Z.length = 128 := by rw [hZ, BV_length]; rfl
  have hX1 : ∀ v ∈ X, v.oneCell' = true := by rw [hX]; exact BV_one _
  have hpos : 0 < X.length → (some (⟨w.heap.size, 0, none⟩ : Addr)) = some ⟨w.heap.size, 0, none⟩ ∧ ∃ ad, A = some ad ∧ ∀ j v, X[j]? = some v → (w.alloc (.cells Z.toArray 5)).cell? (ad.add j) = some v := by
    intro hp
    rw [hX, BV_length] at hp
    rw [hX, hZ]
    exact ⟨rfl, hr.src hp⟩
  rw [← hX, ← hZ] at hsp
  rw [← hZ] at hmk hz hB
  have hfit : 0 + X.length ≤ Z.length := by
    have := Nat.min_le_right b.length 128
    rw [hXl, hZl, Nat.zero_add]; exact this
  have hpos' := Lib.hid hpos
  have hsp' := Lib.hid hsp
  have hXl' := Lib.hid hXl
  have hz' := Lib.hid hz
  have hB' := Lib.hid hB
  have hfit' := Lib.hid hfit
  have hX1' := Lib.hid hX1
  clear hpos hsp hXl hz hB hfit hX1 hr hX hZ hZl
  go_enter Try.func29, Try.ntmps29
  go_wp2_with (with_reducible refine wpList_copy_splice rfl (.tmp 5) (.tmp 6) 35 35 rfl 5 Try.underlying35 (by kernel_rfl) (some ⟨w.heap.size, 0, none⟩) A 128 128 b.length c rfl rfl w.heap.size 0 Z 5 hz'.out X hXl'.out hpos'.out hfit'.out hX1'.out w.heap.size w hB'.out (Nat.le_refl _) ?_; intro w2 HG2 hB2)
  go_ret
  refine ⟨rfl, ?_, hB2⟩
  have := HG2.out
  rw [hsp'.out] at this
  exact this
end Go.Proofs.Ytalkbccofiiojaa
