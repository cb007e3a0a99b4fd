/- The last blocks: padded. -/
import Derived.Test.YtalphobaohffnaaDoorBo
namespace Go.Proofs.YtalphobaohffnaaDoor
open Go.RowKit

/-- A block whose first cells are the bytes. -/
def PB (w : World) (g : Nat) (bs : List UInt8) : Prop := ∃ cur, w.heap[g]? = some (.cells cur 5 (0, 0)) ∧ bs.length ≤ cur.size ∧ cur.toList.take bs.length = BV bs
theorem OB.pb {w : World} {B : Nat} {v : Value} {l : List UInt8} (h : OB w B v l) (hl : 0 < l.length) : ∃ g c, v = .slice (some ⟨g, 0, none⟩) l.length c ∧ B ≤ g ∧ PB w g l ∧ l.length ≤ c := by
  rcases h.2 with ⟨-, h0⟩ | ⟨g, cap, cur, e, hb, hh, hle, -, hcs, ht⟩
  · omega
  · exact ⟨g, cap, e, hb, ⟨cur, hh, by omega, by simpa using ht⟩, hle⟩
theorem PB.cell {w : World} {g i : Nat} {bs : List UInt8} (h : PB w g bs) (hi : i < bs.length) : w.cell? ⟨g, i, none⟩ = some (.int .u8 ((bs.getD i 0).toNat : Int)) := by
  obtain ⟨cur, hh, hle, ht⟩ := h
  rw [cell_of_row w g i _ _ _ hh]
  have h1 : (cur.toList.take bs.length)[i]? = (BV bs)[i]? := by rw [ht]
  rw [List.getElem?_take_of_lt hi] at h1
  rw [← Array.getElem?_toList, h1]
  simp [BV, hi]
theorem PB.frozen {w : World} {g : Nat} {bs : List UInt8} (h : PB w g bs) (i : Nat) : w.frozen? ⟨g, i, none⟩ = false := by
  obtain ⟨cur, hh, -⟩ := h
  exact frozen_of_row w g i _ _ hh
theorem PB.set {w : World} {g i : Nat} {bs : List UInt8} (h : PB w g bs) (x : UInt8) : PB (w.setCell ⟨g, i, none⟩ (.int .u8 (x.toNat : Int))) g (bs.set i x) := by
  obtain ⟨cur, hh, hle, ht⟩ := h
  refine ⟨_, heap_setCell_same w g i _ _ (.int .u8 (x.toNat : Int)) hh, by simpa using hle, ?_⟩
  rw [List.length_set, Array.toList_setIfInBounds, List.take_set, ht]
  simp [BV, List.map_set]
theorem PB.reads {w : World} {g : Nat} {bs : List UInt8} (h : PB w g bs) : RBs w w.heap.size (some ⟨g, 0, none⟩) bs := fun hp => by
  have hlt : g < w.heap.size := by
    obtain ⟨cur, hh, -⟩ := h
    exact (Array.getElem?_eq_some_iff.1 hh).1
  refine ⟨g, 0, rfl, hlt, fun j hj => ?_⟩
  rw [Nat.zero_add, h.cell hj]
  simp [hj]

/-- The number of bits, as eight bytes. -/
def lb (n i : Nat) : UInt8 := UInt8.ofNat (8 * n % 18446744073709551616 / 2 ^ (8 * i))
def padSize (r : Nat) : Nat := if 55 < r then 128 else 64
/-- What ends with r, the last k of its eight last bytes laid. -/
def padK (r : List UInt8) (n : Nat) : Nat → List UInt8
  | 0 => (r ++ List.replicate (padSize r.length - r.length) 0).set r.length 128
  | k + 1 => (padK r n k).set (padSize r.length - 1 - k) (lb n k)
theorem padK_length (r : List UInt8) (n k : Nat) (h : r.length < 64) : (padK r n k).length = padSize r.length := by
  induction k with
  | zero => rw [padK, List.length_set, List.length_append, List.length_replicate]; unfold padSize; split <;> omega
  | succ k ih => rw [padK, List.length_set, ih]
theorem lb_val (n i : Nat) (hn : n ≤ 1000000000000) : 8 * (n : Int) / 2 ^ (8 * i) % 256 = ((lb n i).toNat : Int) := by
  unfold lb
  rw [UInt8.toNat_ofNat', Nat.mod_eq_of_lt (a := 8 * n) (by omega)]
  simp

theorem made_bytes (w : World) (n : Nat) : PB (w.alloc (.cells (madeCells #[.int .u8 0] n) 5)) w.heap.size (List.replicate n 0) := by
  refine ⟨_, heap_alloc_new w _, by simp [size_madeCells], ?_⟩
  rw [toList_madeCells_one]
  simp [BV]

set_option maxRecDepth 100000 in
set_option maxHeartbeats 2000000 in
theorem padded_any (r : List UInt8) (hr : r.length < 64) (n : Nat) (hn : n ≤ 1000000000000) (w : World) (A : Option Addr) (c : Nat) (hb : RBs w w.heap.size A r) (hA : A = none → r = []) :
    Calls Tryd.prog 30 #[.slice A r.length c, .int .i64 n] w fun e w' => ∃ g cp, e = .returned (.slice (some ⟨g, 0, none⟩) (padSize r.length) cp) ∧ padSize r.length ≤ cp ∧ w.heap.size ≤ g ∧ PB w' g (padK r n 8) ∧ Below w.heap.size w w' := by
  have hmk : ∀ (m : Nat), m ≤ 128 → ∀ W, (Instr.makeSlice 22 (.int .i64 (m : Int)) (.int .i64 (m : Int))).run Tryd.prog W = .ok (.slice (some ⟨W.heap.size, 0, none⟩) m m) (W.alloc (.cells (madeCells #[.int .u8 0] m) 5)) := fun m hm W => by
    obtain ⟨i0, hi0, hz0, hz1, hz2⟩ := info_parts Tryd.info8
    have h := run_make (P := Tryd.prog) W 22 5 i0 (.int .u8 0) Tryd.underlying22 hi0 hz0 .i64 .i64 m m (by omega) (by omega) (by rw [hz2]; omega) (by omega)
    rw [h, hz1]
    simp [Value.cells]
  have hps : padSize r.length = 64 ∧ r.length ≤ 55 ∨ padSize r.length = 128 ∧ 55 < r.length := by unfold padSize; split <;> omega
  obtain ⟨S, hS⟩ : ∃ S, S = padSize r.length := ⟨_, rfl⟩
  have hm := hmk (S - r.length) (by rw [hS]; omega)
  rw [show ((S - r.length : Nat) : Int) = (S : Int) - r.length by rw [hS]; omega] at hm
  have hSub : IntKind.i64.wrap ((S : Int) - r.length) = S - r.length := IntWalk.i64_in _ (by rw [hS]; omega)
  have hSH := Lib.hid hS
  have hlenP := fun k => padK_length r n k hr
  have hlenP' := Lib.hid hlenP
  clear hmk hlenP
  rw [← hS] at hps ⊢
  clear hS
  rcases hps with ⟨rfl, h55⟩ | ⟨rfl, h55⟩
  · rw [show ((64 : Nat) : Int) = 64 from rfl] at hm hSub
    go_enter Tryd.func30, Tryd.ntmps30
    go_wp2_with fail
    have htwo : Two ((w.alloc (.cells (madeCells #[.int .u8 0] (64 - r.length)) 5)).alloc (.cells #[.slice A r.length c, .slice (some ⟨w.heap.size, 0, none⟩) (64 - r.length) (64 - r.length)] 22)) (w.heap.size + 1) r (List.replicate (64 - r.length) 0) A (some ⟨w.heap.size, 0, none⟩) c (64 - r.length) := by
      have h1 := (Below.refl w.heap.size w).alloc (Nat.le_refl _) (.cells (madeCells #[.int .u8 0] (64 - r.length)) 5)
      have h2 := heap_alloc_new (w.alloc (.cells (madeCells #[.int .u8 0] (64 - r.length)) 5)) (.cells #[.slice A r.length c, .slice (some ⟨w.heap.size, 0, none⟩) (64 - r.length) (64 - r.length)] 22)
      rw [World.size_alloc] at h2
      refine ⟨(cell_of_row _ (w.heap.size + 1) 0 _ _ _ h2).trans rfl, (cell_of_row _ (w.heap.size + 1) 1 _ _ _ h2).trans (by simp), ?_, ?_, hA, fun h => by cases h⟩
      · exact (hb.below h1).below ((Below.refl _ _).alloc (Nat.le_refl _) _)
      · exact (made_bytes w (64 - r.length)).reads.below ((Below.refl _ _).alloc (Nat.le_refl _) _)
    refine (concat_any r (List.replicate (64 - r.length) 0) (by rw [List.length_replicate]; omega) _ (w.heap.size + 1) (by simp) A (some ⟨w.heap.size, 0, none⟩) c (64 - r.length) htwo).mono ?_
    rintro e w1 ⟨v1, rfl, hob, hb1⟩
    have hl1 : (r ++ List.replicate (64 - r.length) (0 : UInt8)).length = 64 := by simp; omega
    obtain ⟨g, cp, rfl, hg, hpb, hcp⟩ := hob.pb (by omega)
    have hp0 := hpb.set (i := r.length) 128
    have hB1 : Below w.heap.size w w1 := by
      have h1 := ((Below.refl w.heap.size w).alloc (Nat.le_refl _) (.cells (madeCells #[.int .u8 0] (64 - r.length)) 5)).alloc (by simp) (.cells #[.slice A r.length c, .slice (some ⟨w.heap.size, 0, none⟩) (64 - r.length) (64 - r.length)] 22)
      exact h1.trans (hb1.mono h1.size)
    have hgw : w.heap.size ≤ g := by simp at hg; omega
    have cx := hpb.cell (i := r.length) (by omega)
    have cf := hpb.frozen r.length
    rw [hl1] at hcp ⊢
    have hpk : (r ++ List.replicate (64 - r.length) (0 : UInt8)).set r.length 128 = padK r n 0 := by rw [padK, ← hSH.out]
    rw [hpk] at hp0
    have hp0' := Lib.hid hp0
    have hB1' := Lib.hid hB1
    clear htwo hob hb1 hm hg hl1 hpb hp0 hpk hB1
    have j0 : (r.length : Int) < 64 := by omega
    go_wp2_with fail
    clear cx cf
    go_loopw [8, 32] (fun _ i wr => ∃ k : Nat, k ≤ 8 ∧ i = .int .i64 k ∧ PB wr g (padK r n k) ∧ Below w.heap.size w wr) (fun _ i _ => 8 - (intOf i).toNat)
    case atStart => exact ⟨0, by omega, rfl, hp0'.out, hB1'.out.setCell (p := ⟨g, r.length, none⟩) hgw _⟩
    case round =>
      obtain ⟨k, hk, rfl, hpb, hb⟩ := hrel
      by_cases hlt : k < 8
      · have hpl := hlenP'.out k
        rw [← hSH.out] at hpl
        have cx := hpb.cell (i := 63 - k) (by omega)
        have cf := hpb.frozen (63 - k)
        have hst : PB (wr.setCell ⟨g, 63 - k, none⟩ (.int .u8 (8 * (n : Int) / 2 ^ (8 * k) % 256))) g (padK r n (k + 1)) := by
          rw [lb_val n k hn, padK, ← hSH.out]
          exact hpb.set _
        have hst' := Lib.hid hst
        have hb' := Lib.hid hb
        have g3 : ((63 : Int) - k).toNat = 63 - k := by omega
        have i0 : (0 : Int) ≤ 63 - k := by omega
        have i1 : (63 : Int) - k < 64 := by omega
        have i2 : (k : Int) ≤ 63 := by omega
        have i3 : (0 : Int) ≤ 8 * k := by omega
        have g4 : ((8 : Int) * k).toNat = 8 * k := by omega
        clear hst hpb hb hpl
        go_wp2_with fail
        go_roundw
        case rel => exact ⟨k + 1, by omega, by go_num, hst'.out, hb'.out.setCell (p := ⟨g, 63 - k, none⟩) hgw _⟩
        case measure => simp [intOf]; omega
      · obtain rfl : k = 8 := by omega
        go_wp2_with fail
        go_ret
        exact ⟨g, cp, rfl, hcp, hgw, hpb, hb⟩
  · rw [show ((128 : Nat) : Int) = 128 from rfl] at hm hSub
    go_enter Tryd.func30, Tryd.ntmps30
    go_wp2_with fail
    have htwo : Two ((w.alloc (.cells (madeCells #[.int .u8 0] (128 - r.length)) 5)).alloc (.cells #[.slice A r.length c, .slice (some ⟨w.heap.size, 0, none⟩) (128 - r.length) (128 - r.length)] 22)) (w.heap.size + 1) r (List.replicate (128 - r.length) 0) A (some ⟨w.heap.size, 0, none⟩) c (128 - r.length) := by
      have h1 := (Below.refl w.heap.size w).alloc (Nat.le_refl _) (.cells (madeCells #[.int .u8 0] (128 - r.length)) 5)
      have h2 := heap_alloc_new (w.alloc (.cells (madeCells #[.int .u8 0] (128 - r.length)) 5)) (.cells #[.slice A r.length c, .slice (some ⟨w.heap.size, 0, none⟩) (128 - r.length) (128 - r.length)] 22)
      rw [World.size_alloc] at h2
      refine ⟨(cell_of_row _ (w.heap.size + 1) 0 _ _ _ h2).trans rfl, (cell_of_row _ (w.heap.size + 1) 1 _ _ _ h2).trans (by simp), ?_, ?_, hA, fun h => by cases h⟩
      · exact (hb.below h1).below ((Below.refl _ _).alloc (Nat.le_refl _) _)
      · exact (made_bytes w (128 - r.length)).reads.below ((Below.refl _ _).alloc (Nat.le_refl _) _)
    refine (concat_any r (List.replicate (128 - r.length) 0) (by rw [List.length_replicate]; omega) _ (w.heap.size + 1) (by simp) A (some ⟨w.heap.size, 0, none⟩) c (128 - r.length) htwo).mono ?_
    rintro e w1 ⟨v1, rfl, hob, hb1⟩
    have hl1 : (r ++ List.replicate (128 - r.length) (0 : UInt8)).length = 128 := by simp; omega
    obtain ⟨g, cp, rfl, hg, hpb, hcp⟩ := hob.pb (by omega)
    have hp0 := hpb.set (i := r.length) 128
    have hB1 : Below w.heap.size w w1 := by
      have h1 := ((Below.refl w.heap.size w).alloc (Nat.le_refl _) (.cells (madeCells #[.int .u8 0] (128 - r.length)) 5)).alloc (by simp) (.cells #[.slice A r.length c, .slice (some ⟨w.heap.size, 0, none⟩) (128 - r.length) (128 - r.length)] 22)
      exact h1.trans (hb1.mono h1.size)
    have hgw : w.heap.size ≤ g := by simp at hg; omega
    have cx := hpb.cell (i := r.length) (by omega)
    have cf := hpb.frozen r.length
    rw [hl1] at hcp ⊢
    have hpk : (r ++ List.replicate (128 - r.length) (0 : UInt8)).set r.length 128 = padK r n 0 := by rw [padK, ← hSH.out]
    rw [hpk] at hp0
    have hp0' := Lib.hid hp0
    have hB1' := Lib.hid hB1
    clear htwo hob hb1 hm hg hl1 hpb hp0 hpk hB1
    have j0 : (r.length : Int) < 128 := by omega
    go_wp2_with fail
    clear cx cf
    go_loopw [8, 32] (fun _ i wr => ∃ k : Nat, k ≤ 8 ∧ i = .int .i64 k ∧ PB wr g (padK r n k) ∧ Below w.heap.size w wr) (fun _ i _ => 8 - (intOf i).toNat)
    case atStart => exact ⟨0, by omega, rfl, hp0'.out, hB1'.out.setCell (p := ⟨g, r.length, none⟩) hgw _⟩
    case round =>
      obtain ⟨k, hk, rfl, hpb, hb⟩ := hrel
      by_cases hlt : k < 8
      · have hpl := hlenP'.out k
        rw [← hSH.out] at hpl
        have cx := hpb.cell (i := 127 - k) (by omega)
        have cf := hpb.frozen (127 - k)
        have hst : PB (wr.setCell ⟨g, 127 - k, none⟩ (.int .u8 (8 * (n : Int) / 2 ^ (8 * k) % 256))) g (padK r n (k + 1)) := by
          rw [lb_val n k hn, padK, ← hSH.out]
          exact hpb.set _
        have hst' := Lib.hid hst
        have hb' := Lib.hid hb
        have g3 : ((127 : Int) - k).toNat = 127 - k := by omega
        have i0 : (0 : Int) ≤ 127 - k := by omega
        have i1 : (127 : Int) - k < 128 := by omega
        have i2 : (k : Int) ≤ 127 := by omega
        have i3 : (0 : Int) ≤ 8 * k := by omega
        have g4 : ((8 : Int) * k).toNat = 8 * k := by omega
        clear hst hpb hb hpl
        go_wp2_with fail
        go_roundw
        case rel => exact ⟨k + 1, by omega, by go_num, hst'.out, hb'.out.setCell (p := ⟨g, 127 - k, none⟩) hgw _⟩
        case measure => simp [intOf]; omega
      · obtain rfl : k = 8 := by omega
        go_wp2_with fail
        go_ret
        exact ⟨g, cp, rfl, hcp, hgw, hpb, hb⟩
end Go.Proofs.YtalphobaohffnaaDoor
