/- The chapter's examples: sane. -/
import Derived.Test.YtjfoihlelkfaoaaDoorCl
import Derived.Test.YtjfoihlelkfaoaaDoorSv
import Derived.Stop.BytesEq
import Derived.Lib.SlBytesConst
namespace Go.Proofs.YtjfoihlelkfaoaaDoor
open Go.RowKit

theorem box_new (w : World) : DB ((w.alloc (.cells #[.int .u8 0, .int .u8 0, .int .u8 0, .int .u8 0, .int .u8 0, .int .u8 0, .int .u8 0, .int .u8 0, .int .u8 0, .int .u8 0, .int .u8 0, .int .u8 0, .int .u8 0, .int .u8 0, .int .u8 0, .int .u8 0, .int .u8 0, .int .u8 0, .int .u8 0, .int .u8 0, .int .u8 0, .int .u8 0, .int .u8 0, .int .u8 0, .int .u8 0, .int .u8 0, .int .u8 0, .int .u8 0, .int .u8 0, .int .u8 0, .int .u8 0, .int .u8 0] 24)).alloc (.cells #[.int .u8 0, .int .u8 0, .int .u8 0, .int .u8 0, .int .u8 0, .int .u8 0, .int .u8 0, .int .u8 0, .int .u8 0, .int .u8 0, .int .u8 0, .int .u8 0, .int .u8 0, .int .u8 0, .int .u8 0, .int .u8 0, .int .u8 0, .int .u8 0, .int .u8 0, .int .u8 0, .int .u8 0, .int .u8 0, .int .u8 0, .int .u8 0, .int .u8 0, .int .u8 0, .int .u8 0, .int .u8 0, .int .u8 0, .int .u8 0, .int .u8 0, .int .u8 0] 24)) w.heap.size 24 zeroD ∧ DB ((w.alloc (.cells #[.int .u8 0, .int .u8 0, .int .u8 0, .int .u8 0, .int .u8 0, .int .u8 0, .int .u8 0, .int .u8 0, .int .u8 0, .int .u8 0, .int .u8 0, .int .u8 0, .int .u8 0, .int .u8 0, .int .u8 0, .int .u8 0, .int .u8 0, .int .u8 0, .int .u8 0, .int .u8 0, .int .u8 0, .int .u8 0, .int .u8 0, .int .u8 0, .int .u8 0, .int .u8 0, .int .u8 0, .int .u8 0, .int .u8 0, .int .u8 0, .int .u8 0, .int .u8 0] 24)).alloc (.cells #[.int .u8 0, .int .u8 0, .int .u8 0, .int .u8 0, .int .u8 0, .int .u8 0, .int .u8 0, .int .u8 0, .int .u8 0, .int .u8 0, .int .u8 0, .int .u8 0, .int .u8 0, .int .u8 0, .int .u8 0, .int .u8 0, .int .u8 0, .int .u8 0, .int .u8 0, .int .u8 0, .int .u8 0, .int .u8 0, .int .u8 0, .int .u8 0, .int .u8 0, .int .u8 0, .int .u8 0, .int .u8 0, .int .u8 0, .int .u8 0, .int .u8 0, .int .u8 0] 24)) (w.heap.size + 1) 24 zeroD ∧
    Below w.heap.size w ((w.alloc (.cells #[.int .u8 0, .int .u8 0, .int .u8 0, .int .u8 0, .int .u8 0, .int .u8 0, .int .u8 0, .int .u8 0, .int .u8 0, .int .u8 0, .int .u8 0, .int .u8 0, .int .u8 0, .int .u8 0, .int .u8 0, .int .u8 0, .int .u8 0, .int .u8 0, .int .u8 0, .int .u8 0, .int .u8 0, .int .u8 0, .int .u8 0, .int .u8 0, .int .u8 0, .int .u8 0, .int .u8 0, .int .u8 0, .int .u8 0, .int .u8 0, .int .u8 0, .int .u8 0] 24)).alloc (.cells #[.int .u8 0, .int .u8 0, .int .u8 0, .int .u8 0, .int .u8 0, .int .u8 0, .int .u8 0, .int .u8 0, .int .u8 0, .int .u8 0, .int .u8 0, .int .u8 0, .int .u8 0, .int .u8 0, .int .u8 0, .int .u8 0, .int .u8 0, .int .u8 0, .int .u8 0, .int .u8 0, .int .u8 0, .int .u8 0, .int .u8 0, .int .u8 0, .int .u8 0, .int .u8 0, .int .u8 0, .int .u8 0, .int .u8 0, .int .u8 0, .int .u8 0, .int .u8 0] 24)) := box_zero w zeroD
/-- A digest is stored over another. -/
theorem DB.store {w : World} {g : Nat} {d e : List UInt8} {T : TypeId} (h : DB w g T d) : DB (w.setRow g (BV e).toArray) g T e := setRow_heap w g _ (BV e).toArray _ _ h
theorem DB.far {w : World} {g k : Nat} {d : List UInt8} {T : TypeId} (h : DB w g T d) (c : Array Value) (hk : g ≠ k) : DB (w.setRow k c) g T d := by
  unfold DB; rw [setRow_other w k g c hk]; exact h
theorem below_row {w w' : World} {B g : Nat} (h : Below B w w') (c : Array Value) (hg : B ≤ g) (hB : B ≤ w'.heap.size) : Below B w (w'.setRow g c) := h.grown (grownBy_setRow _ _ _) hB (fun k e => by injection e with e; omega)
def z64 : List UInt8 := List.replicate 64 0
def oneD : List UInt8 := [1, 0, 0, 0, 0, 0, 0, 0, 0, 0, 0, 0, 0, 0, 0, 0, 0, 0, 0, 0, 0, 0, 0, 0, 0, 0, 0, 0, 0, 0, 0, 0]

/-- Two digests are compared. -/
theorem eq_digest (a b : List UInt8) (ha : a.length = 32) (hb : b.length = 32) (W : World) : (Op.equalIn 10000 24 (.agg (BV a).toArray) (.agg (BV b).toArray)).run Tryd.prog W = .ok (a == b) W :=
  run_equalIn_bytes W 9998 24 5 32 (by kernel_rfl) (by kernel_rfl) (fun w => by kernel_rfl) a b ha hb

theorem sha_parts {l : List UInt8} {a b c d : UInt8} (h : l.take 4 = [a, b, c, d]) : l.getD 0 0 = a ∧ l.getD 1 0 = b ∧ l.getD 2 0 = c ∧ l.getD 3 0 = d := by
  have e : ∀ i, i < 4 → l.getD i 0 = [a, b, c, d].getD i 0 := fun i hi => by
    rw [← h, List.getD_eq_getElem?_getD, List.getD_eq_getElem?_getD, List.getElem?_take, if_pos hi]
  exact ⟨e 0 (by omega), e 1 (by omega), e 2 (by omega), e 3 (by omega)⟩
/-- A digest is loaded. -/
theorem load_digest {W : World} {g : Nat} {d : List UInt8} (h : DB W g 24 d) (hd : d.length = 32) : (Instr.loadAt 24 (.pointer (some ⟨g, 0, none⟩))).run Tryd.prog W = .ok (.agg (BV d).toArray) W :=
  run_loadAt_mid W g 0 24 (BV d) (.array 32 5) (fun j v hv => by rw [cell_of_row W g (0 + j) _ _ _ h]; simpa using hv) (by kernel_rfl) rfl (by rw [BV_length, hd]; kernel_rfl)
theorem range_of {W : World} {g : Nat} {T : TypeId} {d : List UInt8} (h : DB W g T d) : W.rangeAt g 0 (BV d) := fun j v hv => by
  rw [cell_of_row W g (0 + j) _ _ _ h]; simpa using hv
theorem RD.one {W : World} {d : List UInt8} (hd : d.length = 32) {t : TypeId} : RD (W.alloc (.cells (BV d).toArray t)) (W.alloc (.cells (BV d).toArray t)).heap.size [d] (some ⟨W.heap.size, 0, none⟩) 1 := by
  refine ⟨Nat.le_refl _, by omega, fun e he => by simp at he; subst he; exact hd, fun h => by simp at h, W.heap.size, 0, fun _ => ⟨rfl, by simp⟩, fun i hi => ?_⟩
  match i, hi with
  | 0, _ =>
    intro j v hv
    rw [cell_of_row _ W.heap.size _ _ _ _ (heap_alloc_new W _)]
    simpa using hv
theorem make64 (W : World) : (Instr.makeSlice 22 (.int .i64 64) (.int .i64 64)).run Tryd.prog W = .ok (.slice (some ⟨W.heap.size, 0, none⟩) 64 64) (W.alloc (.cells (madeCells #[.int .u8 0] 64) 5)) := by
  obtain ⟨i0, hi0, hz0, hz1, hz2⟩ := info_parts Tryd.info8
  have h := run_make (P := Tryd.prog) W 22 5 i0 (.int .u8 0) Tryd.underlying22 hi0 hz0 .i64 .i64 64 64 (by omega) (by omega) (by rw [hz2]; omega) (by omega)
  rw [hz1] at h
  simpa [Value.cells] using h
theorem abc_read (w : World) : RBs (w.alloc (.cells #[.int .u8 97, .int .u8 98, .int .u8 99] 5 (3, 4))) (w.alloc (.cells #[.int .u8 97, .int .u8 98, .int .u8 99] 5 (3, 4))).heap.size (some ⟨w.heap.size, 0, none⟩) [97, 98, 99] := fun _ => by
  refine ⟨w.heap.size, 0, rfl, by simp, fun j hj => ?_⟩
  have h := heap_alloc_new w (.cells #[.int .u8 97, .int .u8 98, .int .u8 99] 5 (3, 4))
  have hj : j < 3 := hj
  match j, hj with
  | 0, _ => exact (cell_of_row _ w.heap.size 0 _ _ _ h).trans rfl
  | 1, _ => exact (cell_of_row _ w.heap.size 1 _ _ _ h).trans rfl
  | 2, _ => exact (cell_of_row _ w.heap.size 2 _ _ _ h).trans rfl

set_option maxRecDepth 100000 in
set_option maxHeartbeats 4000000 in
theorem sane_any (w : World) (hK : KT w) (h0 : 0 < w.heap.size) : Calls Tryd.prog 6 #[] w fun e w' => e = .returned (.bool true) ∧ Below w.heap.size w w' := by
  have hKH := Lib.hid hK
  clear hK
  have hu : Tryd.prog.underlying 24 = some (.array 32 5) := by kernel_rfl
  have hi : (Tryd.prog.info? 24).map (·.size) = some 32 := by kernel_rfl
  have hcv : (convert 22 22 (.slice (some ⟨w.heap.size, 0, none⟩) 3 3)).run Tryd.prog (w.alloc (.cells #[.int .u8 97, .int .u8 98, .int .u8 99] 5)) = .ok (.slice (some ⟨w.heap.size, 0, none⟩) 3 3) (w.alloc (.cells #[.int .u8 97, .int .u8 98, .int .u8 99] 5 (3, 4))) := Lib.run_convert_bytes_const w 22 5 _ 3 3 Tryd.underlying22 (by kernel_rfl)
  go_enter Tryd.func6, Tryd.ntmps6
  go_wp2_with fail
  have hd1 := abc_read w
  have hB1 := (Below.refl w.heap.size w).alloc (Nat.le_refl _) (.cells #[.int .u8 97, .int .u8 98, .int .u8 99] 5 (3, 4))
  have hS1 : Calls Tryd.prog 18 #[.slice (some ⟨w.heap.size, 0, none⟩) 3 3] _ _ := Sum_any [97, 98, 99] (by decide) (w.alloc (.cells #[.int .u8 97, .int .u8 98, .int .u8 99] 5 (3, 4))) (some ⟨w.heap.size, 0, none⟩) 3 hd1 (fun h => by cases h) (by decide) (hKH.out.below hB1 h0) (by simp)
  refine hS1.mono ?_
  rintro e w2 ⟨rfl, hb2⟩
  have hB2 := hB1.trans (hb2.mono hB1.size)
  clear hS1 hd1 hb2 hcv
  go_wp2_with fail
  have hS2 : Calls Tryd.prog 18 #[.slice none 0 0] _ _ := Sum_any [] (by decide) w2 none 0 (fun h => by simp at h) (fun _ => rfl) (by decide) (hKH.out.below hB2 h0) (Nat.lt_of_lt_of_le h0 hB2.size)
  refine hS2.mono ?_
  rintro e w3 ⟨rfl, hb3⟩
  have hB3 := hB2.trans (hb3.mono hB2.size)
  have hz3 := hB3.size
  clear hS2 hb3 hB2
  obtain ⟨z1, z2, hBz⟩ := box_new w3
  have hB4 := hB3.trans (hBz.mono hz3)
  have s1 := Lib.hid (DV_size (d := sha [97, 98, 99]) (sha_length _))
  have s2 := Lib.hid (DV_size (d := sha []) (sha_length _))
  have z2' := z2.far (BV (sha [97, 98, 99])).toArray (k := w3.heap.size) (by omega)
  go_wp2_with (first
    | (refine wpList_store_row rfl 24 _ _ rfl (w3.heap.size) _ rfl rfl 24 _ z1 ?cj ?cl ?ck ?_
       case cj => rw [hi, s1.out]
       case cl => rw [s1.out]; rfl
       case ck => exact BV_all _)
    | (refine wpList_store_row rfl 24 _ _ rfl (w3.heap.size + 1) _ rfl rfl 24 _ z2' ?cj2 ?cl2 ?ck2 ?_
       case cj2 => rw [hi, s2.out]
       case cl2 => rw [s2.out]; rfl
       case ck2 => exact BV_all _))
  have hA1 := (z1.store (e := sha [97, 98, 99])).far (BV (sha [])).toArray (k := w3.heap.size + 1) (by omega)
  have hA2 := z2'.store (e := sha [])
  have hB5 := below_row (below_row hB4 (BV (sha [97, 98, 99])).toArray (g := w3.heap.size) hz3 (by simp; omega)) (BV (sha [])).toArray (g := w3.heap.size + 1) (by omega) (by simp; omega)
  generalize hw5 : (((w3.alloc (.cells #[.int .u8 0, .int .u8 0, .int .u8 0, .int .u8 0, .int .u8 0, .int .u8 0, .int .u8 0, .int .u8 0, .int .u8 0, .int .u8 0, .int .u8 0, .int .u8 0, .int .u8 0, .int .u8 0, .int .u8 0, .int .u8 0, .int .u8 0, .int .u8 0, .int .u8 0, .int .u8 0, .int .u8 0, .int .u8 0, .int .u8 0, .int .u8 0, .int .u8 0, .int .u8 0, .int .u8 0, .int .u8 0, .int .u8 0, .int .u8 0, .int .u8 0, .int .u8 0] 24)).alloc (.cells #[.int .u8 0, .int .u8 0, .int .u8 0, .int .u8 0, .int .u8 0, .int .u8 0, .int .u8 0, .int .u8 0, .int .u8 0, .int .u8 0, .int .u8 0, .int .u8 0, .int .u8 0, .int .u8 0, .int .u8 0, .int .u8 0, .int .u8 0, .int .u8 0, .int .u8 0, .int .u8 0, .int .u8 0, .int .u8 0, .int .u8 0, .int .u8 0, .int .u8 0, .int .u8 0, .int .u8 0, .int .u8 0, .int .u8 0, .int .u8 0, .int .u8 0, .int .u8 0] 24)).setRow w3.heap.size (BV (sha [97, 98, 99])).toArray).setRow (w3.heap.size + 1) (BV (sha [])).toArray = w5 at hA1 hA2 hB5 ⊢
  clear z1 z2 z2' hBz hB4 hB3 hw5 s1 s2
  have hz5 : w3.heap.size + 1 < w5.heap.size := hA2.lt
  have hA1' := Lib.hid hA1
  have hA2' := Lib.hid hA2
  clear hA1 hA2
  go_wp2_with fail
  refine (path_none w5).mono ?_
  rintro e w6 ⟨rfl, rfl⟩
  go_wp2_with fail
  have hC1 : Calls Tryd.prog 13 #[.agg #[.int .u8 0, .int .u8 0, .int .u8 0, .int .u8 0, .int .u8 0, .int .u8 0, .int .u8 0, .int .u8 0, .int .u8 0, .int .u8 0, .int .u8 0, .int .u8 0, .int .u8 0, .int .u8 0, .int .u8 0, .int .u8 0, .int .u8 0, .int .u8 0, .int .u8 0, .int .u8 0, .int .u8 0, .int .u8 0, .int .u8 0, .int .u8 0, .int .u8 0, .int .u8 0, .int .u8 0, .int .u8 0, .int .u8 0, .int .u8 0, .int .u8 0, .int .u8 0], .int .i64 0, .int .i64 2, .slice none 0 0] _ _ := climb_02 zeroD rfl w5 (Nat.lt_of_lt_of_le h0 hB5.size)
  refine hC1.mono ?_
  rintro e w6 ⟨rfl, hb6⟩
  have hB6 := hB5.trans (hb6.mono hB5.size)
  have hz6 := hb6.size
  have hA1 := hA1'.out.below hb6 hA1'.out.lt
  have hA2 := hA2'.out.below hb6 hA2'.out.lt
  clear hC1 hA1' hA2' hb6 hB5
  have hd6 : DB (w6.alloc (.cells #[.int .u8 0, .int .u8 0, .int .u8 0, .int .u8 0, .int .u8 0, .int .u8 0, .int .u8 0, .int .u8 0, .int .u8 0, .int .u8 0, .int .u8 0, .int .u8 0, .int .u8 0, .int .u8 0, .int .u8 0, .int .u8 0, .int .u8 0, .int .u8 0, .int .u8 0, .int .u8 0, .int .u8 0, .int .u8 0, .int .u8 0, .int .u8 0, .int .u8 0, .int .u8 0, .int .u8 0, .int .u8 0, .int .u8 0, .int .u8 0, .int .u8 0, .int .u8 0] 24)) w6.heap.size 24 zeroD := (zero_new w6).1
  have hs6 := Lib.hid (DV_size (d := zeroD) rfl)
  have hB7 := below_row (hB6.alloc hB6.size (.cells #[.int .u8 0, .int .u8 0, .int .u8 0, .int .u8 0, .int .u8 0, .int .u8 0, .int .u8 0, .int .u8 0, .int .u8 0, .int .u8 0, .int .u8 0, .int .u8 0, .int .u8 0, .int .u8 0, .int .u8 0, .int .u8 0, .int .u8 0, .int .u8 0, .int .u8 0, .int .u8 0, .int .u8 0, .int .u8 0, .int .u8 0, .int .u8 0, .int .u8 0, .int .u8 0, .int .u8 0, .int .u8 0, .int .u8 0, .int .u8 0, .int .u8 0, .int .u8 0] 24)) (BV zeroD).toArray (g := w6.heap.size) hB6.size (by simp; have := hB6.size; omega)
  have hA1 := (hA1.below ((Below.refl _ _).alloc (Nat.le_refl _) (.cells #[.int .u8 0, .int .u8 0, .int .u8 0, .int .u8 0, .int .u8 0, .int .u8 0, .int .u8 0, .int .u8 0, .int .u8 0, .int .u8 0, .int .u8 0, .int .u8 0, .int .u8 0, .int .u8 0, .int .u8 0, .int .u8 0, .int .u8 0, .int .u8 0, .int .u8 0, .int .u8 0, .int .u8 0, .int .u8 0, .int .u8 0, .int .u8 0, .int .u8 0, .int .u8 0, .int .u8 0, .int .u8 0, .int .u8 0, .int .u8 0, .int .u8 0, .int .u8 0] 24)) hA1.lt).far (BV zeroD).toArray (k := w6.heap.size) (by have := hA1.lt; omega)
  have hA2 := (hA2.below ((Below.refl _ _).alloc (Nat.le_refl _) (.cells #[.int .u8 0, .int .u8 0, .int .u8 0, .int .u8 0, .int .u8 0, .int .u8 0, .int .u8 0, .int .u8 0, .int .u8 0, .int .u8 0, .int .u8 0, .int .u8 0, .int .u8 0, .int .u8 0, .int .u8 0, .int .u8 0, .int .u8 0, .int .u8 0, .int .u8 0, .int .u8 0, .int .u8 0, .int .u8 0, .int .u8 0, .int .u8 0, .int .u8 0, .int .u8 0, .int .u8 0, .int .u8 0, .int .u8 0, .int .u8 0, .int .u8 0, .int .u8 0] 24)) hA2.lt).far (BV zeroD).toArray (k := w6.heap.size) (by have := hA2.lt; omega)
  have hA1' := Lib.hid hA1
  have hA2' := Lib.hid hA2
  clear hA1 hA2 hB6
  go_wp2_with (refine wpList_store_row rfl 24 _ _ rfl (w6.heap.size) _ rfl rfl 24 _ hd6 ?cj3 ?cl3 ?ck3 ?_
               case cj3 => rw [hi, hs6.out]
               case cl3 => rfl
               case ck3 => exact BV_all _)
  generalize hw7 : (w6.alloc (.cells #[.int .u8 0, .int .u8 0, .int .u8 0, .int .u8 0, .int .u8 0, .int .u8 0, .int .u8 0, .int .u8 0, .int .u8 0, .int .u8 0, .int .u8 0, .int .u8 0, .int .u8 0, .int .u8 0, .int .u8 0, .int .u8 0, .int .u8 0, .int .u8 0, .int .u8 0, .int .u8 0, .int .u8 0, .int .u8 0, .int .u8 0, .int .u8 0, .int .u8 0, .int .u8 0, .int .u8 0, .int .u8 0, .int .u8 0, .int .u8 0, .int .u8 0, .int .u8 0] 24)).setRow w6.heap.size (BV zeroD).toArray = w7 at hA1' hA2' hB7 ⊢
  clear hd6 hs6 hw7
  go_wp2_with fail
  have hC2 : Calls Tryd.prog 13 #[.agg #[.int .u8 1, .int .u8 0, .int .u8 0, .int .u8 0, .int .u8 0, .int .u8 0, .int .u8 0, .int .u8 0, .int .u8 0, .int .u8 0, .int .u8 0, .int .u8 0, .int .u8 0, .int .u8 0, .int .u8 0, .int .u8 0, .int .u8 0, .int .u8 0, .int .u8 0, .int .u8 0, .int .u8 0, .int .u8 0, .int .u8 0, .int .u8 0, .int .u8 0, .int .u8 0, .int .u8 0, .int .u8 0, .int .u8 0, .int .u8 0, .int .u8 0, .int .u8 0], .int .i64 0, .int .i64 1, .slice none 0 0] _ _ := climb_01 oneD rfl w7 (hKH.out.below hB7 h0) (Nat.lt_of_lt_of_le h0 hB7.size)
  refine hC2.mono ?_
  rintro e w8 ⟨rfl, hb8⟩
  have hB8 := hB7.trans (hb8.mono hB7.size)
  have hA1 := hA1'.out.below hb8 hA1'.out.lt
  have hA2 := hA2'.out.below hb8 hA2'.out.lt
  have hz8 : w3.heap.size + 1 < w8.heap.size := hA2.lt
  clear hC2 hA1' hA2' hb8 hB7
  have hd8 : DB (w8.alloc (.cells #[.int .u8 0, .int .u8 0, .int .u8 0, .int .u8 0, .int .u8 0, .int .u8 0, .int .u8 0, .int .u8 0, .int .u8 0, .int .u8 0, .int .u8 0, .int .u8 0, .int .u8 0, .int .u8 0, .int .u8 0, .int .u8 0, .int .u8 0, .int .u8 0, .int .u8 0, .int .u8 0, .int .u8 0, .int .u8 0, .int .u8 0, .int .u8 0, .int .u8 0, .int .u8 0, .int .u8 0, .int .u8 0, .int .u8 0, .int .u8 0, .int .u8 0, .int .u8 0] 24)) w8.heap.size 24 zeroD := (zero_new w8).1
  have hs8 := Lib.hid (DV_size (d := leafH oneD) (tagH_length _ _))
  have hA3 := hd8.store (e := leafH oneD)
  have hB9 := below_row (hB8.alloc hB8.size (.cells #[.int .u8 0, .int .u8 0, .int .u8 0, .int .u8 0, .int .u8 0, .int .u8 0, .int .u8 0, .int .u8 0, .int .u8 0, .int .u8 0, .int .u8 0, .int .u8 0, .int .u8 0, .int .u8 0, .int .u8 0, .int .u8 0, .int .u8 0, .int .u8 0, .int .u8 0, .int .u8 0, .int .u8 0, .int .u8 0, .int .u8 0, .int .u8 0, .int .u8 0, .int .u8 0, .int .u8 0, .int .u8 0, .int .u8 0, .int .u8 0, .int .u8 0, .int .u8 0] 24)) (BV (leafH oneD)).toArray (g := w8.heap.size) hB8.size (by simp; have := hB8.size; omega)
  have hA1 := (hA1.below ((Below.refl _ _).alloc (Nat.le_refl _) (.cells #[.int .u8 0, .int .u8 0, .int .u8 0, .int .u8 0, .int .u8 0, .int .u8 0, .int .u8 0, .int .u8 0, .int .u8 0, .int .u8 0, .int .u8 0, .int .u8 0, .int .u8 0, .int .u8 0, .int .u8 0, .int .u8 0, .int .u8 0, .int .u8 0, .int .u8 0, .int .u8 0, .int .u8 0, .int .u8 0, .int .u8 0, .int .u8 0, .int .u8 0, .int .u8 0, .int .u8 0, .int .u8 0, .int .u8 0, .int .u8 0, .int .u8 0, .int .u8 0] 24)) hA1.lt).far (BV (leafH oneD)).toArray (k := w8.heap.size) (by have := hA1.lt; omega)
  have hA2 := (hA2.below ((Below.refl _ _).alloc (Nat.le_refl _) (.cells #[.int .u8 0, .int .u8 0, .int .u8 0, .int .u8 0, .int .u8 0, .int .u8 0, .int .u8 0, .int .u8 0, .int .u8 0, .int .u8 0, .int .u8 0, .int .u8 0, .int .u8 0, .int .u8 0, .int .u8 0, .int .u8 0, .int .u8 0, .int .u8 0, .int .u8 0, .int .u8 0, .int .u8 0, .int .u8 0, .int .u8 0, .int .u8 0, .int .u8 0, .int .u8 0, .int .u8 0, .int .u8 0, .int .u8 0, .int .u8 0, .int .u8 0, .int .u8 0] 24)) hA2.lt).far (BV (leafH oneD)).toArray (k := w8.heap.size) (by have := hA2.lt; omega)
  have hA1' := Lib.hid hA1
  have hA2' := Lib.hid hA2
  have hA3' := Lib.hid hA3
  clear hA1 hA2 hA3 hB8
  have g1 := sha_parts sha_abc
  have g2 := sha_parts sha_nil
  have r10 := hA1'.out.cell (i := 0) (by rw [sha_length]; omega)
  have r11 := hA1'.out.cell (i := 1) (by rw [sha_length]; omega)
  have r12 := hA1'.out.cell (i := 2) (by rw [sha_length]; omega)
  have r13 := hA1'.out.cell (i := 3) (by rw [sha_length]; omega)
  have r20 := hA2'.out.cell (i := 0) (by rw [sha_length]; omega)
  have r21 := hA2'.out.cell (i := 1) (by rw [sha_length]; omega)
  have r22 := hA2'.out.cell (i := 2) (by rw [sha_length]; omega)
  have r23 := hA2'.out.cell (i := 3) (by rw [sha_length]; omega)
  rw [g1.1] at r10
  rw [g1.2.1] at r11
  rw [g1.2.2.1] at r12
  rw [g1.2.2.2] at r13
  rw [g2.1] at r20
  rw [g2.2.1] at r21
  rw [g2.2.2.1] at r22
  rw [g2.2.2.2] at r23
  have r10 : ((w8.alloc (.cells #[.int .u8 0, .int .u8 0, .int .u8 0, .int .u8 0, .int .u8 0, .int .u8 0, .int .u8 0, .int .u8 0, .int .u8 0, .int .u8 0, .int .u8 0, .int .u8 0, .int .u8 0, .int .u8 0, .int .u8 0, .int .u8 0, .int .u8 0, .int .u8 0, .int .u8 0, .int .u8 0, .int .u8 0, .int .u8 0, .int .u8 0, .int .u8 0, .int .u8 0, .int .u8 0, .int .u8 0, .int .u8 0, .int .u8 0, .int .u8 0, .int .u8 0, .int .u8 0] 24)).setRow w8.heap.size (BV (leafH oneD)).toArray).cell? ⟨w3.heap.size, 0, none⟩ = some (.int .u8 186) := r10
  have r11 : ((w8.alloc (.cells #[.int .u8 0, .int .u8 0, .int .u8 0, .int .u8 0, .int .u8 0, .int .u8 0, .int .u8 0, .int .u8 0, .int .u8 0, .int .u8 0, .int .u8 0, .int .u8 0, .int .u8 0, .int .u8 0, .int .u8 0, .int .u8 0, .int .u8 0, .int .u8 0, .int .u8 0, .int .u8 0, .int .u8 0, .int .u8 0, .int .u8 0, .int .u8 0, .int .u8 0, .int .u8 0, .int .u8 0, .int .u8 0, .int .u8 0, .int .u8 0, .int .u8 0, .int .u8 0] 24)).setRow w8.heap.size (BV (leafH oneD)).toArray).cell? ⟨w3.heap.size, 1, none⟩ = some (.int .u8 120) := r11
  have r12 : ((w8.alloc (.cells #[.int .u8 0, .int .u8 0, .int .u8 0, .int .u8 0, .int .u8 0, .int .u8 0, .int .u8 0, .int .u8 0, .int .u8 0, .int .u8 0, .int .u8 0, .int .u8 0, .int .u8 0, .int .u8 0, .int .u8 0, .int .u8 0, .int .u8 0, .int .u8 0, .int .u8 0, .int .u8 0, .int .u8 0, .int .u8 0, .int .u8 0, .int .u8 0, .int .u8 0, .int .u8 0, .int .u8 0, .int .u8 0, .int .u8 0, .int .u8 0, .int .u8 0, .int .u8 0] 24)).setRow w8.heap.size (BV (leafH oneD)).toArray).cell? ⟨w3.heap.size, 2, none⟩ = some (.int .u8 22) := r12
  have r13 : ((w8.alloc (.cells #[.int .u8 0, .int .u8 0, .int .u8 0, .int .u8 0, .int .u8 0, .int .u8 0, .int .u8 0, .int .u8 0, .int .u8 0, .int .u8 0, .int .u8 0, .int .u8 0, .int .u8 0, .int .u8 0, .int .u8 0, .int .u8 0, .int .u8 0, .int .u8 0, .int .u8 0, .int .u8 0, .int .u8 0, .int .u8 0, .int .u8 0, .int .u8 0, .int .u8 0, .int .u8 0, .int .u8 0, .int .u8 0, .int .u8 0, .int .u8 0, .int .u8 0, .int .u8 0] 24)).setRow w8.heap.size (BV (leafH oneD)).toArray).cell? ⟨w3.heap.size, 3, none⟩ = some (.int .u8 191) := r13
  have r20 : ((w8.alloc (.cells #[.int .u8 0, .int .u8 0, .int .u8 0, .int .u8 0, .int .u8 0, .int .u8 0, .int .u8 0, .int .u8 0, .int .u8 0, .int .u8 0, .int .u8 0, .int .u8 0, .int .u8 0, .int .u8 0, .int .u8 0, .int .u8 0, .int .u8 0, .int .u8 0, .int .u8 0, .int .u8 0, .int .u8 0, .int .u8 0, .int .u8 0, .int .u8 0, .int .u8 0, .int .u8 0, .int .u8 0, .int .u8 0, .int .u8 0, .int .u8 0, .int .u8 0, .int .u8 0] 24)).setRow w8.heap.size (BV (leafH oneD)).toArray).cell? ⟨w3.heap.size + 1, 0, none⟩ = some (.int .u8 227) := r20
  have r21 : ((w8.alloc (.cells #[.int .u8 0, .int .u8 0, .int .u8 0, .int .u8 0, .int .u8 0, .int .u8 0, .int .u8 0, .int .u8 0, .int .u8 0, .int .u8 0, .int .u8 0, .int .u8 0, .int .u8 0, .int .u8 0, .int .u8 0, .int .u8 0, .int .u8 0, .int .u8 0, .int .u8 0, .int .u8 0, .int .u8 0, .int .u8 0, .int .u8 0, .int .u8 0, .int .u8 0, .int .u8 0, .int .u8 0, .int .u8 0, .int .u8 0, .int .u8 0, .int .u8 0, .int .u8 0] 24)).setRow w8.heap.size (BV (leafH oneD)).toArray).cell? ⟨w3.heap.size + 1, 1, none⟩ = some (.int .u8 176) := r21
  have r22 : ((w8.alloc (.cells #[.int .u8 0, .int .u8 0, .int .u8 0, .int .u8 0, .int .u8 0, .int .u8 0, .int .u8 0, .int .u8 0, .int .u8 0, .int .u8 0, .int .u8 0, .int .u8 0, .int .u8 0, .int .u8 0, .int .u8 0, .int .u8 0, .int .u8 0, .int .u8 0, .int .u8 0, .int .u8 0, .int .u8 0, .int .u8 0, .int .u8 0, .int .u8 0, .int .u8 0, .int .u8 0, .int .u8 0, .int .u8 0, .int .u8 0, .int .u8 0, .int .u8 0, .int .u8 0] 24)).setRow w8.heap.size (BV (leafH oneD)).toArray).cell? ⟨w3.heap.size + 1, 2, none⟩ = some (.int .u8 196) := r22
  have r23 : ((w8.alloc (.cells #[.int .u8 0, .int .u8 0, .int .u8 0, .int .u8 0, .int .u8 0, .int .u8 0, .int .u8 0, .int .u8 0, .int .u8 0, .int .u8 0, .int .u8 0, .int .u8 0, .int .u8 0, .int .u8 0, .int .u8 0, .int .u8 0, .int .u8 0, .int .u8 0, .int .u8 0, .int .u8 0, .int .u8 0, .int .u8 0, .int .u8 0, .int .u8 0, .int .u8 0, .int .u8 0, .int .u8 0, .int .u8 0, .int .u8 0, .int .u8 0, .int .u8 0, .int .u8 0] 24)).setRow w8.heap.size (BV (leafH oneD)).toArray).cell? ⟨w3.heap.size + 1, 3, none⟩ = some (.int .u8 66) := r23
  clear g1 g2
  go_wp2_with (refine wpList_store_row rfl 24 _ _ rfl (w8.heap.size) _ rfl rfl 24 _ hd8 ?cj4 ?cl4 ?ck4 ?_
               case cj4 => rw [hi, hs8.out]
               case cl4 => rw [hs8.out]; rfl
               case ck4 => exact BV_all _)
  clear r10 r11 r12 r13 r20 r21 r22 r23
  generalize hw9 : (w8.alloc (.cells #[.int .u8 0, .int .u8 0, .int .u8 0, .int .u8 0, .int .u8 0, .int .u8 0, .int .u8 0, .int .u8 0, .int .u8 0, .int .u8 0, .int .u8 0, .int .u8 0, .int .u8 0, .int .u8 0, .int .u8 0, .int .u8 0, .int .u8 0, .int .u8 0, .int .u8 0, .int .u8 0, .int .u8 0, .int .u8 0, .int .u8 0, .int .u8 0, .int .u8 0, .int .u8 0, .int .u8 0, .int .u8 0, .int .u8 0, .int .u8 0, .int .u8 0, .int .u8 0] 24)).setRow w8.heap.size (BV (leafH oneD)).toArray = w9 at hA3' hB9 ⊢
  clear hA1' hA2' hw9
  have hlen : (Tryd.prog.info? 24).map (·.size) = some (BV (leafH oneD)).length := by rw [BV_length, show (leafH oneD).length = 32 from tagH_length _ _]; exact hi
  have hR9 : w9.rangeAt w8.heap.size 0 (BV (leafH oneD)) := range_of hA3'.out
  have hlt9 := hA3'.out.lt
  have e1 := fun W => eq_digest (leafH oneD) (treeH [oneD]) (tagH_length _ _) (treeH_length _) W
  have e2 := fun W => eq_digest (treeH []) (tagH emptyB.data.toList []) (treeH_length _) (tagH_length _ _) W
  have e3 := fun W => eq_digest (chainH zeroD zeroD) (tagH chainB.data.toList z64) (tagH_length _ _) (tagH_length _ _) W
  rw [show (leafH oneD == treeH [oneD]) = true from by rw [treeH_one]; exact beq_self_eq_true _] at e1
  rw [show (treeH [] == tagH emptyB.data.toList []) = true from by rw [treeH_nil]; exact beq_self_eq_true _] at e2
  rw [show (chainH zeroD zeroD == tagH chainB.data.toList z64) = true from beq_self_eq_true _] at e3
  have e1' := Lib.hid e1
  have e2' := Lib.hid e2
  have e3' := Lib.hid e3
  clear e1 e2 e3
  obtain ⟨Q, hQ⟩ : ∃ Q : World → Prop, ∀ W, Q W ↔ (Below w.heap.size w W ∧ DB W w8.heap.size 24 (leafH oneD)) := ⟨_, fun _ => Iff.rfl⟩
  have q9 : Q w9 := (hQ _).2 ⟨hB9, hA3'.out⟩
  have qd : ∀ W, Q W → Q W.drew := fun W h => (hQ _).2 ⟨dN ((hQ _).1 h).1 1, ((hQ _).1 h).2⟩
  have qa : ∀ W o, Q W → Q (W.alloc o) := fun W o h => (hQ _).2 ⟨((hQ _).1 h).1.alloc ((hQ _).1 h).1.size o, ((hQ _).1 h).2.below ((Below.refl _ _).alloc (Nat.le_refl _) o) ((hQ _).1 h).2.lt⟩
  have qs : ∀ W W', Q W → Below W.heap.size W W' → Q W' := fun W W' h hb => (hQ _).2 ⟨((hQ _).1 h).1.trans (hb.mono ((hQ _).1 h).1.size), ((hQ _).1 h).2.below hb ((hQ _).1 h).2.lt⟩
  have qr : ∀ W, Q W → W.rangeAt w8.heap.size 0 (BV (leafH oneD)) := fun W h => range_of ((hQ _).1 h).2
  have qk : ∀ W, Q W → KT W ∧ 0 < W.heap.size := fun W h => ⟨hKH.out.below ((hQ _).1 h).1 h0, Nat.lt_of_lt_of_le h0 ((hQ _).1 h).1.size⟩
  have qb : ∀ W, Q W → Below w.heap.size w W := fun W h => ((hQ _).1 h).1
  have cT1 : ∀ W, Q W → Calls Tryd.prog 8 #[.slice (some ⟨W.heap.size, 0, none⟩) 1 1] (W.alloc (.cells #[.int .u8 1, .int .u8 0, .int .u8 0, .int .u8 0, .int .u8 0, .int .u8 0, .int .u8 0, .int .u8 0, .int .u8 0, .int .u8 0, .int .u8 0, .int .u8 0, .int .u8 0, .int .u8 0, .int .u8 0, .int .u8 0, .int .u8 0, .int .u8 0, .int .u8 0, .int .u8 0, .int .u8 0, .int .u8 0, .int .u8 0, .int .u8 0, .int .u8 0, .int .u8 0, .int .u8 0, .int .u8 0, .int .u8 0, .int .u8 0, .int .u8 0, .int .u8 0] 24)).drew fun e W' => e = .returned (.agg (BV (treeH [oneD])).toArray) ∧ Q W' := fun W h =>
    (Tree_any [oneD] (by decide) (W.alloc (.cells #[.int .u8 1, .int .u8 0, .int .u8 0, .int .u8 0, .int .u8 0, .int .u8 0, .int .u8 0, .int .u8 0, .int .u8 0, .int .u8 0, .int .u8 0, .int .u8 0, .int .u8 0, .int .u8 0, .int .u8 0, .int .u8 0, .int .u8 0, .int .u8 0, .int .u8 0, .int .u8 0, .int .u8 0, .int .u8 0, .int .u8 0, .int .u8 0, .int .u8 0, .int .u8 0, .int .u8 0, .int .u8 0, .int .u8 0, .int .u8 0, .int .u8 0, .int .u8 0] 24)).drew (some ⟨W.heap.size, 0, none⟩) 1 (RD.one (W := W) (d := oneD) rfl) (qk _ (qd _ (qa _ _ h))).1 (qk _ (qd _ (qa _ _ h))).2).mono fun _ _ ⟨h1, h2⟩ => ⟨h1, qs _ _ (qd _ (qa _ _ h)) h2⟩
  have cT0 : ∀ W, Q W → Calls Tryd.prog 8 #[.slice none 0 0] W fun e W' => e = .returned (.agg (BV (treeH [])).toArray) ∧ Q W' := fun W h =>
    (tree_nil W none 0 (qk _ h).1 (qk _ h).2).mono fun _ _ ⟨h1, h2⟩ => ⟨h1, qs _ _ h h2⟩
  have cE : ∀ W, Q W → Calls Tryd.prog 15 #[.string ⟨#[101, 109, 112, 116, 121]⟩, .slice none 0 0] W fun e W' => e = .returned (.agg (BV (tagH emptyB.data.toList [])).toArray) ∧ Q W' := fun W h =>
    (Tagged_any emptyB (by decide) [] (by simp) W none 0 (fun h => by simp at h) (fun _ => rfl) (qk _ h).1 (qk _ h).2).mono fun _ _ ⟨h1, h2⟩ => ⟨h1, qs _ _ h h2⟩
  have cC : ∀ W, Q W → Calls Tryd.prog 16 #[.agg #[.int .u8 0, .int .u8 0, .int .u8 0, .int .u8 0, .int .u8 0, .int .u8 0, .int .u8 0, .int .u8 0, .int .u8 0, .int .u8 0, .int .u8 0, .int .u8 0, .int .u8 0, .int .u8 0, .int .u8 0, .int .u8 0, .int .u8 0, .int .u8 0, .int .u8 0, .int .u8 0, .int .u8 0, .int .u8 0, .int .u8 0, .int .u8 0, .int .u8 0, .int .u8 0, .int .u8 0, .int .u8 0, .int .u8 0, .int .u8 0, .int .u8 0, .int .u8 0], .agg #[.int .u8 0, .int .u8 0, .int .u8 0, .int .u8 0, .int .u8 0, .int .u8 0, .int .u8 0, .int .u8 0, .int .u8 0, .int .u8 0, .int .u8 0, .int .u8 0, .int .u8 0, .int .u8 0, .int .u8 0, .int .u8 0, .int .u8 0, .int .u8 0, .int .u8 0, .int .u8 0, .int .u8 0, .int .u8 0, .int .u8 0, .int .u8 0, .int .u8 0, .int .u8 0, .int .u8 0, .int .u8 0, .int .u8 0, .int .u8 0, .int .u8 0, .int .u8 0]] W fun e W' => e = .returned (.agg (BV (chainH zeroD zeroD)).toArray) ∧ Q W' ∧ Below W.heap.size W W' := fun W h =>
    (chain_any zeroD zeroD rfl rfl W (qk _ h).1 (qk _ h).2).mono fun _ _ ⟨h1, h2⟩ => ⟨h1, qs _ _ h h2, h2⟩
  have cG : ∀ W W', Q W → Below (W.alloc (.cells (madeCells #[.int .u8 0] 64) 5)).heap.size (W.alloc (.cells (madeCells #[.int .u8 0] 64) 5)) W' → Calls Tryd.prog 15 #[.string ⟨#[99, 104, 97, 105, 110]⟩, .slice (some ⟨W.heap.size, 0, none⟩) 64 64] W' fun e W'' => e = .returned (.agg (BV (tagH chainB.data.toList z64)).toArray) ∧ Q W'' := fun W W' h hb => by
    have h' := qs _ _ (qa _ (.cells (madeCells #[.int .u8 0] 64) 5) h) hb
    exact (Tagged_any chainB (by decide) z64 (by decide) W' (some ⟨W.heap.size, 0, none⟩) 64 ((made_bytes W 64).reads.below hb) (fun h => by cases h) (qk _ h').1 (qk _ h').2).mono fun _ _ ⟨h1, h2⟩ => ⟨h1, qs _ _ h' h2⟩
  have cG' := Lib.hid cG
  have mk := make64
  have mk' := Lib.hid mk
  clear mk cG
  have cT1' := Lib.hid cT1
  have cT0' := Lib.hid cT0
  have cE' := Lib.hid cE
  have cC' := Lib.hid cC
  have hQ' := Lib.hid hQ
  have qd' := Lib.hid qd
  have qa' := Lib.hid qa
  have qr' := Lib.hid qr
  have qb' := Lib.hid qb
  clear cT1 cT0 cE cC hQ qd qa qr qk qb qs hA3' hB9 hR9
  go_region_held3 (fun w' => w'.rangeAt w8.heap.size 0 (BV (leafH oneD))) (first | (have r := qr'.out _ q14; exact r) | (have r := qr'.out _ q15; exact r) | (have r := qr'.out _ q13; exact r) | (have r := qr'.out _ (qa'.out _ (.cells (madeCells #[.int .u8 0] 64) 5) q13); exact r) | (have r := qr'.out _ q12; exact r) | (have r := qr'.out _ (qa'.out _ (.cells (madeCells #[.int .u8 0] 64) 5) q12); exact r) | (have r := qr'.out _ q11; exact r) | (have r := qr'.out _ q10; exact r) | (have r := qr'.out _ (qa'.out _ (.cells #[.int .u8 1, .int .u8 0, .int .u8 0, .int .u8 0, .int .u8 0, .int .u8 0, .int .u8 0, .int .u8 0, .int .u8 0, .int .u8 0, .int .u8 0, .int .u8 0, .int .u8 0, .int .u8 0, .int .u8 0, .int .u8 0, .int .u8 0, .int .u8 0, .int .u8 0, .int .u8 0, .int .u8 0, .int .u8 0, .int .u8 0, .int .u8 0, .int .u8 0, .int .u8 0, .int .u8 0, .int .u8 0, .int .u8 0, .int .u8 0, .int .u8 0, .int .u8 0] 24) q9); exact r) | (have r := qr'.out _ q9; exact r))
    (first
      | (go_at_call 15; have hq := q13; refine (cG'.out w13 _ q13 (Below.refl _ _)).mono ?_; rintro e w14 ⟨rfl, q14⟩; have e3 := e3'.out)
      | (go_at_call 15; have hq := q15; refine (cG'.out w12 _ q12 hb15).mono ?_; rintro e w14 ⟨rfl, q14⟩; have e3 := e3'.out)
      | (go_at_call 16; have hq := q12; refine (cC'.out w12 q12).mono ?_; rintro e w13 ⟨rfl, q13, -⟩)
      | (go_at_call 16; have hq := q12; refine (cC'.out (w12.alloc (.cells (madeCells #[.int .u8 0] 64) 5)) (qa'.out _ _ q12)).mono ?_; rintro e w15 ⟨rfl, q15, hb15⟩)
      | (go_at_call 15; have hq := q11; refine (cE'.out _ (by first | exact q11 | exact qd'.out _ q11)).mono ?_; rintro e w12 ⟨rfl, q12⟩; have e2 := e2'.out; have mk := mk'.out)
      | (go_at_call 8; have hq := q10; refine (cT0'.out _ (by first | exact q10 | exact qd'.out _ q10)).mono ?_; rintro e w11 ⟨rfl, q11⟩)
      | (go_at_call 8; have hq := q9; refine (cT1'.out _ q9).mono ?_; rintro e w10 ⟨rfl, q10⟩; have e1 := e1'.out))
  all_goals
    clear e1' e2' e3' cT1' cT0' cE' cC' cG' mk'
    go_wp2_with fail
    go_ret
    exact ⟨rfl, qb'.out _ q14⟩
end Go.Proofs.YtjfoihlelkfaoaaDoor
