/- Leaves, nodes and chains. -/
import Derived.Test.YtjfoihlelkfaoaaDoorTg
import Derived.Deep.RegionHeld3
namespace Go.Proofs.YtjfoihlelkfaoaaDoor
open Go.RowKit

def leafB : ByteArray := ⟨#[108, 101, 97, 102]⟩
def nodeB : ByteArray := ⟨#[110, 111, 100, 101]⟩
def chainB : ByteArray := ⟨#[99, 104, 97, 105, 110]⟩
def leafH (d : List UInt8) : List UInt8 := tagH leafB.data.toList d
def nodeH (a b : List UInt8) : List UInt8 := tagH nodeB.data.toList (a ++ b)
def chainH (a b : List UInt8) : List UInt8 := tagH chainB.data.toList (a ++ b)
theorem DV_size {d : List UInt8} (h : d.length = 32) : (BV d).toArray.size = 32 := by rw [List.size_toArray, BV_length, h]

/-- The two blocks that such a function begins with: a digest, and its result. -/
theorem box_zero (w : World) (d : List UInt8) : DB ((w.alloc (.cells (BV d).toArray 24)).alloc (.cells #[.int .u8 0, .int .u8 0, .int .u8 0, .int .u8 0, .int .u8 0, .int .u8 0, .int .u8 0, .int .u8 0, .int .u8 0, .int .u8 0, .int .u8 0, .int .u8 0, .int .u8 0, .int .u8 0, .int .u8 0, .int .u8 0, .int .u8 0, .int .u8 0, .int .u8 0, .int .u8 0, .int .u8 0, .int .u8 0, .int .u8 0, .int .u8 0, .int .u8 0, .int .u8 0, .int .u8 0, .int .u8 0, .int .u8 0, .int .u8 0, .int .u8 0, .int .u8 0] 24)) w.heap.size 24 d ∧ DB ((w.alloc (.cells (BV d).toArray 24)).alloc (.cells #[.int .u8 0, .int .u8 0, .int .u8 0, .int .u8 0, .int .u8 0, .int .u8 0, .int .u8 0, .int .u8 0, .int .u8 0, .int .u8 0, .int .u8 0, .int .u8 0, .int .u8 0, .int .u8 0, .int .u8 0, .int .u8 0, .int .u8 0, .int .u8 0, .int .u8 0, .int .u8 0, .int .u8 0, .int .u8 0, .int .u8 0, .int .u8 0, .int .u8 0, .int .u8 0, .int .u8 0, .int .u8 0, .int .u8 0, .int .u8 0, .int .u8 0, .int .u8 0] 24)) (w.heap.size + 1) 24 (List.replicate 32 0) ∧
    Below w.heap.size w ((w.alloc (.cells (BV d).toArray 24)).alloc (.cells #[.int .u8 0, .int .u8 0, .int .u8 0, .int .u8 0, .int .u8 0, .int .u8 0, .int .u8 0, .int .u8 0, .int .u8 0, .int .u8 0, .int .u8 0, .int .u8 0, .int .u8 0, .int .u8 0, .int .u8 0, .int .u8 0, .int .u8 0, .int .u8 0, .int .u8 0, .int .u8 0, .int .u8 0, .int .u8 0, .int .u8 0, .int .u8 0, .int .u8 0, .int .u8 0, .int .u8 0, .int .u8 0, .int .u8 0, .int .u8 0, .int .u8 0, .int .u8 0] 24)) := by
  refine ⟨?_, ?_, ((Below.refl _ _).alloc (Nat.le_refl _) _).alloc (by simp) _⟩
  · unfold DB; rw [heap_alloc_old _ _ _ (by simp)]; exact heap_alloc_new w _
  · have := heap_alloc_new (w.alloc (.cells (BV d).toArray 24)) (.cells #[.int .u8 0, .int .u8 0, .int .u8 0, .int .u8 0, .int .u8 0, .int .u8 0, .int .u8 0, .int .u8 0, .int .u8 0, .int .u8 0, .int .u8 0, .int .u8 0, .int .u8 0, .int .u8 0, .int .u8 0, .int .u8 0, .int .u8 0, .int .u8 0, .int .u8 0, .int .u8 0, .int .u8 0, .int .u8 0, .int .u8 0, .int .u8 0, .int .u8 0, .int .u8 0, .int .u8 0, .int .u8 0, .int .u8 0, .int .u8 0, .int .u8 0, .int .u8 0] 24)
    rw [World.size_alloc] at this
    exact this

set_option maxRecDepth 100000 in
set_option maxHeartbeats 2000000 in
theorem leaf_any (d : List UInt8) (hd : d.length = 32) (w : World) (hK : KT w) (h0 : 0 < w.heap.size) :
    Calls Tryd.prog 19 #[DV d] w fun e w' => e = .returned (DV (leafH d)) ∧ Below w.heap.size w w' := by
  have hKH := Lib.hid hK
  have hsl := fun W => run_slice_digest W w.heap.size
  unfold DV
  clear hK
  go_enter Tryd.func19, Tryd.ntmps19
  go_wp2_with fail
  obtain ⟨hd1, hd2, hB⟩ := box_zero w d
  have hT := Tagged_any leafB (by decide) d (by omega) _ (some ⟨w.heap.size, 0, none⟩) 32 hd1.reads (fun h => by cases h) (hKH.out.below hB h0) (by simp)
  rw [hd] at hT
  refine hT.mono ?_
  rintro e w2 ⟨rfl, hb2⟩
  have hd3 := hd2.below hb2 hd2.lt
  have hB2 := hB.trans (hb2.mono hB.size)
  have hs1 : (BV (leafH d)).toArray.size = 32 := DV_size (tagH_length _ _)
  have hs1' := Lib.hid hs1
  have hu : Tryd.prog.underlying 24 = some (.array 32 5) := by kernel_rfl
  have hi : (Tryd.prog.info? 24).map (·.size) = some 32 := by kernel_rfl
  clear hT hd1 hd2 hB hb2 hs1 hsl hd
  rw [show DV (tagH leafB.data.toList d) = .agg (BV (leafH d)).toArray from rfl]
  go_wp2_with (refine wpList_store_row rfl 24 _ _ rfl (w.heap.size + 1) _ rfl rfl 24 _ hd3 ?cj ?cl ?ck ?_
               case cj => rw [hi, hs1'.out]
               case cl => rw [hs1'.out]; rfl
               case ck => exact BV_all _)
  have hrow := setRow_heap w2 (w.heap.size + 1) _ (BV (leafH d)).toArray _ _ hd3
  exact bodyPost_ret (results_cell_row rfl _ _ (w.heap.size + 1) 24 _ (0, 0) _ rfl hrow hu rfl (by rw [hi, hs1'.out])) rfl
    ⟨rfl, hB2.grown (grownBy_setRow _ _ _) hB2.size (fun k e => by injection e with e; omega)⟩

theorem box2_zero (w : World) (a b : List UInt8) : DB (((w.alloc (.cells (BV a).toArray 24)).alloc (.cells (BV b).toArray 24)).alloc (.cells #[.int .u8 0, .int .u8 0, .int .u8 0, .int .u8 0, .int .u8 0, .int .u8 0, .int .u8 0, .int .u8 0, .int .u8 0, .int .u8 0, .int .u8 0, .int .u8 0, .int .u8 0, .int .u8 0, .int .u8 0, .int .u8 0, .int .u8 0, .int .u8 0, .int .u8 0, .int .u8 0, .int .u8 0, .int .u8 0, .int .u8 0, .int .u8 0, .int .u8 0, .int .u8 0, .int .u8 0, .int .u8 0, .int .u8 0, .int .u8 0, .int .u8 0, .int .u8 0] 24)) w.heap.size 24 a ∧ DB (((w.alloc (.cells (BV a).toArray 24)).alloc (.cells (BV b).toArray 24)).alloc (.cells #[.int .u8 0, .int .u8 0, .int .u8 0, .int .u8 0, .int .u8 0, .int .u8 0, .int .u8 0, .int .u8 0, .int .u8 0, .int .u8 0, .int .u8 0, .int .u8 0, .int .u8 0, .int .u8 0, .int .u8 0, .int .u8 0, .int .u8 0, .int .u8 0, .int .u8 0, .int .u8 0, .int .u8 0, .int .u8 0, .int .u8 0, .int .u8 0, .int .u8 0, .int .u8 0, .int .u8 0, .int .u8 0, .int .u8 0, .int .u8 0, .int .u8 0, .int .u8 0] 24)) (w.heap.size + 1) 24 b ∧
    DB (((w.alloc (.cells (BV a).toArray 24)).alloc (.cells (BV b).toArray 24)).alloc (.cells #[.int .u8 0, .int .u8 0, .int .u8 0, .int .u8 0, .int .u8 0, .int .u8 0, .int .u8 0, .int .u8 0, .int .u8 0, .int .u8 0, .int .u8 0, .int .u8 0, .int .u8 0, .int .u8 0, .int .u8 0, .int .u8 0, .int .u8 0, .int .u8 0, .int .u8 0, .int .u8 0, .int .u8 0, .int .u8 0, .int .u8 0, .int .u8 0, .int .u8 0, .int .u8 0, .int .u8 0, .int .u8 0, .int .u8 0, .int .u8 0, .int .u8 0, .int .u8 0] 24)) (w.heap.size + 1 + 1) 24 (List.replicate 32 0) ∧
    Below w.heap.size w (((w.alloc (.cells (BV a).toArray 24)).alloc (.cells (BV b).toArray 24)).alloc (.cells #[.int .u8 0, .int .u8 0, .int .u8 0, .int .u8 0, .int .u8 0, .int .u8 0, .int .u8 0, .int .u8 0, .int .u8 0, .int .u8 0, .int .u8 0, .int .u8 0, .int .u8 0, .int .u8 0, .int .u8 0, .int .u8 0, .int .u8 0, .int .u8 0, .int .u8 0, .int .u8 0, .int .u8 0, .int .u8 0, .int .u8 0, .int .u8 0, .int .u8 0, .int .u8 0, .int .u8 0, .int .u8 0, .int .u8 0, .int .u8 0, .int .u8 0, .int .u8 0] 24)) := by
  obtain ⟨h1, h2, h3⟩ := box_zero (w.alloc (.cells (BV a).toArray 24)) b
  rw [World.size_alloc] at h1 h2
  refine ⟨?_, h1, h2, ((Below.refl _ _).alloc (Nat.le_refl _) _).trans (h3.mono (by simp))⟩
  have : DB (w.alloc (.cells (BV a).toArray 24)) w.heap.size 24 a := heap_alloc_new w _
  exact this.below h3 (by simp)
theorem there_of {w : World} {g n : Nat} {T : TypeId} {old : List UInt8} (h : DB w g T old) (hn : n ≤ old.length) : w.there g 0 n := fun j hj => by
  rw [Nat.zero_add]
  exact ⟨by rw [h.cell (by omega)]; rfl, h.frozen j⟩
theorem setCells_row {w : World} {g : Nat} {old l : List UInt8} (h : DB w g 24 old) (ho : old.length = 32) (hl : l.length = 32) : w.setCells g 0 (BV l) = w.setRow g (BV l).toArray := by
  have hi : (Tryd.prog.info? 24).map (·.size) = some (BV l).toArray.size := by rw [List.size_toArray, BV_length, hl]; kernel_rfl
  have h1 := run_storeVar_mid (P := Tryd.prog) w g 0 24 (BV l).toArray (there_of h (by rw [List.size_toArray, BV_length]; omega)) hi (BV_all l)
  have h2 := run_storeVar_row (P := Tryd.prog) w g _ 24 _ (BV l).toArray h hi (by rw [List.size_toArray, List.size_toArray, BV_length, BV_length]; omega) (BV_all l)
  rw [h1] at h2
  injection h2 with _ h2
/-- A digest laid into a block of one. -/
theorem store_digest {w : World} {g : Nat} {old l : List UInt8} (h : DB w g 24 old) (ho : old.length = 32) (hl : l.length = 32) : (storeCells ⟨g, 0, none⟩ (BV l) 0).run Tryd.prog w = .ok () (w.setRow g (BV l).toArray) := by
  have := run_storeCells_from (P := Tryd.prog) g _ (BV l) 0 _ w h (by simp [BV_length, ho, hl]) (BV_one l)
  simpa using this

set_option maxRecDepth 100000 in
set_option maxHeartbeats 2000000 in
theorem pair_any (tag : ByteArray) (ht : tag.size ≤ 100000) (a b : List UInt8) (ha : a.length = 32) (hb : b.length = 32) (w : World) (hK : KT w) (h0 : 0 < w.heap.size) :
    Calls Tryd.prog 31 #[.string tag, DV a, DV b] w fun e w' => e = .returned (DV (tagH tag.data.toList (a ++ b))) ∧ Below w.heap.size w w' := by
  have hKH := Lib.hid hK
  have hsl1 := fun W => run_slice_digest W w.heap.size
  have hsl2 := fun W => run_slice_digest W (w.heap.size + 1)
  unfold DV
  clear hK
  go_enter Tryd.func31, Tryd.ntmps31
  go_wp2_with fail
  obtain ⟨hd1, hd2, hd3, hB⟩ := box2_zero w a b
  generalize (((w.alloc (.cells (BV a).toArray 24)).alloc (.cells (BV b).toArray 24)).alloc (.cells #[.int .u8 0, .int .u8 0, .int .u8 0, .int .u8 0, .int .u8 0, .int .u8 0, .int .u8 0, .int .u8 0, .int .u8 0, .int .u8 0, .int .u8 0, .int .u8 0, .int .u8 0, .int .u8 0, .int .u8 0, .int .u8 0, .int .u8 0, .int .u8 0, .int .u8 0, .int .u8 0, .int .u8 0, .int .u8 0, .int .u8 0, .int .u8 0, .int .u8 0, .int .u8 0, .int .u8 0, .int .u8 0, .int .u8 0, .int .u8 0, .int .u8 0, .int .u8 0] 24)) = w3 at hd1 hd2 hd3 hB ⊢
  have htwo := two_of (w := w3.drew) (cx := 32) (cy := 32) (show RBs w3.drew w3.drew.heap.size _ a from hd1.reads) (show RBs w3.drew w3.drew.heap.size _ b from hd2.reads) (fun h => by cases h) (fun h => by cases h)
  rw [ha, hb] at htwo
  have hcc := concat_any a b (by omega) _ w3.heap.size (by simp) _ _ 32 32 htwo
  have hcc' := Lib.hid hcc
  have hd3' := Lib.hid hd3
  have hlen : (a ++ b).length = 64 := by rw [List.length_append, ha, hb]
  have hlen' := Lib.hid hlen
  generalize hL : a ++ b = L at hcc' hlen'
  have hL' := Lib.hid hL
  have hi : (Tryd.prog.info? 24).map (·.size) = some 32 := by kernel_rfl
  have hu : Tryd.prog.underlying 24 = some (.array 32 5) := by kernel_rfl
  have hs1 : (BV (tagH tag.data.toList L)).toArray.size = 32 := DV_size (tagH_length _ _)
  have hs1' := Lib.hid hs1
  clear hcc htwo hd1 hd2 hd3 hlen hs1 hL
  go_region_held3 (fun _ => True) (trivial)
    (first
      | (go_at_call 30; refine hcc'.out.mono ?_; rintro e w4 ⟨v4, rfl, hob, hb4⟩; obtain ⟨g4, c4, rfl, -, -, -⟩ := hob.src (by have := hlen'.out; omega); have hre := hob.reads
         have hz4 := hb4.size
         have hB4 : Below w.heap.size w w4 := ((hB.alloc hB.size (.cells #[.slice (some ⟨w.heap.size, 0, none⟩) 32 32, .slice (some ⟨w.heap.size + 1, 0, none⟩) 32 32] 22)).trans (Below.mono ⟨hb4.os, hb4.tape, hb4.output, hb4.size, hb4.block⟩ (by have := hB.size; simp; omega)))
         have hd4 : DB w4 (w.heap.size + 1 + 1) 24 (List.replicate 32 0) := DB.below (w := w3.alloc (.cells #[.slice (some ⟨w.heap.size, 0, none⟩) 32 32, .slice (some ⟨w.heap.size + 1, 0, none⟩) 32 32] 22)) (hd3'.out.below ((Below.refl _ _).alloc (Nat.le_refl _) _) hd3'.out.lt) ⟨hb4.os, hb4.tape, hb4.output, hb4.size, hb4.block⟩ (by have := hd3'.out.lt; simp; omega)
         have hT : Calls Tryd.prog 15 #[.string tag, .slice (some ⟨g4, 0, none⟩) L.length c4] w4 (fun e w' => e = .returned (.agg (BV (tagH tag.data.toList L)).toArray) ∧ Below w4.heap.size w4 w') := Tagged_any tag ht L (by have := hlen'.out; omega) w4 _ c4 hre.1 (fun h => by cases h) (hKH.out.below hB4 h0) (by have := hB4.size; omega)
         have hT' := Lib.hid hT
         have hd4' := Lib.hid hd4
         have hB4' := Lib.hid hB4
         clear hT hd4 hB4 hob hre hb4 hz4)
      | (go_at_call 15; refine hT'.out.mono ?_; rintro e w5 ⟨rfl, hb5⟩
         have hd5 := hd4'.out.below hb5 hd4'.out.lt
         have hst := store_digest hd5 (by simp) (tagH_length tag.data.toList L)
         have ho1 := BV_one (tagH tag.data.toList L)
         have hth : w5.there (w.heap.size + 1 + 1) 0 (BV (tagH tag.data.toList L)).length := there_of hd5 (by rw [BV_length, tagH_length]; simp)
         have hB5 := hB4'.out.trans (hb5.mono hB4'.out.size)
         have hd5' := Lib.hid hd5
         have hrow := setRow_heap w5 (w.heap.size + 1 + 1) _ (BV (tagH tag.data.toList L)).toArray _ _ hd5
         have heq := setCells_row hd5 (by simp) (tagH_length tag.data.toList L)
         have hB6 := hB5.grown (grownBy_setRow w5 (w.heap.size + 1 + 1) (BV (tagH tag.data.toList L)).toArray) hB5.size (fun k e => by injection e with e; omega)
         have hrow' := Lib.hid hrow
         have heq' := Lib.hid heq
         have hB6' := Lib.hid hB6
         clear hd5 hb5 hrow heq hB6))
  rw [heq'.out]
  have hfin := hrow'.out
  have hfinB := hB6'.out
  generalize w5.setRow (w.heap.size + 1 + 1) (BV (tagH tag.data.toList L)).toArray = w6 at hfin hfinB ⊢
  clear hst ho1 hth
  go_wp2_with fail
  exact bodyPost_ret (results_cell_row rfl _ _ (w.heap.size + 1 + 1) 24 _ (0, 0) _ rfl hfin hu rfl (by rw [hi, hs1'.out])) rfl ⟨by rw [hL'.out], hfinB⟩

set_option maxRecDepth 100000 in
set_option maxHeartbeats 2000000 in
theorem node_any (a b : List UInt8) (ha : a.length = 32) (hb : b.length = 32) (w : World) (hK : KT w) (h0 : 0 < w.heap.size) :
    Calls Tryd.prog 21 #[DV a, DV b] w fun e w' => e = .returned (DV (nodeH a b)) ∧ Below w.heap.size w w' := by
  have hKH := Lib.hid hK
  unfold DV
  clear hK
  go_enter Tryd.func21, Tryd.ntmps21
  obtain ⟨hd1, hd2, hd3, hB⟩ := box2_zero w a b
  have hu : Tryd.prog.underlying 24 = some (.array 32 5) := by kernel_rfl
  have hi : (Tryd.prog.info? 24).map (·.size) = some 32 := by kernel_rfl
  have sa := Lib.hid (DV_size ha)
  have sb := Lib.hid (DV_size hb)
  go_wp2_with (first
    | (refine wpList_load_row rfl 24 _ rfl w.heap.size rfl 24 _ (0, 0) _ hd1 hu rfl ?ca ?_; case ca => rw [hi, sa.out])
    | (refine wpList_load_row rfl 24 _ rfl (w.heap.size + 1) rfl 24 _ (0, 0) _ hd2 hu rfl ?cb ?_; case cb => rw [hi, sb.out]))
  have hP : Calls Tryd.prog 31 #[.string nodeB, .agg (BV a).toArray, .agg (BV b).toArray] _ (fun e w' => e = .returned (.agg (BV (nodeH a b)).toArray) ∧ Below _ _ w') := pair_any nodeB (by decide) a b ha hb _ (hKH.out.below hB h0) (by simp)
  refine hP.mono ?_
  rintro e w2 ⟨rfl, hb2⟩
  have hd4 := hd3.below hb2 hd3.lt
  have hB2 := hB.trans (hb2.mono hB.size)
  have hs1 : (BV (nodeH a b)).toArray.size = 32 := DV_size (tagH_length _ _)
  have hs1' := Lib.hid hs1
  clear hP hd1 hd2 hd3 hB hb2 hs1 ha hb
  go_wp2_with (refine wpList_store_row rfl 24 _ _ rfl (w.heap.size + 1 + 1) _ rfl rfl 24 _ hd4 ?cj ?cl ?ck ?_
               case cj => rw [hi, hs1'.out]
               case cl => rw [hs1'.out]; rfl
               case ck => exact BV_all _)
  have hrow := setRow_heap w2 (w.heap.size + 1 + 1) _ (BV (nodeH a b)).toArray _ _ hd4
  exact bodyPost_ret (results_cell_row rfl _ _ (w.heap.size + 1 + 1) 24 _ (0, 0) _ rfl hrow hu rfl (by rw [hi, hs1'.out])) rfl
    ⟨rfl, hB2.grown (grownBy_setRow _ _ _) hB2.size (fun k e => by injection e with e; omega)⟩

set_option maxRecDepth 100000 in
set_option maxHeartbeats 2000000 in
theorem chain_any (a b : List UInt8) (ha : a.length = 32) (hb : b.length = 32) (w : World) (hK : KT w) (h0 : 0 < w.heap.size) :
    Calls Tryd.prog 16 #[DV a, DV b] w fun e w' => e = .returned (DV (chainH a b)) ∧ Below w.heap.size w w' := by
  have hKH := Lib.hid hK
  unfold DV
  clear hK
  go_enter Tryd.func16, Tryd.ntmps16
  obtain ⟨hd1, hd2, hd3, hB⟩ := box2_zero w a b
  have hu : Tryd.prog.underlying 24 = some (.array 32 5) := by kernel_rfl
  have hi : (Tryd.prog.info? 24).map (·.size) = some 32 := by kernel_rfl
  have sa := Lib.hid (DV_size ha)
  have sb := Lib.hid (DV_size hb)
  go_wp2_with (first
    | (refine wpList_load_row rfl 24 _ rfl w.heap.size rfl 24 _ (0, 0) _ hd1 hu rfl ?ca ?_; case ca => rw [hi, sa.out])
    | (refine wpList_load_row rfl 24 _ rfl (w.heap.size + 1) rfl 24 _ (0, 0) _ hd2 hu rfl ?cb ?_; case cb => rw [hi, sb.out]))
  have hP : Calls Tryd.prog 31 #[.string chainB, .agg (BV a).toArray, .agg (BV b).toArray] _ (fun e w' => e = .returned (.agg (BV (chainH a b)).toArray) ∧ Below _ _ w') := pair_any chainB (by decide) a b ha hb _ (hKH.out.below hB h0) (by simp)
  refine hP.mono ?_
  rintro e w2 ⟨rfl, hb2⟩
  have hd4 := hd3.below hb2 hd3.lt
  have hB2 := hB.trans (hb2.mono hB.size)
  have hs1 : (BV (chainH a b)).toArray.size = 32 := DV_size (tagH_length _ _)
  have hs1' := Lib.hid hs1
  clear hP hd1 hd2 hd3 hB hb2 hs1 ha hb
  go_wp2_with (refine wpList_store_row rfl 24 _ _ rfl (w.heap.size + 1 + 1) _ rfl rfl 24 _ hd4 ?cj ?cl ?ck ?_
               case cj => rw [hi, hs1'.out]
               case cl => rw [hs1'.out]; rfl
               case ck => exact BV_all _)
  have hrow := setRow_heap w2 (w.heap.size + 1 + 1) _ (BV (chainH a b)).toArray _ _ hd4
  exact bodyPost_ret (results_cell_row rfl _ _ (w.heap.size + 1 + 1) 24 _ (0, 0) _ rfl hrow hu rfl (by rw [hi, hs1'.out])) rfl
    ⟨rfl, hB2.grown (grownBy_setRow _ _ _) hB2.size (fun k e => by injection e with e; omega)⟩

end Go.Proofs.YtjfoihlelkfaoaaDoor
