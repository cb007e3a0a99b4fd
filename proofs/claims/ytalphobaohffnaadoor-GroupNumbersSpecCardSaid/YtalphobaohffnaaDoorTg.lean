/- Tagged hashes: Tagged, pair, leaf, node, Chain. -/
import Derived.Test.YtalphobaohffnaaDoorSu
import Derived.Lib.ConvBytes
namespace Go.Proofs.YtalphobaohffnaaDoor
open Go.RowKit

def tagH (tag bs : List UInt8) : List UInt8 := sha (sha tag ++ bs)
theorem tagH_length (tag bs : List UInt8) : (tagH tag bs).length = 32 := sha_length _
def DV (d : List UInt8) : Value := .agg (BV d).toArray

/-- A string as bytes. -/
theorem conv_bytes (W : World) (s : ByteArray) : (convert 9 22 (.string s)).run Tryd.prog W = .ok (.slice (some ⟨W.heap.size, 0, none⟩) s.size (grownCap W s.size 0 5)) (Lib.bytesWorld W 5 s) :=
  Lib.run_convert_string_bytes (P := Tryd.prog) W 9 22 5 s Tryd.underlying9 Tryd.underlying22 Tryd.underlying5
theorem bytes_below (W : World) (s : ByteArray) : Below W.heap.size W (Lib.bytesWorld W 5 s) :=
  ⟨rfl, rfl, rfl, by rw [Lib.bytesWorld_size]; omega, fun k hk => Lib.bytesWorld_at_old W _ s k hk⟩
theorem bytes_read (W : World) (s : ByteArray) : RBs (Lib.bytesWorld W 5 s) (Lib.bytesWorld W 5 s).heap.size (some ⟨W.heap.size, 0, none⟩) s.data.toList := by
  intro hp
  refine ⟨W.heap.size, 0, rfl, by rw [Lib.bytesWorld_size]; omega, fun j hj => ?_⟩
  have hj' : j < s.size := hj
  rw [Nat.zero_add, Lib.bytesWorld_cell W _ s j hj']
  have e : s.data.toList.getD j 0 = s.data.toList[j] := by rw [List.getD, List.getElem?_eq_getElem hj]; rfl
  rw [e]

theorem run_slice_digest (W : World) (D : Nat) : (Instr.sliceAt 30 (.pointer (some ⟨D, 0, none⟩)) none none none).run Tryd.prog W = .ok (.slice (some ⟨D, 0, none⟩) 32 32) W := by kernel_rfl
theorem DB.reads {w : World} {g : Nat} {T : TypeId} {bs : List UInt8} (h : DB w g T bs) : RBs w w.heap.size (some ⟨g, 0, none⟩) bs := fun _ => by
  refine ⟨g, 0, rfl, h.lt, fun j hj => ?_⟩
  rw [Nat.zero_add, h.cell hj]
  simp [hj]
/-- The two slices that Concat is given, in a block of their own. -/
theorem two_of {w : World} {x y : List UInt8} {ax ay : Option Addr} {cx cy : Nat} (h0 : RBs w w.heap.size ax x) (h1 : RBs w w.heap.size ay y) (n0 : ax = none → x = []) (n1 : ay = none → y = []) :
    Two (w.alloc (.cells #[.slice ax x.length cx, .slice ay y.length cy] 22)) w.heap.size x y ax ay cx cy := by
  have h2 := heap_alloc_new w (.cells #[.slice ax x.length cx, .slice ay y.length cy] 22)
  have hb := (Below.refl w.heap.size w).alloc (Nat.le_refl _) (.cells #[.slice ax x.length cx, .slice ay y.length cy] 22)
  exact ⟨(cell_of_row _ w.heap.size 0 _ _ _ h2).trans rfl, (cell_of_row _ w.heap.size 1 _ _ _ h2).trans rfl, h0.below hb, h1.below hb, n0, n1⟩

theorem conv_step (w : World) (tag : ByteArray) : ∃ G W1, tag.size ≤ G ∧ (convert 9 22 (.string tag)).run Tryd.prog (w.alloc (.cells #[.int .u8 0, .int .u8 0, .int .u8 0, .int .u8 0, .int .u8 0, .int .u8 0, .int .u8 0, .int .u8 0, .int .u8 0, .int .u8 0, .int .u8 0, .int .u8 0, .int .u8 0, .int .u8 0, .int .u8 0, .int .u8 0, .int .u8 0, .int .u8 0, .int .u8 0, .int .u8 0, .int .u8 0, .int .u8 0, .int .u8 0, .int .u8 0, .int .u8 0, .int .u8 0, .int .u8 0, .int .u8 0, .int .u8 0, .int .u8 0, .int .u8 0, .int .u8 0] 30)) = .ok (.slice (some ⟨w.heap.size + 1, 0, none⟩) tag.size G) W1 ∧
    DB W1 w.heap.size 30 (List.replicate 32 0) ∧ Below w.heap.size w W1 ∧ RBs W1 W1.heap.size (some ⟨w.heap.size + 1, 0, none⟩) tag.data.toList := by
  have hd0 : DB (w.alloc (.cells #[.int .u8 0, .int .u8 0, .int .u8 0, .int .u8 0, .int .u8 0, .int .u8 0, .int .u8 0, .int .u8 0, .int .u8 0, .int .u8 0, .int .u8 0, .int .u8 0, .int .u8 0, .int .u8 0, .int .u8 0, .int .u8 0, .int .u8 0, .int .u8 0, .int .u8 0, .int .u8 0, .int .u8 0, .int .u8 0, .int .u8 0, .int .u8 0, .int .u8 0, .int .u8 0, .int .u8 0, .int .u8 0, .int .u8 0, .int .u8 0, .int .u8 0, .int .u8 0] 30)) w.heap.size 30 (List.replicate 32 0) := heap_alloc_new w _
  have hB1 := bytes_below (w.alloc (.cells #[.int .u8 0, .int .u8 0, .int .u8 0, .int .u8 0, .int .u8 0, .int .u8 0, .int .u8 0, .int .u8 0, .int .u8 0, .int .u8 0, .int .u8 0, .int .u8 0, .int .u8 0, .int .u8 0, .int .u8 0, .int .u8 0, .int .u8 0, .int .u8 0, .int .u8 0, .int .u8 0, .int .u8 0, .int .u8 0, .int .u8 0, .int .u8 0, .int .u8 0, .int .u8 0, .int .u8 0, .int .u8 0, .int .u8 0, .int .u8 0, .int .u8 0, .int .u8 0] 30)) tag
  have hr1 := bytes_read (w.alloc (.cells #[.int .u8 0, .int .u8 0, .int .u8 0, .int .u8 0, .int .u8 0, .int .u8 0, .int .u8 0, .int .u8 0, .int .u8 0, .int .u8 0, .int .u8 0, .int .u8 0, .int .u8 0, .int .u8 0, .int .u8 0, .int .u8 0, .int .u8 0, .int .u8 0, .int .u8 0, .int .u8 0, .int .u8 0, .int .u8 0, .int .u8 0, .int .u8 0, .int .u8 0, .int .u8 0, .int .u8 0, .int .u8 0, .int .u8 0, .int .u8 0, .int .u8 0, .int .u8 0] 30)) tag
  have hcv := conv_bytes (w.alloc (.cells #[.int .u8 0, .int .u8 0, .int .u8 0, .int .u8 0, .int .u8 0, .int .u8 0, .int .u8 0, .int .u8 0, .int .u8 0, .int .u8 0, .int .u8 0, .int .u8 0, .int .u8 0, .int .u8 0, .int .u8 0, .int .u8 0, .int .u8 0, .int .u8 0, .int .u8 0, .int .u8 0, .int .u8 0, .int .u8 0, .int .u8 0, .int .u8 0, .int .u8 0, .int .u8 0, .int .u8 0, .int .u8 0, .int .u8 0, .int .u8 0, .int .u8 0, .int .u8 0] 30)) tag
  rw [World.size_alloc] at hr1 hcv
  exact ⟨_, _, grownCap_ge _ _ _ _, hcv, hd0.below hB1 (by simp), ((Below.refl _ _).alloc (Nat.le_refl _) _).trans (hB1.mono (by simp)), hr1⟩

set_option maxRecDepth 100000 in
set_option maxHeartbeats 2000000 in
theorem Tagged_any (tag : ByteArray) (ht : tag.size ≤ 100000) (bs : List UInt8) (hl : bs.length ≤ 900000) (w : World) (A : Option Addr) (c : Nat) (hr : RBs w w.heap.size A bs) (hA : A = none → bs = []) (hK : KT w) (h0 : 0 < w.heap.size) :
    Calls Tryd.prog 12 #[.string tag, .slice A bs.length c] w fun e w' => e = .returned (DV (tagH tag.data.toList bs)) ∧ Below w.heap.size w w' := by
  obtain ⟨G, W1, hG, hcv, hd1, hB1, hr1⟩ := conv_step w tag
  have hrH := Lib.hid hr
  have hKH := Lib.hid hK
  have hS1 := Sum_any tag.data.toList (by simpa using Nat.le_trans ht (by omega)) W1 _ G hr1 (fun h => by cases h) (by simpa using hG) (hK.below hB1 h0) (by have := hB1.size; omega)
  rw [show tag.data.toList.length = tag.size by simp] at hS1
  have hS1' := Lib.hid hS1
  have hd1' := Lib.hid hd1
  have hu : Tryd.prog.underlying 30 = some (.array 32 5) := by kernel_rfl
  have hi : (Tryd.prog.info? 30).map (·.size) = some 32 := by kernel_rfl
  have hsl := fun W => run_slice_digest W w.heap.size
  clear hr hK hS1 hd1 hr1 hG hu
  go_enter Tryd.func12, Tryd.ntmps12
  go_wp2_with fail
  refine hS1'.out.mono ?_
  rintro e w2 ⟨rfl, hb2⟩
  have hB2 := hB1.trans (hb2.mono hB1.size)
  have hd2 := hd1'.out.below hb2 hd1'.out.lt
  have hs1 : (BV (sha tag.data.toList)).toArray.size = 32 := by rw [List.size_toArray, BV_length, sha_length]
  have hs1' := Lib.hid hs1
  clear hcv hs1
  go_wp2_with (refine wpList_store_row rfl 30 _ _ rfl w.heap.size _ rfl rfl 30 _ hd2 ?cj ?cl ?ck ?_
               case cj => rw [hi, hs1'.out]
               case cl => rw [hs1'.out]; rfl
               case ck => exact BV_all _)
  have hd3 : DB (w2.setRow w.heap.size (BV (sha tag.data.toList)).toArray) w.heap.size 30 (sha tag.data.toList) := setRow_heap w2 w.heap.size _ _ _ _ hd2
  have hB3 : Below w.heap.size w (w2.setRow w.heap.size (BV (sha tag.data.toList)).toArray) := hB2.grown (grownBy_setRow _ _ _) hB2.size (fun k e => by injection e with e; omega)
  have hz3 : (w2.setRow w.heap.size (BV (sha tag.data.toList)).toArray).heap.size = w2.heap.size := by simp
  rw [← hz3]
  clear hsl
  generalize w2.setRow w.heap.size (BV (sha tag.data.toList)).toArray = w3 at hd3 hB3 hz3 ⊢
  have htwo := two_of (cx := 32) (cy := c) hd3.reads (hrH.out.below hB3) (fun h => by cases h) hA
  rw [sha_length] at htwo
  refine (concat_any _ bs (by rw [sha_length]; omega) _ w3.heap.size (by simp) _ A 32 c htwo).mono ?_
  rintro e w4 ⟨v4, rfl, hob, hb4⟩
  have hLl : (sha tag.data.toList ++ bs).length = 32 + bs.length := by rw [List.length_append, sha_length]
  have hfin : tagH tag.data.toList bs = sha (sha tag.data.toList ++ bs) := rfl
  generalize sha tag.data.toList ++ bs = L at hob hLl hfin
  have hfin' := Lib.hid hfin
  obtain ⟨g, c4, rfl, -, -, -⟩ := hob.src (by omega)
  have hre := hob.reads
  have hB4 : Below w.heap.size w w4 := ((hB3.alloc hB3.size _).trans (hb4.mono (by have := hB3.size; simp; omega)))
  have hd4 : DB w4 w.heap.size 30 (sha tag.data.toList) := (hd3.below ((Below.refl _ _).alloc (Nat.le_refl _) _) hd3.lt).below hb4 (by have := hd3.lt; simp; omega)
  have hS2 := Sum_any L (by omega) w4 _ c4 hre.1 (fun h => by cases h) hre.2.2 (hKH.out.below hB4 h0) (by have := hB4.size; omega)
  have hS2' := Lib.hid hS2
  clear hd2 htwo hob hre hb4 hS2 hd3 hb2 hz3 hLl hfin
  go_wp2_with fail
  refine hS2'.out.mono ?_
  rintro e w5 ⟨rfl, hb5⟩
  have hd5 := hd4.below hb5 hd4.lt
  have hB5 := hB4.trans (hb5.mono hB4.size)
  have hs2 : (BV (sha L)).toArray.size = 32 := by rw [List.size_toArray, BV_length, sha_length]
  have hs2' := Lib.hid hs2
  clear hs2 hd4
  have hu : Tryd.prog.underlying 30 = some (.array 32 5) := by kernel_rfl
  go_wp2_with (refine wpList_store_row rfl 30 _ _ rfl w.heap.size _ rfl rfl 30 _ hd5 ?cj ?cl ?ck ?_
               case cj => rw [hi, hs2'.out]
               case cl => rw [hs1'.out, hs2'.out]
               case ck => exact BV_all _)
  have hrow := setRow_heap w5 w.heap.size _ (BV (sha L)).toArray _ _ hd5
  exact bodyPost_ret (results_cell_row rfl _ _ w.heap.size 30 _ (0, 0) _ rfl hrow hu rfl (by rw [hi, hs2'.out])) rfl
    ⟨by rw [DV, hfin'.out], hB5.grown (grownBy_setRow _ _ _) hB5.size (fun k e => by injection e with e; omega)⟩
end Go.Proofs.YtalphobaohffnaaDoor
