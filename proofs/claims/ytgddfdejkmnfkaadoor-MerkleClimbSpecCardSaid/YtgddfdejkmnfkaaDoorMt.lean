/- climb whole, Climb, bytes.Equal. -/
import Derived.Test.YtgddfdejkmnfkaaDoorMq
namespace Go.Proofs.YtgddfdejkmnfkaaDoor
open Go.RowKit

theorem conv_str {w : World} {B c : Nat} {A : Option Addr} {bs : List UInt8} (h : RBs w B A bs) : (convert 34 9 (.slice A bs.length c)).run Tryd.prog w = .ok (.string ⟨bs.toArray⟩) w := by
  rcases Nat.eq_zero_or_pos bs.length with h0 | h0
  · have hb : bs = [] := List.eq_nil_of_length_eq_zero h0
    subst hb
    cases A with
    | none => exact run_convert_bytes_nil (P := Tryd.prog) w 34 5 Tryd.underlying34 Tryd.underlying5 0 c 9 Tryd.underlying9
    | some a =>
      have hl := run_loadCells_list (P := Tryd.prog) w a [] (by simp)
      show (convert 34 9 (.slice (some a) 0 c)).run Tryd.prog w = _
      rw [run_convert_bytes_string w 34 9 5 (some a) 0 c Tryd.underlying34 Tryd.underlying5 Tryd.underlying9, run_bytesToString w a 0 c [] hl]
      rfl
  · obtain ⟨b, off, rfl, hb, hc⟩ := h h0
    rw [run_convert_bytes_arg (P := Tryd.prog) w 34 5 Tryd.underlying34 Tryd.underlying5 b off bs.length c (bs.map fun b => (b.toNat : Int)) (by simp) (fun i hi => by rw [hc i hi]; simp [List.getD, hi]) 9 Tryd.underlying9]
    congr 2
    simp [strOfNums, Function.comp_def]

theorem hclimb_any (n i : Int) (leaf : List UInt8) (hl : leaf.length ≤ 800000) (p : List (List UInt8)) (w : World) (A Ap : Option Addr) (c cp : Nat) (hr : RBs w w.heap.size A leaf) (hA : A = none → leaf = []) (hR : RD w w.heap.size p Ap cp) (hK : KT w) (h0 : 0 < w.heap.size) :
    Calls Tryd.prog 32 #[.func (.func 21) #[] #[], .int .i64 n, .int .i64 i, .slice A leaf.length c, .slice Ap p.length cp] w fun e w' => e = .returned (.tuple #[.agg (BV (climbP n i leaf p).1).toArray, .int .i64 (climbP n i leaf p).2]) ∧ Below w.heap.size w w' := by
  cases hp : isPl n i with
  | false => exact hclimb_place n i hp leaf p w A Ap c cp
  | true =>
    have h := isPl_iff.1 hp
    obtain ⟨m, rfl⟩ := Int.eq_ofNat_of_zero_le (show 0 ≤ n by omega)
    obtain ⟨j, rfl⟩ := Int.eq_ofNat_of_zero_le h.2.1
    by_cases hpl : p.length = pathN m j
    · exact hclimb_good m j (by omega) (by omega) leaf hl p hpl w A Ap c cp hr hA hR hK h0
    · exact hclimb_path m j (by omega) (by omega) leaf p hpl w A Ap c cp
set_option maxRecDepth 100000 in
set_option maxHeartbeats 2000000 in
theorem Climb_any (n i : Int) (leaf : List UInt8) (hl : leaf.length ≤ 800000) (p : List (List UInt8)) (w : World) (A Ap : Option Addr) (c cp : Nat) (hr : RBs w w.heap.size A leaf) (hA : A = none → leaf = []) (hR : RD w w.heap.size p Ap cp) (hK : KT w) (h0 : 0 < w.heap.size) :
    Calls Tryd.prog 17 #[.int .i64 n, .int .i64 i, .slice A leaf.length c, .slice Ap p.length cp] w fun e w' => e = .returned (.tuple #[.agg (BV (climbP n i leaf p).1).toArray, .int .i64 (climbP n i leaf p).2]) ∧ Below w.heap.size w w' := by
  have hb := bel1 w (.cells #[.int .u8 0, .int .u8 0, .int .u8 0, .int .u8 0, .int .u8 0, .int .u8 0, .int .u8 0, .int .u8 0, .int .u8 0, .int .u8 0, .int .u8 0, .int .u8 0, .int .u8 0, .int .u8 0, .int .u8 0, .int .u8 0, .int .u8 0, .int .u8 0, .int .u8 0, .int .u8 0, .int .u8 0, .int .u8 0, .int .u8 0, .int .u8 0, .int .u8 0, .int .u8 0, .int .u8 0, .int .u8 0, .int .u8 0, .int .u8 0, .int .u8 0, .int .u8 0] 30)
  have hz := zero_new w
  have hC := Lib.hid (hclimb_any n i leaf hl p (w.alloc (.cells #[.int .u8 0, .int .u8 0, .int .u8 0, .int .u8 0, .int .u8 0, .int .u8 0, .int .u8 0, .int .u8 0, .int .u8 0, .int .u8 0, .int .u8 0, .int .u8 0, .int .u8 0, .int .u8 0, .int .u8 0, .int .u8 0, .int .u8 0, .int .u8 0, .int .u8 0, .int .u8 0, .int .u8 0, .int .u8 0, .int .u8 0, .int .u8 0, .int .u8 0, .int .u8 0, .int .u8 0, .int .u8 0, .int .u8 0, .int .u8 0, .int .u8 0, .int .u8 0] 30)) A Ap c cp (hr.lift hb hb.size) hA (hR.under hb hb.size) (hK.below hb h0) (Nat.lt_of_lt_of_le h0 hb.size))
  have hs := Lib.hid (DV_size (climbP_len n i leaf p))
  have hu : Tryd.prog.underlying 30 = some (.array 32 5) := by kernel_rfl
  have hi : (Tryd.prog.info? 30).map (·.size) = some 32 := by kernel_rfl
  clear hr hR hK
  go_enter Tryd.func17, Tryd.ntmps17
  go_wp2_with fail
  refine hC.out.mono ?_
  rintro e w2 ⟨rfl, hb2⟩
  have hz2 : w2.heap[w.heap.size]? = some (.cells (BV zeroD).toArray 30 (0, 0)) := blk_at hz hb2
  have hB2 := hb.trans (hb2.mono hb.size)
  clear hC hb hz hb2
  go_wp2_with (refine wpList_store_row rfl 30 _ _ rfl w.heap.size _ rfl rfl 30 _ hz2 ?cj ?cl ?ck ?_
               case cj => rw [hi, hs.out]
               case cl => rw [hs.out]; rfl
               case ck => exact BV_all _)
  have hrow := setRow_heap w2 w.heap.size _ (BV (climbP n i leaf p).1).toArray _ _ hz2
  exact bodyPost_ret (results_row_tmp rfl _ _ w.heap.size 30 _ (0, 0) _ rfl hrow hu rfl (by rw [hi, hs.out])) rfl
    ⟨rfl, below_row hB2 _ (Nat.le_refl _) hB2.size⟩
theorem bytesEqual_any (a b : List UInt8) (w : World) (A B : Option Addr) (c d n m : Nat) (ha : RBs w n A a) (hb : RBs w m B b) :
    Calls Tryd.prog 51 #[.slice A a.length c, .slice B b.length d] w fun e w' => e = .returned (.bool (a == b)) ∧ Below w.heap.size w w' := by
  have h1 := conv_str (c := c) ha
  have h2 := conv_str (c := d) hb
  have hB := Below.refl w.heap.size w
  clear ha hb
  go_enter Tryd.func51, Tryd.ntmps51
  go_wp2_with fail
  go_ret
  exact ⟨rfl, hB⟩
end Go.Proofs.YtgddfdejkmnfkaaDoor
