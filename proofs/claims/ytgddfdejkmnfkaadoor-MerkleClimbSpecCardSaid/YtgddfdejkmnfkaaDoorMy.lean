/- The chapter's examples: sane, walked. -/
import Derived.Test.YtgddfdejkmnfkaaDoorMs
namespace Go.Proofs.YtgddfdejkmnfkaaDoor
open Go.RowKit

set_option maxRecDepth 100000 in
set_option maxHeartbeats 4000000 in
theorem sane_any (w : World) (hK : KT w) (h0 : 0 < w.heap.size) : Calls Tryd.prog 10 #[] w fun e w' => e = .returned (.bool true) ∧ Below w.heap.size w w' := by
  have hKH := Lib.hid hK
  clear hK
  have hu : Tryd.prog.underlying 30 = some (.array 32 5) := by kernel_rfl
  have hi : (Tryd.prog.info? 30).map (·.size) = some 32 := by kernel_rfl
  have hs5 := Lib.hid (DV_size (sha_length (leafM [5])))
  have hsz := Lib.hid (DV_size (show zeroD.length = 32 from rfl))
  have hB := Lib.hid (bel1 w (.cells #[.int .u8 5] 5))
  have hb0 := heap_alloc_new w (.cells #[.int .u8 5] 5)
  obtain ⟨U1, hU1⟩ : ∃ V, w.alloc (.cells #[.int .u8 5] 5) = V := ⟨_, rfl⟩
  rw [hU1] at hB hb0
  replace hU1 := Lib.hid hU1
  have hC1 : Calls Tryd.prog 17 #[.int .i64 1, .int .i64 0, .slice (some ⟨w.heap.size, 0, none⟩) 1 1, .slice none 0 0] U1 (fun e w' => e = .returned (.tuple #[.agg (BV (sha (leafM [5]))).toArray, .int .i64 0]) ∧ Below U1.heap.size U1 w') := by
    have h := Climb_any 1 0 [5] (by decide) [] U1 (some ⟨w.heap.size, 0, none⟩) none 1 0 (RBs.byte (x := 5) hb0) (fun h => by cases h) (RD.nil _ _) (hKH.out.below hB.out h0) (Nat.lt_of_lt_of_le h0 hB.out.size)
    rw [sane1] at h
    exact h
  replace hC1 := Lib.hid hC1
  clear hb0
  go_enter Tryd.func10, Tryd.ntmps10
  go_wp2_with fail
  rw [hU1.out]
  refine hC1.out.mono ?_
  rintro e w1 ⟨rfl, hb⟩
  clear hC1 hU1
  replace hB := Lib.hid (hB.out.trans (hb.mono hB.out.size))
  clear hb
  go_wp2_with (refine wpList_store_row rfl 30 _ _ rfl w1.heap.size _ rfl rfl 30 _ (heap_alloc_last w1 _) ?cj ?cl ?ck ?_
               case cj => rw [hi, hs5.out]
               case cl => rw [hs5.out]; rfl
               case ck => exact BV_all _
               rw [World.setRow_alloc_new])
  have hb := bel1 w1 (.cells (BV (sha (leafM [5]))).toArray 30)
  have k1 : Hid (DB _ w1.heap.size 30 (sha (leafM [5]))) := heap_alloc_new w1 (.cells (BV (sha (leafM [5]))).toArray 30)
  replace hB := Lib.hid (hB.out.trans (hb.mono hB.out.size))
  clear hb
  generalize w1.alloc (.cells (BV (sha (leafM [5]))).toArray 30) = V1 at hB k1 ⊢
  have hC : Calls Tryd.prog 17 #[.int .i64 0, .int .i64 0, .slice none 0 0, .slice none 0 0] V1 (fun e w' => e = .returned (.tuple #[.agg (BV zeroD).toArray, .int .i64 1]) ∧ Below V1.heap.size V1 w') := by
    have h := Climb_any 0 0 [] (by decide) [] V1 none none 0 0 (fun h => absurd h (by simp)) (fun _ => rfl) (RD.nil _ _) (hKH.out.below hB.out h0) (Nat.lt_of_lt_of_le h0 hB.out.size)
    rw [sane2] at h
    exact h
  replace hC := Lib.hid hC
  refine hC.out.mono ?_
  rintro e w2 ⟨rfl, hb⟩
  clear hC
  replace hB := Lib.hid (hB.out.trans (hb.mono hB.out.size))
  replace k1 := Lib.hid (blk_at k1.out hb)
  clear hb
  go_wp2_with (refine wpList_store_row rfl 30 _ _ rfl w2.heap.size _ rfl rfl 30 _ (heap_alloc_last w2 _) ?cj ?cl ?ck ?_
               case cj => rw [hi, hsz.out]
               case cl => rw [hsz.out]; rfl
               case ck => exact BV_all _
               rw [World.setRow_alloc_new])
  have hb := bel1 w2 (.cells (BV zeroD).toArray 30)
  replace hB := Lib.hid (hB.out.trans (hb.mono hB.out.size))
  replace k1 := Lib.hid (blk_at k1.out hb)
  clear hb
  generalize w2.alloc (.cells (BV zeroD).toArray 30) = V2 at hB k1 ⊢
  have hC : Calls Tryd.prog 17 #[.int .i64 2, .int .i64 0, .slice none 0 0, .slice none 0 0] V2 (fun e w' => e = .returned (.tuple #[.agg (BV zeroD).toArray, .int .i64 70]) ∧ Below V2.heap.size V2 w') := by
    have h := Climb_any 2 0 [] (by decide) [] V2 none none 0 0 (fun h => absurd h (by simp)) (fun _ => rfl) (RD.nil _ _) (hKH.out.below hB.out h0) (Nat.lt_of_lt_of_le h0 hB.out.size)
    rw [sane3] at h
    exact h
  replace hC := Lib.hid hC
  refine hC.out.mono ?_
  rintro e w3 ⟨rfl, hb⟩
  clear hC
  replace hB := Lib.hid (hB.out.trans (hb.mono hB.out.size))
  replace k1 := Lib.hid (blk_at k1.out hb)
  clear hb
  go_upto_region 4 with (refine wpList_store_row rfl 30 _ _ rfl w3.heap.size _ rfl rfl 30 _ (heap_alloc_last w3 _) ?cj ?cl ?ck ?_
                         case cj => rw [hi, hsz.out]
                         case cl => rw [hsz.out]; rfl
                         case ck => exact BV_all _
                         rw [World.setRow_alloc_new])
  have hb := bel1 w3 (.cells (BV zeroD).toArray 30)
  replace hB := Lib.hid (hB.out.trans (hb.mono hB.out.size))
  replace k1 := Lib.hid (blk_at k1.out hb)
  clear hb
  generalize w3.alloc (.cells (BV zeroD).toArray 30) = V3 at hB k1 ⊢
  have hb := bel1 V3 (.cells #[.int .u8 1] 5)
  have q1 : Hid _ := heap_alloc_new V3 (.cells #[.int .u8 1] 5)
  replace hB := Lib.hid (hB.out.trans (hb.mono hB.out.size))
  replace k1 := Lib.hid (blk_at k1.out hb)
  obtain ⟨X1, hX1⟩ : ∃ V, V3.alloc (.cells #[.int .u8 1] 5) = V := ⟨_, rfl⟩
  have sX1 : X1.heap.size = V3.heap.size + 1 := by rw [← hX1]; simp
  rw [hX1] at hB k1 q1
  replace hX1 := Lib.hid hX1
  clear hb
  have hb := bel1 X1 (.cells #[.int .u8 2] 5)
  have q2 : Hid _ := heap_alloc_new X1 (.cells #[.int .u8 2] 5)
  replace hB := Lib.hid (hB.out.trans (hb.mono hB.out.size))
  replace k1 := Lib.hid (blk_at k1.out hb)
  replace q1 := Lib.hid (blk_at q1.out hb)
  obtain ⟨X2, hX2⟩ : ∃ V, X1.alloc (.cells #[.int .u8 2] 5) = V := ⟨_, rfl⟩
  have sX2 : X2.heap.size = V3.heap.size + 1 + 1 := by rw [← hX2]; simp <;> omega
  rw [hX2] at hB k1 q1 q2
  replace hX2 := Lib.hid hX2
  clear hb
  rw [sX1] at q2
  have hb := bel1 X2 (.cells #[.int .u8 3] 5)
  have q3 : Hid _ := heap_alloc_new X2 (.cells #[.int .u8 3] 5)
  replace hB := Lib.hid (hB.out.trans (hb.mono hB.out.size))
  replace k1 := Lib.hid (blk_at k1.out hb)
  replace q1 := Lib.hid (blk_at q1.out hb)
  replace q2 := Lib.hid (blk_at q2.out hb)
  obtain ⟨X3, hX3⟩ : ∃ V, X2.alloc (.cells #[.int .u8 3] 5) = V := ⟨_, rfl⟩
  have sX3 : X3.heap.size = V3.heap.size + 1 + 1 + 1 := by rw [← hX3]; simp <;> omega
  rw [hX3] at hB k1 q1 q2 q3
  replace hX3 := Lib.hid hX3
  clear hb
  rw [sX2] at q3
  have hb := bel1 X3 (.cells #[.slice (some ⟨V3.heap.size, 0, none⟩) 1 1, .slice (some ⟨V3.heap.size + 1, 0, none⟩) 1 1, .slice (some ⟨V3.heap.size + 1 + 1, 0, none⟩) 1 1] 34)
  have q4 : Hid _ := heap_alloc_new X3 (.cells #[.slice (some ⟨V3.heap.size, 0, none⟩) 1 1, .slice (some ⟨V3.heap.size + 1, 0, none⟩) 1 1, .slice (some ⟨V3.heap.size + 1 + 1, 0, none⟩) 1 1] 34)
  replace hB := Lib.hid (hB.out.trans (hb.mono hB.out.size))
  replace k1 := Lib.hid (blk_at k1.out hb)
  replace q1 := Lib.hid (blk_at q1.out hb)
  replace q2 := Lib.hid (blk_at q2.out hb)
  replace q3 := Lib.hid (blk_at q3.out hb)
  obtain ⟨X4, hX4⟩ : ∃ V, X3.alloc (.cells #[.slice (some ⟨V3.heap.size, 0, none⟩) 1 1, .slice (some ⟨V3.heap.size + 1, 0, none⟩) 1 1, .slice (some ⟨V3.heap.size + 1 + 1, 0, none⟩) 1 1] 34) = V := ⟨_, rfl⟩
  rw [hX4] at hB k1 q1 q2 q3 q4
  rw [sX3] at q4
  replace hX4 := Lib.hid hX4
  clear hb
  have hLL : Hid (LL X4 X4.heap.size sl3 (some ⟨V3.heap.size + 1 + 1 + 1, 0, none⟩)) := LL.three q4.out q1.out q2.out q3.out
  have hP : Calls Tryd.prog 12 #[(.slice (some ⟨V3.heap.size + 1 + 1 + 1, 0, none⟩) 3 3), .int .i64 2] X4 (fun e w' => (∃ v, e = .returned (.tuple #[v, .int .i64 0]) ∧ OD w' X4.heap.size v [rootM [[1], [2]]]) ∧ Below X4.heap.size X4 w') := by
    have h := Prove_any sl3 2 (by decide) small3 X4 _ 3 hLL.out (hKH.out.below hB.out h0) (Nat.lt_of_lt_of_le h0 hB.out.size)
    rw [sane5] at h
    exact h
  replace hP := Lib.hid hP
  clear q1 q2 q3 q4
  go_wp2_with fail
  rw [hX1.out, hX2.out, hX3.out, hX4.out]
  refine hP.out.mono ?_
  rintro e w4 ⟨⟨v4, rfl, ho4⟩, hb⟩
  obtain ⟨a4, c4, rfl⟩ := ho4.form
  replace ho4 := Lib.hid ho4
  clear hP hX1 hX2 hX3 hX4
  replace hB := Lib.hid (hB.out.trans (hb.mono hB.out.size))
  replace k1 := Lib.hid (blk_at k1.out hb)
  replace hLL := Lib.hid (LL.lift hLL.out hb hb.size)
  clear hb
  have hP : Calls Tryd.prog 12 #[.slice (some ⟨V3.heap.size + 1 + 1 + 1, 0, none⟩) 1 3, .int .i64 0] w4 (fun e w' => (∃ v, e = .returned (.tuple #[v, .int .i64 0]) ∧ OD w' w4.heap.size v []) ∧ Below w4.heap.size w4 w') := by
    have h := Prove_any (sl3.take 1) 0 (by decide) (fun x hx => small3 x (List.mem_of_mem_take hx)) w4 _ 3 (hLL.out.take 1) (hKH.out.below hB.out h0) (Nat.lt_of_lt_of_le h0 hB.out.size)
    rw [sane6] at h
    exact h
  replace hP := Lib.hid hP
  go_wp2_with fail
  refine hP.out.mono ?_
  rintro e w5 ⟨⟨v5, rfl, ho5⟩, hb⟩
  obtain ⟨a5, c5, rfl⟩ := ho5.form
  clear hP ho5
  replace hB := Lib.hid (hB.out.trans (hb.mono hB.out.size))
  replace k1 := Lib.hid (blk_at k1.out hb)
  replace hLL := Lib.hid (LL.lift hLL.out hb hb.size)
  replace ho4 := Lib.hid (OD.below ho4.out hb)
  clear hb
  have hP : Calls Tryd.prog 12 #[(.slice (some ⟨V3.heap.size + 1 + 1 + 1, 0, none⟩) 3 3), .int .i64 3] w5 (fun e w' => (∃ v, e = .returned (.tuple #[v, .int .i64 1]) ∧ OD w' w5.heap.size v (proveP sl3 3).1) ∧ Below w5.heap.size w5 w') := by
    have h := Prove_any sl3 3 (by decide) small3 w5 _ 3 hLL.out (hKH.out.below hB.out h0) (Nat.lt_of_lt_of_le h0 hB.out.size)
    rw [sane7] at h
    exact h
  replace hP := Lib.hid hP
  go_wp2_with fail
  refine hP.out.mono ?_
  rintro e w6 ⟨⟨v6, rfl, ho6⟩, hb⟩
  obtain ⟨a6, c6, rfl⟩ := ho6.form
  clear hP ho6
  replace hB := Lib.hid (hB.out.trans (hb.mono hB.out.size))
  replace k1 := Lib.hid (blk_at k1.out hb)
  replace hLL := Lib.hid (LL.lift hLL.out hb hb.size)
  replace ho4 := Lib.hid (OD.below ho4.out hb)
  clear hb
  have hb := bel1 w6 (.cells #[.int .u8 5] 5)
  have r5 : Hid _ := heap_alloc_new w6 (.cells #[.int .u8 5] 5)
  replace hB := Lib.hid (hB.out.trans (hb.mono hB.out.size))
  replace k1 := Lib.hid (blk_at k1.out hb)
  replace hLL := Lib.hid (LL.lift hLL.out hb hb.size)
  replace ho4 := Lib.hid (OD.below ho4.out hb)
  obtain ⟨Y5, hY5⟩ : ∃ V, w6.alloc (.cells #[.int .u8 5] 5) = V := ⟨_, rfl⟩
  rw [hY5] at hB k1 hLL ho4 r5
  clear hb
  have sY5 : Y5.heap.size = w6.heap.size + 1 := by rw [← hY5]; simp
  replace hY5 := Lib.hid hY5
  have hb := bel1 Y5 (.cells #[.int .u8 6] 5)
  have r6 : Hid _ := heap_alloc_new Y5 (.cells #[.int .u8 6] 5)
  replace hB := Lib.hid (hB.out.trans (hb.mono hB.out.size))
  replace k1 := Lib.hid (blk_at k1.out hb)
  replace hLL := Lib.hid (LL.lift hLL.out hb hb.size)
  replace ho4 := Lib.hid (OD.below ho4.out hb)
  replace r5 := Lib.hid (blk_at r5.out hb)
  obtain ⟨Y6, hY6⟩ : ∃ V, Y5.alloc (.cells #[.int .u8 6] 5) = V := ⟨_, rfl⟩
  rw [hY6] at hB k1 hLL ho4 r5 r6
  clear hb
  replace hY6 := Lib.hid hY6
  rw [sY5] at r6
  have hP : Calls Tryd.prog 19 #[.int .i64 1, .int .i64 0, .slice (some ⟨w6.heap.size, 0, none⟩) 1 1, .slice (some ⟨w6.heap.size + 1, 0, none⟩) 1 1, .slice none 0 0, .slice none 0 0] Y6 (fun e w' => e = .returned (.tuple #[.slice none 0 0, .slice none 0 0, .bool false]) ∧ Below Y6.heap.size Y6 w') :=
    Collide_no 1 0 [5] [6] (by decide) (by decide) [] [] Y6 _ _ none none 1 1 0 0 (RBs.byte (x := 5) r5.out) (fun h => by cases h) (RBs.byte (x := 6) r6.out) (fun h => by cases h) (RD.nil _ _) (RD.nil _ _) (hKH.out.below hB.out h0) (Nat.lt_of_lt_of_le h0 hB.out.size) (.inr (.inr (.inl sane4)))
  replace hP := Lib.hid hP
  clear r5 r6 sY5
  go_wp2_with fail
  rw [hY5.out, hY6.out]
  refine hP.out.mono ?_
  rintro e w7 ⟨rfl, hb⟩
  clear hP hY5 hY6
  replace hB := Lib.hid (hB.out.trans (hb.mono hB.out.size))
  replace k1 := Lib.hid (blk_at k1.out hb)
  replace hLL := Lib.hid (LL.lift hLL.out hb hb.size)
  replace ho4 := Lib.hid (OD.below ho4.out hb)
  clear hb
  go_upto_region 10 with fail
  obtain ⟨a4', c4', e4, hR4⟩ := ho4.out.reads (by intro d hd; rw [List.mem_singleton.1 hd]; exact rootM_len _)
  injection e4 with e41 e42 e43
  subst e41 e43
  obtain ⟨b4, off4, rfl, hb4, hr4⟩ := hR4.at_ (i := 0) (by simp)
  rw [Nat.zero_mul, Nat.add_zero] at hr4
  replace hr4 := Lib.hid (show w7.rangeAt b4 off4 (BV (rootM [[1], [2]])) from hr4)
  replace hb4 := Lib.hid hb4
  have huH := Lib.hid hu
  have hiH := Lib.hid hi
  have lR := Lib.hid (rootM_len [[1], [2]])
  have l5 := Lib.hid (sha_length (leafM [5]))
  have eq1 := Lib.hid (fun W => eq_digest (sha (leafM [5])) (sha (leafM [5])) (sha_length _) (sha_length _) W)
  have eq2 := Lib.hid (fun W => eq_digest (rootM [[1], [2]]) (rootM [[1], [2]]) (rootM_len _) (rootM_len _) W)
  have eq3 := Lib.hid (fun W => eq_digest (rootM []) (rootM []) (rootM_len _) (rootM_len _) W)
  clear hR4 hu hi
  refine wp_region_pre 32 0 (fun W => Below w7.heap.size w7 W) (fun W W' => Below W.heap.size W W')
    (fun i v W => match i with
      | 0 => v = .bool true
      | 1 => v = .bool true
      | 2 => v = .agg (BV (sha (leafM [5]))).toArray
      | 3 => ∃ g, v = .slice (some ⟨g, 0, none⟩) 1 1 ∧ W.heap[g]? = some (.cells #[.int .u8 5] 5 (0, 0))
      | 4 => v = .agg (BV (sha (leafM [5]))).toArray
      | 5 => v = .bool true
      | 6 => v = .bool true
      | 7 => v = .bool true
      | 8 => v = .slice a5 0 c5
      | 9 => v = .int .i64 0
      | 10 => v = .bool true
      | 11 => v = .bool true
      | 12 => v = .bool true
      | 13 => v = .slice (some ⟨b4, off4, none⟩) 1 c4
      | 14 => v = .int .i64 1
      | 15 => v = .bool true
      | 16 => v = .bool true
      | 17 => v = .bool true
      | 18 => v = .slice (some ⟨b4, off4, none⟩) 1 c4
      | 19 => v = .pointer (some ⟨b4, off4, none⟩)
      | 20 => v = .agg (BV (rootM [[1], [2]])).toArray
      | 21 => v = .slice (some ⟨V3.heap.size + 1 + 1 + 1, 0, none⟩) 3 3
      | 22 => v = .slice (some ⟨V3.heap.size + 1 + 1 + 1, 0, none⟩) 2 3
      | 23 => v = .agg (BV (rootM [[1], [2]])).toArray
      | 24 => v = .bool true
      | 25 => v = .bool true
      | 26 => v = .bool true
      | 27 => v = .agg (BV (rootM [])).toArray
      | 28 => v = .agg (BV (rootM [])).toArray
      | 29 => v = .bool true
      | 30 => v = .bool true
      | 31 => v = .bool true
      | _ => True) (fun _ => false)
    (by kernel_rfl) (by kernel_rfl) (by kernel_rfl) (by kernel_rfl) (by kernel_rfl) (by kernel_rfl) (by kernel_rfl) ?_ (fun _ _ h => h.size) (dN (Below.refl _ _) 1) ?_ ?_
  · intro i v W W' hb hF
    match i, hF with
    | 0, h => exact h
    | 1, h => exact h
    | 2, h => exact h
    | 3, ⟨g, h1, h2⟩ => exact ⟨g, h1, blk_at h2 hb⟩
    | 4, h => exact h
    | 5, h => exact h
    | 6, h => exact h
    | 7, h => exact h
    | 8, h => exact h
    | 9, h => exact h
    | 10, h => exact h
    | 11, h => exact h
    | 12, h => exact h
    | 13, h => exact h
    | 14, h => exact h
    | 15, h => exact h
    | 16, h => exact h
    | 17, h => exact h
    | 18, h => exact h
    | 19, h => exact h
    | 20, h => exact h
    | 21, h => exact h
    | 22, h => exact h
    | 23, h => exact h
    | 24, h => exact h
    | 25, h => exact h
    | 26, h => exact h
    | 27, h => exact h
    | 28, h => exact h
    | 29, h => exact h
    | 30, h => exact h
    | 31, h => exact h
    | _ + 32, _ => trivial
  · refine ⟨?_, ?_, ?_, ?_, ?_, ?_, ?_, ?_, ?_, ?_, ?_, ?_, ?_, ?_, ?_, ?_, ?_, ?_, ?_, ?_, ?_, ?_, ?_, ?_, ?_, ?_, ?_, ?_, ?_, ?_, ?_, ?_, trivial⟩
    · refine stepJ_any rfl fun ac W hAA hG hDD K hK => ?_
      have h17 := hAA.getD (t := 17) (by kernel_rfl)
      simp only [Array.getD_eq_getD_getElem?] at h17
      rw [if_pos (by rfl)]
      exact wp_val (v := .bool true) (w' := W) (by simp [execOp, Act.eval, h17, go_sem]) (hK _ _ hG (Below.refl _ _) rfl (fun h => by cases h))
    · refine stepJ_any rfl fun ac W hAA hG hDD K hK => ?_
      have h84 := hDD.get 0 84 _ rfl rfl (by kernel_rfl)
      simp only [Array.getD_eq_getD_getElem?] at h84
      rw [if_pos (by rfl)]
      exact wp_val (v := .bool true) (w' := W) (by simp [execOp, Act.eval, h84, go_sem]) (hK _ _ hG (Below.refl _ _) rfl (fun h => by cases h))
    · refine stepJ_any rfl fun ac W hAA hG hDD K hK => ?_
      have h1 := hAA.getD (t := 1) (by kernel_rfl)
      have hgd := hDD.get 1 85 _ rfl rfl (by kernel_rfl)
      have hgd := slot_bool hgd
      rw [if_pos (by simp [Region.wanted, yielded, hgd])]
      exact wp_load_mid 30 _ rfl w1.heap.size 0 h1 (BV (sha (leafM [5]))) _ (range_of (blk_at k1.out hG : DB W _ 30 _)) huH.out rfl (by rw [hiH.out, BV_length, l5.out]) (hK _ _ hG (Below.refl _ _) rfl (fun h => by cases h))
    · refine stepJ_any rfl fun ac W hAA hG hDD K hK => ?_
      have hgd := hDD.get 1 85 _ rfl rfl (by kernel_rfl)
      have hgd := slot_bool hgd
      rw [if_pos (by simp [Region.wanted, yielded, hgd])]
      exact wp_val (v := .slice (some ⟨W.heap.size, 0, none⟩) 1 1) (w' := W.alloc (.cells #[.int .u8 5] 5)) (by simp [execOp, Act.eval, go_sem]) (hK _ _ (hG.alloc hG.size _) (bel1 W _) ⟨_, rfl, heap_alloc_new W _⟩ (fun h => by cases h))
    · refine stepJ_any rfl fun ac W hAA hG hDD K hK => ?_
      obtain ⟨g, h87, hg⟩ := hDD.get 3 87 _ rfl rfl (by kernel_rfl)
      have hgd := hDD.get 1 85 _ rfl rfl (by kernel_rfl)
      have hgd := slot_bool hgd
      rw [if_pos (by simp [Region.wanted, yielded, hgd])]
      simp only [Array.getD_eq_getD_getElem?] at h87
      refine wp_call (f := 22) (args := #[.string leafB, .slice (some ⟨g, 0, none⟩) 1 1]) (by simp [execOp, Act.eval, h87, go_sem, leafB]) ((show Calls _ _ _ _ (fun e w2 => e = .returned (.agg (BV (sha (leafM [5]))).toArray) ∧ Below W.heap.size W w2) from Tagged_any leafB (by decide +kernel) [5] (by decide) W _ 1 (RBs.byte (x := 5) hg) (fun h => by cases h) (hKH.out.below (hB.out.trans (hG.mono hB.out.size)) h0) (Nat.lt_of_lt_of_le h0 (hB.out.trans (hG.mono hB.out.size)).size)).mono fun e W9 he => ?_)
      obtain ⟨rfl, hbw⟩ := he
      exact hK _ _ (hG.trans (hbw.mono hG.size)) hbw rfl (fun h => by cases h)
    · refine stepJ_any rfl fun ac W hAA hG hDD K hK => ?_
      have h86 := hDD.get 2 86 _ rfl rfl (by kernel_rfl)
      have h88 := hDD.get 4 88 _ rfl rfl (by kernel_rfl)
      have hgd := hDD.get 1 85 _ rfl rfl (by kernel_rfl)
      have hgd := slot_bool hgd
      simp only [Array.getD_eq_getD_getElem?] at h86 h88
      have eq1 := eq1.out
      rw [if_pos (by simp [Region.wanted, yielded, hgd])]
      exact wp_val (v := .bool true) (w' := W) (by simp [execOp, Act.eval, h86, h88, go_sem, eq1]) (hK _ _ hG (Below.refl _ _) rfl (fun h => by cases h))
    · refine stepJ_any rfl fun ac W hAA hG hDD K hK => ?_
      have h85 := hDD.get 1 85 _ rfl rfl (by kernel_rfl)
      have h89 := hDD.get 5 89 _ rfl rfl (by kernel_rfl)
      simp only [Array.getD_eq_getD_getElem?] at h85 h89
      rw [if_pos (by rfl)]
      exact wp_val (v := .bool true) (w' := W) (by simp [execOp, Act.eval, h85, h89, go_sem]) (hK _ _ hG (Below.refl _ _) rfl (fun h => by cases h))
    · refine stepJ_any rfl fun ac W hAA hG hDD K hK => ?_
      have h90 := hDD.get 6 90 _ rfl rfl (by kernel_rfl)
      simp only [Array.getD_eq_getD_getElem?] at h90
      rw [if_pos (by rfl)]
      exact wp_val (v := .bool true) (w' := W) (by simp [execOp, Act.eval, h90, go_sem]) (hK _ _ hG (Below.refl _ _) rfl (fun h => by cases h))
    · refine stepJ_any rfl fun ac W hAA hG hDD K hK => ?_
      have h10 := hAA.getD (t := 10) (by kernel_rfl)
      have hgd := hDD.get 7 91 _ rfl rfl (by kernel_rfl)
      have hgd := slot_bool hgd
      simp only [Array.getD_eq_getD_getElem?] at h10
      rw [if_pos (by simp [Region.wanted, yielded, hgd])]
      exact wp_val (v := .slice a5 0 c5) (w' := W) (by simp [execOp, Act.eval, h10, go_sem]) (hK _ _ hG (Below.refl _ _) rfl (fun h => by cases h))
    · refine stepJ_any rfl fun ac W hAA hG hDD K hK => ?_
      have h92 := hDD.get 8 92 _ rfl rfl (by kernel_rfl)
      have hgd := hDD.get 7 91 _ rfl rfl (by kernel_rfl)
      have hgd := slot_bool hgd
      simp only [Array.getD_eq_getD_getElem?] at h92
      rw [if_pos (by simp [Region.wanted, yielded, hgd])]
      exact wp_val (v := .int .i64 0) (w' := W) (by simp [execOp, Act.eval, h92, go_sem]) (hK _ _ hG (Below.refl _ _) rfl (fun h => by cases h))
    · refine stepJ_any rfl fun ac W hAA hG hDD K hK => ?_
      have h93 := hDD.get 9 93 _ rfl rfl (by kernel_rfl)
      have hgd := hDD.get 7 91 _ rfl rfl (by kernel_rfl)
      have hgd := slot_bool hgd
      simp only [Array.getD_eq_getD_getElem?] at h93
      rw [if_pos (by simp [Region.wanted, yielded, hgd])]
      exact wp_val (v := .bool true) (w' := W) (by simp [execOp, Act.eval, h93, go_sem]) (hK _ _ hG (Below.refl _ _) rfl (fun h => by cases h))
    · refine stepJ_any rfl fun ac W hAA hG hDD K hK => ?_
      have h91 := hDD.get 7 91 _ rfl rfl (by kernel_rfl)
      have h94 := hDD.get 10 94 _ rfl rfl (by kernel_rfl)
      simp only [Array.getD_eq_getD_getElem?] at h91 h94
      rw [if_pos (by rfl)]
      exact wp_val (v := .bool true) (w' := W) (by simp [execOp, Act.eval, h91, h94, go_sem]) (hK _ _ hG (Below.refl _ _) rfl (fun h => by cases h))
    · refine stepJ_any rfl fun ac W hAA hG hDD K hK => ?_
      have h95 := hDD.get 11 95 _ rfl rfl (by kernel_rfl)
      simp only [Array.getD_eq_getD_getElem?] at h95
      rw [if_pos (by rfl)]
      exact wp_val (v := .bool true) (w' := W) (by simp [execOp, Act.eval, h95, go_sem]) (hK _ _ hG (Below.refl _ _) rfl (fun h => by cases h))
    · refine stepJ_any rfl fun ac W hAA hG hDD K hK => ?_
      have h8 := hAA.getD (t := 8) (by kernel_rfl)
      have hgd := hDD.get 12 96 _ rfl rfl (by kernel_rfl)
      have hgd := slot_bool hgd
      simp only [Array.getD_eq_getD_getElem?] at h8
      rw [if_pos (by simp [Region.wanted, yielded, hgd])]
      exact wp_val (v := .slice (some ⟨b4, off4, none⟩) 1 c4) (w' := W) (by simp [execOp, Act.eval, h8, go_sem]) (hK _ _ hG (Below.refl _ _) rfl (fun h => by cases h))
    · refine stepJ_any rfl fun ac W hAA hG hDD K hK => ?_
      have h97 := hDD.get 13 97 _ rfl rfl (by kernel_rfl)
      have hgd := hDD.get 12 96 _ rfl rfl (by kernel_rfl)
      have hgd := slot_bool hgd
      simp only [Array.getD_eq_getD_getElem?] at h97
      rw [if_pos (by simp [Region.wanted, yielded, hgd])]
      exact wp_val (v := .int .i64 1) (w' := W) (by simp [execOp, Act.eval, h97, go_sem]) (hK _ _ hG (Below.refl _ _) rfl (fun h => by cases h))
    · refine stepJ_any rfl fun ac W hAA hG hDD K hK => ?_
      have h98 := hDD.get 14 98 _ rfl rfl (by kernel_rfl)
      have hgd := hDD.get 12 96 _ rfl rfl (by kernel_rfl)
      have hgd := slot_bool hgd
      simp only [Array.getD_eq_getD_getElem?] at h98
      rw [if_pos (by simp [Region.wanted, yielded, hgd])]
      exact wp_val (v := .bool true) (w' := W) (by simp [execOp, Act.eval, h98, go_sem]) (hK _ _ hG (Below.refl _ _) rfl (fun h => by cases h))
    · refine stepJ_any rfl fun ac W hAA hG hDD K hK => ?_
      have h96 := hDD.get 12 96 _ rfl rfl (by kernel_rfl)
      have h99 := hDD.get 15 99 _ rfl rfl (by kernel_rfl)
      simp only [Array.getD_eq_getD_getElem?] at h96 h99
      rw [if_pos (by rfl)]
      exact wp_val (v := .bool true) (w' := W) (by simp [execOp, Act.eval, h96, h99, go_sem]) (hK _ _ hG (Below.refl _ _) rfl (fun h => by cases h))
    · refine stepJ_any rfl fun ac W hAA hG hDD K hK => ?_
      have h100 := hDD.get 16 100 _ rfl rfl (by kernel_rfl)
      simp only [Array.getD_eq_getD_getElem?] at h100
      rw [if_pos (by rfl)]
      exact wp_val (v := .bool true) (w' := W) (by simp [execOp, Act.eval, h100, go_sem]) (hK _ _ hG (Below.refl _ _) rfl (fun h => by cases h))
    · refine stepJ_any rfl fun ac W hAA hG hDD K hK => ?_
      have h8 := hAA.getD (t := 8) (by kernel_rfl)
      have hgd := hDD.get 17 101 _ rfl rfl (by kernel_rfl)
      have hgd := slot_bool hgd
      simp only [Array.getD_eq_getD_getElem?] at h8
      rw [if_pos (by simp [Region.wanted, yielded, hgd])]
      exact wp_val (v := .slice (some ⟨b4, off4, none⟩) 1 c4) (w' := W) (by simp [execOp, Act.eval, h8, go_sem]) (hK _ _ hG (Below.refl _ _) rfl (fun h => by cases h))
    · refine stepJ_any rfl fun ac W hAA hG hDD K hK => ?_
      have h102 := hDD.get 18 102 _ rfl rfl (by kernel_rfl)
      have hgd := hDD.get 17 101 _ rfl rfl (by kernel_rfl)
      have hgd := slot_bool hgd
      simp only [Array.getD_eq_getD_getElem?] at h102
      rw [if_pos (by simp [Region.wanted, yielded, hgd])]
      exact wp_val (v := .pointer (some ⟨b4, off4, none⟩)) (w' := W) (by simp [execOp, Act.eval, h102, go_sem]) (hK _ _ hG (Below.refl _ _) rfl (fun h => by cases h))
    · refine stepJ_any rfl fun ac W hAA hG hDD K hK => ?_
      have h103 := hDD.get 19 103 _ rfl rfl (by kernel_rfl)
      have hgd := hDD.get 17 101 _ rfl rfl (by kernel_rfl)
      have hgd := slot_bool hgd
      rw [if_pos (by simp [Region.wanted, yielded, hgd])]
      exact wp_load_mid 30 _ rfl b4 off4 h103 (BV (rootM [[1], [2]])) _ (fun j v hv => ((hG.cell (p := ⟨b4, off4 + j, none⟩) hb4.out).trans (hr4.out j v hv))) huH.out rfl (by rw [hiH.out, BV_length, lR.out]) (hK _ _ hG (Below.refl _ _) rfl (fun h => by cases h))
    · refine stepJ_any rfl fun ac W hAA hG hDD K hK => ?_
      have h7 := hAA.getD (t := 7) (by kernel_rfl)
      have hgd := hDD.get 17 101 _ rfl rfl (by kernel_rfl)
      have hgd := slot_bool hgd
      simp only [Array.getD_eq_getD_getElem?] at h7
      rw [if_pos (by simp [Region.wanted, yielded, hgd])]
      exact wp_val (v := .slice (some ⟨V3.heap.size + 1 + 1 + 1, 0, none⟩) 3 3) (w' := W) (by simp [execOp, Act.eval, h7, go_sem]) (hK _ _ hG (Below.refl _ _) rfl (fun h => by cases h))
    · refine stepJ_any rfl fun ac W hAA hG hDD K hK => ?_
      have h105 := hDD.get 21 105 _ rfl rfl (by kernel_rfl)
      have hgd := hDD.get 17 101 _ rfl rfl (by kernel_rfl)
      have hgd := slot_bool hgd
      simp only [Array.getD_eq_getD_getElem?] at h105
      rw [if_pos (by simp [Region.wanted, yielded, hgd])]
      exact wp_val (v := .slice (some ⟨V3.heap.size + 1 + 1 + 1, 0, none⟩) 2 3) (w' := W) (by simp [execOp, Act.eval, h105, go_sem]) (hK _ _ hG (Below.refl _ _) rfl (fun h => by cases h))
    · refine stepJ_any rfl fun ac W hAA hG hDD K hK => ?_
      have h106 := hDD.get 22 106 _ rfl rfl (by kernel_rfl)
      have hgd := hDD.get 17 101 _ rfl rfl (by kernel_rfl)
      have hgd := slot_bool hgd
      rw [if_pos (by simp [Region.wanted, yielded, hgd])]
      simp only [Array.getD_eq_getD_getElem?] at h106
      refine wp_call (f := 14) (args := #[.slice (some ⟨V3.heap.size + 1 + 1 + 1, 0, none⟩) 2 3]) (by simp [execOp, Act.eval, h106, go_sem]) ((show Calls _ _ _ _ (fun e w2 => e = .returned (.agg (BV (rootM [[1], [2]])).toArray) ∧ Below W.heap.size W w2) from Root_any (sl3.take 2) (by decide) (fun x hx => small3 x (List.mem_of_mem_take hx)) W _ 3 ((hLL.out.lift hG hG.size).take 2) (hKH.out.below (hB.out.trans (hG.mono hB.out.size)) h0) (Nat.lt_of_lt_of_le h0 (hB.out.trans (hG.mono hB.out.size)).size)).mono fun e W9 he => ?_)
      obtain ⟨rfl, hbw⟩ := he
      exact hK _ _ (hG.trans (hbw.mono hG.size)) hbw rfl (fun h => by cases h)
    · refine stepJ_any rfl fun ac W hAA hG hDD K hK => ?_
      have h104 := hDD.get 20 104 _ rfl rfl (by kernel_rfl)
      have h107 := hDD.get 23 107 _ rfl rfl (by kernel_rfl)
      have hgd := hDD.get 17 101 _ rfl rfl (by kernel_rfl)
      have hgd := slot_bool hgd
      simp only [Array.getD_eq_getD_getElem?] at h104 h107
      have eq2 := eq2.out
      rw [if_pos (by simp [Region.wanted, yielded, hgd])]
      exact wp_val (v := .bool true) (w' := W) (by simp [execOp, Act.eval, h104, h107, go_sem, eq2]) (hK _ _ hG (Below.refl _ _) rfl (fun h => by cases h))
    · refine stepJ_any rfl fun ac W hAA hG hDD K hK => ?_
      have h101 := hDD.get 17 101 _ rfl rfl (by kernel_rfl)
      have h108 := hDD.get 24 108 _ rfl rfl (by kernel_rfl)
      simp only [Array.getD_eq_getD_getElem?] at h101 h108
      rw [if_pos (by rfl)]
      exact wp_val (v := .bool true) (w' := W) (by simp [execOp, Act.eval, h101, h108, go_sem]) (hK _ _ hG (Below.refl _ _) rfl (fun h => by cases h))
    · refine stepJ_any rfl fun ac W hAA hG hDD K hK => ?_
      have h109 := hDD.get 25 109 _ rfl rfl (by kernel_rfl)
      simp only [Array.getD_eq_getD_getElem?] at h109
      rw [if_pos (by rfl)]
      exact wp_val (v := .bool true) (w' := W) (by simp [execOp, Act.eval, h109, go_sem]) (hK _ _ hG (Below.refl _ _) rfl (fun h => by cases h))
    · refine stepJ_any rfl fun ac W hAA hG hDD K hK => ?_
      have hgd := hDD.get 26 110 _ rfl rfl (by kernel_rfl)
      have hgd := slot_bool hgd
      rw [if_pos (by simp [Region.wanted, yielded, hgd])]
      refine wp_call (f := 14) (args := #[.slice none 0 0]) (by simp [execOp, Act.eval, go_sem]) ((show Calls _ _ _ _ (fun e w2 => e = .returned (.agg (BV (rootM [])).toArray) ∧ Below W.heap.size W w2) from Root_any [] (by decide) (fun x hx => by cases hx) W none 0 (LL.nil _ _ _) (hKH.out.below (hB.out.trans (hG.mono hB.out.size)) h0) (Nat.lt_of_lt_of_le h0 (hB.out.trans (hG.mono hB.out.size)).size)).mono fun e W9 he => ?_)
      obtain ⟨rfl, hbw⟩ := he
      exact hK _ _ (hG.trans (hbw.mono hG.size)) hbw rfl (fun h => by cases h)
    · refine stepJ_any rfl fun ac W hAA hG hDD K hK => ?_
      have hgd := hDD.get 26 110 _ rfl rfl (by kernel_rfl)
      have hgd := slot_bool hgd
      rw [if_pos (by simp [Region.wanted, yielded, hgd])]
      refine wp_call (f := 22) (args := #[.string noneB, .slice none 0 0]) (by simp [execOp, Act.eval, go_sem, noneB]) ((show Calls _ _ _ _ (fun e w2 => e = .returned (.agg (BV (rootM [])).toArray) ∧ Below W.heap.size W w2) from Tagged_any noneB (by decide +kernel) [] (by decide) W none 0 (fun h => absurd h (by simp)) (fun _ => rfl) (hKH.out.below (hB.out.trans (hG.mono hB.out.size)) h0) (Nat.lt_of_lt_of_le h0 (hB.out.trans (hG.mono hB.out.size)).size)).mono fun e W9 he => ?_)
      obtain ⟨rfl, hbw⟩ := he
      exact hK _ _ (hG.trans (hbw.mono hG.size)) hbw rfl (fun h => by cases h)
    · refine stepJ_any rfl fun ac W hAA hG hDD K hK => ?_
      have h111 := hDD.get 27 111 _ rfl rfl (by kernel_rfl)
      have h112 := hDD.get 28 112 _ rfl rfl (by kernel_rfl)
      have hgd := hDD.get 26 110 _ rfl rfl (by kernel_rfl)
      have hgd := slot_bool hgd
      simp only [Array.getD_eq_getD_getElem?] at h111 h112
      have eq3 := eq3.out
      rw [if_pos (by simp [Region.wanted, yielded, hgd])]
      exact wp_val (v := .bool true) (w' := W) (by simp [execOp, Act.eval, h111, h112, go_sem, eq3]) (hK _ _ hG (Below.refl _ _) rfl (fun h => by cases h))
    · refine stepJ_any rfl fun ac W hAA hG hDD K hK => ?_
      have h110 := hDD.get 26 110 _ rfl rfl (by kernel_rfl)
      have h113 := hDD.get 29 113 _ rfl rfl (by kernel_rfl)
      simp only [Array.getD_eq_getD_getElem?] at h110 h113
      rw [if_pos (by rfl)]
      exact wp_val (v := .bool true) (w' := W) (by simp [execOp, Act.eval, h110, h113, go_sem]) (hK _ _ hG (Below.refl _ _) rfl (fun h => by cases h))
    · refine stepJ_any rfl fun ac W hAA hG hDD K hK => ?_
      have h114 := hDD.get 30 114 _ rfl rfl (by kernel_rfl)
      simp only [Array.getD_eq_getD_getElem?] at h114
      rw [if_pos (by rfl)]
      exact wp_val (v := .bool true) (w' := W) (by simp [execOp, Act.eval, h114, go_sem]) (hK _ _ hG (Below.refl _ _) rfl (fun h => by cases h))
  intro fu T w9 hG hF hne hltb
  have e84 : T 84 = .bool true := hF 0 _ rfl (by omega)
  have e85 : T 85 = .bool true := hF 1 _ rfl (by omega)
  have e86 : T 86 = .agg (BV (sha (leafM [5]))).toArray := hF 2 _ rfl (by omega)
  obtain ⟨g3, e87, -⟩ := hF 3 _ rfl (by omega)
  replace e87 : T 87 = _ := e87
  have e88 : T 88 = .agg (BV (sha (leafM [5]))).toArray := hF 4 _ rfl (by omega)
  have e89 : T 89 = .bool true := hF 5 _ rfl (by omega)
  have e90 : T 90 = .bool true := hF 6 _ rfl (by omega)
  have e91 : T 91 = .bool true := hF 7 _ rfl (by omega)
  have e92 : T 92 = .slice a5 0 c5 := hF 8 _ rfl (by omega)
  have e93 : T 93 = .int .i64 0 := hF 9 _ rfl (by omega)
  have e94 : T 94 = .bool true := hF 10 _ rfl (by omega)
  have e95 : T 95 = .bool true := hF 11 _ rfl (by omega)
  have e96 : T 96 = .bool true := hF 12 _ rfl (by omega)
  have e97 : T 97 = .slice (some ⟨b4, off4, none⟩) 1 c4 := hF 13 _ rfl (by omega)
  have e98 : T 98 = .int .i64 1 := hF 14 _ rfl (by omega)
  have e99 : T 99 = .bool true := hF 15 _ rfl (by omega)
  have e100 : T 100 = .bool true := hF 16 _ rfl (by omega)
  have e101 : T 101 = .bool true := hF 17 _ rfl (by omega)
  have e102 : T 102 = .slice (some ⟨b4, off4, none⟩) 1 c4 := hF 18 _ rfl (by omega)
  have e103 : T 103 = .pointer (some ⟨b4, off4, none⟩) := hF 19 _ rfl (by omega)
  have e104 : T 104 = .agg (BV (rootM [[1], [2]])).toArray := hF 20 _ rfl (by omega)
  have e105 : T 105 = .slice (some ⟨V3.heap.size + 1 + 1 + 1, 0, none⟩) 3 3 := hF 21 _ rfl (by omega)
  have e106 : T 106 = .slice (some ⟨V3.heap.size + 1 + 1 + 1, 0, none⟩) 2 3 := hF 22 _ rfl (by omega)
  have e107 : T 107 = .agg (BV (rootM [[1], [2]])).toArray := hF 23 _ rfl (by omega)
  have e108 : T 108 = .bool true := hF 24 _ rfl (by omega)
  have e109 : T 109 = .bool true := hF 25 _ rfl (by omega)
  have e110 : T 110 = .bool true := hF 26 _ rfl (by omega)
  have e111 : T 111 = .agg (BV (rootM [])).toArray := hF 27 _ rfl (by omega)
  have e112 : T 112 = .agg (BV (rootM [])).toArray := hF 28 _ rfl (by omega)
  have e113 : T 113 = .bool true := hF 29 _ rfl (by omega)
  have e114 : T 114 = .bool true := hF 30 _ rfl (by omega)
  have e0 : T 0 = .bool true := hF 31 _ rfl (by omega)
  clear hF hne hltb
  simp only [List.take, fillT, List.setIfInBounds_toArray, List.set_cons_zero, List.set_cons_succ, e84, e85, e86, e87, e88, e89, e90, e91, e92, e93, e94, e95, e96, e97, e98, e99, e100, e101, e102, e103, e104, e105, e106, e107, e108, e109, e110, e111, e112, e113, e114, e0]
  clear e84 e85 e86 e87 e88 e89 e90 e91 e92 e93 e94 e95 e96 e97 e98 e99 e100 e101 e102 e103 e104 e105 e106 e107 e108 e109 e110 e111 e112 e113 e114 e0
  refine wpAny_done (by kernel_rfl) ?_ _
  go_wp2_with fail
  go_ret
  exact ⟨rfl, hB.out.trans (hG.mono hB.out.size)⟩
end Go.Proofs.YtgddfdejkmnfkaaDoor
