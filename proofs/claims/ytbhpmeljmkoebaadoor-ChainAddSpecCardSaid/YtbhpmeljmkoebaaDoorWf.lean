/- The reference's Check. -/
import Derived.Test.YtbhpmeljmkoebaaDoorWe
namespace Go.Proofs.YtbhpmeljmkoebaaDoor
open Go.RowKit

set_option maxRecDepth 100000 in
set_option maxHeartbeats 4000000 in
theorem rCheck_any (l : List Lk) (hl : Short l) (hm : l.length ≤ 1024) (w : World) (a : Option Addr) (cap : Nat) (hQ : QL w w.heap.size l a cap) :
    Calls Tryd.prog 24 #[.slice a l.length cap] w fun e w' => e = .returned (.int .i64 (chkP l)) ∧ Below w.heap.size w w' := by
  replace hQ := Lib.hid hQ
  have hB0 := Lib.hid (Below.refl w.heap.size w)
  have hm' : ¬ (1024 : Int) < l.length := by omega
  have hlH := Lib.hid hl
  have hu := Lib.hid Tryd.underlying37
  clear hl
  go_enter Tryd.func24, Tryd.ntmps24
  go_wp2_with fail
  clear hm'
  go_loopw [3, 4] (fun i _ wr => ∃ k : Nat, i = .int .i64 (k : Int) ∧ k ≤ l.length ∧ Hid (Below w.heap.size w wr) ∧ Hid (∀ i, i < k → okAt l i = true)) (fun i _ _ => l.length - (intOf i).toNat)
  case atStart => exact ⟨0, rfl, by omega, hB0, fun i hi => by omega⟩
  case round =>
    obtain ⟨k, rfl, hk, hb, hall⟩ := hrel
    by_cases hkl : k < l.length
    · have hok := okAt_parts hkl hlH.out
      have hl0 : 0 < l.length := by omega
      obtain ⟨b, off, da, dc, ha, hbB, hr, hD⟩ := (hQ.out.lift hb.out hb.out.size).at_ hkl
      obtain ⟨b', off', da', dc', ha', -, hr', -⟩ := (hQ.out.lift hb.out hb.out.size).at_ hl0
      have hab : b' = b ∧ off' = off := by
        have := ha.symm.trans ha'
        injection this with this
        injection this with h1 h2
        exact ⟨h1.symm, h2.symm⟩
      obtain ⟨rfl, rfl⟩ := hab
      have hf := (hQ.out.fine l[k] (List.getElem_mem hkl)).prev
      have hc0 := (range_parts (hQ.out.fine l[0] (List.getElem_mem hl0)).prev hr').1
      rw [Nat.zero_mul, Nat.add_zero] at hc0
      have hxd := hlH.out l[k] (List.getElem_mem hkl)
      have hsl : Hid (∀ W, (Instr.slice 22 (.slice (some ⟨b', off', none⟩) l.length cap) none (some (.int .i64 (k : Int))) none).run Tryd.prog W = .ok (.slice (some ⟨b', off', none⟩) k cap) W) := fun W => slice_to _ l.length cap k (Nat.le_trans hk hQ.out.1) W
      have hHd0 : Hid (∀ W, Below wr.heap.size wr W → Calls Tryd.prog 25 #[.slice (some ⟨b', off', none⟩) k cap] W fun e w' => e = .returned (.agg (BV (headP (l.take k))).toArray) ∧ Below W.heap.size W w') := fun W hW => by
        have hb' := hb.out.trans (hW.mono hb.out.size)
        have hlen : (l.take k).length = k := by rw [List.length_take]; omega
        have := rHead_any (l.take k) (hlH.out.take k) (by omega) W (some ⟨b', off', none⟩) cap (by rw [← ha]; exact (hQ.out.lift hb' hb'.size).cut hk (Nat.le_trans hk hQ.out.1) (Nat.le_refl _) id (.inl rfl))
        rwa [hlen] at this
      have heq0 := fun W => eq_digest l[k].prev (headP (l.take k)) hf (headP_len _) W
      have hbn := heap_alloc_new wr (.cells (LW l[k] da dc).toArray 37)
      have hb1 := bel1 wr (.cells (LW l[k] da dc).toArray 37)
      have hlt : wr.heap.size < (wr.alloc (.cells (LW l[k] da dc).toArray 37)).heap.size := by simp
      have hii := Lib.hid (LW_info (a := da) (c := dc) hf)
      have hsz := Lib.hid (LW_size (a := da) (c := dc) hf)
      have hszP := Lib.hid (show (Tryd.prog.info? 35).map (·.size) = some (BV l[k].prev).length by rw [Tryd.iD, BV_length, hf])
      have i0 : (0 : Int) ≤ k := by omega
      have i1 : (k : Int) < l.length := by omega
      have hL0 : (0 : Int) < l.length := by omega
      have hLn : 0 < l.length := hl0
      replace hr := Lib.hid hr
      subst ha
      obtain ⟨n0, hn0⟩ : ∃ n0, l[0].node = n0 := ⟨_, rfl⟩
      rw [hn0] at hc0 hok
      clear hD hr' hn0 ha'
      generalize l[k] = x at *
      go_upto_region 7 with (first
        | (refine wpList_load_part (by rfl) 37 _ (by rfl) b' (off' + k * 35) (by rfl) (LW x da dc) _ hr.out hu.out rfl hii.out ?_)
        | (refine wpList_store_row rfl 37 _ _ rfl wr.heap.size _ rfl rfl 37 _ (heap_alloc_last wr _) ?cj ?cl ?ck ?_
           case cj => rw [Tryd.iL]; exact congrArg some hsz.out.symm
           case cl => rw [hsz.out]; rfl
           case ck => exact LW_all _ _ _
           rw [World.setRow_alloc_new]))
      try simp only [Act.put]
      have hc0V := (hb1.cell (p := ⟨b', off', none⟩) hbB).trans hc0
      have hbBV : b' < (wr.alloc (.cells (LW x da dc).toArray 37)).heap.size := Nat.lt_of_lt_of_le hbB hb1.size
      have hHd : Hid (∀ W, Below (wr.alloc (.cells (LW x da dc).toArray 37)).heap.size (wr.alloc (.cells (LW x da dc).toArray 37)) W → Calls Tryd.prog 25 #[.slice (some ⟨b', off', none⟩) k cap] W fun e w' => e = .returned (.agg (BV (headP (l.take k))).toArray) ∧ Below W.heap.size W w') := fun W hW => hHd0.out W (hb1.trans (hW.mono hb1.size))
      have hb2 := Lib.hid (hb.out.trans (hb1.mono hb.out.size))
      generalize wr.alloc (.cells (LW x da dc).toArray 37) = V at hbn hlt hc0V hbBV hHd hb2 ⊢
      obtain ⟨XB, hXB⟩ : ∃ XB, XB = wr.heap.size := ⟨_, rfl⟩
      rw [← hXB] at hbn hlt ⊢
      obtain ⟨p0, p1, p2, p3⟩ := range_parts hf (range_of hbn)
      have hN0 : Hid (∀ W, Below V.heap.size V W → W.cell? ⟨XB, 0, none⟩ = some (.int .i64 x.node)) := fun W hW => (hW.cell (p := ⟨XB, 0, none⟩) hlt).trans p0
      have hN1 : Hid (∀ W, Below V.heap.size V W → W.cell? ⟨XB, 1, none⟩ = some (.int .i64 x.no)) := fun W hW => (hW.cell (p := ⟨XB, 1, none⟩) hlt).trans p1
      have hN2 : Hid (∀ W, Below V.heap.size V W → W.rangeAt XB 2 (BV x.prev)) := fun W hW j v hv => (hW.cell (p := ⟨XB, 2 + j, none⟩) hlt).trans (p2 j v (by simpa using hv))
      have hN3 : Hid (∀ W, Below V.heap.size V W → W.cell? ⟨XB, 34, none⟩ = some (.slice da x.data.length dc)) := fun W hW => (hW.cell (p := ⟨XB, 34, none⟩) hlt).trans p3
      have hN4 : Hid (∀ W, Below V.heap.size V W → W.cell? ⟨b', off', none⟩ = some (.int .i64 n0)) := fun W hW => (hW.cell (p := ⟨b', off', none⟩) hbBV).trans hc0V
      have g4 : decide ((65536 : Int) < x.data.length) = false := decide_eq_false (by omega)
      clear hbn hb1 hlt hc0 hc0V hbB hbBV hHd0 hr hii hsz p0 p1 p2 p3 hXB hf hxd
      have bad : Hid (okAt l k = false → chkP l = 80) := fun h => chk_bad hkl h
      by_cases t0 : x.node < 0
      · have g0 : decide (x.node < 0) = true := decide_eq_true t0
        have hc := Lib.hid (bad.out (by rw [hok, decide_eq_false (by omega)]; rfl))
        clear hok heq0 t0
        refine wp_region_pre 38 0 (fun W => Below V.heap.size V W) (fun W W' => Below W.heap.size W W')
          (fun i v W => match i with
            | 0 => v = .pointer (some ⟨XB, 0, none⟩)
            | 1 => v = .int .i64 x.node
            | 2 => v = .bool true
            | 3 => v = .bool true
            | 4 => v = undef
            | 5 => v = undef
            | 6 => v = undef
            | 7 => v = .bool true
            | 8 => v = .bool true
            | 9 => v = undef
            | 10 => v = undef
            | 11 => v = undef
            | 12 => v = undef
            | 13 => v = undef
            | 14 => v = undef
            | 15 => v = undef
            | 16 => v = .bool true
            | 17 => v = .bool true
            | 18 => v = undef
            | 19 => v = undef
            | 20 => v = undef
            | 21 => v = undef
            | 22 => v = .bool true
            | 23 => v = .bool true
            | 24 => v = undef
            | 25 => v = undef
            | 26 => v = undef
            | 27 => v = undef
            | 28 => v = .bool true
            | 29 => v = .bool true
            | 30 => v = undef
            | 31 => v = undef
            | 32 => v = undef
            | 33 => v = undef
            | 34 => v = undef
            | 35 => v = undef
            | 36 => v = undef
            | 37 => v = .bool true
            | _ => True) (fun _ => false)
          (by kernel_rfl) (by kernel_rfl) (by kernel_rfl) (by kernel_rfl) (by kernel_rfl) (by kernel_rfl) (by kernel_rfl) ?_ (fun _ _ h => h.size) (dN (Below.refl _ _) 1) ?_ ?_
        · intro i v W W' hb hF
          match i, hF with
          | 0, h => exact h
          | 1, h => exact h
          | 2, h => exact h
          | 3, h => exact h
          | 4, h => exact h
          | 5, h => exact h
          | 6, h => exact h
          | 7, h => exact h
          | 8, h => exact h
          | 9, h => exact h
          | 10, h => exact h
          | 11, h => exact h
          | 12, h => exact h
          | 13, h => exact h
          | 14, h => exact h
          | 15, h => exact h
          | 16, h => exact h
          | 17, h => exact h
          | 18, h => exact h
          | 19, h => exact h
          | 20, h => exact h
          | 21, h => exact h
          | 22, h => exact h
          | 23, h => exact h
          | 24, h => exact h
          | 25, h => exact h
          | 26, h => exact h
          | 27, h => exact h
          | 28, h => exact h
          | 29, h => exact h
          | 30, h => exact h
          | 31, h => exact h
          | 32, h => exact h
          | 33, h => exact h
          | 34, h => exact h
          | 35, h => exact h
          | 36, h => exact h
          | 37, h => exact h
          | _ + 38, _ => trivial
        · refine ⟨?_, ?_, ?_, ?_, ?_, ?_, ?_, ?_, ?_, ?_, ?_, ?_, ?_, ?_, ?_, ?_, ?_, ?_, ?_, ?_, ?_, ?_, ?_, ?_, ?_, ?_, ?_, ?_, ?_, ?_, ?_, ?_, ?_, ?_, ?_, ?_, ?_, ?_, trivial⟩
          · refine stepJ_any rfl fun ac W hAA hG hDD K hK => ?_
            have h4 := hAA.getD (t := 4) (by kernel_rfl)
            simp only [Array.getD_eq_getD_getElem?] at h4
            rw [if_pos (by rfl)]
            exact wp_val (v := .pointer (some ⟨XB, 0, none⟩)) (w' := W) (by simp [execOp, Act.eval, h4, go_sem]) (hK _ _ hG (Below.refl _ _) rfl (fun h => by cases h))
          · refine stepJ_any rfl fun ac W hAA hG hDD K hK => ?_
            have h18 := hDD.get 0 18 _ rfl rfl (by kernel_rfl)
            simp only [Array.getD_eq_getD_getElem?] at h18
            have m0 := hN0.out W hG
            rw [if_pos (by rfl)]
            exact wp_val (v := .int .i64 x.node) (w' := W) (by simp [execOp, Act.eval, h18, go_sem, m0]) (hK _ _ hG (Below.refl _ _) rfl (fun h => by cases h))
          · refine stepJ_any rfl fun ac W hAA hG hDD K hK => ?_
            have h19 := hDD.get 1 19 _ rfl rfl (by kernel_rfl)
            simp only [Array.getD_eq_getD_getElem?] at h19
            rw [if_pos (by rfl)]
            exact wp_val (v := .bool true) (w' := W) (by simp [execOp, Act.eval, h19, go_sem, g0]) (hK _ _ hG (Below.refl _ _) rfl (fun h => by cases h))
          · refine stepJ_any rfl fun ac W hAA hG hDD K hK => ?_
            have h20 := hDD.get 2 20 _ rfl rfl (by kernel_rfl)
            simp only [Array.getD_eq_getD_getElem?] at h20
            rw [if_pos (by rfl)]
            exact wp_val (v := .bool true) (w' := W) (by simp [execOp, Act.eval, h20, go_sem]) (hK _ _ hG (Below.refl _ _) rfl (fun h => by cases h))
          · refine stepJ_any rfl fun ac W hAA hG hDD K hK => ?_
            have hgd := hDD.get 3 21 _ rfl rfl (by kernel_rfl)
            have hgd := slot_bool hgd
            rw [if_neg (by simp [Region.wanted, yielded, hgd])]
            exact hK undef W hG (Below.refl _ _) rfl (fun h => by cases h)
          · refine stepJ_any rfl fun ac W hAA hG hDD K hK => ?_
            have hgd := hDD.get 3 21 _ rfl rfl (by kernel_rfl)
            have hgd := slot_bool hgd
            rw [if_neg (by simp [Region.wanted, yielded, hgd])]
            exact hK undef W hG (Below.refl _ _) rfl (fun h => by cases h)
          · refine stepJ_any rfl fun ac W hAA hG hDD K hK => ?_
            have hgd := hDD.get 3 21 _ rfl rfl (by kernel_rfl)
            have hgd := slot_bool hgd
            rw [if_neg (by simp [Region.wanted, yielded, hgd])]
            exact hK undef W hG (Below.refl _ _) rfl (fun h => by cases h)
          · refine stepJ_any rfl fun ac W hAA hG hDD K hK => ?_
            have h21 := hDD.get 3 21 _ rfl rfl (by kernel_rfl)
            have h24 := hDD.get 6 24 _ rfl rfl (by kernel_rfl)
            simp only [Array.getD_eq_getD_getElem?] at h21 h24
            rw [if_pos (by rfl)]
            exact wp_val (v := .bool true) (w' := W) (by simp [execOp, Act.eval, h21, h24, go_sem]) (hK _ _ hG (Below.refl _ _) rfl (fun h => by cases h))
          · refine stepJ_any rfl fun ac W hAA hG hDD K hK => ?_
            have h25 := hDD.get 7 25 _ rfl rfl (by kernel_rfl)
            simp only [Array.getD_eq_getD_getElem?] at h25
            rw [if_pos (by rfl)]
            exact wp_val (v := .bool true) (w' := W) (by simp [execOp, Act.eval, h25, go_sem]) (hK _ _ hG (Below.refl _ _) rfl (fun h => by cases h))
          · refine stepJ_any rfl fun ac W hAA hG hDD K hK => ?_
            have hgd := hDD.get 8 26 _ rfl rfl (by kernel_rfl)
            have hgd := slot_bool hgd
            rw [if_neg (by simp [Region.wanted, yielded, hgd])]
            exact hK undef W hG (Below.refl _ _) rfl (fun h => by cases h)
          · refine stepJ_any rfl fun ac W hAA hG hDD K hK => ?_
            have hgd := hDD.get 8 26 _ rfl rfl (by kernel_rfl)
            have hgd := slot_bool hgd
            rw [if_neg (by simp [Region.wanted, yielded, hgd])]
            exact hK undef W hG (Below.refl _ _) rfl (fun h => by cases h)
          · refine stepJ_any rfl fun ac W hAA hG hDD K hK => ?_
            have hgd := hDD.get 8 26 _ rfl rfl (by kernel_rfl)
            have hgd := slot_bool hgd
            rw [if_neg (by simp [Region.wanted, yielded, hgd])]
            exact hK undef W hG (Below.refl _ _) rfl (fun h => by cases h)
          · refine stepJ_any rfl fun ac W hAA hG hDD K hK => ?_
            have hgd := hDD.get 8 26 _ rfl rfl (by kernel_rfl)
            have hgd := slot_bool hgd
            rw [if_neg (by simp [Region.wanted, yielded, hgd])]
            exact hK undef W hG (Below.refl _ _) rfl (fun h => by cases h)
          · refine stepJ_any rfl fun ac W hAA hG hDD K hK => ?_
            have hgd := hDD.get 8 26 _ rfl rfl (by kernel_rfl)
            have hgd := slot_bool hgd
            rw [if_neg (by simp [Region.wanted, yielded, hgd])]
            exact hK undef W hG (Below.refl _ _) rfl (fun h => by cases h)
          · refine stepJ_any rfl fun ac W hAA hG hDD K hK => ?_
            have hgd := hDD.get 8 26 _ rfl rfl (by kernel_rfl)
            have hgd := slot_bool hgd
            rw [if_neg (by simp [Region.wanted, yielded, hgd])]
            exact hK undef W hG (Below.refl _ _) rfl (fun h => by cases h)
          · refine stepJ_any rfl fun ac W hAA hG hDD K hK => ?_
            have hgd := hDD.get 8 26 _ rfl rfl (by kernel_rfl)
            have hgd := slot_bool hgd
            rw [if_neg (by simp [Region.wanted, yielded, hgd])]
            exact hK undef W hG (Below.refl _ _) rfl (fun h => by cases h)
          · refine stepJ_any rfl fun ac W hAA hG hDD K hK => ?_
            have h26 := hDD.get 8 26 _ rfl rfl (by kernel_rfl)
            have h33 := hDD.get 15 33 _ rfl rfl (by kernel_rfl)
            simp only [Array.getD_eq_getD_getElem?] at h26 h33
            rw [if_pos (by rfl)]
            exact wp_val (v := .bool true) (w' := W) (by simp [execOp, Act.eval, h26, h33, go_sem]) (hK _ _ hG (Below.refl _ _) rfl (fun h => by cases h))
          · refine stepJ_any rfl fun ac W hAA hG hDD K hK => ?_
            have h34 := hDD.get 16 34 _ rfl rfl (by kernel_rfl)
            simp only [Array.getD_eq_getD_getElem?] at h34
            rw [if_pos (by rfl)]
            exact wp_val (v := .bool true) (w' := W) (by simp [execOp, Act.eval, h34, go_sem]) (hK _ _ hG (Below.refl _ _) rfl (fun h => by cases h))
          · refine stepJ_any rfl fun ac W hAA hG hDD K hK => ?_
            have hgd := hDD.get 17 35 _ rfl rfl (by kernel_rfl)
            have hgd := slot_bool hgd
            rw [if_neg (by simp [Region.wanted, yielded, hgd])]
            exact hK undef W hG (Below.refl _ _) rfl (fun h => by cases h)
          · refine stepJ_any rfl fun ac W hAA hG hDD K hK => ?_
            have hgd := hDD.get 17 35 _ rfl rfl (by kernel_rfl)
            have hgd := slot_bool hgd
            rw [if_neg (by simp [Region.wanted, yielded, hgd])]
            exact hK undef W hG (Below.refl _ _) rfl (fun h => by cases h)
          · refine stepJ_any rfl fun ac W hAA hG hDD K hK => ?_
            have hgd := hDD.get 17 35 _ rfl rfl (by kernel_rfl)
            have hgd := slot_bool hgd
            rw [if_neg (by simp [Region.wanted, yielded, hgd])]
            exact hK undef W hG (Below.refl _ _) rfl (fun h => by cases h)
          · refine stepJ_any rfl fun ac W hAA hG hDD K hK => ?_
            have hgd := hDD.get 17 35 _ rfl rfl (by kernel_rfl)
            have hgd := slot_bool hgd
            rw [if_neg (by simp [Region.wanted, yielded, hgd])]
            exact hK undef W hG (Below.refl _ _) rfl (fun h => by cases h)
          · refine stepJ_any rfl fun ac W hAA hG hDD K hK => ?_
            have h35 := hDD.get 17 35 _ rfl rfl (by kernel_rfl)
            have h39 := hDD.get 21 39 _ rfl rfl (by kernel_rfl)
            simp only [Array.getD_eq_getD_getElem?] at h35 h39
            rw [if_pos (by rfl)]
            exact wp_val (v := .bool true) (w' := W) (by simp [execOp, Act.eval, h35, h39, go_sem]) (hK _ _ hG (Below.refl _ _) rfl (fun h => by cases h))
          · refine stepJ_any rfl fun ac W hAA hG hDD K hK => ?_
            have h40 := hDD.get 22 40 _ rfl rfl (by kernel_rfl)
            simp only [Array.getD_eq_getD_getElem?] at h40
            rw [if_pos (by rfl)]
            exact wp_val (v := .bool true) (w' := W) (by simp [execOp, Act.eval, h40, go_sem]) (hK _ _ hG (Below.refl _ _) rfl (fun h => by cases h))
          · refine stepJ_any rfl fun ac W hAA hG hDD K hK => ?_
            have hgd := hDD.get 23 41 _ rfl rfl (by kernel_rfl)
            have hgd := slot_bool hgd
            rw [if_neg (by simp [Region.wanted, yielded, hgd])]
            exact hK undef W hG (Below.refl _ _) rfl (fun h => by cases h)
          · refine stepJ_any rfl fun ac W hAA hG hDD K hK => ?_
            have hgd := hDD.get 23 41 _ rfl rfl (by kernel_rfl)
            have hgd := slot_bool hgd
            rw [if_neg (by simp [Region.wanted, yielded, hgd])]
            exact hK undef W hG (Below.refl _ _) rfl (fun h => by cases h)
          · refine stepJ_any rfl fun ac W hAA hG hDD K hK => ?_
            have hgd := hDD.get 23 41 _ rfl rfl (by kernel_rfl)
            have hgd := slot_bool hgd
            rw [if_neg (by simp [Region.wanted, yielded, hgd])]
            exact hK undef W hG (Below.refl _ _) rfl (fun h => by cases h)
          · refine stepJ_any rfl fun ac W hAA hG hDD K hK => ?_
            have hgd := hDD.get 23 41 _ rfl rfl (by kernel_rfl)
            have hgd := slot_bool hgd
            rw [if_neg (by simp [Region.wanted, yielded, hgd])]
            exact hK undef W hG (Below.refl _ _) rfl (fun h => by cases h)
          · refine stepJ_any rfl fun ac W hAA hG hDD K hK => ?_
            have h41 := hDD.get 23 41 _ rfl rfl (by kernel_rfl)
            have h45 := hDD.get 27 45 _ rfl rfl (by kernel_rfl)
            simp only [Array.getD_eq_getD_getElem?] at h41 h45
            rw [if_pos (by rfl)]
            exact wp_val (v := .bool true) (w' := W) (by simp [execOp, Act.eval, h41, h45, go_sem]) (hK _ _ hG (Below.refl _ _) rfl (fun h => by cases h))
          · refine stepJ_any rfl fun ac W hAA hG hDD K hK => ?_
            have h46 := hDD.get 28 46 _ rfl rfl (by kernel_rfl)
            simp only [Array.getD_eq_getD_getElem?] at h46
            rw [if_pos (by rfl)]
            exact wp_val (v := .bool true) (w' := W) (by simp [execOp, Act.eval, h46, go_sem]) (hK _ _ hG (Below.refl _ _) rfl (fun h => by cases h))
          · refine stepJ_any rfl fun ac W hAA hG hDD K hK => ?_
            have hgd := hDD.get 29 47 _ rfl rfl (by kernel_rfl)
            have hgd := slot_bool hgd
            rw [if_neg (by simp [Region.wanted, yielded, hgd])]
            exact hK undef W hG (Below.refl _ _) rfl (fun h => by cases h)
          · refine stepJ_any rfl fun ac W hAA hG hDD K hK => ?_
            have hgd := hDD.get 29 47 _ rfl rfl (by kernel_rfl)
            have hgd := slot_bool hgd
            rw [if_neg (by simp [Region.wanted, yielded, hgd])]
            exact hK undef W hG (Below.refl _ _) rfl (fun h => by cases h)
          · refine stepJ_any rfl fun ac W hAA hG hDD K hK => ?_
            have hgd := hDD.get 29 47 _ rfl rfl (by kernel_rfl)
            have hgd := slot_bool hgd
            rw [if_neg (by simp [Region.wanted, yielded, hgd])]
            exact hK undef W hG (Below.refl _ _) rfl (fun h => by cases h)
          · refine stepJ_any rfl fun ac W hAA hG hDD K hK => ?_
            have hgd := hDD.get 29 47 _ rfl rfl (by kernel_rfl)
            have hgd := slot_bool hgd
            rw [if_neg (by simp [Region.wanted, yielded, hgd])]
            exact hK undef W hG (Below.refl _ _) rfl (fun h => by cases h)
          · refine stepJ_any rfl fun ac W hAA hG hDD K hK => ?_
            have hgd := hDD.get 29 47 _ rfl rfl (by kernel_rfl)
            have hgd := slot_bool hgd
            rw [if_neg (by simp [Region.wanted, yielded, hgd])]
            exact hK undef W hG (Below.refl _ _) rfl (fun h => by cases h)
          · refine stepJ_any rfl fun ac W hAA hG hDD K hK => ?_
            have hgd := hDD.get 29 47 _ rfl rfl (by kernel_rfl)
            have hgd := slot_bool hgd
            rw [if_neg (by simp [Region.wanted, yielded, hgd])]
            exact hK undef W hG (Below.refl _ _) rfl (fun h => by cases h)
          · refine stepJ_any rfl fun ac W hAA hG hDD K hK => ?_
            have hgd := hDD.get 29 47 _ rfl rfl (by kernel_rfl)
            have hgd := slot_bool hgd
            rw [if_neg (by simp [Region.wanted, yielded, hgd])]
            exact hK undef W hG (Below.refl _ _) rfl (fun h => by cases h)
          · refine stepJ_any rfl fun ac W hAA hG hDD K hK => ?_
            have h47 := hDD.get 29 47 _ rfl rfl (by kernel_rfl)
            have h54 := hDD.get 36 54 _ rfl rfl (by kernel_rfl)
            simp only [Array.getD_eq_getD_getElem?] at h47 h54
            rw [if_pos (by rfl)]
            exact wp_val (v := .bool true) (w' := W) (by simp [execOp, Act.eval, h47, h54, go_sem]) (hK _ _ hG (Below.refl _ _) rfl (fun h => by cases h))
        intro fu T W9 hG hF hne hltb
        have e18 : T 18 = .pointer (some ⟨XB, 0, none⟩) := hF 0 _ rfl (by omega)
        have e19 : T 19 = .int .i64 x.node := hF 1 _ rfl (by omega)
        have e20 : T 20 = .bool true := hF 2 _ rfl (by omega)
        have e21 : T 21 = .bool true := hF 3 _ rfl (by omega)
        have e22 : T 22 = undef := hF 4 _ rfl (by omega)
        have e23 : T 23 = undef := hF 5 _ rfl (by omega)
        have e24 : T 24 = undef := hF 6 _ rfl (by omega)
        have e25 : T 25 = .bool true := hF 7 _ rfl (by omega)
        have e26 : T 26 = .bool true := hF 8 _ rfl (by omega)
        have e27 : T 27 = undef := hF 9 _ rfl (by omega)
        have e28 : T 28 = undef := hF 10 _ rfl (by omega)
        have e29 : T 29 = undef := hF 11 _ rfl (by omega)
        have e30 : T 30 = undef := hF 12 _ rfl (by omega)
        have e31 : T 31 = undef := hF 13 _ rfl (by omega)
        have e32 : T 32 = undef := hF 14 _ rfl (by omega)
        have e33 : T 33 = undef := hF 15 _ rfl (by omega)
        have e34 : T 34 = .bool true := hF 16 _ rfl (by omega)
        have e35 : T 35 = .bool true := hF 17 _ rfl (by omega)
        have e36 : T 36 = undef := hF 18 _ rfl (by omega)
        have e37 : T 37 = undef := hF 19 _ rfl (by omega)
        have e38 : T 38 = undef := hF 20 _ rfl (by omega)
        have e39 : T 39 = undef := hF 21 _ rfl (by omega)
        have e40 : T 40 = .bool true := hF 22 _ rfl (by omega)
        have e41 : T 41 = .bool true := hF 23 _ rfl (by omega)
        have e42 : T 42 = undef := hF 24 _ rfl (by omega)
        have e43 : T 43 = undef := hF 25 _ rfl (by omega)
        have e44 : T 44 = undef := hF 26 _ rfl (by omega)
        have e45 : T 45 = undef := hF 27 _ rfl (by omega)
        have e46 : T 46 = .bool true := hF 28 _ rfl (by omega)
        have e47 : T 47 = .bool true := hF 29 _ rfl (by omega)
        have e48 : T 48 = undef := hF 30 _ rfl (by omega)
        have e49 : T 49 = undef := hF 31 _ rfl (by omega)
        have e50 : T 50 = undef := hF 32 _ rfl (by omega)
        have e51 : T 51 = undef := hF 33 _ rfl (by omega)
        have e52 : T 52 = undef := hF 34 _ rfl (by omega)
        have e53 : T 53 = undef := hF 35 _ rfl (by omega)
        have e54 : T 54 = undef := hF 36 _ rfl (by omega)
        have e55 : T 55 = .bool true := hF 37 _ rfl (by omega)
        clear hF hne hltb
        simp only [List.take, fillT, List.setIfInBounds_toArray, List.set_cons_zero, List.set_cons_succ, e18, e19, e20, e21, e22, e23, e24, e25, e26, e27, e28, e29, e30, e31, e32, e33, e34, e35, e36, e37, e38, e39, e40, e41, e42, e43, e44, e45, e46, e47, e48, e49, e50, e51, e52, e53, e54, e55]
        clear e18 e19 e20 e21 e22 e23 e24 e25 e26 e27 e28 e29 e30 e31 e32 e33 e34 e35 e36 e37 e38 e39 e40 e41 e42 e43 e44 e45 e46 e47 e48 e49 e50 e51 e52 e53 e54 e55
        refine wpAny_done (by kernel_rfl) ?_ _
        have hb3 := Lib.hid (hb2.out.trans (hG.mono hb2.out.size))
        clear hG hN0 hN1 hN2 hN3 hN4 hHd hsl
        go_wp2_with fail
        go_ret
        exact ⟨by rw [hc.out]; rfl, hb3.out⟩
      have g0 : decide (x.node < 0) = false := decide_eq_false t0
      rw [decide_eq_true (by omega : 0 ≤ x.node), Bool.true_and] at hok
      by_cases t1 : x.node < 24
      case neg =>
        have g1 : decide (24 ≤ x.node) = true := decide_eq_true (by omega)
        have hc := Lib.hid (bad.out (by rw [hok, decide_eq_false t1]; rfl))
        clear hok heq0 t0 t1
        refine wp_region_pre 38 0 (fun W => Below V.heap.size V W) (fun W W' => Below W.heap.size W W')
          (fun i v W => match i with
            | 0 => v = .pointer (some ⟨XB, 0, none⟩)
            | 1 => v = .int .i64 x.node
            | 2 => v = .bool false
            | 3 => v = .bool false
            | 4 => v = .pointer (some ⟨XB, 0, none⟩)
            | 5 => v = .int .i64 x.node
            | 6 => v = .bool true
            | 7 => v = .bool true
            | 8 => v = .bool true
            | 9 => v = undef
            | 10 => v = undef
            | 11 => v = undef
            | 12 => v = undef
            | 13 => v = undef
            | 14 => v = undef
            | 15 => v = undef
            | 16 => v = .bool true
            | 17 => v = .bool true
            | 18 => v = undef
            | 19 => v = undef
            | 20 => v = undef
            | 21 => v = undef
            | 22 => v = .bool true
            | 23 => v = .bool true
            | 24 => v = undef
            | 25 => v = undef
            | 26 => v = undef
            | 27 => v = undef
            | 28 => v = .bool true
            | 29 => v = .bool true
            | 30 => v = undef
            | 31 => v = undef
            | 32 => v = undef
            | 33 => v = undef
            | 34 => v = undef
            | 35 => v = undef
            | 36 => v = undef
            | 37 => v = .bool true
            | _ => True) (fun _ => false)
          (by kernel_rfl) (by kernel_rfl) (by kernel_rfl) (by kernel_rfl) (by kernel_rfl) (by kernel_rfl) (by kernel_rfl) ?_ (fun _ _ h => h.size) (dN (Below.refl _ _) 1) ?_ ?_
        · intro i v W W' hb hF
          match i, hF with
          | 0, h => exact h
          | 1, h => exact h
          | 2, h => exact h
          | 3, h => exact h
          | 4, h => exact h
          | 5, h => exact h
          | 6, h => exact h
          | 7, h => exact h
          | 8, h => exact h
          | 9, h => exact h
          | 10, h => exact h
          | 11, h => exact h
          | 12, h => exact h
          | 13, h => exact h
          | 14, h => exact h
          | 15, h => exact h
          | 16, h => exact h
          | 17, h => exact h
          | 18, h => exact h
          | 19, h => exact h
          | 20, h => exact h
          | 21, h => exact h
          | 22, h => exact h
          | 23, h => exact h
          | 24, h => exact h
          | 25, h => exact h
          | 26, h => exact h
          | 27, h => exact h
          | 28, h => exact h
          | 29, h => exact h
          | 30, h => exact h
          | 31, h => exact h
          | 32, h => exact h
          | 33, h => exact h
          | 34, h => exact h
          | 35, h => exact h
          | 36, h => exact h
          | 37, h => exact h
          | _ + 38, _ => trivial
        · refine ⟨?_, ?_, ?_, ?_, ?_, ?_, ?_, ?_, ?_, ?_, ?_, ?_, ?_, ?_, ?_, ?_, ?_, ?_, ?_, ?_, ?_, ?_, ?_, ?_, ?_, ?_, ?_, ?_, ?_, ?_, ?_, ?_, ?_, ?_, ?_, ?_, ?_, ?_, trivial⟩
          · refine stepJ_any rfl fun ac W hAA hG hDD K hK => ?_
            have h4 := hAA.getD (t := 4) (by kernel_rfl)
            simp only [Array.getD_eq_getD_getElem?] at h4
            rw [if_pos (by rfl)]
            exact wp_val (v := .pointer (some ⟨XB, 0, none⟩)) (w' := W) (by simp [execOp, Act.eval, h4, go_sem]) (hK _ _ hG (Below.refl _ _) rfl (fun h => by cases h))
          · refine stepJ_any rfl fun ac W hAA hG hDD K hK => ?_
            have h18 := hDD.get 0 18 _ rfl rfl (by kernel_rfl)
            simp only [Array.getD_eq_getD_getElem?] at h18
            have m0 := hN0.out W hG
            rw [if_pos (by rfl)]
            exact wp_val (v := .int .i64 x.node) (w' := W) (by simp [execOp, Act.eval, h18, go_sem, m0]) (hK _ _ hG (Below.refl _ _) rfl (fun h => by cases h))
          · refine stepJ_any rfl fun ac W hAA hG hDD K hK => ?_
            have h19 := hDD.get 1 19 _ rfl rfl (by kernel_rfl)
            simp only [Array.getD_eq_getD_getElem?] at h19
            rw [if_pos (by rfl)]
            exact wp_val (v := .bool false) (w' := W) (by simp [execOp, Act.eval, h19, go_sem, g0]) (hK _ _ hG (Below.refl _ _) rfl (fun h => by cases h))
          · refine stepJ_any rfl fun ac W hAA hG hDD K hK => ?_
            have h20 := hDD.get 2 20 _ rfl rfl (by kernel_rfl)
            simp only [Array.getD_eq_getD_getElem?] at h20
            rw [if_pos (by rfl)]
            exact wp_val (v := .bool false) (w' := W) (by simp [execOp, Act.eval, h20, go_sem]) (hK _ _ hG (Below.refl _ _) rfl (fun h => by cases h))
          · refine stepJ_any rfl fun ac W hAA hG hDD K hK => ?_
            have h4 := hAA.getD (t := 4) (by kernel_rfl)
            have hgd := hDD.get 3 21 _ rfl rfl (by kernel_rfl)
            have hgd := slot_bool hgd
            simp only [Array.getD_eq_getD_getElem?] at h4
            rw [if_pos (by simp [Region.wanted, yielded, hgd])]
            exact wp_val (v := .pointer (some ⟨XB, 0, none⟩)) (w' := W) (by simp [execOp, Act.eval, h4, go_sem]) (hK _ _ hG (Below.refl _ _) rfl (fun h => by cases h))
          · refine stepJ_any rfl fun ac W hAA hG hDD K hK => ?_
            have h22 := hDD.get 4 22 _ rfl rfl (by kernel_rfl)
            have hgd := hDD.get 3 21 _ rfl rfl (by kernel_rfl)
            have hgd := slot_bool hgd
            simp only [Array.getD_eq_getD_getElem?] at h22
            have m0 := hN0.out W hG
            rw [if_pos (by simp [Region.wanted, yielded, hgd])]
            exact wp_val (v := .int .i64 x.node) (w' := W) (by simp [execOp, Act.eval, h22, go_sem, m0]) (hK _ _ hG (Below.refl _ _) rfl (fun h => by cases h))
          · refine stepJ_any rfl fun ac W hAA hG hDD K hK => ?_
            have h23 := hDD.get 5 23 _ rfl rfl (by kernel_rfl)
            have hgd := hDD.get 3 21 _ rfl rfl (by kernel_rfl)
            have hgd := slot_bool hgd
            simp only [Array.getD_eq_getD_getElem?] at h23
            rw [if_pos (by simp [Region.wanted, yielded, hgd])]
            exact wp_val (v := .bool true) (w' := W) (by simp [execOp, Act.eval, h23, go_sem, g1]) (hK _ _ hG (Below.refl _ _) rfl (fun h => by cases h))
          · refine stepJ_any rfl fun ac W hAA hG hDD K hK => ?_
            have h21 := hDD.get 3 21 _ rfl rfl (by kernel_rfl)
            have h24 := hDD.get 6 24 _ rfl rfl (by kernel_rfl)
            simp only [Array.getD_eq_getD_getElem?] at h21 h24
            rw [if_pos (by rfl)]
            exact wp_val (v := .bool true) (w' := W) (by simp [execOp, Act.eval, h21, h24, go_sem]) (hK _ _ hG (Below.refl _ _) rfl (fun h => by cases h))
          · refine stepJ_any rfl fun ac W hAA hG hDD K hK => ?_
            have h25 := hDD.get 7 25 _ rfl rfl (by kernel_rfl)
            simp only [Array.getD_eq_getD_getElem?] at h25
            rw [if_pos (by rfl)]
            exact wp_val (v := .bool true) (w' := W) (by simp [execOp, Act.eval, h25, go_sem]) (hK _ _ hG (Below.refl _ _) rfl (fun h => by cases h))
          · refine stepJ_any rfl fun ac W hAA hG hDD K hK => ?_
            have hgd := hDD.get 8 26 _ rfl rfl (by kernel_rfl)
            have hgd := slot_bool hgd
            rw [if_neg (by simp [Region.wanted, yielded, hgd])]
            exact hK undef W hG (Below.refl _ _) rfl (fun h => by cases h)
          · refine stepJ_any rfl fun ac W hAA hG hDD K hK => ?_
            have hgd := hDD.get 8 26 _ rfl rfl (by kernel_rfl)
            have hgd := slot_bool hgd
            rw [if_neg (by simp [Region.wanted, yielded, hgd])]
            exact hK undef W hG (Below.refl _ _) rfl (fun h => by cases h)
          · refine stepJ_any rfl fun ac W hAA hG hDD K hK => ?_
            have hgd := hDD.get 8 26 _ rfl rfl (by kernel_rfl)
            have hgd := slot_bool hgd
            rw [if_neg (by simp [Region.wanted, yielded, hgd])]
            exact hK undef W hG (Below.refl _ _) rfl (fun h => by cases h)
          · refine stepJ_any rfl fun ac W hAA hG hDD K hK => ?_
            have hgd := hDD.get 8 26 _ rfl rfl (by kernel_rfl)
            have hgd := slot_bool hgd
            rw [if_neg (by simp [Region.wanted, yielded, hgd])]
            exact hK undef W hG (Below.refl _ _) rfl (fun h => by cases h)
          · refine stepJ_any rfl fun ac W hAA hG hDD K hK => ?_
            have hgd := hDD.get 8 26 _ rfl rfl (by kernel_rfl)
            have hgd := slot_bool hgd
            rw [if_neg (by simp [Region.wanted, yielded, hgd])]
            exact hK undef W hG (Below.refl _ _) rfl (fun h => by cases h)
          · refine stepJ_any rfl fun ac W hAA hG hDD K hK => ?_
            have hgd := hDD.get 8 26 _ rfl rfl (by kernel_rfl)
            have hgd := slot_bool hgd
            rw [if_neg (by simp [Region.wanted, yielded, hgd])]
            exact hK undef W hG (Below.refl _ _) rfl (fun h => by cases h)
          · refine stepJ_any rfl fun ac W hAA hG hDD K hK => ?_
            have hgd := hDD.get 8 26 _ rfl rfl (by kernel_rfl)
            have hgd := slot_bool hgd
            rw [if_neg (by simp [Region.wanted, yielded, hgd])]
            exact hK undef W hG (Below.refl _ _) rfl (fun h => by cases h)
          · refine stepJ_any rfl fun ac W hAA hG hDD K hK => ?_
            have h26 := hDD.get 8 26 _ rfl rfl (by kernel_rfl)
            have h33 := hDD.get 15 33 _ rfl rfl (by kernel_rfl)
            simp only [Array.getD_eq_getD_getElem?] at h26 h33
            rw [if_pos (by rfl)]
            exact wp_val (v := .bool true) (w' := W) (by simp [execOp, Act.eval, h26, h33, go_sem]) (hK _ _ hG (Below.refl _ _) rfl (fun h => by cases h))
          · refine stepJ_any rfl fun ac W hAA hG hDD K hK => ?_
            have h34 := hDD.get 16 34 _ rfl rfl (by kernel_rfl)
            simp only [Array.getD_eq_getD_getElem?] at h34
            rw [if_pos (by rfl)]
            exact wp_val (v := .bool true) (w' := W) (by simp [execOp, Act.eval, h34, go_sem]) (hK _ _ hG (Below.refl _ _) rfl (fun h => by cases h))
          · refine stepJ_any rfl fun ac W hAA hG hDD K hK => ?_
            have hgd := hDD.get 17 35 _ rfl rfl (by kernel_rfl)
            have hgd := slot_bool hgd
            rw [if_neg (by simp [Region.wanted, yielded, hgd])]
            exact hK undef W hG (Below.refl _ _) rfl (fun h => by cases h)
          · refine stepJ_any rfl fun ac W hAA hG hDD K hK => ?_
            have hgd := hDD.get 17 35 _ rfl rfl (by kernel_rfl)
            have hgd := slot_bool hgd
            rw [if_neg (by simp [Region.wanted, yielded, hgd])]
            exact hK undef W hG (Below.refl _ _) rfl (fun h => by cases h)
          · refine stepJ_any rfl fun ac W hAA hG hDD K hK => ?_
            have hgd := hDD.get 17 35 _ rfl rfl (by kernel_rfl)
            have hgd := slot_bool hgd
            rw [if_neg (by simp [Region.wanted, yielded, hgd])]
            exact hK undef W hG (Below.refl _ _) rfl (fun h => by cases h)
          · refine stepJ_any rfl fun ac W hAA hG hDD K hK => ?_
            have hgd := hDD.get 17 35 _ rfl rfl (by kernel_rfl)
            have hgd := slot_bool hgd
            rw [if_neg (by simp [Region.wanted, yielded, hgd])]
            exact hK undef W hG (Below.refl _ _) rfl (fun h => by cases h)
          · refine stepJ_any rfl fun ac W hAA hG hDD K hK => ?_
            have h35 := hDD.get 17 35 _ rfl rfl (by kernel_rfl)
            have h39 := hDD.get 21 39 _ rfl rfl (by kernel_rfl)
            simp only [Array.getD_eq_getD_getElem?] at h35 h39
            rw [if_pos (by rfl)]
            exact wp_val (v := .bool true) (w' := W) (by simp [execOp, Act.eval, h35, h39, go_sem]) (hK _ _ hG (Below.refl _ _) rfl (fun h => by cases h))
          · refine stepJ_any rfl fun ac W hAA hG hDD K hK => ?_
            have h40 := hDD.get 22 40 _ rfl rfl (by kernel_rfl)
            simp only [Array.getD_eq_getD_getElem?] at h40
            rw [if_pos (by rfl)]
            exact wp_val (v := .bool true) (w' := W) (by simp [execOp, Act.eval, h40, go_sem]) (hK _ _ hG (Below.refl _ _) rfl (fun h => by cases h))
          · refine stepJ_any rfl fun ac W hAA hG hDD K hK => ?_
            have hgd := hDD.get 23 41 _ rfl rfl (by kernel_rfl)
            have hgd := slot_bool hgd
            rw [if_neg (by simp [Region.wanted, yielded, hgd])]
            exact hK undef W hG (Below.refl _ _) rfl (fun h => by cases h)
          · refine stepJ_any rfl fun ac W hAA hG hDD K hK => ?_
            have hgd := hDD.get 23 41 _ rfl rfl (by kernel_rfl)
            have hgd := slot_bool hgd
            rw [if_neg (by simp [Region.wanted, yielded, hgd])]
            exact hK undef W hG (Below.refl _ _) rfl (fun h => by cases h)
          · refine stepJ_any rfl fun ac W hAA hG hDD K hK => ?_
            have hgd := hDD.get 23 41 _ rfl rfl (by kernel_rfl)
            have hgd := slot_bool hgd
            rw [if_neg (by simp [Region.wanted, yielded, hgd])]
            exact hK undef W hG (Below.refl _ _) rfl (fun h => by cases h)
          · refine stepJ_any rfl fun ac W hAA hG hDD K hK => ?_
            have hgd := hDD.get 23 41 _ rfl rfl (by kernel_rfl)
            have hgd := slot_bool hgd
            rw [if_neg (by simp [Region.wanted, yielded, hgd])]
            exact hK undef W hG (Below.refl _ _) rfl (fun h => by cases h)
          · refine stepJ_any rfl fun ac W hAA hG hDD K hK => ?_
            have h41 := hDD.get 23 41 _ rfl rfl (by kernel_rfl)
            have h45 := hDD.get 27 45 _ rfl rfl (by kernel_rfl)
            simp only [Array.getD_eq_getD_getElem?] at h41 h45
            rw [if_pos (by rfl)]
            exact wp_val (v := .bool true) (w' := W) (by simp [execOp, Act.eval, h41, h45, go_sem]) (hK _ _ hG (Below.refl _ _) rfl (fun h => by cases h))
          · refine stepJ_any rfl fun ac W hAA hG hDD K hK => ?_
            have h46 := hDD.get 28 46 _ rfl rfl (by kernel_rfl)
            simp only [Array.getD_eq_getD_getElem?] at h46
            rw [if_pos (by rfl)]
            exact wp_val (v := .bool true) (w' := W) (by simp [execOp, Act.eval, h46, go_sem]) (hK _ _ hG (Below.refl _ _) rfl (fun h => by cases h))
          · refine stepJ_any rfl fun ac W hAA hG hDD K hK => ?_
            have hgd := hDD.get 29 47 _ rfl rfl (by kernel_rfl)
            have hgd := slot_bool hgd
            rw [if_neg (by simp [Region.wanted, yielded, hgd])]
            exact hK undef W hG (Below.refl _ _) rfl (fun h => by cases h)
          · refine stepJ_any rfl fun ac W hAA hG hDD K hK => ?_
            have hgd := hDD.get 29 47 _ rfl rfl (by kernel_rfl)
            have hgd := slot_bool hgd
            rw [if_neg (by simp [Region.wanted, yielded, hgd])]
            exact hK undef W hG (Below.refl _ _) rfl (fun h => by cases h)
          · refine stepJ_any rfl fun ac W hAA hG hDD K hK => ?_
            have hgd := hDD.get 29 47 _ rfl rfl (by kernel_rfl)
            have hgd := slot_bool hgd
            rw [if_neg (by simp [Region.wanted, yielded, hgd])]
            exact hK undef W hG (Below.refl _ _) rfl (fun h => by cases h)
          · refine stepJ_any rfl fun ac W hAA hG hDD K hK => ?_
            have hgd := hDD.get 29 47 _ rfl rfl (by kernel_rfl)
            have hgd := slot_bool hgd
            rw [if_neg (by simp [Region.wanted, yielded, hgd])]
            exact hK undef W hG (Below.refl _ _) rfl (fun h => by cases h)
          · refine stepJ_any rfl fun ac W hAA hG hDD K hK => ?_
            have hgd := hDD.get 29 47 _ rfl rfl (by kernel_rfl)
            have hgd := slot_bool hgd
            rw [if_neg (by simp [Region.wanted, yielded, hgd])]
            exact hK undef W hG (Below.refl _ _) rfl (fun h => by cases h)
          · refine stepJ_any rfl fun ac W hAA hG hDD K hK => ?_
            have hgd := hDD.get 29 47 _ rfl rfl (by kernel_rfl)
            have hgd := slot_bool hgd
            rw [if_neg (by simp [Region.wanted, yielded, hgd])]
            exact hK undef W hG (Below.refl _ _) rfl (fun h => by cases h)
          · refine stepJ_any rfl fun ac W hAA hG hDD K hK => ?_
            have hgd := hDD.get 29 47 _ rfl rfl (by kernel_rfl)
            have hgd := slot_bool hgd
            rw [if_neg (by simp [Region.wanted, yielded, hgd])]
            exact hK undef W hG (Below.refl _ _) rfl (fun h => by cases h)
          · refine stepJ_any rfl fun ac W hAA hG hDD K hK => ?_
            have h47 := hDD.get 29 47 _ rfl rfl (by kernel_rfl)
            have h54 := hDD.get 36 54 _ rfl rfl (by kernel_rfl)
            simp only [Array.getD_eq_getD_getElem?] at h47 h54
            rw [if_pos (by rfl)]
            exact wp_val (v := .bool true) (w' := W) (by simp [execOp, Act.eval, h47, h54, go_sem]) (hK _ _ hG (Below.refl _ _) rfl (fun h => by cases h))
        intro fu T W9 hG hF hne hltb
        have e18 : T 18 = .pointer (some ⟨XB, 0, none⟩) := hF 0 _ rfl (by omega)
        have e19 : T 19 = .int .i64 x.node := hF 1 _ rfl (by omega)
        have e20 : T 20 = .bool false := hF 2 _ rfl (by omega)
        have e21 : T 21 = .bool false := hF 3 _ rfl (by omega)
        have e22 : T 22 = .pointer (some ⟨XB, 0, none⟩) := hF 4 _ rfl (by omega)
        have e23 : T 23 = .int .i64 x.node := hF 5 _ rfl (by omega)
        have e24 : T 24 = .bool true := hF 6 _ rfl (by omega)
        have e25 : T 25 = .bool true := hF 7 _ rfl (by omega)
        have e26 : T 26 = .bool true := hF 8 _ rfl (by omega)
        have e27 : T 27 = undef := hF 9 _ rfl (by omega)
        have e28 : T 28 = undef := hF 10 _ rfl (by omega)
        have e29 : T 29 = undef := hF 11 _ rfl (by omega)
        have e30 : T 30 = undef := hF 12 _ rfl (by omega)
        have e31 : T 31 = undef := hF 13 _ rfl (by omega)
        have e32 : T 32 = undef := hF 14 _ rfl (by omega)
        have e33 : T 33 = undef := hF 15 _ rfl (by omega)
        have e34 : T 34 = .bool true := hF 16 _ rfl (by omega)
        have e35 : T 35 = .bool true := hF 17 _ rfl (by omega)
        have e36 : T 36 = undef := hF 18 _ rfl (by omega)
        have e37 : T 37 = undef := hF 19 _ rfl (by omega)
        have e38 : T 38 = undef := hF 20 _ rfl (by omega)
        have e39 : T 39 = undef := hF 21 _ rfl (by omega)
        have e40 : T 40 = .bool true := hF 22 _ rfl (by omega)
        have e41 : T 41 = .bool true := hF 23 _ rfl (by omega)
        have e42 : T 42 = undef := hF 24 _ rfl (by omega)
        have e43 : T 43 = undef := hF 25 _ rfl (by omega)
        have e44 : T 44 = undef := hF 26 _ rfl (by omega)
        have e45 : T 45 = undef := hF 27 _ rfl (by omega)
        have e46 : T 46 = .bool true := hF 28 _ rfl (by omega)
        have e47 : T 47 = .bool true := hF 29 _ rfl (by omega)
        have e48 : T 48 = undef := hF 30 _ rfl (by omega)
        have e49 : T 49 = undef := hF 31 _ rfl (by omega)
        have e50 : T 50 = undef := hF 32 _ rfl (by omega)
        have e51 : T 51 = undef := hF 33 _ rfl (by omega)
        have e52 : T 52 = undef := hF 34 _ rfl (by omega)
        have e53 : T 53 = undef := hF 35 _ rfl (by omega)
        have e54 : T 54 = undef := hF 36 _ rfl (by omega)
        have e55 : T 55 = .bool true := hF 37 _ rfl (by omega)
        clear hF hne hltb
        simp only [List.take, fillT, List.setIfInBounds_toArray, List.set_cons_zero, List.set_cons_succ, e18, e19, e20, e21, e22, e23, e24, e25, e26, e27, e28, e29, e30, e31, e32, e33, e34, e35, e36, e37, e38, e39, e40, e41, e42, e43, e44, e45, e46, e47, e48, e49, e50, e51, e52, e53, e54, e55]
        clear e18 e19 e20 e21 e22 e23 e24 e25 e26 e27 e28 e29 e30 e31 e32 e33 e34 e35 e36 e37 e38 e39 e40 e41 e42 e43 e44 e45 e46 e47 e48 e49 e50 e51 e52 e53 e54 e55
        refine wpAny_done (by kernel_rfl) ?_ _
        have hb3 := Lib.hid (hb2.out.trans (hG.mono hb2.out.size))
        clear hG hN0 hN1 hN2 hN3 hN4 hHd hsl
        go_wp2_with fail
        go_ret
        exact ⟨by rw [hc.out]; rfl, hb3.out⟩
      have g1 : decide (24 ≤ x.node) = false := decide_eq_false (by omega)
      rw [decide_eq_true t1, Bool.true_and] at hok
      rcases Bool.eq_false_or_eq_true (x.node == n0) with t2 | t2
      case inr =>
        have g2 : (x.node != n0) = true := by rw [bne, t2]; rfl
        have hc := Lib.hid (bad.out (by rw [hok, t2]; rfl))
        clear hok heq0 t0 t1 t2
        refine wp_region_pre 38 0 (fun W => Below V.heap.size V W) (fun W W' => Below W.heap.size W W')
          (fun i v W => match i with
            | 0 => v = .pointer (some ⟨XB, 0, none⟩)
            | 1 => v = .int .i64 x.node
            | 2 => v = .bool false
            | 3 => v = .bool false
            | 4 => v = .pointer (some ⟨XB, 0, none⟩)
            | 5 => v = .int .i64 x.node
            | 6 => v = .bool false
            | 7 => v = .bool false
            | 8 => v = .bool false
            | 9 => v = .pointer (some ⟨XB, 0, none⟩)
            | 10 => v = .int .i64 x.node
            | 11 => v = .slice (some ⟨b', off', none⟩) l.length cap
            | 12 => v = .pointer (some ⟨b', off', none⟩)
            | 13 => v = .pointer (some ⟨b', off', none⟩)
            | 14 => v = .int .i64 n0
            | 15 => v = .bool true
            | 16 => v = .bool true
            | 17 => v = .bool true
            | 18 => v = undef
            | 19 => v = undef
            | 20 => v = undef
            | 21 => v = undef
            | 22 => v = .bool true
            | 23 => v = .bool true
            | 24 => v = undef
            | 25 => v = undef
            | 26 => v = undef
            | 27 => v = undef
            | 28 => v = .bool true
            | 29 => v = .bool true
            | 30 => v = undef
            | 31 => v = undef
            | 32 => v = undef
            | 33 => v = undef
            | 34 => v = undef
            | 35 => v = undef
            | 36 => v = undef
            | 37 => v = .bool true
            | _ => True) (fun _ => false)
          (by kernel_rfl) (by kernel_rfl) (by kernel_rfl) (by kernel_rfl) (by kernel_rfl) (by kernel_rfl) (by kernel_rfl) ?_ (fun _ _ h => h.size) (dN (Below.refl _ _) 1) ?_ ?_
        · intro i v W W' hb hF
          match i, hF with
          | 0, h => exact h
          | 1, h => exact h
          | 2, h => exact h
          | 3, h => exact h
          | 4, h => exact h
          | 5, h => exact h
          | 6, h => exact h
          | 7, h => exact h
          | 8, h => exact h
          | 9, h => exact h
          | 10, h => exact h
          | 11, h => exact h
          | 12, h => exact h
          | 13, h => exact h
          | 14, h => exact h
          | 15, h => exact h
          | 16, h => exact h
          | 17, h => exact h
          | 18, h => exact h
          | 19, h => exact h
          | 20, h => exact h
          | 21, h => exact h
          | 22, h => exact h
          | 23, h => exact h
          | 24, h => exact h
          | 25, h => exact h
          | 26, h => exact h
          | 27, h => exact h
          | 28, h => exact h
          | 29, h => exact h
          | 30, h => exact h
          | 31, h => exact h
          | 32, h => exact h
          | 33, h => exact h
          | 34, h => exact h
          | 35, h => exact h
          | 36, h => exact h
          | 37, h => exact h
          | _ + 38, _ => trivial
        · refine ⟨?_, ?_, ?_, ?_, ?_, ?_, ?_, ?_, ?_, ?_, ?_, ?_, ?_, ?_, ?_, ?_, ?_, ?_, ?_, ?_, ?_, ?_, ?_, ?_, ?_, ?_, ?_, ?_, ?_, ?_, ?_, ?_, ?_, ?_, ?_, ?_, ?_, ?_, trivial⟩
          · refine stepJ_any rfl fun ac W hAA hG hDD K hK => ?_
            have h4 := hAA.getD (t := 4) (by kernel_rfl)
            simp only [Array.getD_eq_getD_getElem?] at h4
            rw [if_pos (by rfl)]
            exact wp_val (v := .pointer (some ⟨XB, 0, none⟩)) (w' := W) (by simp [execOp, Act.eval, h4, go_sem]) (hK _ _ hG (Below.refl _ _) rfl (fun h => by cases h))
          · refine stepJ_any rfl fun ac W hAA hG hDD K hK => ?_
            have h18 := hDD.get 0 18 _ rfl rfl (by kernel_rfl)
            simp only [Array.getD_eq_getD_getElem?] at h18
            have m0 := hN0.out W hG
            rw [if_pos (by rfl)]
            exact wp_val (v := .int .i64 x.node) (w' := W) (by simp [execOp, Act.eval, h18, go_sem, m0]) (hK _ _ hG (Below.refl _ _) rfl (fun h => by cases h))
          · refine stepJ_any rfl fun ac W hAA hG hDD K hK => ?_
            have h19 := hDD.get 1 19 _ rfl rfl (by kernel_rfl)
            simp only [Array.getD_eq_getD_getElem?] at h19
            rw [if_pos (by rfl)]
            exact wp_val (v := .bool false) (w' := W) (by simp [execOp, Act.eval, h19, go_sem, g0]) (hK _ _ hG (Below.refl _ _) rfl (fun h => by cases h))
          · refine stepJ_any rfl fun ac W hAA hG hDD K hK => ?_
            have h20 := hDD.get 2 20 _ rfl rfl (by kernel_rfl)
            simp only [Array.getD_eq_getD_getElem?] at h20
            rw [if_pos (by rfl)]
            exact wp_val (v := .bool false) (w' := W) (by simp [execOp, Act.eval, h20, go_sem]) (hK _ _ hG (Below.refl _ _) rfl (fun h => by cases h))
          · refine stepJ_any rfl fun ac W hAA hG hDD K hK => ?_
            have h4 := hAA.getD (t := 4) (by kernel_rfl)
            have hgd := hDD.get 3 21 _ rfl rfl (by kernel_rfl)
            have hgd := slot_bool hgd
            simp only [Array.getD_eq_getD_getElem?] at h4
            rw [if_pos (by simp [Region.wanted, yielded, hgd])]
            exact wp_val (v := .pointer (some ⟨XB, 0, none⟩)) (w' := W) (by simp [execOp, Act.eval, h4, go_sem]) (hK _ _ hG (Below.refl _ _) rfl (fun h => by cases h))
          · refine stepJ_any rfl fun ac W hAA hG hDD K hK => ?_
            have h22 := hDD.get 4 22 _ rfl rfl (by kernel_rfl)
            have hgd := hDD.get 3 21 _ rfl rfl (by kernel_rfl)
            have hgd := slot_bool hgd
            simp only [Array.getD_eq_getD_getElem?] at h22
            have m0 := hN0.out W hG
            rw [if_pos (by simp [Region.wanted, yielded, hgd])]
            exact wp_val (v := .int .i64 x.node) (w' := W) (by simp [execOp, Act.eval, h22, go_sem, m0]) (hK _ _ hG (Below.refl _ _) rfl (fun h => by cases h))
          · refine stepJ_any rfl fun ac W hAA hG hDD K hK => ?_
            have h23 := hDD.get 5 23 _ rfl rfl (by kernel_rfl)
            have hgd := hDD.get 3 21 _ rfl rfl (by kernel_rfl)
            have hgd := slot_bool hgd
            simp only [Array.getD_eq_getD_getElem?] at h23
            rw [if_pos (by simp [Region.wanted, yielded, hgd])]
            exact wp_val (v := .bool false) (w' := W) (by simp [execOp, Act.eval, h23, go_sem, g1]) (hK _ _ hG (Below.refl _ _) rfl (fun h => by cases h))
          · refine stepJ_any rfl fun ac W hAA hG hDD K hK => ?_
            have h21 := hDD.get 3 21 _ rfl rfl (by kernel_rfl)
            have h24 := hDD.get 6 24 _ rfl rfl (by kernel_rfl)
            simp only [Array.getD_eq_getD_getElem?] at h21 h24
            rw [if_pos (by rfl)]
            exact wp_val (v := .bool false) (w' := W) (by simp [execOp, Act.eval, h21, h24, go_sem]) (hK _ _ hG (Below.refl _ _) rfl (fun h => by cases h))
          · refine stepJ_any rfl fun ac W hAA hG hDD K hK => ?_
            have h25 := hDD.get 7 25 _ rfl rfl (by kernel_rfl)
            simp only [Array.getD_eq_getD_getElem?] at h25
            rw [if_pos (by rfl)]
            exact wp_val (v := .bool false) (w' := W) (by simp [execOp, Act.eval, h25, go_sem]) (hK _ _ hG (Below.refl _ _) rfl (fun h => by cases h))
          · refine stepJ_any rfl fun ac W hAA hG hDD K hK => ?_
            have h4 := hAA.getD (t := 4) (by kernel_rfl)
            have hgd := hDD.get 8 26 _ rfl rfl (by kernel_rfl)
            have hgd := slot_bool hgd
            simp only [Array.getD_eq_getD_getElem?] at h4
            rw [if_pos (by simp [Region.wanted, yielded, hgd])]
            exact wp_val (v := .pointer (some ⟨XB, 0, none⟩)) (w' := W) (by simp [execOp, Act.eval, h4, go_sem]) (hK _ _ hG (Below.refl _ _) rfl (fun h => by cases h))
          · refine stepJ_any rfl fun ac W hAA hG hDD K hK => ?_
            have h27 := hDD.get 9 27 _ rfl rfl (by kernel_rfl)
            have hgd := hDD.get 8 26 _ rfl rfl (by kernel_rfl)
            have hgd := slot_bool hgd
            simp only [Array.getD_eq_getD_getElem?] at h27
            have m0 := hN0.out W hG
            rw [if_pos (by simp [Region.wanted, yielded, hgd])]
            exact wp_val (v := .int .i64 x.node) (w' := W) (by simp [execOp, Act.eval, h27, go_sem, m0]) (hK _ _ hG (Below.refl _ _) rfl (fun h => by cases h))
          · refine stepJ_any rfl fun ac W hAA hG hDD K hK => ?_
            have h0 := hAA.getD (t := 0) (by kernel_rfl)
            have hgd := hDD.get 8 26 _ rfl rfl (by kernel_rfl)
            have hgd := slot_bool hgd
            simp only [Array.getD_eq_getD_getElem?] at h0
            rw [if_pos (by simp [Region.wanted, yielded, hgd])]
            exact wp_val (v := .slice (some ⟨b', off', none⟩) l.length cap) (w' := W) (by simp [execOp, Act.eval, h0, go_sem]) (hK _ _ hG (Below.refl _ _) rfl (fun h => by cases h))
          · refine stepJ_any rfl fun ac W hAA hG hDD K hK => ?_
            have h29 := hDD.get 11 29 _ rfl rfl (by kernel_rfl)
            have hgd := hDD.get 8 26 _ rfl rfl (by kernel_rfl)
            have hgd := slot_bool hgd
            simp only [Array.getD_eq_getD_getElem?] at h29
            rw [if_pos (by simp [Region.wanted, yielded, hgd])]
            exact wp_val (v := .pointer (some ⟨b', off', none⟩)) (w' := W) (by simp [execOp, Act.eval, h29, go_sem, hL0, hLn]) (hK _ _ hG (Below.refl _ _) rfl (fun h => by cases h))
          · refine stepJ_any rfl fun ac W hAA hG hDD K hK => ?_
            have h30 := hDD.get 12 30 _ rfl rfl (by kernel_rfl)
            have hgd := hDD.get 8 26 _ rfl rfl (by kernel_rfl)
            have hgd := slot_bool hgd
            simp only [Array.getD_eq_getD_getElem?] at h30
            rw [if_pos (by simp [Region.wanted, yielded, hgd])]
            exact wp_val (v := .pointer (some ⟨b', off', none⟩)) (w' := W) (by simp [execOp, Act.eval, h30, go_sem]) (hK _ _ hG (Below.refl _ _) rfl (fun h => by cases h))
          · refine stepJ_any rfl fun ac W hAA hG hDD K hK => ?_
            have h31 := hDD.get 13 31 _ rfl rfl (by kernel_rfl)
            have hgd := hDD.get 8 26 _ rfl rfl (by kernel_rfl)
            have hgd := slot_bool hgd
            simp only [Array.getD_eq_getD_getElem?] at h31
            have m4 := hN4.out W hG
            rw [if_pos (by simp [Region.wanted, yielded, hgd])]
            exact wp_val (v := .int .i64 n0) (w' := W) (by simp [execOp, Act.eval, h31, go_sem, m4]) (hK _ _ hG (Below.refl _ _) rfl (fun h => by cases h))
          · refine stepJ_any rfl fun ac W hAA hG hDD K hK => ?_
            have h28 := hDD.get 10 28 _ rfl rfl (by kernel_rfl)
            have h32 := hDD.get 14 32 _ rfl rfl (by kernel_rfl)
            have hgd := hDD.get 8 26 _ rfl rfl (by kernel_rfl)
            have hgd := slot_bool hgd
            simp only [Array.getD_eq_getD_getElem?] at h28 h32
            rw [if_pos (by simp [Region.wanted, yielded, hgd])]
            exact wp_val (v := .bool true) (w' := W) (by simp [execOp, Act.eval, h28, h32, go_sem, g2]) (hK _ _ hG (Below.refl _ _) rfl (fun h => by cases h))
          · refine stepJ_any rfl fun ac W hAA hG hDD K hK => ?_
            have h26 := hDD.get 8 26 _ rfl rfl (by kernel_rfl)
            have h33 := hDD.get 15 33 _ rfl rfl (by kernel_rfl)
            simp only [Array.getD_eq_getD_getElem?] at h26 h33
            rw [if_pos (by rfl)]
            exact wp_val (v := .bool true) (w' := W) (by simp [execOp, Act.eval, h26, h33, go_sem]) (hK _ _ hG (Below.refl _ _) rfl (fun h => by cases h))
          · refine stepJ_any rfl fun ac W hAA hG hDD K hK => ?_
            have h34 := hDD.get 16 34 _ rfl rfl (by kernel_rfl)
            simp only [Array.getD_eq_getD_getElem?] at h34
            rw [if_pos (by rfl)]
            exact wp_val (v := .bool true) (w' := W) (by simp [execOp, Act.eval, h34, go_sem]) (hK _ _ hG (Below.refl _ _) rfl (fun h => by cases h))
          · refine stepJ_any rfl fun ac W hAA hG hDD K hK => ?_
            have hgd := hDD.get 17 35 _ rfl rfl (by kernel_rfl)
            have hgd := slot_bool hgd
            rw [if_neg (by simp [Region.wanted, yielded, hgd])]
            exact hK undef W hG (Below.refl _ _) rfl (fun h => by cases h)
          · refine stepJ_any rfl fun ac W hAA hG hDD K hK => ?_
            have hgd := hDD.get 17 35 _ rfl rfl (by kernel_rfl)
            have hgd := slot_bool hgd
            rw [if_neg (by simp [Region.wanted, yielded, hgd])]
            exact hK undef W hG (Below.refl _ _) rfl (fun h => by cases h)
          · refine stepJ_any rfl fun ac W hAA hG hDD K hK => ?_
            have hgd := hDD.get 17 35 _ rfl rfl (by kernel_rfl)
            have hgd := slot_bool hgd
            rw [if_neg (by simp [Region.wanted, yielded, hgd])]
            exact hK undef W hG (Below.refl _ _) rfl (fun h => by cases h)
          · refine stepJ_any rfl fun ac W hAA hG hDD K hK => ?_
            have hgd := hDD.get 17 35 _ rfl rfl (by kernel_rfl)
            have hgd := slot_bool hgd
            rw [if_neg (by simp [Region.wanted, yielded, hgd])]
            exact hK undef W hG (Below.refl _ _) rfl (fun h => by cases h)
          · refine stepJ_any rfl fun ac W hAA hG hDD K hK => ?_
            have h35 := hDD.get 17 35 _ rfl rfl (by kernel_rfl)
            have h39 := hDD.get 21 39 _ rfl rfl (by kernel_rfl)
            simp only [Array.getD_eq_getD_getElem?] at h35 h39
            rw [if_pos (by rfl)]
            exact wp_val (v := .bool true) (w' := W) (by simp [execOp, Act.eval, h35, h39, go_sem]) (hK _ _ hG (Below.refl _ _) rfl (fun h => by cases h))
          · refine stepJ_any rfl fun ac W hAA hG hDD K hK => ?_
            have h40 := hDD.get 22 40 _ rfl rfl (by kernel_rfl)
            simp only [Array.getD_eq_getD_getElem?] at h40
            rw [if_pos (by rfl)]
            exact wp_val (v := .bool true) (w' := W) (by simp [execOp, Act.eval, h40, go_sem]) (hK _ _ hG (Below.refl _ _) rfl (fun h => by cases h))
          · refine stepJ_any rfl fun ac W hAA hG hDD K hK => ?_
            have hgd := hDD.get 23 41 _ rfl rfl (by kernel_rfl)
            have hgd := slot_bool hgd
            rw [if_neg (by simp [Region.wanted, yielded, hgd])]
            exact hK undef W hG (Below.refl _ _) rfl (fun h => by cases h)
          · refine stepJ_any rfl fun ac W hAA hG hDD K hK => ?_
            have hgd := hDD.get 23 41 _ rfl rfl (by kernel_rfl)
            have hgd := slot_bool hgd
            rw [if_neg (by simp [Region.wanted, yielded, hgd])]
            exact hK undef W hG (Below.refl _ _) rfl (fun h => by cases h)
          · refine stepJ_any rfl fun ac W hAA hG hDD K hK => ?_
            have hgd := hDD.get 23 41 _ rfl rfl (by kernel_rfl)
            have hgd := slot_bool hgd
            rw [if_neg (by simp [Region.wanted, yielded, hgd])]
            exact hK undef W hG (Below.refl _ _) rfl (fun h => by cases h)
          · refine stepJ_any rfl fun ac W hAA hG hDD K hK => ?_
            have hgd := hDD.get 23 41 _ rfl rfl (by kernel_rfl)
            have hgd := slot_bool hgd
            rw [if_neg (by simp [Region.wanted, yielded, hgd])]
            exact hK undef W hG (Below.refl _ _) rfl (fun h => by cases h)
          · refine stepJ_any rfl fun ac W hAA hG hDD K hK => ?_
            have h41 := hDD.get 23 41 _ rfl rfl (by kernel_rfl)
            have h45 := hDD.get 27 45 _ rfl rfl (by kernel_rfl)
            simp only [Array.getD_eq_getD_getElem?] at h41 h45
            rw [if_pos (by rfl)]
            exact wp_val (v := .bool true) (w' := W) (by simp [execOp, Act.eval, h41, h45, go_sem]) (hK _ _ hG (Below.refl _ _) rfl (fun h => by cases h))
          · refine stepJ_any rfl fun ac W hAA hG hDD K hK => ?_
            have h46 := hDD.get 28 46 _ rfl rfl (by kernel_rfl)
            simp only [Array.getD_eq_getD_getElem?] at h46
            rw [if_pos (by rfl)]
            exact wp_val (v := .bool true) (w' := W) (by simp [execOp, Act.eval, h46, go_sem]) (hK _ _ hG (Below.refl _ _) rfl (fun h => by cases h))
          · refine stepJ_any rfl fun ac W hAA hG hDD K hK => ?_
            have hgd := hDD.get 29 47 _ rfl rfl (by kernel_rfl)
            have hgd := slot_bool hgd
            rw [if_neg (by simp [Region.wanted, yielded, hgd])]
            exact hK undef W hG (Below.refl _ _) rfl (fun h => by cases h)
          · refine stepJ_any rfl fun ac W hAA hG hDD K hK => ?_
            have hgd := hDD.get 29 47 _ rfl rfl (by kernel_rfl)
            have hgd := slot_bool hgd
            rw [if_neg (by simp [Region.wanted, yielded, hgd])]
            exact hK undef W hG (Below.refl _ _) rfl (fun h => by cases h)
          · refine stepJ_any rfl fun ac W hAA hG hDD K hK => ?_
            have hgd := hDD.get 29 47 _ rfl rfl (by kernel_rfl)
            have hgd := slot_bool hgd
            rw [if_neg (by simp [Region.wanted, yielded, hgd])]
            exact hK undef W hG (Below.refl _ _) rfl (fun h => by cases h)
          · refine stepJ_any rfl fun ac W hAA hG hDD K hK => ?_
            have hgd := hDD.get 29 47 _ rfl rfl (by kernel_rfl)
            have hgd := slot_bool hgd
            rw [if_neg (by simp [Region.wanted, yielded, hgd])]
            exact hK undef W hG (Below.refl _ _) rfl (fun h => by cases h)
          · refine stepJ_any rfl fun ac W hAA hG hDD K hK => ?_
            have hgd := hDD.get 29 47 _ rfl rfl (by kernel_rfl)
            have hgd := slot_bool hgd
            rw [if_neg (by simp [Region.wanted, yielded, hgd])]
            exact hK undef W hG (Below.refl _ _) rfl (fun h => by cases h)
          · refine stepJ_any rfl fun ac W hAA hG hDD K hK => ?_
            have hgd := hDD.get 29 47 _ rfl rfl (by kernel_rfl)
            have hgd := slot_bool hgd
            rw [if_neg (by simp [Region.wanted, yielded, hgd])]
            exact hK undef W hG (Below.refl _ _) rfl (fun h => by cases h)
          · refine stepJ_any rfl fun ac W hAA hG hDD K hK => ?_
            have hgd := hDD.get 29 47 _ rfl rfl (by kernel_rfl)
            have hgd := slot_bool hgd
            rw [if_neg (by simp [Region.wanted, yielded, hgd])]
            exact hK undef W hG (Below.refl _ _) rfl (fun h => by cases h)
          · refine stepJ_any rfl fun ac W hAA hG hDD K hK => ?_
            have h47 := hDD.get 29 47 _ rfl rfl (by kernel_rfl)
            have h54 := hDD.get 36 54 _ rfl rfl (by kernel_rfl)
            simp only [Array.getD_eq_getD_getElem?] at h47 h54
            rw [if_pos (by rfl)]
            exact wp_val (v := .bool true) (w' := W) (by simp [execOp, Act.eval, h47, h54, go_sem]) (hK _ _ hG (Below.refl _ _) rfl (fun h => by cases h))
        intro fu T W9 hG hF hne hltb
        have e18 : T 18 = .pointer (some ⟨XB, 0, none⟩) := hF 0 _ rfl (by omega)
        have e19 : T 19 = .int .i64 x.node := hF 1 _ rfl (by omega)
        have e20 : T 20 = .bool false := hF 2 _ rfl (by omega)
        have e21 : T 21 = .bool false := hF 3 _ rfl (by omega)
        have e22 : T 22 = .pointer (some ⟨XB, 0, none⟩) := hF 4 _ rfl (by omega)
        have e23 : T 23 = .int .i64 x.node := hF 5 _ rfl (by omega)
        have e24 : T 24 = .bool false := hF 6 _ rfl (by omega)
        have e25 : T 25 = .bool false := hF 7 _ rfl (by omega)
        have e26 : T 26 = .bool false := hF 8 _ rfl (by omega)
        have e27 : T 27 = .pointer (some ⟨XB, 0, none⟩) := hF 9 _ rfl (by omega)
        have e28 : T 28 = .int .i64 x.node := hF 10 _ rfl (by omega)
        have e29 : T 29 = .slice (some ⟨b', off', none⟩) l.length cap := hF 11 _ rfl (by omega)
        have e30 : T 30 = .pointer (some ⟨b', off', none⟩) := hF 12 _ rfl (by omega)
        have e31 : T 31 = .pointer (some ⟨b', off', none⟩) := hF 13 _ rfl (by omega)
        have e32 : T 32 = .int .i64 n0 := hF 14 _ rfl (by omega)
        have e33 : T 33 = .bool true := hF 15 _ rfl (by omega)
        have e34 : T 34 = .bool true := hF 16 _ rfl (by omega)
        have e35 : T 35 = .bool true := hF 17 _ rfl (by omega)
        have e36 : T 36 = undef := hF 18 _ rfl (by omega)
        have e37 : T 37 = undef := hF 19 _ rfl (by omega)
        have e38 : T 38 = undef := hF 20 _ rfl (by omega)
        have e39 : T 39 = undef := hF 21 _ rfl (by omega)
        have e40 : T 40 = .bool true := hF 22 _ rfl (by omega)
        have e41 : T 41 = .bool true := hF 23 _ rfl (by omega)
        have e42 : T 42 = undef := hF 24 _ rfl (by omega)
        have e43 : T 43 = undef := hF 25 _ rfl (by omega)
        have e44 : T 44 = undef := hF 26 _ rfl (by omega)
        have e45 : T 45 = undef := hF 27 _ rfl (by omega)
        have e46 : T 46 = .bool true := hF 28 _ rfl (by omega)
        have e47 : T 47 = .bool true := hF 29 _ rfl (by omega)
        have e48 : T 48 = undef := hF 30 _ rfl (by omega)
        have e49 : T 49 = undef := hF 31 _ rfl (by omega)
        have e50 : T 50 = undef := hF 32 _ rfl (by omega)
        have e51 : T 51 = undef := hF 33 _ rfl (by omega)
        have e52 : T 52 = undef := hF 34 _ rfl (by omega)
        have e53 : T 53 = undef := hF 35 _ rfl (by omega)
        have e54 : T 54 = undef := hF 36 _ rfl (by omega)
        have e55 : T 55 = .bool true := hF 37 _ rfl (by omega)
        clear hF hne hltb
        simp only [List.take, fillT, List.setIfInBounds_toArray, List.set_cons_zero, List.set_cons_succ, e18, e19, e20, e21, e22, e23, e24, e25, e26, e27, e28, e29, e30, e31, e32, e33, e34, e35, e36, e37, e38, e39, e40, e41, e42, e43, e44, e45, e46, e47, e48, e49, e50, e51, e52, e53, e54, e55]
        clear e18 e19 e20 e21 e22 e23 e24 e25 e26 e27 e28 e29 e30 e31 e32 e33 e34 e35 e36 e37 e38 e39 e40 e41 e42 e43 e44 e45 e46 e47 e48 e49 e50 e51 e52 e53 e54 e55
        refine wpAny_done (by kernel_rfl) ?_ _
        have hb3 := Lib.hid (hb2.out.trans (hG.mono hb2.out.size))
        clear hG hN0 hN1 hN2 hN3 hN4 hHd hsl
        go_wp2_with fail
        go_ret
        exact ⟨by rw [hc.out]; rfl, hb3.out⟩
      have g2 : (x.node != n0) = false := by rw [bne, t2]; rfl
      rw [t2, Bool.true_and] at hok
      rcases Bool.eq_false_or_eq_true (x.no == (k : Int)) with t3 | t3
      case inr =>
        have g3 : (x.no != (k : Int)) = true := by rw [bne, t3]; rfl
        have hc := Lib.hid (bad.out (by rw [hok, t3]; rfl))
        clear hok heq0 t0 t1 t2 t3
        refine wp_region_pre 38 0 (fun W => Below V.heap.size V W) (fun W W' => Below W.heap.size W W')
          (fun i v W => match i with
            | 0 => v = .pointer (some ⟨XB, 0, none⟩)
            | 1 => v = .int .i64 x.node
            | 2 => v = .bool false
            | 3 => v = .bool false
            | 4 => v = .pointer (some ⟨XB, 0, none⟩)
            | 5 => v = .int .i64 x.node
            | 6 => v = .bool false
            | 7 => v = .bool false
            | 8 => v = .bool false
            | 9 => v = .pointer (some ⟨XB, 0, none⟩)
            | 10 => v = .int .i64 x.node
            | 11 => v = .slice (some ⟨b', off', none⟩) l.length cap
            | 12 => v = .pointer (some ⟨b', off', none⟩)
            | 13 => v = .pointer (some ⟨b', off', none⟩)
            | 14 => v = .int .i64 n0
            | 15 => v = .bool false
            | 16 => v = .bool false
            | 17 => v = .bool false
            | 18 => v = .pointer (some ⟨XB, 1, none⟩)
            | 19 => v = .int .i64 x.no
            | 20 => v = .int .i64 (k : Int)
            | 21 => v = .bool true
            | 22 => v = .bool true
            | 23 => v = .bool true
            | 24 => v = undef
            | 25 => v = undef
            | 26 => v = undef
            | 27 => v = undef
            | 28 => v = .bool true
            | 29 => v = .bool true
            | 30 => v = undef
            | 31 => v = undef
            | 32 => v = undef
            | 33 => v = undef
            | 34 => v = undef
            | 35 => v = undef
            | 36 => v = undef
            | 37 => v = .bool true
            | _ => True) (fun _ => false)
          (by kernel_rfl) (by kernel_rfl) (by kernel_rfl) (by kernel_rfl) (by kernel_rfl) (by kernel_rfl) (by kernel_rfl) ?_ (fun _ _ h => h.size) (dN (Below.refl _ _) 1) ?_ ?_
        · intro i v W W' hb hF
          match i, hF with
          | 0, h => exact h
          | 1, h => exact h
          | 2, h => exact h
          | 3, h => exact h
          | 4, h => exact h
          | 5, h => exact h
          | 6, h => exact h
          | 7, h => exact h
          | 8, h => exact h
          | 9, h => exact h
          | 10, h => exact h
          | 11, h => exact h
          | 12, h => exact h
          | 13, h => exact h
          | 14, h => exact h
          | 15, h => exact h
          | 16, h => exact h
          | 17, h => exact h
          | 18, h => exact h
          | 19, h => exact h
          | 20, h => exact h
          | 21, h => exact h
          | 22, h => exact h
          | 23, h => exact h
          | 24, h => exact h
          | 25, h => exact h
          | 26, h => exact h
          | 27, h => exact h
          | 28, h => exact h
          | 29, h => exact h
          | 30, h => exact h
          | 31, h => exact h
          | 32, h => exact h
          | 33, h => exact h
          | 34, h => exact h
          | 35, h => exact h
          | 36, h => exact h
          | 37, h => exact h
          | _ + 38, _ => trivial
        · refine ⟨?_, ?_, ?_, ?_, ?_, ?_, ?_, ?_, ?_, ?_, ?_, ?_, ?_, ?_, ?_, ?_, ?_, ?_, ?_, ?_, ?_, ?_, ?_, ?_, ?_, ?_, ?_, ?_, ?_, ?_, ?_, ?_, ?_, ?_, ?_, ?_, ?_, ?_, trivial⟩
          · refine stepJ_any rfl fun ac W hAA hG hDD K hK => ?_
            have h4 := hAA.getD (t := 4) (by kernel_rfl)
            simp only [Array.getD_eq_getD_getElem?] at h4
            rw [if_pos (by rfl)]
            exact wp_val (v := .pointer (some ⟨XB, 0, none⟩)) (w' := W) (by simp [execOp, Act.eval, h4, go_sem]) (hK _ _ hG (Below.refl _ _) rfl (fun h => by cases h))
          · refine stepJ_any rfl fun ac W hAA hG hDD K hK => ?_
            have h18 := hDD.get 0 18 _ rfl rfl (by kernel_rfl)
            simp only [Array.getD_eq_getD_getElem?] at h18
            have m0 := hN0.out W hG
            rw [if_pos (by rfl)]
            exact wp_val (v := .int .i64 x.node) (w' := W) (by simp [execOp, Act.eval, h18, go_sem, m0]) (hK _ _ hG (Below.refl _ _) rfl (fun h => by cases h))
          · refine stepJ_any rfl fun ac W hAA hG hDD K hK => ?_
            have h19 := hDD.get 1 19 _ rfl rfl (by kernel_rfl)
            simp only [Array.getD_eq_getD_getElem?] at h19
            rw [if_pos (by rfl)]
            exact wp_val (v := .bool false) (w' := W) (by simp [execOp, Act.eval, h19, go_sem, g0]) (hK _ _ hG (Below.refl _ _) rfl (fun h => by cases h))
          · refine stepJ_any rfl fun ac W hAA hG hDD K hK => ?_
            have h20 := hDD.get 2 20 _ rfl rfl (by kernel_rfl)
            simp only [Array.getD_eq_getD_getElem?] at h20
            rw [if_pos (by rfl)]
            exact wp_val (v := .bool false) (w' := W) (by simp [execOp, Act.eval, h20, go_sem]) (hK _ _ hG (Below.refl _ _) rfl (fun h => by cases h))
          · refine stepJ_any rfl fun ac W hAA hG hDD K hK => ?_
            have h4 := hAA.getD (t := 4) (by kernel_rfl)
            have hgd := hDD.get 3 21 _ rfl rfl (by kernel_rfl)
            have hgd := slot_bool hgd
            simp only [Array.getD_eq_getD_getElem?] at h4
            rw [if_pos (by simp [Region.wanted, yielded, hgd])]
            exact wp_val (v := .pointer (some ⟨XB, 0, none⟩)) (w' := W) (by simp [execOp, Act.eval, h4, go_sem]) (hK _ _ hG (Below.refl _ _) rfl (fun h => by cases h))
          · refine stepJ_any rfl fun ac W hAA hG hDD K hK => ?_
            have h22 := hDD.get 4 22 _ rfl rfl (by kernel_rfl)
            have hgd := hDD.get 3 21 _ rfl rfl (by kernel_rfl)
            have hgd := slot_bool hgd
            simp only [Array.getD_eq_getD_getElem?] at h22
            have m0 := hN0.out W hG
            rw [if_pos (by simp [Region.wanted, yielded, hgd])]
            exact wp_val (v := .int .i64 x.node) (w' := W) (by simp [execOp, Act.eval, h22, go_sem, m0]) (hK _ _ hG (Below.refl _ _) rfl (fun h => by cases h))
          · refine stepJ_any rfl fun ac W hAA hG hDD K hK => ?_
            have h23 := hDD.get 5 23 _ rfl rfl (by kernel_rfl)
            have hgd := hDD.get 3 21 _ rfl rfl (by kernel_rfl)
            have hgd := slot_bool hgd
            simp only [Array.getD_eq_getD_getElem?] at h23
            rw [if_pos (by simp [Region.wanted, yielded, hgd])]
            exact wp_val (v := .bool false) (w' := W) (by simp [execOp, Act.eval, h23, go_sem, g1]) (hK _ _ hG (Below.refl _ _) rfl (fun h => by cases h))
          · refine stepJ_any rfl fun ac W hAA hG hDD K hK => ?_
            have h21 := hDD.get 3 21 _ rfl rfl (by kernel_rfl)
            have h24 := hDD.get 6 24 _ rfl rfl (by kernel_rfl)
            simp only [Array.getD_eq_getD_getElem?] at h21 h24
            rw [if_pos (by rfl)]
            exact wp_val (v := .bool false) (w' := W) (by simp [execOp, Act.eval, h21, h24, go_sem]) (hK _ _ hG (Below.refl _ _) rfl (fun h => by cases h))
          · refine stepJ_any rfl fun ac W hAA hG hDD K hK => ?_
            have h25 := hDD.get 7 25 _ rfl rfl (by kernel_rfl)
            simp only [Array.getD_eq_getD_getElem?] at h25
            rw [if_pos (by rfl)]
            exact wp_val (v := .bool false) (w' := W) (by simp [execOp, Act.eval, h25, go_sem]) (hK _ _ hG (Below.refl _ _) rfl (fun h => by cases h))
          · refine stepJ_any rfl fun ac W hAA hG hDD K hK => ?_
            have h4 := hAA.getD (t := 4) (by kernel_rfl)
            have hgd := hDD.get 8 26 _ rfl rfl (by kernel_rfl)
            have hgd := slot_bool hgd
            simp only [Array.getD_eq_getD_getElem?] at h4
            rw [if_pos (by simp [Region.wanted, yielded, hgd])]
            exact wp_val (v := .pointer (some ⟨XB, 0, none⟩)) (w' := W) (by simp [execOp, Act.eval, h4, go_sem]) (hK _ _ hG (Below.refl _ _) rfl (fun h => by cases h))
          · refine stepJ_any rfl fun ac W hAA hG hDD K hK => ?_
            have h27 := hDD.get 9 27 _ rfl rfl (by kernel_rfl)
            have hgd := hDD.get 8 26 _ rfl rfl (by kernel_rfl)
            have hgd := slot_bool hgd
            simp only [Array.getD_eq_getD_getElem?] at h27
            have m0 := hN0.out W hG
            rw [if_pos (by simp [Region.wanted, yielded, hgd])]
            exact wp_val (v := .int .i64 x.node) (w' := W) (by simp [execOp, Act.eval, h27, go_sem, m0]) (hK _ _ hG (Below.refl _ _) rfl (fun h => by cases h))
          · refine stepJ_any rfl fun ac W hAA hG hDD K hK => ?_
            have h0 := hAA.getD (t := 0) (by kernel_rfl)
            have hgd := hDD.get 8 26 _ rfl rfl (by kernel_rfl)
            have hgd := slot_bool hgd
            simp only [Array.getD_eq_getD_getElem?] at h0
            rw [if_pos (by simp [Region.wanted, yielded, hgd])]
            exact wp_val (v := .slice (some ⟨b', off', none⟩) l.length cap) (w' := W) (by simp [execOp, Act.eval, h0, go_sem]) (hK _ _ hG (Below.refl _ _) rfl (fun h => by cases h))
          · refine stepJ_any rfl fun ac W hAA hG hDD K hK => ?_
            have h29 := hDD.get 11 29 _ rfl rfl (by kernel_rfl)
            have hgd := hDD.get 8 26 _ rfl rfl (by kernel_rfl)
            have hgd := slot_bool hgd
            simp only [Array.getD_eq_getD_getElem?] at h29
            rw [if_pos (by simp [Region.wanted, yielded, hgd])]
            exact wp_val (v := .pointer (some ⟨b', off', none⟩)) (w' := W) (by simp [execOp, Act.eval, h29, go_sem, hL0, hLn]) (hK _ _ hG (Below.refl _ _) rfl (fun h => by cases h))
          · refine stepJ_any rfl fun ac W hAA hG hDD K hK => ?_
            have h30 := hDD.get 12 30 _ rfl rfl (by kernel_rfl)
            have hgd := hDD.get 8 26 _ rfl rfl (by kernel_rfl)
            have hgd := slot_bool hgd
            simp only [Array.getD_eq_getD_getElem?] at h30
            rw [if_pos (by simp [Region.wanted, yielded, hgd])]
            exact wp_val (v := .pointer (some ⟨b', off', none⟩)) (w' := W) (by simp [execOp, Act.eval, h30, go_sem]) (hK _ _ hG (Below.refl _ _) rfl (fun h => by cases h))
          · refine stepJ_any rfl fun ac W hAA hG hDD K hK => ?_
            have h31 := hDD.get 13 31 _ rfl rfl (by kernel_rfl)
            have hgd := hDD.get 8 26 _ rfl rfl (by kernel_rfl)
            have hgd := slot_bool hgd
            simp only [Array.getD_eq_getD_getElem?] at h31
            have m4 := hN4.out W hG
            rw [if_pos (by simp [Region.wanted, yielded, hgd])]
            exact wp_val (v := .int .i64 n0) (w' := W) (by simp [execOp, Act.eval, h31, go_sem, m4]) (hK _ _ hG (Below.refl _ _) rfl (fun h => by cases h))
          · refine stepJ_any rfl fun ac W hAA hG hDD K hK => ?_
            have h28 := hDD.get 10 28 _ rfl rfl (by kernel_rfl)
            have h32 := hDD.get 14 32 _ rfl rfl (by kernel_rfl)
            have hgd := hDD.get 8 26 _ rfl rfl (by kernel_rfl)
            have hgd := slot_bool hgd
            simp only [Array.getD_eq_getD_getElem?] at h28 h32
            rw [if_pos (by simp [Region.wanted, yielded, hgd])]
            exact wp_val (v := .bool false) (w' := W) (by simp [execOp, Act.eval, h28, h32, go_sem, g2]) (hK _ _ hG (Below.refl _ _) rfl (fun h => by cases h))
          · refine stepJ_any rfl fun ac W hAA hG hDD K hK => ?_
            have h26 := hDD.get 8 26 _ rfl rfl (by kernel_rfl)
            have h33 := hDD.get 15 33 _ rfl rfl (by kernel_rfl)
            simp only [Array.getD_eq_getD_getElem?] at h26 h33
            rw [if_pos (by rfl)]
            exact wp_val (v := .bool false) (w' := W) (by simp [execOp, Act.eval, h26, h33, go_sem]) (hK _ _ hG (Below.refl _ _) rfl (fun h => by cases h))
          · refine stepJ_any rfl fun ac W hAA hG hDD K hK => ?_
            have h34 := hDD.get 16 34 _ rfl rfl (by kernel_rfl)
            simp only [Array.getD_eq_getD_getElem?] at h34
            rw [if_pos (by rfl)]
            exact wp_val (v := .bool false) (w' := W) (by simp [execOp, Act.eval, h34, go_sem]) (hK _ _ hG (Below.refl _ _) rfl (fun h => by cases h))
          · refine stepJ_any rfl fun ac W hAA hG hDD K hK => ?_
            have h4 := hAA.getD (t := 4) (by kernel_rfl)
            have hgd := hDD.get 17 35 _ rfl rfl (by kernel_rfl)
            have hgd := slot_bool hgd
            simp only [Array.getD_eq_getD_getElem?] at h4
            rw [if_pos (by simp [Region.wanted, yielded, hgd])]
            exact wp_val (v := .pointer (some ⟨XB, 1, none⟩)) (w' := W) (by simp [execOp, Act.eval, h4, go_sem]) (hK _ _ hG (Below.refl _ _) rfl (fun h => by cases h))
          · refine stepJ_any rfl fun ac W hAA hG hDD K hK => ?_
            have h36 := hDD.get 18 36 _ rfl rfl (by kernel_rfl)
            have hgd := hDD.get 17 35 _ rfl rfl (by kernel_rfl)
            have hgd := slot_bool hgd
            simp only [Array.getD_eq_getD_getElem?] at h36
            have m1 := hN1.out W hG
            rw [if_pos (by simp [Region.wanted, yielded, hgd])]
            exact wp_val (v := .int .i64 x.no) (w' := W) (by simp [execOp, Act.eval, h36, go_sem, m1]) (hK _ _ hG (Below.refl _ _) rfl (fun h => by cases h))
          · refine stepJ_any rfl fun ac W hAA hG hDD K hK => ?_
            have h3 := hAA.getD (t := 3) (by kernel_rfl)
            have hgd := hDD.get 17 35 _ rfl rfl (by kernel_rfl)
            have hgd := slot_bool hgd
            simp only [Array.getD_eq_getD_getElem?] at h3
            rw [if_pos (by simp [Region.wanted, yielded, hgd])]
            exact wp_val (v := .int .i64 (k : Int)) (w' := W) (by simp [execOp, Act.eval, h3, go_sem]) (hK _ _ hG (Below.refl _ _) rfl (fun h => by cases h))
          · refine stepJ_any rfl fun ac W hAA hG hDD K hK => ?_
            have h37 := hDD.get 19 37 _ rfl rfl (by kernel_rfl)
            have h38 := hDD.get 20 38 _ rfl rfl (by kernel_rfl)
            have hgd := hDD.get 17 35 _ rfl rfl (by kernel_rfl)
            have hgd := slot_bool hgd
            simp only [Array.getD_eq_getD_getElem?] at h37 h38
            rw [if_pos (by simp [Region.wanted, yielded, hgd])]
            exact wp_val (v := .bool true) (w' := W) (by simp [execOp, Act.eval, h37, h38, go_sem, g3]) (hK _ _ hG (Below.refl _ _) rfl (fun h => by cases h))
          · refine stepJ_any rfl fun ac W hAA hG hDD K hK => ?_
            have h35 := hDD.get 17 35 _ rfl rfl (by kernel_rfl)
            have h39 := hDD.get 21 39 _ rfl rfl (by kernel_rfl)
            simp only [Array.getD_eq_getD_getElem?] at h35 h39
            rw [if_pos (by rfl)]
            exact wp_val (v := .bool true) (w' := W) (by simp [execOp, Act.eval, h35, h39, go_sem]) (hK _ _ hG (Below.refl _ _) rfl (fun h => by cases h))
          · refine stepJ_any rfl fun ac W hAA hG hDD K hK => ?_
            have h40 := hDD.get 22 40 _ rfl rfl (by kernel_rfl)
            simp only [Array.getD_eq_getD_getElem?] at h40
            rw [if_pos (by rfl)]
            exact wp_val (v := .bool true) (w' := W) (by simp [execOp, Act.eval, h40, go_sem]) (hK _ _ hG (Below.refl _ _) rfl (fun h => by cases h))
          · refine stepJ_any rfl fun ac W hAA hG hDD K hK => ?_
            have hgd := hDD.get 23 41 _ rfl rfl (by kernel_rfl)
            have hgd := slot_bool hgd
            rw [if_neg (by simp [Region.wanted, yielded, hgd])]
            exact hK undef W hG (Below.refl _ _) rfl (fun h => by cases h)
          · refine stepJ_any rfl fun ac W hAA hG hDD K hK => ?_
            have hgd := hDD.get 23 41 _ rfl rfl (by kernel_rfl)
            have hgd := slot_bool hgd
            rw [if_neg (by simp [Region.wanted, yielded, hgd])]
            exact hK undef W hG (Below.refl _ _) rfl (fun h => by cases h)
          · refine stepJ_any rfl fun ac W hAA hG hDD K hK => ?_
            have hgd := hDD.get 23 41 _ rfl rfl (by kernel_rfl)
            have hgd := slot_bool hgd
            rw [if_neg (by simp [Region.wanted, yielded, hgd])]
            exact hK undef W hG (Below.refl _ _) rfl (fun h => by cases h)
          · refine stepJ_any rfl fun ac W hAA hG hDD K hK => ?_
            have hgd := hDD.get 23 41 _ rfl rfl (by kernel_rfl)
            have hgd := slot_bool hgd
            rw [if_neg (by simp [Region.wanted, yielded, hgd])]
            exact hK undef W hG (Below.refl _ _) rfl (fun h => by cases h)
          · refine stepJ_any rfl fun ac W hAA hG hDD K hK => ?_
            have h41 := hDD.get 23 41 _ rfl rfl (by kernel_rfl)
            have h45 := hDD.get 27 45 _ rfl rfl (by kernel_rfl)
            simp only [Array.getD_eq_getD_getElem?] at h41 h45
            rw [if_pos (by rfl)]
            exact wp_val (v := .bool true) (w' := W) (by simp [execOp, Act.eval, h41, h45, go_sem]) (hK _ _ hG (Below.refl _ _) rfl (fun h => by cases h))
          · refine stepJ_any rfl fun ac W hAA hG hDD K hK => ?_
            have h46 := hDD.get 28 46 _ rfl rfl (by kernel_rfl)
            simp only [Array.getD_eq_getD_getElem?] at h46
            rw [if_pos (by rfl)]
            exact wp_val (v := .bool true) (w' := W) (by simp [execOp, Act.eval, h46, go_sem]) (hK _ _ hG (Below.refl _ _) rfl (fun h => by cases h))
          · refine stepJ_any rfl fun ac W hAA hG hDD K hK => ?_
            have hgd := hDD.get 29 47 _ rfl rfl (by kernel_rfl)
            have hgd := slot_bool hgd
            rw [if_neg (by simp [Region.wanted, yielded, hgd])]
            exact hK undef W hG (Below.refl _ _) rfl (fun h => by cases h)
          · refine stepJ_any rfl fun ac W hAA hG hDD K hK => ?_
            have hgd := hDD.get 29 47 _ rfl rfl (by kernel_rfl)
            have hgd := slot_bool hgd
            rw [if_neg (by simp [Region.wanted, yielded, hgd])]
            exact hK undef W hG (Below.refl _ _) rfl (fun h => by cases h)
          · refine stepJ_any rfl fun ac W hAA hG hDD K hK => ?_
            have hgd := hDD.get 29 47 _ rfl rfl (by kernel_rfl)
            have hgd := slot_bool hgd
            rw [if_neg (by simp [Region.wanted, yielded, hgd])]
            exact hK undef W hG (Below.refl _ _) rfl (fun h => by cases h)
          · refine stepJ_any rfl fun ac W hAA hG hDD K hK => ?_
            have hgd := hDD.get 29 47 _ rfl rfl (by kernel_rfl)
            have hgd := slot_bool hgd
            rw [if_neg (by simp [Region.wanted, yielded, hgd])]
            exact hK undef W hG (Below.refl _ _) rfl (fun h => by cases h)
          · refine stepJ_any rfl fun ac W hAA hG hDD K hK => ?_
            have hgd := hDD.get 29 47 _ rfl rfl (by kernel_rfl)
            have hgd := slot_bool hgd
            rw [if_neg (by simp [Region.wanted, yielded, hgd])]
            exact hK undef W hG (Below.refl _ _) rfl (fun h => by cases h)
          · refine stepJ_any rfl fun ac W hAA hG hDD K hK => ?_
            have hgd := hDD.get 29 47 _ rfl rfl (by kernel_rfl)
            have hgd := slot_bool hgd
            rw [if_neg (by simp [Region.wanted, yielded, hgd])]
            exact hK undef W hG (Below.refl _ _) rfl (fun h => by cases h)
          · refine stepJ_any rfl fun ac W hAA hG hDD K hK => ?_
            have hgd := hDD.get 29 47 _ rfl rfl (by kernel_rfl)
            have hgd := slot_bool hgd
            rw [if_neg (by simp [Region.wanted, yielded, hgd])]
            exact hK undef W hG (Below.refl _ _) rfl (fun h => by cases h)
          · refine stepJ_any rfl fun ac W hAA hG hDD K hK => ?_
            have h47 := hDD.get 29 47 _ rfl rfl (by kernel_rfl)
            have h54 := hDD.get 36 54 _ rfl rfl (by kernel_rfl)
            simp only [Array.getD_eq_getD_getElem?] at h47 h54
            rw [if_pos (by rfl)]
            exact wp_val (v := .bool true) (w' := W) (by simp [execOp, Act.eval, h47, h54, go_sem]) (hK _ _ hG (Below.refl _ _) rfl (fun h => by cases h))
        intro fu T W9 hG hF hne hltb
        have e18 : T 18 = .pointer (some ⟨XB, 0, none⟩) := hF 0 _ rfl (by omega)
        have e19 : T 19 = .int .i64 x.node := hF 1 _ rfl (by omega)
        have e20 : T 20 = .bool false := hF 2 _ rfl (by omega)
        have e21 : T 21 = .bool false := hF 3 _ rfl (by omega)
        have e22 : T 22 = .pointer (some ⟨XB, 0, none⟩) := hF 4 _ rfl (by omega)
        have e23 : T 23 = .int .i64 x.node := hF 5 _ rfl (by omega)
        have e24 : T 24 = .bool false := hF 6 _ rfl (by omega)
        have e25 : T 25 = .bool false := hF 7 _ rfl (by omega)
        have e26 : T 26 = .bool false := hF 8 _ rfl (by omega)
        have e27 : T 27 = .pointer (some ⟨XB, 0, none⟩) := hF 9 _ rfl (by omega)
        have e28 : T 28 = .int .i64 x.node := hF 10 _ rfl (by omega)
        have e29 : T 29 = .slice (some ⟨b', off', none⟩) l.length cap := hF 11 _ rfl (by omega)
        have e30 : T 30 = .pointer (some ⟨b', off', none⟩) := hF 12 _ rfl (by omega)
        have e31 : T 31 = .pointer (some ⟨b', off', none⟩) := hF 13 _ rfl (by omega)
        have e32 : T 32 = .int .i64 n0 := hF 14 _ rfl (by omega)
        have e33 : T 33 = .bool false := hF 15 _ rfl (by omega)
        have e34 : T 34 = .bool false := hF 16 _ rfl (by omega)
        have e35 : T 35 = .bool false := hF 17 _ rfl (by omega)
        have e36 : T 36 = .pointer (some ⟨XB, 1, none⟩) := hF 18 _ rfl (by omega)
        have e37 : T 37 = .int .i64 x.no := hF 19 _ rfl (by omega)
        have e38 : T 38 = .int .i64 (k : Int) := hF 20 _ rfl (by omega)
        have e39 : T 39 = .bool true := hF 21 _ rfl (by omega)
        have e40 : T 40 = .bool true := hF 22 _ rfl (by omega)
        have e41 : T 41 = .bool true := hF 23 _ rfl (by omega)
        have e42 : T 42 = undef := hF 24 _ rfl (by omega)
        have e43 : T 43 = undef := hF 25 _ rfl (by omega)
        have e44 : T 44 = undef := hF 26 _ rfl (by omega)
        have e45 : T 45 = undef := hF 27 _ rfl (by omega)
        have e46 : T 46 = .bool true := hF 28 _ rfl (by omega)
        have e47 : T 47 = .bool true := hF 29 _ rfl (by omega)
        have e48 : T 48 = undef := hF 30 _ rfl (by omega)
        have e49 : T 49 = undef := hF 31 _ rfl (by omega)
        have e50 : T 50 = undef := hF 32 _ rfl (by omega)
        have e51 : T 51 = undef := hF 33 _ rfl (by omega)
        have e52 : T 52 = undef := hF 34 _ rfl (by omega)
        have e53 : T 53 = undef := hF 35 _ rfl (by omega)
        have e54 : T 54 = undef := hF 36 _ rfl (by omega)
        have e55 : T 55 = .bool true := hF 37 _ rfl (by omega)
        clear hF hne hltb
        simp only [List.take, fillT, List.setIfInBounds_toArray, List.set_cons_zero, List.set_cons_succ, e18, e19, e20, e21, e22, e23, e24, e25, e26, e27, e28, e29, e30, e31, e32, e33, e34, e35, e36, e37, e38, e39, e40, e41, e42, e43, e44, e45, e46, e47, e48, e49, e50, e51, e52, e53, e54, e55]
        clear e18 e19 e20 e21 e22 e23 e24 e25 e26 e27 e28 e29 e30 e31 e32 e33 e34 e35 e36 e37 e38 e39 e40 e41 e42 e43 e44 e45 e46 e47 e48 e49 e50 e51 e52 e53 e54 e55
        refine wpAny_done (by kernel_rfl) ?_ _
        have hb3 := Lib.hid (hb2.out.trans (hG.mono hb2.out.size))
        clear hG hN0 hN1 hN2 hN3 hN4 hHd hsl
        go_wp2_with fail
        go_ret
        exact ⟨by rw [hc.out]; rfl, hb3.out⟩
      have g3 : (x.no != (k : Int)) = false := by rw [bne, t3]; rfl
      rw [t3, Bool.true_and] at hok
      rcases Bool.eq_false_or_eq_true (x.prev == headP (l.take k)) with t5 | t5
      case inr =>
        simp only [t5] at heq0
        have heq := Lib.hid heq0
        have hc := Lib.hid (bad.out (by rw [hok, t5]))
        clear hok heq0 t0 t1 t2 t3 t5
        refine wp_region_pre 38 0 (fun W => Below V.heap.size V W) (fun W W' => Below W.heap.size W W')
          (fun i v W => match i with
            | 0 => v = .pointer (some ⟨XB, 0, none⟩)
            | 1 => v = .int .i64 x.node
            | 2 => v = .bool false
            | 3 => v = .bool false
            | 4 => v = .pointer (some ⟨XB, 0, none⟩)
            | 5 => v = .int .i64 x.node
            | 6 => v = .bool false
            | 7 => v = .bool false
            | 8 => v = .bool false
            | 9 => v = .pointer (some ⟨XB, 0, none⟩)
            | 10 => v = .int .i64 x.node
            | 11 => v = .slice (some ⟨b', off', none⟩) l.length cap
            | 12 => v = .pointer (some ⟨b', off', none⟩)
            | 13 => v = .pointer (some ⟨b', off', none⟩)
            | 14 => v = .int .i64 n0
            | 15 => v = .bool false
            | 16 => v = .bool false
            | 17 => v = .bool false
            | 18 => v = .pointer (some ⟨XB, 1, none⟩)
            | 19 => v = .int .i64 x.no
            | 20 => v = .int .i64 (k : Int)
            | 21 => v = .bool false
            | 22 => v = .bool false
            | 23 => v = .bool false
            | 24 => v = .pointer (some ⟨XB, 34, none⟩)
            | 25 => v = .slice da x.data.length dc
            | 26 => v = .int .i64 (x.data.length : Nat)
            | 27 => v = .bool false
            | 28 => v = .bool false
            | 29 => v = .bool false
            | 30 => v = .pointer (some ⟨XB, 2, none⟩)
            | 31 => v = .agg (BV x.prev).toArray
            | 32 => v = .slice (some ⟨b', off', none⟩) l.length cap
            | 33 => v = .int .i64 (k : Int)
            | 34 => v = .slice (some ⟨b', off', none⟩) k cap
            | 35 => v = .agg (BV (headP (l.take k))).toArray
            | 36 => v = .bool true
            | 37 => v = .bool true
            | _ => True) (fun _ => false)
          (by kernel_rfl) (by kernel_rfl) (by kernel_rfl) (by kernel_rfl) (by kernel_rfl) (by kernel_rfl) (by kernel_rfl) ?_ (fun _ _ h => h.size) (dN (Below.refl _ _) 1) ?_ ?_
        · intro i v W W' hb hF
          match i, hF with
          | 0, h => exact h
          | 1, h => exact h
          | 2, h => exact h
          | 3, h => exact h
          | 4, h => exact h
          | 5, h => exact h
          | 6, h => exact h
          | 7, h => exact h
          | 8, h => exact h
          | 9, h => exact h
          | 10, h => exact h
          | 11, h => exact h
          | 12, h => exact h
          | 13, h => exact h
          | 14, h => exact h
          | 15, h => exact h
          | 16, h => exact h
          | 17, h => exact h
          | 18, h => exact h
          | 19, h => exact h
          | 20, h => exact h
          | 21, h => exact h
          | 22, h => exact h
          | 23, h => exact h
          | 24, h => exact h
          | 25, h => exact h
          | 26, h => exact h
          | 27, h => exact h
          | 28, h => exact h
          | 29, h => exact h
          | 30, h => exact h
          | 31, h => exact h
          | 32, h => exact h
          | 33, h => exact h
          | 34, h => exact h
          | 35, h => exact h
          | 36, h => exact h
          | 37, h => exact h
          | _ + 38, _ => trivial
        · refine ⟨?_, ?_, ?_, ?_, ?_, ?_, ?_, ?_, ?_, ?_, ?_, ?_, ?_, ?_, ?_, ?_, ?_, ?_, ?_, ?_, ?_, ?_, ?_, ?_, ?_, ?_, ?_, ?_, ?_, ?_, ?_, ?_, ?_, ?_, ?_, ?_, ?_, ?_, trivial⟩
          · refine stepJ_any rfl fun ac W hAA hG hDD K hK => ?_
            have h4 := hAA.getD (t := 4) (by kernel_rfl)
            simp only [Array.getD_eq_getD_getElem?] at h4
            rw [if_pos (by rfl)]
            exact wp_val (v := .pointer (some ⟨XB, 0, none⟩)) (w' := W) (by simp [execOp, Act.eval, h4, go_sem]) (hK _ _ hG (Below.refl _ _) rfl (fun h => by cases h))
          · refine stepJ_any rfl fun ac W hAA hG hDD K hK => ?_
            have h18 := hDD.get 0 18 _ rfl rfl (by kernel_rfl)
            simp only [Array.getD_eq_getD_getElem?] at h18
            have m0 := hN0.out W hG
            rw [if_pos (by rfl)]
            exact wp_val (v := .int .i64 x.node) (w' := W) (by simp [execOp, Act.eval, h18, go_sem, m0]) (hK _ _ hG (Below.refl _ _) rfl (fun h => by cases h))
          · refine stepJ_any rfl fun ac W hAA hG hDD K hK => ?_
            have h19 := hDD.get 1 19 _ rfl rfl (by kernel_rfl)
            simp only [Array.getD_eq_getD_getElem?] at h19
            rw [if_pos (by rfl)]
            exact wp_val (v := .bool false) (w' := W) (by simp [execOp, Act.eval, h19, go_sem, g0]) (hK _ _ hG (Below.refl _ _) rfl (fun h => by cases h))
          · refine stepJ_any rfl fun ac W hAA hG hDD K hK => ?_
            have h20 := hDD.get 2 20 _ rfl rfl (by kernel_rfl)
            simp only [Array.getD_eq_getD_getElem?] at h20
            rw [if_pos (by rfl)]
            exact wp_val (v := .bool false) (w' := W) (by simp [execOp, Act.eval, h20, go_sem]) (hK _ _ hG (Below.refl _ _) rfl (fun h => by cases h))
          · refine stepJ_any rfl fun ac W hAA hG hDD K hK => ?_
            have h4 := hAA.getD (t := 4) (by kernel_rfl)
            have hgd := hDD.get 3 21 _ rfl rfl (by kernel_rfl)
            have hgd := slot_bool hgd
            simp only [Array.getD_eq_getD_getElem?] at h4
            rw [if_pos (by simp [Region.wanted, yielded, hgd])]
            exact wp_val (v := .pointer (some ⟨XB, 0, none⟩)) (w' := W) (by simp [execOp, Act.eval, h4, go_sem]) (hK _ _ hG (Below.refl _ _) rfl (fun h => by cases h))
          · refine stepJ_any rfl fun ac W hAA hG hDD K hK => ?_
            have h22 := hDD.get 4 22 _ rfl rfl (by kernel_rfl)
            have hgd := hDD.get 3 21 _ rfl rfl (by kernel_rfl)
            have hgd := slot_bool hgd
            simp only [Array.getD_eq_getD_getElem?] at h22
            have m0 := hN0.out W hG
            rw [if_pos (by simp [Region.wanted, yielded, hgd])]
            exact wp_val (v := .int .i64 x.node) (w' := W) (by simp [execOp, Act.eval, h22, go_sem, m0]) (hK _ _ hG (Below.refl _ _) rfl (fun h => by cases h))
          · refine stepJ_any rfl fun ac W hAA hG hDD K hK => ?_
            have h23 := hDD.get 5 23 _ rfl rfl (by kernel_rfl)
            have hgd := hDD.get 3 21 _ rfl rfl (by kernel_rfl)
            have hgd := slot_bool hgd
            simp only [Array.getD_eq_getD_getElem?] at h23
            rw [if_pos (by simp [Region.wanted, yielded, hgd])]
            exact wp_val (v := .bool false) (w' := W) (by simp [execOp, Act.eval, h23, go_sem, g1]) (hK _ _ hG (Below.refl _ _) rfl (fun h => by cases h))
          · refine stepJ_any rfl fun ac W hAA hG hDD K hK => ?_
            have h21 := hDD.get 3 21 _ rfl rfl (by kernel_rfl)
            have h24 := hDD.get 6 24 _ rfl rfl (by kernel_rfl)
            simp only [Array.getD_eq_getD_getElem?] at h21 h24
            rw [if_pos (by rfl)]
            exact wp_val (v := .bool false) (w' := W) (by simp [execOp, Act.eval, h21, h24, go_sem]) (hK _ _ hG (Below.refl _ _) rfl (fun h => by cases h))
          · refine stepJ_any rfl fun ac W hAA hG hDD K hK => ?_
            have h25 := hDD.get 7 25 _ rfl rfl (by kernel_rfl)
            simp only [Array.getD_eq_getD_getElem?] at h25
            rw [if_pos (by rfl)]
            exact wp_val (v := .bool false) (w' := W) (by simp [execOp, Act.eval, h25, go_sem]) (hK _ _ hG (Below.refl _ _) rfl (fun h => by cases h))
          · refine stepJ_any rfl fun ac W hAA hG hDD K hK => ?_
            have h4 := hAA.getD (t := 4) (by kernel_rfl)
            have hgd := hDD.get 8 26 _ rfl rfl (by kernel_rfl)
            have hgd := slot_bool hgd
            simp only [Array.getD_eq_getD_getElem?] at h4
            rw [if_pos (by simp [Region.wanted, yielded, hgd])]
            exact wp_val (v := .pointer (some ⟨XB, 0, none⟩)) (w' := W) (by simp [execOp, Act.eval, h4, go_sem]) (hK _ _ hG (Below.refl _ _) rfl (fun h => by cases h))
          · refine stepJ_any rfl fun ac W hAA hG hDD K hK => ?_
            have h27 := hDD.get 9 27 _ rfl rfl (by kernel_rfl)
            have hgd := hDD.get 8 26 _ rfl rfl (by kernel_rfl)
            have hgd := slot_bool hgd
            simp only [Array.getD_eq_getD_getElem?] at h27
            have m0 := hN0.out W hG
            rw [if_pos (by simp [Region.wanted, yielded, hgd])]
            exact wp_val (v := .int .i64 x.node) (w' := W) (by simp [execOp, Act.eval, h27, go_sem, m0]) (hK _ _ hG (Below.refl _ _) rfl (fun h => by cases h))
          · refine stepJ_any rfl fun ac W hAA hG hDD K hK => ?_
            have h0 := hAA.getD (t := 0) (by kernel_rfl)
            have hgd := hDD.get 8 26 _ rfl rfl (by kernel_rfl)
            have hgd := slot_bool hgd
            simp only [Array.getD_eq_getD_getElem?] at h0
            rw [if_pos (by simp [Region.wanted, yielded, hgd])]
            exact wp_val (v := .slice (some ⟨b', off', none⟩) l.length cap) (w' := W) (by simp [execOp, Act.eval, h0, go_sem]) (hK _ _ hG (Below.refl _ _) rfl (fun h => by cases h))
          · refine stepJ_any rfl fun ac W hAA hG hDD K hK => ?_
            have h29 := hDD.get 11 29 _ rfl rfl (by kernel_rfl)
            have hgd := hDD.get 8 26 _ rfl rfl (by kernel_rfl)
            have hgd := slot_bool hgd
            simp only [Array.getD_eq_getD_getElem?] at h29
            rw [if_pos (by simp [Region.wanted, yielded, hgd])]
            exact wp_val (v := .pointer (some ⟨b', off', none⟩)) (w' := W) (by simp [execOp, Act.eval, h29, go_sem, hL0, hLn]) (hK _ _ hG (Below.refl _ _) rfl (fun h => by cases h))
          · refine stepJ_any rfl fun ac W hAA hG hDD K hK => ?_
            have h30 := hDD.get 12 30 _ rfl rfl (by kernel_rfl)
            have hgd := hDD.get 8 26 _ rfl rfl (by kernel_rfl)
            have hgd := slot_bool hgd
            simp only [Array.getD_eq_getD_getElem?] at h30
            rw [if_pos (by simp [Region.wanted, yielded, hgd])]
            exact wp_val (v := .pointer (some ⟨b', off', none⟩)) (w' := W) (by simp [execOp, Act.eval, h30, go_sem]) (hK _ _ hG (Below.refl _ _) rfl (fun h => by cases h))
          · refine stepJ_any rfl fun ac W hAA hG hDD K hK => ?_
            have h31 := hDD.get 13 31 _ rfl rfl (by kernel_rfl)
            have hgd := hDD.get 8 26 _ rfl rfl (by kernel_rfl)
            have hgd := slot_bool hgd
            simp only [Array.getD_eq_getD_getElem?] at h31
            have m4 := hN4.out W hG
            rw [if_pos (by simp [Region.wanted, yielded, hgd])]
            exact wp_val (v := .int .i64 n0) (w' := W) (by simp [execOp, Act.eval, h31, go_sem, m4]) (hK _ _ hG (Below.refl _ _) rfl (fun h => by cases h))
          · refine stepJ_any rfl fun ac W hAA hG hDD K hK => ?_
            have h28 := hDD.get 10 28 _ rfl rfl (by kernel_rfl)
            have h32 := hDD.get 14 32 _ rfl rfl (by kernel_rfl)
            have hgd := hDD.get 8 26 _ rfl rfl (by kernel_rfl)
            have hgd := slot_bool hgd
            simp only [Array.getD_eq_getD_getElem?] at h28 h32
            rw [if_pos (by simp [Region.wanted, yielded, hgd])]
            exact wp_val (v := .bool false) (w' := W) (by simp [execOp, Act.eval, h28, h32, go_sem, g2]) (hK _ _ hG (Below.refl _ _) rfl (fun h => by cases h))
          · refine stepJ_any rfl fun ac W hAA hG hDD K hK => ?_
            have h26 := hDD.get 8 26 _ rfl rfl (by kernel_rfl)
            have h33 := hDD.get 15 33 _ rfl rfl (by kernel_rfl)
            simp only [Array.getD_eq_getD_getElem?] at h26 h33
            rw [if_pos (by rfl)]
            exact wp_val (v := .bool false) (w' := W) (by simp [execOp, Act.eval, h26, h33, go_sem]) (hK _ _ hG (Below.refl _ _) rfl (fun h => by cases h))
          · refine stepJ_any rfl fun ac W hAA hG hDD K hK => ?_
            have h34 := hDD.get 16 34 _ rfl rfl (by kernel_rfl)
            simp only [Array.getD_eq_getD_getElem?] at h34
            rw [if_pos (by rfl)]
            exact wp_val (v := .bool false) (w' := W) (by simp [execOp, Act.eval, h34, go_sem]) (hK _ _ hG (Below.refl _ _) rfl (fun h => by cases h))
          · refine stepJ_any rfl fun ac W hAA hG hDD K hK => ?_
            have h4 := hAA.getD (t := 4) (by kernel_rfl)
            have hgd := hDD.get 17 35 _ rfl rfl (by kernel_rfl)
            have hgd := slot_bool hgd
            simp only [Array.getD_eq_getD_getElem?] at h4
            rw [if_pos (by simp [Region.wanted, yielded, hgd])]
            exact wp_val (v := .pointer (some ⟨XB, 1, none⟩)) (w' := W) (by simp [execOp, Act.eval, h4, go_sem]) (hK _ _ hG (Below.refl _ _) rfl (fun h => by cases h))
          · refine stepJ_any rfl fun ac W hAA hG hDD K hK => ?_
            have h36 := hDD.get 18 36 _ rfl rfl (by kernel_rfl)
            have hgd := hDD.get 17 35 _ rfl rfl (by kernel_rfl)
            have hgd := slot_bool hgd
            simp only [Array.getD_eq_getD_getElem?] at h36
            have m1 := hN1.out W hG
            rw [if_pos (by simp [Region.wanted, yielded, hgd])]
            exact wp_val (v := .int .i64 x.no) (w' := W) (by simp [execOp, Act.eval, h36, go_sem, m1]) (hK _ _ hG (Below.refl _ _) rfl (fun h => by cases h))
          · refine stepJ_any rfl fun ac W hAA hG hDD K hK => ?_
            have h3 := hAA.getD (t := 3) (by kernel_rfl)
            have hgd := hDD.get 17 35 _ rfl rfl (by kernel_rfl)
            have hgd := slot_bool hgd
            simp only [Array.getD_eq_getD_getElem?] at h3
            rw [if_pos (by simp [Region.wanted, yielded, hgd])]
            exact wp_val (v := .int .i64 (k : Int)) (w' := W) (by simp [execOp, Act.eval, h3, go_sem]) (hK _ _ hG (Below.refl _ _) rfl (fun h => by cases h))
          · refine stepJ_any rfl fun ac W hAA hG hDD K hK => ?_
            have h37 := hDD.get 19 37 _ rfl rfl (by kernel_rfl)
            have h38 := hDD.get 20 38 _ rfl rfl (by kernel_rfl)
            have hgd := hDD.get 17 35 _ rfl rfl (by kernel_rfl)
            have hgd := slot_bool hgd
            simp only [Array.getD_eq_getD_getElem?] at h37 h38
            rw [if_pos (by simp [Region.wanted, yielded, hgd])]
            exact wp_val (v := .bool false) (w' := W) (by simp [execOp, Act.eval, h37, h38, go_sem, g3]) (hK _ _ hG (Below.refl _ _) rfl (fun h => by cases h))
          · refine stepJ_any rfl fun ac W hAA hG hDD K hK => ?_
            have h35 := hDD.get 17 35 _ rfl rfl (by kernel_rfl)
            have h39 := hDD.get 21 39 _ rfl rfl (by kernel_rfl)
            simp only [Array.getD_eq_getD_getElem?] at h35 h39
            rw [if_pos (by rfl)]
            exact wp_val (v := .bool false) (w' := W) (by simp [execOp, Act.eval, h35, h39, go_sem]) (hK _ _ hG (Below.refl _ _) rfl (fun h => by cases h))
          · refine stepJ_any rfl fun ac W hAA hG hDD K hK => ?_
            have h40 := hDD.get 22 40 _ rfl rfl (by kernel_rfl)
            simp only [Array.getD_eq_getD_getElem?] at h40
            rw [if_pos (by rfl)]
            exact wp_val (v := .bool false) (w' := W) (by simp [execOp, Act.eval, h40, go_sem]) (hK _ _ hG (Below.refl _ _) rfl (fun h => by cases h))
          · refine stepJ_any rfl fun ac W hAA hG hDD K hK => ?_
            have h4 := hAA.getD (t := 4) (by kernel_rfl)
            have hgd := hDD.get 23 41 _ rfl rfl (by kernel_rfl)
            have hgd := slot_bool hgd
            simp only [Array.getD_eq_getD_getElem?] at h4
            rw [if_pos (by simp [Region.wanted, yielded, hgd])]
            exact wp_val (v := .pointer (some ⟨XB, 34, none⟩)) (w' := W) (by simp [execOp, Act.eval, h4, go_sem]) (hK _ _ hG (Below.refl _ _) rfl (fun h => by cases h))
          · refine stepJ_any rfl fun ac W hAA hG hDD K hK => ?_
            have h42 := hDD.get 24 42 _ rfl rfl (by kernel_rfl)
            have hgd := hDD.get 23 41 _ rfl rfl (by kernel_rfl)
            have hgd := slot_bool hgd
            simp only [Array.getD_eq_getD_getElem?] at h42
            have m3 := hN3.out W hG
            rw [if_pos (by simp [Region.wanted, yielded, hgd])]
            exact wp_val (v := .slice da x.data.length dc) (w' := W) (by simp [execOp, Act.eval, h42, go_sem, m3]) (hK _ _ hG (Below.refl _ _) rfl (fun h => by cases h))
          · refine stepJ_any rfl fun ac W hAA hG hDD K hK => ?_
            have h43 := hDD.get 25 43 _ rfl rfl (by kernel_rfl)
            have hgd := hDD.get 23 41 _ rfl rfl (by kernel_rfl)
            have hgd := slot_bool hgd
            simp only [Array.getD_eq_getD_getElem?] at h43
            rw [if_pos (by simp [Region.wanted, yielded, hgd])]
            exact wp_val (v := .int .i64 (x.data.length : Nat)) (w' := W) (by simp [execOp, Act.eval, h43, go_sem]) (hK _ _ hG (Below.refl _ _) rfl (fun h => by cases h))
          · refine stepJ_any rfl fun ac W hAA hG hDD K hK => ?_
            have h44 := hDD.get 26 44 _ rfl rfl (by kernel_rfl)
            have hgd := hDD.get 23 41 _ rfl rfl (by kernel_rfl)
            have hgd := slot_bool hgd
            simp only [Array.getD_eq_getD_getElem?] at h44
            rw [if_pos (by simp [Region.wanted, yielded, hgd])]
            exact wp_val (v := .bool false) (w' := W) (by simp [execOp, Act.eval, h44, go_sem, g4]) (hK _ _ hG (Below.refl _ _) rfl (fun h => by cases h))
          · refine stepJ_any rfl fun ac W hAA hG hDD K hK => ?_
            have h41 := hDD.get 23 41 _ rfl rfl (by kernel_rfl)
            have h45 := hDD.get 27 45 _ rfl rfl (by kernel_rfl)
            simp only [Array.getD_eq_getD_getElem?] at h41 h45
            rw [if_pos (by rfl)]
            exact wp_val (v := .bool false) (w' := W) (by simp [execOp, Act.eval, h41, h45, go_sem]) (hK _ _ hG (Below.refl _ _) rfl (fun h => by cases h))
          · refine stepJ_any rfl fun ac W hAA hG hDD K hK => ?_
            have h46 := hDD.get 28 46 _ rfl rfl (by kernel_rfl)
            simp only [Array.getD_eq_getD_getElem?] at h46
            rw [if_pos (by rfl)]
            exact wp_val (v := .bool false) (w' := W) (by simp [execOp, Act.eval, h46, go_sem]) (hK _ _ hG (Below.refl _ _) rfl (fun h => by cases h))
          · refine stepJ_any rfl fun ac W hAA hG hDD K hK => ?_
            have h4 := hAA.getD (t := 4) (by kernel_rfl)
            have hgd := hDD.get 29 47 _ rfl rfl (by kernel_rfl)
            have hgd := slot_bool hgd
            simp only [Array.getD_eq_getD_getElem?] at h4
            rw [if_pos (by simp [Region.wanted, yielded, hgd])]
            exact wp_val (v := .pointer (some ⟨XB, 2, none⟩)) (w' := W) (by simp [execOp, Act.eval, h4, go_sem]) (hK _ _ hG (Below.refl _ _) rfl (fun h => by cases h))
          · refine stepJ_any rfl fun ac W hAA hG hDD K hK => ?_
            have h48 := hDD.get 30 48 _ rfl rfl (by kernel_rfl)
            have hgd := hDD.get 29 47 _ rfl rfl (by kernel_rfl)
            have hgd := slot_bool hgd
            rw [if_pos (by simp [Region.wanted, yielded, hgd])]
            exact wp_load_mid 35 _ rfl XB 2 h48 (BV x.prev) _ (hN2.out W hG) Tryd.uD rfl hszP.out (hK _ _ hG (Below.refl _ _) rfl (fun h => by cases h))
          · refine stepJ_any rfl fun ac W hAA hG hDD K hK => ?_
            have h0 := hAA.getD (t := 0) (by kernel_rfl)
            have hgd := hDD.get 29 47 _ rfl rfl (by kernel_rfl)
            have hgd := slot_bool hgd
            simp only [Array.getD_eq_getD_getElem?] at h0
            rw [if_pos (by simp [Region.wanted, yielded, hgd])]
            exact wp_val (v := .slice (some ⟨b', off', none⟩) l.length cap) (w' := W) (by simp [execOp, Act.eval, h0, go_sem]) (hK _ _ hG (Below.refl _ _) rfl (fun h => by cases h))
          · refine stepJ_any rfl fun ac W hAA hG hDD K hK => ?_
            have h3 := hAA.getD (t := 3) (by kernel_rfl)
            have hgd := hDD.get 29 47 _ rfl rfl (by kernel_rfl)
            have hgd := slot_bool hgd
            simp only [Array.getD_eq_getD_getElem?] at h3
            rw [if_pos (by simp [Region.wanted, yielded, hgd])]
            exact wp_val (v := .int .i64 (k : Int)) (w' := W) (by simp [execOp, Act.eval, h3, go_sem]) (hK _ _ hG (Below.refl _ _) rfl (fun h => by cases h))
          · refine stepJ_any rfl fun ac W hAA hG hDD K hK => ?_
            have h50 := hDD.get 32 50 _ rfl rfl (by kernel_rfl)
            have h51 := hDD.get 33 51 _ rfl rfl (by kernel_rfl)
            have hgd := hDD.get 29 47 _ rfl rfl (by kernel_rfl)
            have hgd := slot_bool hgd
            simp only [Array.getD_eq_getD_getElem?] at h50 h51
            have hs := hsl.out W
            rw [if_pos (by simp [Region.wanted, yielded, hgd])]
            exact wp_val (v := .slice (some ⟨b', off', none⟩) k cap) (w' := W) (by simp [execOp, Act.eval, h50, h51, go_sem, hs]) (hK _ _ hG (Below.refl _ _) rfl (fun h => by cases h))
          · refine stepJ_any rfl fun ac W hAA hG hDD K hK => ?_
            have h52 := hDD.get 34 52 _ rfl rfl (by kernel_rfl)
            have hgd := hDD.get 29 47 _ rfl rfl (by kernel_rfl)
            have hgd := slot_bool hgd
            simp only [Array.getD_eq_getD_getElem?] at h52
            rw [if_pos (by simp [Region.wanted, yielded, hgd])]
            refine wp_call (f := 25) (args := #[.slice (some ⟨b', off', none⟩) k cap]) (by simp [execOp, Act.eval, h52, go_sem]) ((hHd.out W hG).mono fun e W9 he => ?_)
            obtain ⟨rfl, hbw⟩ := he
            exact hK _ _ (hG.trans (hbw.mono hG.size)) hbw rfl (fun h => by cases h)
          · refine stepJ_any rfl fun ac W hAA hG hDD K hK => ?_
            have h49 := hDD.get 31 49 _ rfl rfl (by kernel_rfl)
            have h53 := hDD.get 35 53 _ rfl rfl (by kernel_rfl)
            have hgd := hDD.get 29 47 _ rfl rfl (by kernel_rfl)
            have hgd := slot_bool hgd
            simp only [Array.getD_eq_getD_getElem?] at h49 h53
            have hq := heq.out W
            rw [if_pos (by simp [Region.wanted, yielded, hgd])]
            exact wp_val (v := .bool true) (w' := W) (by simp [execOp, Act.eval, h49, h53, go_sem, hq]) (hK _ _ hG (Below.refl _ _) rfl (fun h => by cases h))
          · refine stepJ_any rfl fun ac W hAA hG hDD K hK => ?_
            have h47 := hDD.get 29 47 _ rfl rfl (by kernel_rfl)
            have h54 := hDD.get 36 54 _ rfl rfl (by kernel_rfl)
            simp only [Array.getD_eq_getD_getElem?] at h47 h54
            rw [if_pos (by rfl)]
            exact wp_val (v := .bool true) (w' := W) (by simp [execOp, Act.eval, h47, h54, go_sem]) (hK _ _ hG (Below.refl _ _) rfl (fun h => by cases h))
        intro fu T W9 hG hF hne hltb
        have e18 : T 18 = .pointer (some ⟨XB, 0, none⟩) := hF 0 _ rfl (by omega)
        have e19 : T 19 = .int .i64 x.node := hF 1 _ rfl (by omega)
        have e20 : T 20 = .bool false := hF 2 _ rfl (by omega)
        have e21 : T 21 = .bool false := hF 3 _ rfl (by omega)
        have e22 : T 22 = .pointer (some ⟨XB, 0, none⟩) := hF 4 _ rfl (by omega)
        have e23 : T 23 = .int .i64 x.node := hF 5 _ rfl (by omega)
        have e24 : T 24 = .bool false := hF 6 _ rfl (by omega)
        have e25 : T 25 = .bool false := hF 7 _ rfl (by omega)
        have e26 : T 26 = .bool false := hF 8 _ rfl (by omega)
        have e27 : T 27 = .pointer (some ⟨XB, 0, none⟩) := hF 9 _ rfl (by omega)
        have e28 : T 28 = .int .i64 x.node := hF 10 _ rfl (by omega)
        have e29 : T 29 = .slice (some ⟨b', off', none⟩) l.length cap := hF 11 _ rfl (by omega)
        have e30 : T 30 = .pointer (some ⟨b', off', none⟩) := hF 12 _ rfl (by omega)
        have e31 : T 31 = .pointer (some ⟨b', off', none⟩) := hF 13 _ rfl (by omega)
        have e32 : T 32 = .int .i64 n0 := hF 14 _ rfl (by omega)
        have e33 : T 33 = .bool false := hF 15 _ rfl (by omega)
        have e34 : T 34 = .bool false := hF 16 _ rfl (by omega)
        have e35 : T 35 = .bool false := hF 17 _ rfl (by omega)
        have e36 : T 36 = .pointer (some ⟨XB, 1, none⟩) := hF 18 _ rfl (by omega)
        have e37 : T 37 = .int .i64 x.no := hF 19 _ rfl (by omega)
        have e38 : T 38 = .int .i64 (k : Int) := hF 20 _ rfl (by omega)
        have e39 : T 39 = .bool false := hF 21 _ rfl (by omega)
        have e40 : T 40 = .bool false := hF 22 _ rfl (by omega)
        have e41 : T 41 = .bool false := hF 23 _ rfl (by omega)
        have e42 : T 42 = .pointer (some ⟨XB, 34, none⟩) := hF 24 _ rfl (by omega)
        have e43 : T 43 = .slice da x.data.length dc := hF 25 _ rfl (by omega)
        have e44 : T 44 = .int .i64 (x.data.length : Nat) := hF 26 _ rfl (by omega)
        have e45 : T 45 = .bool false := hF 27 _ rfl (by omega)
        have e46 : T 46 = .bool false := hF 28 _ rfl (by omega)
        have e47 : T 47 = .bool false := hF 29 _ rfl (by omega)
        have e48 : T 48 = .pointer (some ⟨XB, 2, none⟩) := hF 30 _ rfl (by omega)
        have e49 : T 49 = .agg (BV x.prev).toArray := hF 31 _ rfl (by omega)
        have e50 : T 50 = .slice (some ⟨b', off', none⟩) l.length cap := hF 32 _ rfl (by omega)
        have e51 : T 51 = .int .i64 (k : Int) := hF 33 _ rfl (by omega)
        have e52 : T 52 = .slice (some ⟨b', off', none⟩) k cap := hF 34 _ rfl (by omega)
        have e53 : T 53 = .agg (BV (headP (l.take k))).toArray := hF 35 _ rfl (by omega)
        have e54 : T 54 = .bool true := hF 36 _ rfl (by omega)
        have e55 : T 55 = .bool true := hF 37 _ rfl (by omega)
        clear hF hne hltb
        simp only [List.take, fillT, List.setIfInBounds_toArray, List.set_cons_zero, List.set_cons_succ, e18, e19, e20, e21, e22, e23, e24, e25, e26, e27, e28, e29, e30, e31, e32, e33, e34, e35, e36, e37, e38, e39, e40, e41, e42, e43, e44, e45, e46, e47, e48, e49, e50, e51, e52, e53, e54, e55]
        clear e18 e19 e20 e21 e22 e23 e24 e25 e26 e27 e28 e29 e30 e31 e32 e33 e34 e35 e36 e37 e38 e39 e40 e41 e42 e43 e44 e45 e46 e47 e48 e49 e50 e51 e52 e53 e54 e55
        refine wpAny_done (by kernel_rfl) ?_ _
        have hb3 := Lib.hid (hb2.out.trans (hG.mono hb2.out.size))
        clear hG hN0 hN1 hN2 hN3 hN4 hHd hsl
        go_wp2_with fail
        go_ret
        exact ⟨by rw [hc.out]; rfl, hb3.out⟩
      simp only [t5] at heq0
      have heq := Lib.hid heq0
      rw [t5] at hok
      replace hok := Lib.hid hok
      clear heq0 t0 t1 t2 t3 t5 bad
      refine wp_region_pre 38 0 (fun W => Below V.heap.size V W) (fun W W' => Below W.heap.size W W')
        (fun i v W => match i with
          | 0 => v = .pointer (some ⟨XB, 0, none⟩)
          | 1 => v = .int .i64 x.node
          | 2 => v = .bool false
          | 3 => v = .bool false
          | 4 => v = .pointer (some ⟨XB, 0, none⟩)
          | 5 => v = .int .i64 x.node
          | 6 => v = .bool false
          | 7 => v = .bool false
          | 8 => v = .bool false
          | 9 => v = .pointer (some ⟨XB, 0, none⟩)
          | 10 => v = .int .i64 x.node
          | 11 => v = .slice (some ⟨b', off', none⟩) l.length cap
          | 12 => v = .pointer (some ⟨b', off', none⟩)
          | 13 => v = .pointer (some ⟨b', off', none⟩)
          | 14 => v = .int .i64 n0
          | 15 => v = .bool false
          | 16 => v = .bool false
          | 17 => v = .bool false
          | 18 => v = .pointer (some ⟨XB, 1, none⟩)
          | 19 => v = .int .i64 x.no
          | 20 => v = .int .i64 (k : Int)
          | 21 => v = .bool false
          | 22 => v = .bool false
          | 23 => v = .bool false
          | 24 => v = .pointer (some ⟨XB, 34, none⟩)
          | 25 => v = .slice da x.data.length dc
          | 26 => v = .int .i64 (x.data.length : Nat)
          | 27 => v = .bool false
          | 28 => v = .bool false
          | 29 => v = .bool false
          | 30 => v = .pointer (some ⟨XB, 2, none⟩)
          | 31 => v = .agg (BV x.prev).toArray
          | 32 => v = .slice (some ⟨b', off', none⟩) l.length cap
          | 33 => v = .int .i64 (k : Int)
          | 34 => v = .slice (some ⟨b', off', none⟩) k cap
          | 35 => v = .agg (BV (headP (l.take k))).toArray
          | 36 => v = .bool false
          | 37 => v = .bool false
          | _ => True) (fun _ => false)
        (by kernel_rfl) (by kernel_rfl) (by kernel_rfl) (by kernel_rfl) (by kernel_rfl) (by kernel_rfl) (by kernel_rfl) ?_ (fun _ _ h => h.size) (dN (Below.refl _ _) 1) ?_ ?_
      · intro i v W W' hb hF
        match i, hF with
        | 0, h => exact h
        | 1, h => exact h
        | 2, h => exact h
        | 3, h => exact h
        | 4, h => exact h
        | 5, h => exact h
        | 6, h => exact h
        | 7, h => exact h
        | 8, h => exact h
        | 9, h => exact h
        | 10, h => exact h
        | 11, h => exact h
        | 12, h => exact h
        | 13, h => exact h
        | 14, h => exact h
        | 15, h => exact h
        | 16, h => exact h
        | 17, h => exact h
        | 18, h => exact h
        | 19, h => exact h
        | 20, h => exact h
        | 21, h => exact h
        | 22, h => exact h
        | 23, h => exact h
        | 24, h => exact h
        | 25, h => exact h
        | 26, h => exact h
        | 27, h => exact h
        | 28, h => exact h
        | 29, h => exact h
        | 30, h => exact h
        | 31, h => exact h
        | 32, h => exact h
        | 33, h => exact h
        | 34, h => exact h
        | 35, h => exact h
        | 36, h => exact h
        | 37, h => exact h
        | _ + 38, _ => trivial
      · refine ⟨?_, ?_, ?_, ?_, ?_, ?_, ?_, ?_, ?_, ?_, ?_, ?_, ?_, ?_, ?_, ?_, ?_, ?_, ?_, ?_, ?_, ?_, ?_, ?_, ?_, ?_, ?_, ?_, ?_, ?_, ?_, ?_, ?_, ?_, ?_, ?_, ?_, ?_, trivial⟩
        · refine stepJ_any rfl fun ac W hAA hG hDD K hK => ?_
          have h4 := hAA.getD (t := 4) (by kernel_rfl)
          simp only [Array.getD_eq_getD_getElem?] at h4
          rw [if_pos (by rfl)]
          exact wp_val (v := .pointer (some ⟨XB, 0, none⟩)) (w' := W) (by simp [execOp, Act.eval, h4, go_sem]) (hK _ _ hG (Below.refl _ _) rfl (fun h => by cases h))
        · refine stepJ_any rfl fun ac W hAA hG hDD K hK => ?_
          have h18 := hDD.get 0 18 _ rfl rfl (by kernel_rfl)
          simp only [Array.getD_eq_getD_getElem?] at h18
          have m0 := hN0.out W hG
          rw [if_pos (by rfl)]
          exact wp_val (v := .int .i64 x.node) (w' := W) (by simp [execOp, Act.eval, h18, go_sem, m0]) (hK _ _ hG (Below.refl _ _) rfl (fun h => by cases h))
        · refine stepJ_any rfl fun ac W hAA hG hDD K hK => ?_
          have h19 := hDD.get 1 19 _ rfl rfl (by kernel_rfl)
          simp only [Array.getD_eq_getD_getElem?] at h19
          rw [if_pos (by rfl)]
          exact wp_val (v := .bool false) (w' := W) (by simp [execOp, Act.eval, h19, go_sem, g0]) (hK _ _ hG (Below.refl _ _) rfl (fun h => by cases h))
        · refine stepJ_any rfl fun ac W hAA hG hDD K hK => ?_
          have h20 := hDD.get 2 20 _ rfl rfl (by kernel_rfl)
          simp only [Array.getD_eq_getD_getElem?] at h20
          rw [if_pos (by rfl)]
          exact wp_val (v := .bool false) (w' := W) (by simp [execOp, Act.eval, h20, go_sem]) (hK _ _ hG (Below.refl _ _) rfl (fun h => by cases h))
        · refine stepJ_any rfl fun ac W hAA hG hDD K hK => ?_
          have h4 := hAA.getD (t := 4) (by kernel_rfl)
          have hgd := hDD.get 3 21 _ rfl rfl (by kernel_rfl)
          have hgd := slot_bool hgd
          simp only [Array.getD_eq_getD_getElem?] at h4
          rw [if_pos (by simp [Region.wanted, yielded, hgd])]
          exact wp_val (v := .pointer (some ⟨XB, 0, none⟩)) (w' := W) (by simp [execOp, Act.eval, h4, go_sem]) (hK _ _ hG (Below.refl _ _) rfl (fun h => by cases h))
        · refine stepJ_any rfl fun ac W hAA hG hDD K hK => ?_
          have h22 := hDD.get 4 22 _ rfl rfl (by kernel_rfl)
          have hgd := hDD.get 3 21 _ rfl rfl (by kernel_rfl)
          have hgd := slot_bool hgd
          simp only [Array.getD_eq_getD_getElem?] at h22
          have m0 := hN0.out W hG
          rw [if_pos (by simp [Region.wanted, yielded, hgd])]
          exact wp_val (v := .int .i64 x.node) (w' := W) (by simp [execOp, Act.eval, h22, go_sem, m0]) (hK _ _ hG (Below.refl _ _) rfl (fun h => by cases h))
        · refine stepJ_any rfl fun ac W hAA hG hDD K hK => ?_
          have h23 := hDD.get 5 23 _ rfl rfl (by kernel_rfl)
          have hgd := hDD.get 3 21 _ rfl rfl (by kernel_rfl)
          have hgd := slot_bool hgd
          simp only [Array.getD_eq_getD_getElem?] at h23
          rw [if_pos (by simp [Region.wanted, yielded, hgd])]
          exact wp_val (v := .bool false) (w' := W) (by simp [execOp, Act.eval, h23, go_sem, g1]) (hK _ _ hG (Below.refl _ _) rfl (fun h => by cases h))
        · refine stepJ_any rfl fun ac W hAA hG hDD K hK => ?_
          have h21 := hDD.get 3 21 _ rfl rfl (by kernel_rfl)
          have h24 := hDD.get 6 24 _ rfl rfl (by kernel_rfl)
          simp only [Array.getD_eq_getD_getElem?] at h21 h24
          rw [if_pos (by rfl)]
          exact wp_val (v := .bool false) (w' := W) (by simp [execOp, Act.eval, h21, h24, go_sem]) (hK _ _ hG (Below.refl _ _) rfl (fun h => by cases h))
        · refine stepJ_any rfl fun ac W hAA hG hDD K hK => ?_
          have h25 := hDD.get 7 25 _ rfl rfl (by kernel_rfl)
          simp only [Array.getD_eq_getD_getElem?] at h25
          rw [if_pos (by rfl)]
          exact wp_val (v := .bool false) (w' := W) (by simp [execOp, Act.eval, h25, go_sem]) (hK _ _ hG (Below.refl _ _) rfl (fun h => by cases h))
        · refine stepJ_any rfl fun ac W hAA hG hDD K hK => ?_
          have h4 := hAA.getD (t := 4) (by kernel_rfl)
          have hgd := hDD.get 8 26 _ rfl rfl (by kernel_rfl)
          have hgd := slot_bool hgd
          simp only [Array.getD_eq_getD_getElem?] at h4
          rw [if_pos (by simp [Region.wanted, yielded, hgd])]
          exact wp_val (v := .pointer (some ⟨XB, 0, none⟩)) (w' := W) (by simp [execOp, Act.eval, h4, go_sem]) (hK _ _ hG (Below.refl _ _) rfl (fun h => by cases h))
        · refine stepJ_any rfl fun ac W hAA hG hDD K hK => ?_
          have h27 := hDD.get 9 27 _ rfl rfl (by kernel_rfl)
          have hgd := hDD.get 8 26 _ rfl rfl (by kernel_rfl)
          have hgd := slot_bool hgd
          simp only [Array.getD_eq_getD_getElem?] at h27
          have m0 := hN0.out W hG
          rw [if_pos (by simp [Region.wanted, yielded, hgd])]
          exact wp_val (v := .int .i64 x.node) (w' := W) (by simp [execOp, Act.eval, h27, go_sem, m0]) (hK _ _ hG (Below.refl _ _) rfl (fun h => by cases h))
        · refine stepJ_any rfl fun ac W hAA hG hDD K hK => ?_
          have h0 := hAA.getD (t := 0) (by kernel_rfl)
          have hgd := hDD.get 8 26 _ rfl rfl (by kernel_rfl)
          have hgd := slot_bool hgd
          simp only [Array.getD_eq_getD_getElem?] at h0
          rw [if_pos (by simp [Region.wanted, yielded, hgd])]
          exact wp_val (v := .slice (some ⟨b', off', none⟩) l.length cap) (w' := W) (by simp [execOp, Act.eval, h0, go_sem]) (hK _ _ hG (Below.refl _ _) rfl (fun h => by cases h))
        · refine stepJ_any rfl fun ac W hAA hG hDD K hK => ?_
          have h29 := hDD.get 11 29 _ rfl rfl (by kernel_rfl)
          have hgd := hDD.get 8 26 _ rfl rfl (by kernel_rfl)
          have hgd := slot_bool hgd
          simp only [Array.getD_eq_getD_getElem?] at h29
          rw [if_pos (by simp [Region.wanted, yielded, hgd])]
          exact wp_val (v := .pointer (some ⟨b', off', none⟩)) (w' := W) (by simp [execOp, Act.eval, h29, go_sem, hL0, hLn]) (hK _ _ hG (Below.refl _ _) rfl (fun h => by cases h))
        · refine stepJ_any rfl fun ac W hAA hG hDD K hK => ?_
          have h30 := hDD.get 12 30 _ rfl rfl (by kernel_rfl)
          have hgd := hDD.get 8 26 _ rfl rfl (by kernel_rfl)
          have hgd := slot_bool hgd
          simp only [Array.getD_eq_getD_getElem?] at h30
          rw [if_pos (by simp [Region.wanted, yielded, hgd])]
          exact wp_val (v := .pointer (some ⟨b', off', none⟩)) (w' := W) (by simp [execOp, Act.eval, h30, go_sem]) (hK _ _ hG (Below.refl _ _) rfl (fun h => by cases h))
        · refine stepJ_any rfl fun ac W hAA hG hDD K hK => ?_
          have h31 := hDD.get 13 31 _ rfl rfl (by kernel_rfl)
          have hgd := hDD.get 8 26 _ rfl rfl (by kernel_rfl)
          have hgd := slot_bool hgd
          simp only [Array.getD_eq_getD_getElem?] at h31
          have m4 := hN4.out W hG
          rw [if_pos (by simp [Region.wanted, yielded, hgd])]
          exact wp_val (v := .int .i64 n0) (w' := W) (by simp [execOp, Act.eval, h31, go_sem, m4]) (hK _ _ hG (Below.refl _ _) rfl (fun h => by cases h))
        · refine stepJ_any rfl fun ac W hAA hG hDD K hK => ?_
          have h28 := hDD.get 10 28 _ rfl rfl (by kernel_rfl)
          have h32 := hDD.get 14 32 _ rfl rfl (by kernel_rfl)
          have hgd := hDD.get 8 26 _ rfl rfl (by kernel_rfl)
          have hgd := slot_bool hgd
          simp only [Array.getD_eq_getD_getElem?] at h28 h32
          rw [if_pos (by simp [Region.wanted, yielded, hgd])]
          exact wp_val (v := .bool false) (w' := W) (by simp [execOp, Act.eval, h28, h32, go_sem, g2]) (hK _ _ hG (Below.refl _ _) rfl (fun h => by cases h))
        · refine stepJ_any rfl fun ac W hAA hG hDD K hK => ?_
          have h26 := hDD.get 8 26 _ rfl rfl (by kernel_rfl)
          have h33 := hDD.get 15 33 _ rfl rfl (by kernel_rfl)
          simp only [Array.getD_eq_getD_getElem?] at h26 h33
          rw [if_pos (by rfl)]
          exact wp_val (v := .bool false) (w' := W) (by simp [execOp, Act.eval, h26, h33, go_sem]) (hK _ _ hG (Below.refl _ _) rfl (fun h => by cases h))
        · refine stepJ_any rfl fun ac W hAA hG hDD K hK => ?_
          have h34 := hDD.get 16 34 _ rfl rfl (by kernel_rfl)
          simp only [Array.getD_eq_getD_getElem?] at h34
          rw [if_pos (by rfl)]
          exact wp_val (v := .bool false) (w' := W) (by simp [execOp, Act.eval, h34, go_sem]) (hK _ _ hG (Below.refl _ _) rfl (fun h => by cases h))
        · refine stepJ_any rfl fun ac W hAA hG hDD K hK => ?_
          have h4 := hAA.getD (t := 4) (by kernel_rfl)
          have hgd := hDD.get 17 35 _ rfl rfl (by kernel_rfl)
          have hgd := slot_bool hgd
          simp only [Array.getD_eq_getD_getElem?] at h4
          rw [if_pos (by simp [Region.wanted, yielded, hgd])]
          exact wp_val (v := .pointer (some ⟨XB, 1, none⟩)) (w' := W) (by simp [execOp, Act.eval, h4, go_sem]) (hK _ _ hG (Below.refl _ _) rfl (fun h => by cases h))
        · refine stepJ_any rfl fun ac W hAA hG hDD K hK => ?_
          have h36 := hDD.get 18 36 _ rfl rfl (by kernel_rfl)
          have hgd := hDD.get 17 35 _ rfl rfl (by kernel_rfl)
          have hgd := slot_bool hgd
          simp only [Array.getD_eq_getD_getElem?] at h36
          have m1 := hN1.out W hG
          rw [if_pos (by simp [Region.wanted, yielded, hgd])]
          exact wp_val (v := .int .i64 x.no) (w' := W) (by simp [execOp, Act.eval, h36, go_sem, m1]) (hK _ _ hG (Below.refl _ _) rfl (fun h => by cases h))
        · refine stepJ_any rfl fun ac W hAA hG hDD K hK => ?_
          have h3 := hAA.getD (t := 3) (by kernel_rfl)
          have hgd := hDD.get 17 35 _ rfl rfl (by kernel_rfl)
          have hgd := slot_bool hgd
          simp only [Array.getD_eq_getD_getElem?] at h3
          rw [if_pos (by simp [Region.wanted, yielded, hgd])]
          exact wp_val (v := .int .i64 (k : Int)) (w' := W) (by simp [execOp, Act.eval, h3, go_sem]) (hK _ _ hG (Below.refl _ _) rfl (fun h => by cases h))
        · refine stepJ_any rfl fun ac W hAA hG hDD K hK => ?_
          have h37 := hDD.get 19 37 _ rfl rfl (by kernel_rfl)
          have h38 := hDD.get 20 38 _ rfl rfl (by kernel_rfl)
          have hgd := hDD.get 17 35 _ rfl rfl (by kernel_rfl)
          have hgd := slot_bool hgd
          simp only [Array.getD_eq_getD_getElem?] at h37 h38
          rw [if_pos (by simp [Region.wanted, yielded, hgd])]
          exact wp_val (v := .bool false) (w' := W) (by simp [execOp, Act.eval, h37, h38, go_sem, g3]) (hK _ _ hG (Below.refl _ _) rfl (fun h => by cases h))
        · refine stepJ_any rfl fun ac W hAA hG hDD K hK => ?_
          have h35 := hDD.get 17 35 _ rfl rfl (by kernel_rfl)
          have h39 := hDD.get 21 39 _ rfl rfl (by kernel_rfl)
          simp only [Array.getD_eq_getD_getElem?] at h35 h39
          rw [if_pos (by rfl)]
          exact wp_val (v := .bool false) (w' := W) (by simp [execOp, Act.eval, h35, h39, go_sem]) (hK _ _ hG (Below.refl _ _) rfl (fun h => by cases h))
        · refine stepJ_any rfl fun ac W hAA hG hDD K hK => ?_
          have h40 := hDD.get 22 40 _ rfl rfl (by kernel_rfl)
          simp only [Array.getD_eq_getD_getElem?] at h40
          rw [if_pos (by rfl)]
          exact wp_val (v := .bool false) (w' := W) (by simp [execOp, Act.eval, h40, go_sem]) (hK _ _ hG (Below.refl _ _) rfl (fun h => by cases h))
        · refine stepJ_any rfl fun ac W hAA hG hDD K hK => ?_
          have h4 := hAA.getD (t := 4) (by kernel_rfl)
          have hgd := hDD.get 23 41 _ rfl rfl (by kernel_rfl)
          have hgd := slot_bool hgd
          simp only [Array.getD_eq_getD_getElem?] at h4
          rw [if_pos (by simp [Region.wanted, yielded, hgd])]
          exact wp_val (v := .pointer (some ⟨XB, 34, none⟩)) (w' := W) (by simp [execOp, Act.eval, h4, go_sem]) (hK _ _ hG (Below.refl _ _) rfl (fun h => by cases h))
        · refine stepJ_any rfl fun ac W hAA hG hDD K hK => ?_
          have h42 := hDD.get 24 42 _ rfl rfl (by kernel_rfl)
          have hgd := hDD.get 23 41 _ rfl rfl (by kernel_rfl)
          have hgd := slot_bool hgd
          simp only [Array.getD_eq_getD_getElem?] at h42
          have m3 := hN3.out W hG
          rw [if_pos (by simp [Region.wanted, yielded, hgd])]
          exact wp_val (v := .slice da x.data.length dc) (w' := W) (by simp [execOp, Act.eval, h42, go_sem, m3]) (hK _ _ hG (Below.refl _ _) rfl (fun h => by cases h))
        · refine stepJ_any rfl fun ac W hAA hG hDD K hK => ?_
          have h43 := hDD.get 25 43 _ rfl rfl (by kernel_rfl)
          have hgd := hDD.get 23 41 _ rfl rfl (by kernel_rfl)
          have hgd := slot_bool hgd
          simp only [Array.getD_eq_getD_getElem?] at h43
          rw [if_pos (by simp [Region.wanted, yielded, hgd])]
          exact wp_val (v := .int .i64 (x.data.length : Nat)) (w' := W) (by simp [execOp, Act.eval, h43, go_sem]) (hK _ _ hG (Below.refl _ _) rfl (fun h => by cases h))
        · refine stepJ_any rfl fun ac W hAA hG hDD K hK => ?_
          have h44 := hDD.get 26 44 _ rfl rfl (by kernel_rfl)
          have hgd := hDD.get 23 41 _ rfl rfl (by kernel_rfl)
          have hgd := slot_bool hgd
          simp only [Array.getD_eq_getD_getElem?] at h44
          rw [if_pos (by simp [Region.wanted, yielded, hgd])]
          exact wp_val (v := .bool false) (w' := W) (by simp [execOp, Act.eval, h44, go_sem, g4]) (hK _ _ hG (Below.refl _ _) rfl (fun h => by cases h))
        · refine stepJ_any rfl fun ac W hAA hG hDD K hK => ?_
          have h41 := hDD.get 23 41 _ rfl rfl (by kernel_rfl)
          have h45 := hDD.get 27 45 _ rfl rfl (by kernel_rfl)
          simp only [Array.getD_eq_getD_getElem?] at h41 h45
          rw [if_pos (by rfl)]
          exact wp_val (v := .bool false) (w' := W) (by simp [execOp, Act.eval, h41, h45, go_sem]) (hK _ _ hG (Below.refl _ _) rfl (fun h => by cases h))
        · refine stepJ_any rfl fun ac W hAA hG hDD K hK => ?_
          have h46 := hDD.get 28 46 _ rfl rfl (by kernel_rfl)
          simp only [Array.getD_eq_getD_getElem?] at h46
          rw [if_pos (by rfl)]
          exact wp_val (v := .bool false) (w' := W) (by simp [execOp, Act.eval, h46, go_sem]) (hK _ _ hG (Below.refl _ _) rfl (fun h => by cases h))
        · refine stepJ_any rfl fun ac W hAA hG hDD K hK => ?_
          have h4 := hAA.getD (t := 4) (by kernel_rfl)
          have hgd := hDD.get 29 47 _ rfl rfl (by kernel_rfl)
          have hgd := slot_bool hgd
          simp only [Array.getD_eq_getD_getElem?] at h4
          rw [if_pos (by simp [Region.wanted, yielded, hgd])]
          exact wp_val (v := .pointer (some ⟨XB, 2, none⟩)) (w' := W) (by simp [execOp, Act.eval, h4, go_sem]) (hK _ _ hG (Below.refl _ _) rfl (fun h => by cases h))
        · refine stepJ_any rfl fun ac W hAA hG hDD K hK => ?_
          have h48 := hDD.get 30 48 _ rfl rfl (by kernel_rfl)
          have hgd := hDD.get 29 47 _ rfl rfl (by kernel_rfl)
          have hgd := slot_bool hgd
          rw [if_pos (by simp [Region.wanted, yielded, hgd])]
          exact wp_load_mid 35 _ rfl XB 2 h48 (BV x.prev) _ (hN2.out W hG) Tryd.uD rfl hszP.out (hK _ _ hG (Below.refl _ _) rfl (fun h => by cases h))
        · refine stepJ_any rfl fun ac W hAA hG hDD K hK => ?_
          have h0 := hAA.getD (t := 0) (by kernel_rfl)
          have hgd := hDD.get 29 47 _ rfl rfl (by kernel_rfl)
          have hgd := slot_bool hgd
          simp only [Array.getD_eq_getD_getElem?] at h0
          rw [if_pos (by simp [Region.wanted, yielded, hgd])]
          exact wp_val (v := .slice (some ⟨b', off', none⟩) l.length cap) (w' := W) (by simp [execOp, Act.eval, h0, go_sem]) (hK _ _ hG (Below.refl _ _) rfl (fun h => by cases h))
        · refine stepJ_any rfl fun ac W hAA hG hDD K hK => ?_
          have h3 := hAA.getD (t := 3) (by kernel_rfl)
          have hgd := hDD.get 29 47 _ rfl rfl (by kernel_rfl)
          have hgd := slot_bool hgd
          simp only [Array.getD_eq_getD_getElem?] at h3
          rw [if_pos (by simp [Region.wanted, yielded, hgd])]
          exact wp_val (v := .int .i64 (k : Int)) (w' := W) (by simp [execOp, Act.eval, h3, go_sem]) (hK _ _ hG (Below.refl _ _) rfl (fun h => by cases h))
        · refine stepJ_any rfl fun ac W hAA hG hDD K hK => ?_
          have h50 := hDD.get 32 50 _ rfl rfl (by kernel_rfl)
          have h51 := hDD.get 33 51 _ rfl rfl (by kernel_rfl)
          have hgd := hDD.get 29 47 _ rfl rfl (by kernel_rfl)
          have hgd := slot_bool hgd
          simp only [Array.getD_eq_getD_getElem?] at h50 h51
          have hs := hsl.out W
          rw [if_pos (by simp [Region.wanted, yielded, hgd])]
          exact wp_val (v := .slice (some ⟨b', off', none⟩) k cap) (w' := W) (by simp [execOp, Act.eval, h50, h51, go_sem, hs]) (hK _ _ hG (Below.refl _ _) rfl (fun h => by cases h))
        · refine stepJ_any rfl fun ac W hAA hG hDD K hK => ?_
          have h52 := hDD.get 34 52 _ rfl rfl (by kernel_rfl)
          have hgd := hDD.get 29 47 _ rfl rfl (by kernel_rfl)
          have hgd := slot_bool hgd
          simp only [Array.getD_eq_getD_getElem?] at h52
          rw [if_pos (by simp [Region.wanted, yielded, hgd])]
          refine wp_call (f := 25) (args := #[.slice (some ⟨b', off', none⟩) k cap]) (by simp [execOp, Act.eval, h52, go_sem]) ((hHd.out W hG).mono fun e W9 he => ?_)
          obtain ⟨rfl, hbw⟩ := he
          exact hK _ _ (hG.trans (hbw.mono hG.size)) hbw rfl (fun h => by cases h)
        · refine stepJ_any rfl fun ac W hAA hG hDD K hK => ?_
          have h49 := hDD.get 31 49 _ rfl rfl (by kernel_rfl)
          have h53 := hDD.get 35 53 _ rfl rfl (by kernel_rfl)
          have hgd := hDD.get 29 47 _ rfl rfl (by kernel_rfl)
          have hgd := slot_bool hgd
          simp only [Array.getD_eq_getD_getElem?] at h49 h53
          have hq := heq.out W
          rw [if_pos (by simp [Region.wanted, yielded, hgd])]
          exact wp_val (v := .bool false) (w' := W) (by simp [execOp, Act.eval, h49, h53, go_sem, hq]) (hK _ _ hG (Below.refl _ _) rfl (fun h => by cases h))
        · refine stepJ_any rfl fun ac W hAA hG hDD K hK => ?_
          have h47 := hDD.get 29 47 _ rfl rfl (by kernel_rfl)
          have h54 := hDD.get 36 54 _ rfl rfl (by kernel_rfl)
          simp only [Array.getD_eq_getD_getElem?] at h47 h54
          rw [if_pos (by rfl)]
          exact wp_val (v := .bool false) (w' := W) (by simp [execOp, Act.eval, h47, h54, go_sem]) (hK _ _ hG (Below.refl _ _) rfl (fun h => by cases h))
      intro fu T W9 hG hF hne hltb
      have e18 : T 18 = .pointer (some ⟨XB, 0, none⟩) := hF 0 _ rfl (by omega)
      have e19 : T 19 = .int .i64 x.node := hF 1 _ rfl (by omega)
      have e20 : T 20 = .bool false := hF 2 _ rfl (by omega)
      have e21 : T 21 = .bool false := hF 3 _ rfl (by omega)
      have e22 : T 22 = .pointer (some ⟨XB, 0, none⟩) := hF 4 _ rfl (by omega)
      have e23 : T 23 = .int .i64 x.node := hF 5 _ rfl (by omega)
      have e24 : T 24 = .bool false := hF 6 _ rfl (by omega)
      have e25 : T 25 = .bool false := hF 7 _ rfl (by omega)
      have e26 : T 26 = .bool false := hF 8 _ rfl (by omega)
      have e27 : T 27 = .pointer (some ⟨XB, 0, none⟩) := hF 9 _ rfl (by omega)
      have e28 : T 28 = .int .i64 x.node := hF 10 _ rfl (by omega)
      have e29 : T 29 = .slice (some ⟨b', off', none⟩) l.length cap := hF 11 _ rfl (by omega)
      have e30 : T 30 = .pointer (some ⟨b', off', none⟩) := hF 12 _ rfl (by omega)
      have e31 : T 31 = .pointer (some ⟨b', off', none⟩) := hF 13 _ rfl (by omega)
      have e32 : T 32 = .int .i64 n0 := hF 14 _ rfl (by omega)
      have e33 : T 33 = .bool false := hF 15 _ rfl (by omega)
      have e34 : T 34 = .bool false := hF 16 _ rfl (by omega)
      have e35 : T 35 = .bool false := hF 17 _ rfl (by omega)
      have e36 : T 36 = .pointer (some ⟨XB, 1, none⟩) := hF 18 _ rfl (by omega)
      have e37 : T 37 = .int .i64 x.no := hF 19 _ rfl (by omega)
      have e38 : T 38 = .int .i64 (k : Int) := hF 20 _ rfl (by omega)
      have e39 : T 39 = .bool false := hF 21 _ rfl (by omega)
      have e40 : T 40 = .bool false := hF 22 _ rfl (by omega)
      have e41 : T 41 = .bool false := hF 23 _ rfl (by omega)
      have e42 : T 42 = .pointer (some ⟨XB, 34, none⟩) := hF 24 _ rfl (by omega)
      have e43 : T 43 = .slice da x.data.length dc := hF 25 _ rfl (by omega)
      have e44 : T 44 = .int .i64 (x.data.length : Nat) := hF 26 _ rfl (by omega)
      have e45 : T 45 = .bool false := hF 27 _ rfl (by omega)
      have e46 : T 46 = .bool false := hF 28 _ rfl (by omega)
      have e47 : T 47 = .bool false := hF 29 _ rfl (by omega)
      have e48 : T 48 = .pointer (some ⟨XB, 2, none⟩) := hF 30 _ rfl (by omega)
      have e49 : T 49 = .agg (BV x.prev).toArray := hF 31 _ rfl (by omega)
      have e50 : T 50 = .slice (some ⟨b', off', none⟩) l.length cap := hF 32 _ rfl (by omega)
      have e51 : T 51 = .int .i64 (k : Int) := hF 33 _ rfl (by omega)
      have e52 : T 52 = .slice (some ⟨b', off', none⟩) k cap := hF 34 _ rfl (by omega)
      have e53 : T 53 = .agg (BV (headP (l.take k))).toArray := hF 35 _ rfl (by omega)
      have e54 : T 54 = .bool false := hF 36 _ rfl (by omega)
      have e55 : T 55 = .bool false := hF 37 _ rfl (by omega)
      clear hF hne hltb
      simp only [List.take, fillT, List.setIfInBounds_toArray, List.set_cons_zero, List.set_cons_succ, e18, e19, e20, e21, e22, e23, e24, e25, e26, e27, e28, e29, e30, e31, e32, e33, e34, e35, e36, e37, e38, e39, e40, e41, e42, e43, e44, e45, e46, e47, e48, e49, e50, e51, e52, e53, e54, e55]
      clear e18 e19 e20 e21 e22 e23 e24 e25 e26 e27 e28 e29 e30 e31 e32 e33 e34 e35 e36 e37 e38 e39 e40 e41 e42 e43 e44 e45 e46 e47 e48 e49 e50 e51 e52 e53 e54 e55
      refine wpAny_done (by kernel_rfl) ?_ _
      have hb3 := Lib.hid (hb2.out.trans (hG.mono hb2.out.size))
      clear hG hN0 hN1 hN2 hN3 hN4 hHd hsl heq
      go_wp2_with fail
      go_roundw
      case rel => exact ⟨k + 1, by go_num, by omega, hb3, fun i hi => by
        by_cases e : i = k
        · rw [e]; exact hok.out
        · exact hall.out i (by omega)⟩
      case measure => simp [intOf]; omega
    · obtain rfl : k = l.length := by omega
      have hc := Lib.hid (chk_good hall.out)
      have hkl' : ¬ (l.length : Int) < l.length := by omega
      go_wp2_with fail
      go_ret
      exact ⟨by rw [hc.out]; rfl, hb.out⟩
end Go.Proofs.YtbhpmeljmkoebaaDoor
