/- A list of links copied, one replaced; ChainChanged. -/
import Derived.Test.YtbhpmeljmkoebaaDoorVr
namespace Go.Proofs.YtbhpmeljmkoebaaDoor
open Go.RowKit

theorem below_cells {B : Nat} {w : World} {b : Nat} (hB : B ≤ b) : ∀ (vs : List Value) (o : Nat) (w' : World), Below B w w' → Below B w (w'.setCells b o vs)
  | [], _, _, h => h
  | v :: r, o, w', h => below_cells hB r (o + 1) _ (h.setCell (p := ⟨b, o, none⟩) hB v)
/-- 'append([]Link{}, l...)', and a store into the copy. -/
theorem copy_set {W : World} {l : List Lk} {a : Option Addr} {cap : Nat} (hQ : QL W W.heap.size l a cap) (hp : 0 < l.length) (hm : l.length ≤ 1000000) (x : Lk) (hf : x.Fine) (da : Option Addr) (dc : Nat) (hD : Dt W W.heap.size x da dc) (k : Nat) (hk : k < l.length) (ty : TypeId) :
    ∃ c w', (Builtin.append_ #[22, 22] ty #[.slice (some ⟨W.heap.size, 0, none⟩) 0 0, .slice a l.length cap]).run Tryd.prog (W.alloc (.cells #[] 37)) = .ok (.slice (some ⟨W.heap.size + 1, 0, none⟩) l.length c) w' ∧ Below W.heap.size W w' ∧
      w'.there (W.heap.size + 1) (k * 35) 35 ∧ Below W.heap.size W (w'.setCells (W.heap.size + 1) (k * 35) (LW x da dc)) ∧ QL (w'.setCells (W.heap.size + 1) (k * 35) (LW x da dc)) (w'.setCells (W.heap.size + 1) (k * 35) (LW x da dc)).heap.size (l.set k x) (some ⟨W.heap.size + 1, 0, none⟩) c := by
  obtain ⟨i0, hi0, hz0, hz1, hz2⟩ := info_parts Tryd.infoL
  have hb1 := bel1 W (.cells #[] 37)
  have hs1 : (W.alloc (.cells #[] 37)).heap.size = W.heap.size + 1 := by simp
  generalize W.alloc (.cells #[] 37) = V at hb1 hs1 ⊢
  have hQV := hQ.lift hb1 hb1.size
  obtain ⟨b, off, da0, dc0, rfl, hbB, -⟩ := hQV.at_ hp
  have hcl : (cellsL V b off l.length).length = l.length * 35 := by simp [cellsL]
  have hrow : ∀ i (hi : i < l.length), ∃ da dc, (∀ j u, (LW l[i] da dc)[j]? = some u → (cellsL V b off l.length)[i * 35 + j]? = some u) ∧ Dt V V.heap.size l[i] da dc := fun i hi => by
    obtain ⟨da, dc, r, d⟩ := hQV.cell i hi
    refine ⟨da, dc, fun j u hu => ?_, d⟩
    have hj : j < 35 := by
      have := (List.getElem?_eq_some_iff.1 hu).1
      rwa [LW_length (hQ.fine _ (List.getElem_mem hi)).prev] at this
    have hc := r j u hu
    unfold cellsL
    rw [List.getElem?_map, List.getElem?_range (by omega), Option.map_some, ← Nat.add_assoc, hc]
    rfl
  have hone : ∀ u ∈ cellsL V b off l.length, u.oneCell' = true := fun u hu => by
    obtain ⟨j, hj, rfl⟩ := List.getElem_of_mem hu
    have hj' : j < l.length * 35 := by rwa [hcl] at hj
    obtain ⟨da, dc, r, -⟩ := hrow (j / 35) (by omega)
    have hl : (LW l[j / 35] da dc).length = 35 := LW_length (hQ.fine _ (List.getElem_mem (by omega))).prev
    have := r (j % 35) ((LW l[j / 35] da dc)[j % 35]'(by omega)) (List.getElem?_eq_getElem (by omega))
    rw [show j / 35 * 35 + j % 35 = j by omega, List.getElem?_eq_getElem hj] at this
    injection this with this
    rw [this]
    exact LW_one _ _ _ _ (List.getElem_mem _)
  have hsrc : Src Tryd.prog i0.size 22 (.slice (some ⟨b, off, none⟩) l.length cap) l.length (cellsL V b off l.length) V := by
    rw [hz1]
    exact Src.ofSlice V Tryd.underlying22 ⟨b, off, none⟩ l.length cap _ hcl (fun j u hu => by rw [add_none]; exact cellsL_get hQV hu) hone
  have hr := run_append_grow_src (P := Tryd.prog) V 22 22 ty 37 i0 _ Tryd.underlying22 hi0 hz0 (some ⟨W.heap.size, 0, none⟩) 0 0 [] (run_firstCells_some V.drew i0.size 0 ⟨W.heap.size, 0, none⟩ 0 0 [] (by simp) (fun j u h => by simp at h)) _ l.length _ hsrc (by omega) (by omega) (growslice_fits (by omega) (by rw [hz2]; omega))
  simp only [Nat.zero_add, List.nil_append] at hr
  have hcm : grownCap V l.length 0 37 ≤ maxLen := grownCap_le_maxLen V l.length 0 _ (by unfold maxLen; omega)
  have hge := grownCap_ge V l.length 0 37
  generalize grownCap V l.length 0 37 = G at hr hcm hge
  generalize Builtin.zeroCells (Value.cells (.agg #[.int .i64 0, .int .i64 0, .int .u8 0, .int .u8 0, .int .u8 0, .int .u8 0, .int .u8 0, .int .u8 0, .int .u8 0, .int .u8 0, .int .u8 0, .int .u8 0, .int .u8 0, .int .u8 0, .int .u8 0, .int .u8 0, .int .u8 0, .int .u8 0, .int .u8 0, .int .u8 0, .int .u8 0, .int .u8 0, .int .u8 0, .int .u8 0, .int .u8 0, .int .u8 0, .int .u8 0, .int .u8 0, .int .u8 0, .int .u8 0, .int .u8 0, .int .u8 0, .int .u8 0, .int .u8 0, .slice none 0 0])) (G - l.length) = zc at hr
  have hb : Below V.heap.size V (V.drew.alloc (.cells ((cellsL V b off l.length).toArray ++ zc) 37)) := ⟨rfl, rfl, rfl, by simp, fun k hk => Below.heap_alloc V.drew _ k hk⟩
  have hnew : (V.drew.alloc (.cells ((cellsL V b off l.length).toArray ++ zc) 37)).heap[V.heap.size]? = some (.cells ((cellsL V b off l.length).toArray ++ zc) 37 (0, 0)) := heap_alloc_new V.drew _
  rw [hs1] at hnew hr
  refine ⟨_, _, hr, hb1.trans (hb.mono hb1.size), ?_⟩
  have hcell : ∀ k u, (cellsL V b off l.length)[k]? = some u → (V.drew.alloc (.cells ((cellsL V b off l.length).toArray ++ zc) 37)).cell? ⟨W.heap.size + 1, k, none⟩ = some u := fun k u hu => by
    rw [cell_of_row _ (W.heap.size + 1) k _ _ _ hnew, Array.getElem?_append_left (by have := (List.getElem?_eq_some_iff.1 hu).1; simpa using this)]
    simpa using hu
  have hfz : ∀ k, (V.drew.alloc (.cells ((cellsL V b off l.length).toArray ++ zc) 37)).frozen? ⟨W.heap.size + 1, k, none⟩ = false := fun k => frozen_of_row _ (W.heap.size + 1) k _ _ hnew
  generalize V.drew.alloc (.cells ((cellsL V b off l.length).toArray ++ zc) 37) = V2 at hb hnew hcell hfz
  have hthere : V2.there (W.heap.size + 1) (k * 35) 35 := fun j hj => by
    refine ⟨?_, hfz _⟩
    have hlt : k * 35 + j < (cellsL V b off l.length).length := by rw [hcl]; omega
    rw [hcell _ _ (List.getElem?_eq_getElem hlt)]
    rfl
  have hB2 := hb1.trans (hb.mono hb1.size)
  have hB3 := below_cells (B := W.heap.size) (b := W.heap.size + 1) (by omega) (LW x da dc) (k * 35) V2 hB2
  have hxl : (LW x da dc).length = 35 := LW_length hf.prev
  refine ⟨hthere, hB3, by rw [List.length_set]; exact hge, by unfold maxLen at hcm; omega, fun y hy => ?_, (fun h => by cases h), W.heap.size + 1, 0, fun _ => ⟨rfl, ?_⟩, fun i hi => ?_⟩
  · rcases List.mem_or_eq_of_mem_set hy with h | h
    · exact hQ.fine y h
    · rw [h]; exact hf
  · have h1 := World.rangeAt_setCells_same V2 (W.heap.size + 1) (k * 35) (LW x da dc) (by rw [hxl]; exact hthere) 0 _ (LW_0 x da dc)
    exact World.block_lt_of_cell? _ ⟨W.heap.size + 1, k * 35 + 0, none⟩ h1
  · rw [List.length_set] at hi
    rw [Nat.zero_add]
    by_cases hik : i = k
    · subst hik
      rw [List.getElem_set_self]
      exact ⟨da, dc, World.rangeAt_setCells_same V2 _ _ _ (by rw [hxl]; exact hthere), hD.lift hB3 hB3.size⟩
    · rw [List.getElem_set_ne (by omega)]
      obtain ⟨ea, ec, r, d⟩ := hrow i hi
      obtain ⟨ea', ec', r', d'⟩ := hQ.cell i hi
      have hsame : V.rangeAt b (off + i * 35) (LW l[i] ea' ec') := fun j v hv => (hb1.cell (p := ⟨b, off + i * 35 + j, none⟩) (by
        obtain ⟨b', o', _, _, e', hlt, -⟩ := hQ.at_ hi
        injection e' with e'
        injection e' with e1 e2
        subst e1; exact hlt)).trans (r' j v hv)
      have h1 : V2.rangeAt (W.heap.size + 1) (i * 35) (LW l[i] ea' ec') := fun j v hv => by
        have hj : j < 35 := by
          have := (List.getElem?_eq_some_iff.1 hv).1
          rwa [LW_length (hQ.fine _ (List.getElem_mem hi)).prev] at this
        refine hcell _ _ ?_
        have hc := hsame j v hv
        unfold cellsL
        rw [List.getElem?_map, List.getElem?_range (by omega), Option.map_some, ← Nat.add_assoc, hc]
        rfl
      have hil : (LW l[i] ea' ec').length = 35 := LW_length (hQ.fine _ (List.getElem_mem hi)).prev
      refine ⟨ea', ec', World.rangeAt_setCells_apart h1 _ _ _ (.inr ?_), d'.lift hB3 hB3.size⟩
      rw [hil, hxl]
      omega

/-- Where a link that is not the last one is replaced, and the result is a chain, two texts with one digest are shown. -/
theorem changed_clash {l : List Lk} {x : Lk} {k : Nat} (hk : k + 1 < l.length) (h1 : chkP l = 0) (h2 : chkP (l.set k x) = 0) (hne : sameL (l[k]'(by omega)) x = false) : clashP (l[k]'(by omega)) x = true := by
  have p1 := chain_ok h1 (k + 1) hk
  have p2 := chain_ok h2 (k + 1) (by rw [List.length_set]; exact hk)
  rw [okAt_eq hk] at p1
  rw [okAt_eq (by rw [List.length_set]; exact hk), List.getElem_set_ne (by omega)] at p2
  have e1 := follows_prev p1
  have e2 := follows_prev p2
  rw [headP_take (by omega)] at e1
  rw [headP_take (by rw [List.length_set]; omega), List.getElem_set_self] at e2
  have hh : headX (l[k]'(by omega)) = headX x := e1.symm.trans e2
  unfold clashP
  rw [hh, beq_self_eq_true, Bool.and_true]
  have : txtL (l[k]'(by omega)) ≠ txtL x := fun e => sameL_false.1 hne (txt_inj e)
  simpa using this

set_option maxRecDepth 100000 in
set_option maxHeartbeats 4000000 in
theorem changed_law (l : List Lk) (at_ : UInt8) (x : Lk) (w : World) (a : Option Addr) (ca : Nat) (ax : Option Addr) (cx : Nat) (hQ : QL w w.heap.size l a ca) (hxf : x.Fine) (hxD : Dt w w.heap.size x ax cx) (hKT : KT w) (h0 : 0 < w.heap.size) :
    Calls Tryd.prog 6 #[.slice a l.length ca, .int .u8 (at_.toNat : Int), .agg (LW x ax cx).toArray] w fun e w' => e = .returned (.bool true) ∧ Below w.heap.size w w' := by
  have hbx := bel1 w (.cells (LW x ax cx).toArray 37)
  have hxB := heap_alloc_new w (.cells (LW x ax cx).toArray 37)
  have hK : Hid (∀ W, Below w.heap.size w W → KT W ∧ 0 < W.heap.size) := fun W hW => ⟨hKT.below hW h0, Nat.lt_of_lt_of_le h0 hW.size⟩
  have hS0 := Lib.hid (sane_any _ (hK.out _ hbx).1 (hK.out _ hbx).2)
  replace hQ := Lib.hid hQ
  replace hxf := Lib.hid hxf
  replace hxD := Lib.hid hxD
  clear hKT h0
  obtain ⟨V0, hV0⟩ : ∃ V0, w.alloc (.cells (LW x ax cx).toArray 37) = V0 := ⟨_, rfl⟩
  rw [hV0] at hbx hxB hS0
  obtain ⟨XB, hXB⟩ : ∃ XB, w.heap.size = XB := ⟨_, rfl⟩
  have hXBH := Lib.hid hXB
  replace hV0 := Lib.hid hV0
  go_enter Tryd.func6, Tryd.ntmps6
  go_upto_region 1 with fail
  rw [hV0.out]
  rw [hXB] at hxB
  try rw [hXB]
  clear hV0 hXB
  go_wp2_with fail
  refine hS0.out.mono ?_
  rintro e w1 ⟨rfl, hb1⟩
  replace hxB := Lib.hid (blk_at hxB hb1)
  have hB := Lib.hid (hbx.trans (hb1.mono hbx.size))
  clear hS0 hb1 hbx
  go_wp2_with fail
  refine (Few_any l w1 a ca (hQ.out.lift hB.out hB.out.size)).mono ?_
  rintro e w2 ⟨rfl, hb2⟩
  replace hB := Lib.hid (hB.out.trans (hb2.mono hB.out.size))
  replace hxB := Lib.hid (blk_at hxB.out hb2)
  clear hb2
  rcases Bool.eq_false_or_eq_true (fewP l) with f1 | f1
  case inr =>
    rw [f1]
    go_wp2_with fail
    go_ret
    exact ⟨rfl, hB.out⟩
  rw [f1]
  have hl16 := few_len f1
  have hsl : Hid (Short l) := few_short f1
  clear f1
  by_cases hn0 : l.length = 0
  · have hn0' : (l.length : Int) = 0 := by omega
    go_wp2_with fail
    go_ret
    exact ⟨rfl, hB.out⟩
  have hn0' : ¬ (l.length : Int) = 0 := by omega
  have g0 : ((l.length : Int) == 0) = false := by simpa using hn0'
  have hx3 : w2.cell? ⟨XB, 34, none⟩ = some (.slice ax x.data.length cx) := by
    have := (range_parts hxf.out.prev (range_of hxB.out)).2.2.2
    rwa [Nat.zero_add] at this
  by_cases hd : (300 : Int) < x.data.length
  · go_wp2_with fail
    go_ret
    exact ⟨rfl, hB.out⟩
  have g1 : decide ((300 : Int) < x.data.length) = false := by simpa using hd
  have hxd : Hid (x.data.length ≤ 300) := by show _ ≤ _; omega
  go_wp2_with fail
  refine (Check_any l hsl.out (by omega) w2 a ca (hQ.out.lift hB.out hB.out.size) (hK.out _ hB.out).1 (hK.out _ hB.out).2).mono ?_
  rintro e V ⟨rfl, hb3⟩
  replace hB := Lib.hid (hB.out.trans (hb3.mono hB.out.size))
  replace hxB := Lib.hid (blk_at hxB.out hb3)
  clear hb3 hx3
  rcases chk_cases l with c1 | c1
  case inr =>
    rw [c1]
    go_wp2_with fail
    go_ret
    exact ⟨rfl, hB.out⟩
  rw [c1]
  replace c1 := Lib.hid c1
  have hat := at_.toNat_lt
  obtain ⟨k, hk⟩ : ∃ k, at_.toNat % l.length = k := ⟨_, rfl⟩
  have hkl : k < l.length := by rw [← hk]; exact Nat.mod_lt _ (by omega)
  have hmod : ((at_.toNat : Int)).tmod (l.length : Int) = (k : Int) := by rw [Int.tmod_eq_emod_of_nonneg (by omega), ← Int.natCast_emod, hk]
  have hwk : IntKind.i64.wrap (at_.toNat : Int) = (at_.toNat : Int) := IntWalk.i64_in _ (by omega)
  go_upto_region 6 with fail
  obtain ⟨b1, o1, da, dc, ha, hb1B, hr1, hD1⟩ := (hQ.out.lift hB.out hB.out.size).at_ hkl
  have hfz := (hQ.out.fine l[k] (List.getElem_mem hkl)).prev
  have hz : Hid (∀ W, Below V.heap.size V W → W.rangeAt b1 (o1 + k * 35) (LW l[k] da dc)) := fun W hW j v hv => (hW.cell (p := ⟨b1, o1 + k * 35 + j, none⟩) hb1B).trans (hr1 j v hv)
  have hx : Hid (∀ W, Below V.heap.size V W → W.rangeAt XB 0 (LW x ax cx)) := fun W hW => range_of (blk_at hxB.out hW)
  have hsz := Lib.hid (LW_info (a := da) (c := dc) hfz)
  have hsx := Lib.hid (LW_info (a := ax) (c := cx) hxf.out.prev)
  have hSl : Hid (∀ W, Below V.heap.size V W → Calls Tryd.prog 18 #[.agg (LW l[k] da dc).toArray, .agg (LW x ax cx).toArray] W fun e w' => e = .returned (.bool (sameL l[k] x)) ∧ Below W.heap.size W w') := fun W hW => by
    have hb := hB.out.trans (hW.mono hB.out.size)
    exact SameLink_any l[k] x hfz hxf.out.prev W da ax dc cx (hD1.read.lift hW hW.size) (hxD.out.read.lift hb hb.size)
  have i0 : (0 : Int) ≤ k := by omega
  have i1 : (k : Int) < l.length := by omega
  obtain ⟨z, hzz⟩ : ∃ z, l[k] = z := ⟨_, rfl⟩
  rw [hzz] at hz hSl hsz
  replace hzz := Lib.hid hzz
  subst ha
  clear hr1 hD1 hfz hb1B hk hmod hwk hat hn0
  rcases Bool.eq_false_or_eq_true (sameL z x) with s1 | s1
  case inl =>
    rw [s1] at hSl
    clear s1
    refine wp_region_pre 6 0 (fun W => Below V.heap.size V W) (fun W W' => Below W.heap.size W W')
      (fun i v W => match i with
        | 0 => v = .slice (some ⟨b1, o1, none⟩) l.length ca
        | 1 => v = .int .i64 (k : Int)
        | 2 => v = .pointer (some ⟨b1, o1 + k * 35, none⟩)
        | 3 => v = .agg (LW z da dc).toArray
        | 4 => v = .agg (LW x ax cx).toArray
        | 5 => v = .bool true
        | _ => True) (fun _ => false)
      (by kernel_rfl) (by kernel_rfl) (by kernel_rfl) (by kernel_rfl) (by kernel_rfl) (by kernel_rfl) (by kernel_rfl) ?_ (fun _ _ h => h.size) (dN (Below.refl _ _) 1) ?_ ?_
    · intro i v W W' hb hF
      match i, hF with
      | 0, h => exact h
      | 1, h => exact h
      | 2, h => exact h
      | 3, h => exact h
      | 4, h => exact h
      | 5, h => exact h
      | _ + 6, _ => trivial
    · refine ⟨?_, ?_, ?_, ?_, ?_, ?_, trivial⟩
      · refine stepJ_any rfl fun ac W hAA hG hDD K hK => ?_
        have h0 := hAA.getD (t := 0) (by kernel_rfl)
        simp only [Array.getD_eq_getD_getElem?] at h0
        rw [if_pos (by rfl)]
        exact wp_val (v := .slice (some ⟨b1, o1, none⟩) l.length ca) (w' := W) (by simp [execOp, Act.eval, h0, go_sem]) (hK _ _ hG (Below.refl _ _) rfl (fun h => by cases h))
      · refine stepJ_any rfl fun ac W hAA hG hDD K hK => ?_
        have h7 := hAA.getD (t := 7) (by kernel_rfl)
        simp only [Array.getD_eq_getD_getElem?] at h7
        rw [if_pos (by rfl)]
        exact wp_val (v := .int .i64 (k : Int)) (w' := W) (by simp [execOp, Act.eval, h7, go_sem]) (hK _ _ hG (Below.refl _ _) rfl (fun h => by cases h))
      · refine stepJ_any rfl fun ac W hAA hG hDD K hK => ?_
        have h35 := hDD.get 0 35 _ rfl rfl (by kernel_rfl)
        have h36 := hDD.get 1 36 _ rfl rfl (by kernel_rfl)
        simp only [Array.getD_eq_getD_getElem?] at h35 h36
        rw [if_pos (by rfl)]
        exact wp_val (v := .pointer (some ⟨b1, o1 + k * 35, none⟩)) (w' := W) (by simp [execOp, Act.eval, h35, h36, go_sem, i0, i1]) (hK _ _ hG (Below.refl _ _) rfl (fun h => by cases h))
      · refine stepJ_any rfl fun ac W hAA hG hDD K hK => ?_
        have h37 := hDD.get 2 37 _ rfl rfl (by kernel_rfl)
        rw [if_pos (by rfl)]
        exact wp_load_mid 37 _ rfl b1 (o1 + k * 35) h37 (LW z da dc) _ (hz.out W hG) Tryd.underlying37 rfl hsz.out (hK _ _ hG (Below.refl _ _) rfl (fun h => by cases h))
      · refine stepJ_any rfl fun ac W hAA hG hDD K hK => ?_
        have h5 := hAA.getD (t := 5) (by kernel_rfl)
        rw [if_pos (by rfl)]
        exact wp_load_mid 37 _ rfl XB (0) h5 (LW x ax cx) _ (hx.out W hG) Tryd.underlying37 rfl hsx.out (hK _ _ hG (Below.refl _ _) rfl (fun h => by cases h))
      · refine stepJ_any rfl fun ac W hAA hG hDD K hK => ?_
        have h38 := hDD.get 3 38 _ rfl rfl (by kernel_rfl)
        have h39 := hDD.get 4 39 _ rfl rfl (by kernel_rfl)
        simp only [Array.getD_eq_getD_getElem?] at h38 h39
        rw [if_pos (by rfl)]
        refine wp_call (f := 18) (args := #[.agg (LW z da dc).toArray, .agg (LW x ax cx).toArray]) (by simp [execOp, Act.eval, h38, h39, go_sem]) ((hSl.out W hG).mono fun e W9 he => ?_)
        obtain ⟨rfl, hbw⟩ := he
        exact hK _ _ (hG.trans (hbw.mono hG.size)) hbw rfl (fun h => by cases h)
    intro fu T W9 hG hF hne hltb
    have e35 : T 35 = .slice (some ⟨b1, o1, none⟩) l.length ca := hF 0 _ rfl (by omega)
    have e36 : T 36 = .int .i64 (k : Int) := hF 1 _ rfl (by omega)
    have e37 : T 37 = .pointer (some ⟨b1, o1 + k * 35, none⟩) := hF 2 _ rfl (by omega)
    have e38 : T 38 = .agg (LW z da dc).toArray := hF 3 _ rfl (by omega)
    have e39 : T 39 = .agg (LW x ax cx).toArray := hF 4 _ rfl (by omega)
    have e40 : T 40 = .bool true := hF 5 _ rfl (by omega)
    clear hF hne hltb
    simp only [List.take, fillT, List.setIfInBounds_toArray, List.set_cons_zero, List.set_cons_succ, e35, e36, e37, e38, e39, e40]
    clear e35 e36 e37 e38 e39 e40
    refine wpAny_done (by kernel_rfl) ?_ _
    have hb2 := Lib.hid (hB.out.trans (hG.mono hB.out.size))
    clear hG hz hx hSl
    go_wp2_with fail
    go_ret
    exact ⟨rfl, hb2.out⟩
  rw [s1] at hSl
  replace s1 := Lib.hid s1
  refine wp_region_pre 6 0 (fun W => Below V.heap.size V W) (fun W W' => Below W.heap.size W W')
    (fun i v W => match i with
      | 0 => v = .slice (some ⟨b1, o1, none⟩) l.length ca
      | 1 => v = .int .i64 (k : Int)
      | 2 => v = .pointer (some ⟨b1, o1 + k * 35, none⟩)
      | 3 => v = .agg (LW z da dc).toArray
      | 4 => v = .agg (LW x ax cx).toArray
      | 5 => v = .bool false
      | _ => True) (fun _ => false)
    (by kernel_rfl) (by kernel_rfl) (by kernel_rfl) (by kernel_rfl) (by kernel_rfl) (by kernel_rfl) (by kernel_rfl) ?_ (fun _ _ h => h.size) (dN (Below.refl _ _) 1) ?_ ?_
  · intro i v W W' hb hF
    match i, hF with
    | 0, h => exact h
    | 1, h => exact h
    | 2, h => exact h
    | 3, h => exact h
    | 4, h => exact h
    | 5, h => exact h
    | _ + 6, _ => trivial
  · refine ⟨?_, ?_, ?_, ?_, ?_, ?_, trivial⟩
    · refine stepJ_any rfl fun ac W hAA hG hDD K hK => ?_
      have h0 := hAA.getD (t := 0) (by kernel_rfl)
      simp only [Array.getD_eq_getD_getElem?] at h0
      rw [if_pos (by rfl)]
      exact wp_val (v := .slice (some ⟨b1, o1, none⟩) l.length ca) (w' := W) (by simp [execOp, Act.eval, h0, go_sem]) (hK _ _ hG (Below.refl _ _) rfl (fun h => by cases h))
    · refine stepJ_any rfl fun ac W hAA hG hDD K hK => ?_
      have h7 := hAA.getD (t := 7) (by kernel_rfl)
      simp only [Array.getD_eq_getD_getElem?] at h7
      rw [if_pos (by rfl)]
      exact wp_val (v := .int .i64 (k : Int)) (w' := W) (by simp [execOp, Act.eval, h7, go_sem]) (hK _ _ hG (Below.refl _ _) rfl (fun h => by cases h))
    · refine stepJ_any rfl fun ac W hAA hG hDD K hK => ?_
      have h35 := hDD.get 0 35 _ rfl rfl (by kernel_rfl)
      have h36 := hDD.get 1 36 _ rfl rfl (by kernel_rfl)
      simp only [Array.getD_eq_getD_getElem?] at h35 h36
      rw [if_pos (by rfl)]
      exact wp_val (v := .pointer (some ⟨b1, o1 + k * 35, none⟩)) (w' := W) (by simp [execOp, Act.eval, h35, h36, go_sem, i0, i1]) (hK _ _ hG (Below.refl _ _) rfl (fun h => by cases h))
    · refine stepJ_any rfl fun ac W hAA hG hDD K hK => ?_
      have h37 := hDD.get 2 37 _ rfl rfl (by kernel_rfl)
      rw [if_pos (by rfl)]
      exact wp_load_mid 37 _ rfl b1 (o1 + k * 35) h37 (LW z da dc) _ (hz.out W hG) Tryd.underlying37 rfl hsz.out (hK _ _ hG (Below.refl _ _) rfl (fun h => by cases h))
    · refine stepJ_any rfl fun ac W hAA hG hDD K hK => ?_
      have h5 := hAA.getD (t := 5) (by kernel_rfl)
      rw [if_pos (by rfl)]
      exact wp_load_mid 37 _ rfl XB (0) h5 (LW x ax cx) _ (hx.out W hG) Tryd.underlying37 rfl hsx.out (hK _ _ hG (Below.refl _ _) rfl (fun h => by cases h))
    · refine stepJ_any rfl fun ac W hAA hG hDD K hK => ?_
      have h38 := hDD.get 3 38 _ rfl rfl (by kernel_rfl)
      have h39 := hDD.get 4 39 _ rfl rfl (by kernel_rfl)
      simp only [Array.getD_eq_getD_getElem?] at h38 h39
      rw [if_pos (by rfl)]
      refine wp_call (f := 18) (args := #[.agg (LW z da dc).toArray, .agg (LW x ax cx).toArray]) (by simp [execOp, Act.eval, h38, h39, go_sem]) ((hSl.out W hG).mono fun e W9 he => ?_)
      obtain ⟨rfl, hbw⟩ := he
      exact hK _ _ (hG.trans (hbw.mono hG.size)) hbw rfl (fun h => by cases h)
  intro fu T W9 hG hF hne hltb
  have e35 : T 35 = .slice (some ⟨b1, o1, none⟩) l.length ca := hF 0 _ rfl (by omega)
  have e36 : T 36 = .int .i64 (k : Int) := hF 1 _ rfl (by omega)
  have e37 : T 37 = .pointer (some ⟨b1, o1 + k * 35, none⟩) := hF 2 _ rfl (by omega)
  have e38 : T 38 = .agg (LW z da dc).toArray := hF 3 _ rfl (by omega)
  have e39 : T 39 = .agg (LW x ax cx).toArray := hF 4 _ rfl (by omega)
  have e40 : T 40 = .bool false := hF 5 _ rfl (by omega)
  clear hF hne hltb
  simp only [List.take, fillT, List.setIfInBounds_toArray, List.set_cons_zero, List.set_cons_succ, e35, e36, e37, e38, e39, e40]
  clear e35 e36 e37 e38 e39 e40
  refine wpAny_done (by kernel_rfl) ?_ _
  replace hB := Lib.hid (hB.out.trans (hG.mono hB.out.size))
  replace hxB := Lib.hid (blk_at hxB.out hG)
  clear hG hz hx hSl hsz
  have hxW := hxD.out.lift hB.out hB.out.size
  obtain ⟨cg, wc, hap, hbc, hth, hbs, hQm⟩ := copy_set (hQ.out.lift hB.out hB.out.size) (by omega) (by omega) x hxf.out ax cx hxW k hkl 22
  have hxl : (LW x ax cx).length = 35 := LW_length hxf.out.prev
  have hth' : wc.there (W9.heap.size + 1) (k * 35) (LW x ax cx).toArray.size := by
    have e : (LW x ax cx).toArray.size = 35 := by simpa using hxl
    rw [e]; exact hth
  replace hap := Lib.hid hap
  replace hth' := Lib.hid hth'
  have hu := Lib.hid Tryd.underlying37
  have hxc : Hid (wc.rangeAt XB 0 (LW x ax cx)) := range_of ((hbc.block _ (Array.getElem?_eq_some_iff.1 hxB.out).1).trans hxB.out)
  have hsxA : Hid ((Tryd.prog.info? 37).map (·.size) = some (LW x ax cx).toArray.size) := by
    show _ = _
    rw [Tryd.iL, List.size_toArray, hxl]
  replace hbs := Lib.hid (hB.out.trans (hbs.mono hB.out.size))
  replace hQm := Lib.hid hQm
  clear hth hbc hxW hxl
  go_upto_region 10 with (first
    | (at_builtin; refine Lib.wpList_append_run _ rfl _ _ _ _ rfl _ _ rfl rfl _ _ hap.out ?_)
    | (refine wpList_load_part (by rfl) 37 _ (by rfl) XB 0 (by rfl) (LW x ax cx) _ hxc.out hu.out rfl hsx.out ?_)
    | (refine wpList_store_mid rfl 37 _ _ rfl (W9.heap.size + 1) (k * 35) (LW x ax cx).toArray rfl rfl hth'.out hsxA.out (LW_all _ _ _) ?_))
  try simp only [List.toList_toArray]
  generalize wc.setCells (W9.heap.size + 1) (k * 35) (LW x ax cx) = V2 at *
  generalize W9.heap.size + 1 = G at *
  clear hap hth' hxc hsxA hB hxB hsx hu
  have hB := hbs
  have hml : (l.set k x).length = l.length := List.length_set ..
  have hms : Hid (Short (l.set k x)) := fun y hy => by
    rcases List.mem_or_eq_of_mem_set hy with h | h
    · exact hsl.out y h
    · rw [h]; have := hxd.out; omega
  have hCm := Check_any (l.set k x) hms.out (by omega) V2 (some ⟨G, 0, none⟩) cg hQm.out (hK.out _ hB.out).1 (hK.out _ hB.out).2
  rw [hml] at hCm
  replace hCm := Lib.hid hCm
  go_wp2_with fail
  refine hCm.out.mono ?_
  rintro e V3 ⟨rfl, hb4⟩
  replace hB := Lib.hid (hB.out.trans (hb4.mono hB.out.size))
  replace hQm := Lib.hid (hQm.out.lift hb4 hb4.size)
  clear hb4 hCm hbs
  rcases chk_cases (l.set k x) with c2 | c2
  case inr =>
    rw [c2]
    go_wp2_with fail
    go_ret
    exact ⟨rfl, hB.out⟩
  rw [c2]
  replace c2 := Lib.hid c2
  have hwr : IntKind.i64.wrap ((l.length : Int) - 1) = (l.length : Int) - 1 := IntWalk.i64_in _ (by omega)
  by_cases hlast : (k : Int) = (l.length : Int) - 1
  · have hle : ((k : Int) == (l.length : Int) - 1) = true := by simpa using hlast
    clear hlast
    go_wp2_with fail
    go_ret
    exact ⟨rfl, hB.out⟩
  have hle : ((k : Int) == (l.length : Int) - 1) = false := by simpa using hlast
  have hk1 : k + 1 < l.length := by omega
  have hcc : Hid (clashP l[k] x = true) := changed_clash hk1 c1.out c2.out (by rw [hzz.out]; exact s1.out)
  have hw1 : IntKind.i64.wrap ((k : Int) + 1) = (k : Int) + 1 := IntWalk.i64_in _ (by omega)
  have hs1 : Hid (∀ W, (Instr.slice 22 (.slice (some ⟨b1, o1, none⟩) l.length ca) none (some (.int .i64 ((k : Int) + 1))) none).run Tryd.prog W = .ok (.slice (some ⟨b1, o1, none⟩) (k + 1) ca) W) := fun W => by
    have h := slice_to (some ⟨b1, o1, none⟩) l.length ca (k + 1) (Nat.le_trans (by omega) hQ.out.1) W
    rw [show ((k + 1 : Nat) : Int) = (k : Int) + 1 by omega] at h
    exact h
  have hs2 : Hid (∀ W, (Instr.slice 22 (.slice (some ⟨G, 0, none⟩) l.length cg) none (some (.int .i64 ((k : Int) + 1))) none).run Tryd.prog W = .ok (.slice (some ⟨G, 0, none⟩) (k + 1) cg) W) := fun W => by
    have h := slice_to (some ⟨G, 0, none⟩) l.length cg (k + 1) (Nat.le_trans (by omega) hQm.out.1) W
    rw [show ((k + 1 : Nat) : Int) = (k : Int) + 1 by omega] at h
    exact h
  have hcl : Hid (∀ W, Below V3.heap.size V3 W → Calls Tryd.prog 17 #[.slice (some ⟨b1, o1, none⟩) (k + 1) ca, .slice (some ⟨G, 0, none⟩) (k + 1) cg] W fun e w' => e = .returned (.bool true) ∧ Below W.heap.size W w') := fun W hW => by
    have hb := hB.out.trans (hW.mono hB.out.size)
    have l1 : (l.take (k + 1)).length = k + 1 := by rw [List.length_take]; omega
    have l2 : ((l.set k x).take (k + 1)).length = k + 1 := by rw [List.length_take]; omega
    have hx2 : (l.set k x).take (k + 1) = (l.set k x).take k ++ [x] := by
      rw [List.take_succ_eq_append_getElem (by omega), List.getElem_set_self]
    have := clash_any (l.take (k + 1)) ((l.set k x).take (k + 1)) (l.take k) ((l.set k x).take k) l[k] x (List.take_succ_eq_append_getElem hkl) hx2 (hsl.out.take _) (hms.out.take _) (by omega) (by omega) W (some ⟨b1, o1, none⟩) (some ⟨G, 0, none⟩) ca cg
      ((hQ.out.lift hb hb.size).cut (by omega) (Nat.le_trans (by omega) hQ.out.1) (Nat.le_refl _) id (.inl rfl)) ((hQm.out.lift hW hW.size).cut (by omega) (Nat.le_trans (by omega) hQm.out.1) (Nat.le_refl _) id (.inl rfl)) (hK.out _ hb).1 (hK.out _ hb).2
    rw [l1, l2, hcc.out] at this
    exact this
  clear hlast hk1
  go_wp2_with fail
  refine wp_region_pre 10 0 (fun W => Below V3.heap.size V3 W) (fun W W' => Below W.heap.size W W')
    (fun i v W => match i with
      | 0 => v = .slice (some ⟨b1, o1, none⟩) l.length ca
      | 1 => v = .int .i64 (k : Int)
      | 2 => v = .int .i64 ((k : Int) + 1)
      | 3 => v = .slice (some ⟨b1, o1, none⟩) (k + 1) ca
      | 4 => v = .slice (some ⟨G, 0, none⟩) l.length cg
      | 5 => v = .int .i64 (k : Int)
      | 6 => v = .int .i64 ((k : Int) + 1)
      | 7 => v = .slice (some ⟨G, 0, none⟩) (k + 1) cg
      | 8 => v = .bool true
      | 9 => v = .bool true
      | _ => True) (fun _ => false)
    (by kernel_rfl) (by kernel_rfl) (by kernel_rfl) (by kernel_rfl) (by kernel_rfl) (by kernel_rfl) (by kernel_rfl) ?_ (fun _ _ h => h.size) (dN (Below.refl _ _) 1) ?_ ?_
  · intro i v W W' hb hF
    match i, hF with
    | 0, h => exact h
    | 1, h => exact h
    | 2, h => exact h
    | 3, h => exact h
    | 4, h => exact h
    | 5, h => exact h
    | 6, h => exact h
    | 7, h => exact h
    | 8, h => exact h
    | 9, h => exact h
    | _ + 10, _ => trivial
  · refine ⟨?_, ?_, ?_, ?_, ?_, ?_, ?_, ?_, ?_, ?_, trivial⟩
    · refine stepJ_any rfl fun ac W hAA hG hDD K hK => ?_
      have h0 := hAA.getD (t := 0) (by kernel_rfl)
      simp only [Array.getD_eq_getD_getElem?] at h0
      rw [if_pos (by rfl)]
      exact wp_val (v := .slice (some ⟨b1, o1, none⟩) l.length ca) (w' := W) (by simp [execOp, Act.eval, h0, go_sem]) (hK _ _ hG (Below.refl _ _) rfl (fun h => by cases h))
    · refine stepJ_any rfl fun ac W hAA hG hDD K hK => ?_
      have h7 := hAA.getD (t := 7) (by kernel_rfl)
      simp only [Array.getD_eq_getD_getElem?] at h7
      rw [if_pos (by rfl)]
      exact wp_val (v := .int .i64 (k : Int)) (w' := W) (by simp [execOp, Act.eval, h7, go_sem]) (hK _ _ hG (Below.refl _ _) rfl (fun h => by cases h))
    · refine stepJ_any rfl fun ac W hAA hG hDD K hK => ?_
      have h59 := hDD.get 1 59 _ rfl rfl (by kernel_rfl)
      simp only [Array.getD_eq_getD_getElem?] at h59
      rw [if_pos (by rfl)]
      exact wp_val (v := .int .i64 ((k : Int) + 1)) (w' := W) (by simp [execOp, Act.eval, h59, go_sem, hw1]) (hK _ _ hG (Below.refl _ _) rfl (fun h => by cases h))
    · refine stepJ_any rfl fun ac W hAA hG hDD K hK => ?_
      have h58 := hDD.get 0 58 _ rfl rfl (by kernel_rfl)
      have h60 := hDD.get 2 60 _ rfl rfl (by kernel_rfl)
      simp only [Array.getD_eq_getD_getElem?] at h58 h60
      have hs := hs1.out W
      rw [if_pos (by rfl)]
      exact wp_val (v := .slice (some ⟨b1, o1, none⟩) (k + 1) ca) (w' := W) (by simp [execOp, Act.eval, h58, h60, go_sem, hs]) (hK _ _ hG (Below.refl _ _) rfl (fun h => by cases h))
    · refine stepJ_any rfl fun ac W hAA hG hDD K hK => ?_
      have h8 := hAA.getD (t := 8) (by kernel_rfl)
      simp only [Array.getD_eq_getD_getElem?] at h8
      rw [if_pos (by rfl)]
      exact wp_val (v := .slice (some ⟨G, 0, none⟩) l.length cg) (w' := W) (by simp [execOp, Act.eval, h8, go_sem]) (hK _ _ hG (Below.refl _ _) rfl (fun h => by cases h))
    · refine stepJ_any rfl fun ac W hAA hG hDD K hK => ?_
      have h7 := hAA.getD (t := 7) (by kernel_rfl)
      simp only [Array.getD_eq_getD_getElem?] at h7
      rw [if_pos (by rfl)]
      exact wp_val (v := .int .i64 (k : Int)) (w' := W) (by simp [execOp, Act.eval, h7, go_sem]) (hK _ _ hG (Below.refl _ _) rfl (fun h => by cases h))
    · refine stepJ_any rfl fun ac W hAA hG hDD K hK => ?_
      have h63 := hDD.get 5 63 _ rfl rfl (by kernel_rfl)
      simp only [Array.getD_eq_getD_getElem?] at h63
      rw [if_pos (by rfl)]
      exact wp_val (v := .int .i64 ((k : Int) + 1)) (w' := W) (by simp [execOp, Act.eval, h63, go_sem, hw1]) (hK _ _ hG (Below.refl _ _) rfl (fun h => by cases h))
    · refine stepJ_any rfl fun ac W hAA hG hDD K hK => ?_
      have h62 := hDD.get 4 62 _ rfl rfl (by kernel_rfl)
      have h64 := hDD.get 6 64 _ rfl rfl (by kernel_rfl)
      simp only [Array.getD_eq_getD_getElem?] at h62 h64
      have hs := hs2.out W
      rw [if_pos (by rfl)]
      exact wp_val (v := .slice (some ⟨G, 0, none⟩) (k + 1) cg) (w' := W) (by simp [execOp, Act.eval, h62, h64, go_sem, hs]) (hK _ _ hG (Below.refl _ _) rfl (fun h => by cases h))
    · refine stepJ_any rfl fun ac W hAA hG hDD K hK => ?_
      have h61 := hDD.get 3 61 _ rfl rfl (by kernel_rfl)
      have h65 := hDD.get 7 65 _ rfl rfl (by kernel_rfl)
      simp only [Array.getD_eq_getD_getElem?] at h61 h65
      rw [if_pos (by rfl)]
      refine wp_call (f := 17) (args := #[.slice (some ⟨b1, o1, none⟩) (k + 1) ca, .slice (some ⟨G, 0, none⟩) (k + 1) cg]) (by simp [execOp, Act.eval, h61, h65, go_sem]) ((hcl.out W hG).mono fun e W9 he => ?_)
      obtain ⟨rfl, hbw⟩ := he
      exact hK _ _ (hG.trans (hbw.mono hG.size)) hbw rfl (fun h => by cases h)
    · refine stepJ_any rfl fun ac W hAA hG hDD K hK => ?_
      have h66 := hDD.get 8 66 _ rfl rfl (by kernel_rfl)
      simp only [Array.getD_eq_getD_getElem?] at h66
      rw [if_pos (by rfl)]
      exact wp_val (v := .bool true) (w' := W) (by simp [execOp, Act.eval, h66, go_sem]) (hK _ _ hG (Below.refl _ _) rfl (fun h => by cases h))
  intro fu T W9 hG hF hne hltb
  have e58 : T 58 = .slice (some ⟨b1, o1, none⟩) l.length ca := hF 0 _ rfl (by omega)
  have e59 : T 59 = .int .i64 (k : Int) := hF 1 _ rfl (by omega)
  have e60 : T 60 = .int .i64 ((k : Int) + 1) := hF 2 _ rfl (by omega)
  have e61 : T 61 = .slice (some ⟨b1, o1, none⟩) (k + 1) ca := hF 3 _ rfl (by omega)
  have e62 : T 62 = .slice (some ⟨G, 0, none⟩) l.length cg := hF 4 _ rfl (by omega)
  have e63 : T 63 = .int .i64 (k : Int) := hF 5 _ rfl (by omega)
  have e64 : T 64 = .int .i64 ((k : Int) + 1) := hF 6 _ rfl (by omega)
  have e65 : T 65 = .slice (some ⟨G, 0, none⟩) (k + 1) cg := hF 7 _ rfl (by omega)
  have e66 : T 66 = .bool true := hF 8 _ rfl (by omega)
  have e6 : T 6 = .bool true := hF 9 _ rfl (by omega)
  clear hF hne hltb
  simp only [List.take, fillT, List.setIfInBounds_toArray, List.set_cons_zero, List.set_cons_succ, e58, e59, e60, e61, e62, e63, e64, e65, e66, e6]
  clear e58 e59 e60 e61 e62 e63 e64 e65 e66 e6
  refine wpAny_done (by kernel_rfl) ?_ _
  replace hB := Lib.hid (hB.out.trans (hG.mono hB.out.size))
  clear hG hcl hs1 hs2
  go_wp2_with fail
  go_ret
  exact ⟨rfl, hB.out⟩
end Go.Proofs.YtbhpmeljmkoebaaDoor

