/- The reference: the state after a block. -/
import Derived.Test.YtalphobaohffnaaDoorWb
namespace Go.Proofs.YtalphobaohffnaaDoor
open Go.RowKit

theorem below_grown {a b : World} {N g : Nat} (h : a.grownBy b (some g)) (hN : N ≤ g) (hs : N ≤ a.heap.size) : Below N a b := (Below.refl N a).grown h hs (fun k e => by injection e with e; omega)
theorem slice4 (b off len c t : Nat) (h : 4 * t + 4 ≤ c) (_hc : c ≤ 9223372036854775807) (W : World) : (Instr.slice 22 (.slice (some ⟨b, off, none⟩) len c) (some (.int .i64 (4 * (t : Int)))) (some (.int .i64 (4 * (t : Int) + 4))) none).run Tryd.prog W = .ok (.slice (some ⟨b, off + 4 * t, none⟩) 4 (c - 4 * t)) W := by
  have ht : Tryd.prog.underlying 22 = some (.slice (Tryd.prog.elem 22)) := by kernel_rfl
  have he : Tryd.prog.elem 22 = 5 := by kernel_rfl
  rw [run_slice_lh W _ _ _ _ ht .i64 .i64 _ _ (by omega) (by omega) (by omega), he, Tryd.size8]
  have e1 : (4 * (t : Int)).toNat = 4 * t := by omega
  have e2 : (4 * (t : Int) + 4).toNat = 4 * t + 4 := by omega
  simp only [Result.andThen, sliced, e1, e2]
  rw [if_neg (by omega)]
  simp only [Option.map_some, Nat.mul_one, add_none]
  congr 2
  omega
/-- The three blocks that the function begins with: the state, the result, whatever comes third. -/
theorem boxes (w : World) (ss : List UInt32) (o : Obj) : WB (((w.alloc (.cells (WV ss).toArray 42)).alloc (.cells #[.int .u32 0, .int .u32 0, .int .u32 0, .int .u32 0, .int .u32 0, .int .u32 0, .int .u32 0, .int .u32 0] 42)).alloc o) w.heap.size 42 ss ∧
    WB (((w.alloc (.cells (WV ss).toArray 42)).alloc (.cells #[.int .u32 0, .int .u32 0, .int .u32 0, .int .u32 0, .int .u32 0, .int .u32 0, .int .u32 0, .int .u32 0] 42)).alloc o) (w.heap.size + 1) 42 (List.replicate 8 0) ∧
    Below w.heap.size w (((w.alloc (.cells (WV ss).toArray 42)).alloc (.cells #[.int .u32 0, .int .u32 0, .int .u32 0, .int .u32 0, .int .u32 0, .int .u32 0, .int .u32 0, .int .u32 0] 42)).alloc o) := by
  have h1 : WB (w.alloc (.cells (WV ss).toArray 42)) w.heap.size 42 ss := heap_alloc_new _ _
  have h2 : WB ((w.alloc (.cells (WV ss).toArray 42)).alloc (.cells #[.int .u32 0, .int .u32 0, .int .u32 0, .int .u32 0, .int .u32 0, .int .u32 0, .int .u32 0, .int .u32 0] 42)) (w.heap.size + 1) 42 (List.replicate 8 0) := by
    have := heap_alloc_new (w.alloc (.cells (WV ss).toArray 42)) (.cells #[.int .u32 0, .int .u32 0, .int .u32 0, .int .u32 0, .int .u32 0, .int .u32 0, .int .u32 0, .int .u32 0] 42)
    rw [World.size_alloc] at this
    exact this
  have b2 := (Below.refl (w.heap.size + 1) (w.alloc (.cells (WV ss).toArray 42))).alloc (by simp) (.cells #[.int .u32 0, .int .u32 0, .int .u32 0, .int .u32 0, .int .u32 0, .int .u32 0, .int .u32 0, .int .u32 0] 42)
  have b3 := (Below.refl (w.heap.size + 2) ((w.alloc (.cells (WV ss).toArray 42)).alloc (.cells #[.int .u32 0, .int .u32 0, .int .u32 0, .int .u32 0, .int .u32 0, .int .u32 0, .int .u32 0, .int .u32 0] 42))).alloc (by simp) o
  exact ⟨(h1.below b2 (by omega)).below b3 (by omega), h2.below b3 (by omega), (((Below.refl _ _).alloc (Nat.le_refl _) _).alloc (by simp) _).alloc (by simp; omega) _⟩

theorem grown_set {a b : World} {R i : Nat} (h : a.grownBy b (some R)) (v : Value) : a.grownBy (b.setCell ⟨R, i, none⟩ v) (some R) :=
  ⟨h.os, h.tape, h.output, by rw [World.size_setCell]; exact h.size, fun k hk hne => by
    rw [heap_setCell_other _ _ _ _ (fun e => hne (by rw [e]))]; exact h.block k hk hne⟩
theorem grown_dn {a b : World} {r : Option Nat} (h : a.grownBy b r) (n : Nat) : a.grownBy (b.drewN n) r := ⟨h.os, h.tape, h.output, h.size, h.block⟩

theorem rror_q (x : UInt32) (m : Int) (h1 : 1 ≤ m) (h2 : m ≤ 31) (w : World) : Calls Tryd.prog 43 #[.int .u32 (U x), .int .i64 m] w fun e w' => e = .returned (.int .u32 (U (rotr x m.toNat))) ∧ ∃ k, w' = w.drewN k := by
  obtain ⟨n, rfl⟩ := Int.eq_ofNat_of_zero_le (by omega : 0 ≤ m)
  exact rror_any x n (by omega) (by omega) w
theorem addTo_eight (ss : List UInt32) (hs : ss.length = 8) (st : S8) : addTo ss st.list 8 = [ss.getD 0 0 + st.a, ss.getD 1 0 + st.b, ss.getD 2 0 + st.c, ss.getD 3 0 + st.d, ss.getD 4 0 + st.e, ss.getD 5 0 + st.f, ss.getD 6 0 + st.g, ss.getD 7 0 + st.h] := by
  match ss, hs with
  | [a, b, c, d, e, f, g, h], _ => rfl
theorem Ktab_len : Ktab.length = 64 := by decide
attribute [local irreducible] Calls
set_option maxRecDepth 100000 in
set_option maxHeartbeats 2000000 in
theorem block_any (bs : List UInt8) (hl : bs.length = 64) (ss : List UInt32) (hs : ss.length = 8) (w : World) (A : Option Addr) (c : Nat) (hc : 64 ≤ c) (hc2 : c ≤ 9223372036854775807) (hr : RBs w w.heap.size A bs) :
    Calls Tryd.prog 36 #[.agg (WV ss).toArray, .slice A 64 c] w fun e w' => e = .returned (.agg (WV (blockSt bs ss)).toArray) ∧ Below w.heap.size w w' := by
  obtain ⟨b, off, rfl, hbl, hcell⟩ := hr (by omega)
  have hcell' := Lib.hid hcell
  have hi : (Tryd.prog.info? 58).map (·.size) = some 64 := by kernel_rfl
  have hs' := Lib.hid hs
  have hz : ∀ o, (((w.alloc (.cells (WV ss).toArray 42)).alloc (.cells #[.int .u32 0, .int .u32 0, .int .u32 0, .int .u32 0, .int .u32 0, .int .u32 0, .int .u32 0, .int .u32 0] 42)).alloc o).heap[w.heap.size + 2]? = some o := fun o => by
    have := heap_alloc_new ((w.alloc (.cells (WV ss).toArray 42)).alloc (.cells #[.int .u32 0, .int .u32 0, .int .u32 0, .int .u32 0, .int .u32 0, .int .u32 0, .int .u32 0, .int .u32 0] 42)) o
    rw [World.size_alloc, World.size_alloc] at this
    exact this
  clear hr hcell hs
  go_enter Tryd.func36, Tryd.ntmps36
  go_wp2_with (refine wpList_store_row rfl 58 _ _ rfl (w.heap.size + 2) _ rfl rfl 58 _ (hz _) ?cj ?cl ?ck ?_
               case cj => rw [hi]; rfl
               case cl => rfl
               case ck => kernel_rfl)
  rw [setRow_self _ _ _ _ _ (hz _)]
  have hf := fun o => boxes w ss o
  have hx3 : WB (World.alloc ((w.alloc (.cells (WV ss).toArray 42)).alloc (.cells #[.int .u32 0, .int .u32 0, .int .u32 0, .int .u32 0, .int .u32 0, .int .u32 0, .int .u32 0, .int .u32 0] 42)) (.cells (WV (w0 bs 0)).toArray 58)) (w.heap.size + 2) 58 (w0 bs 0) := hz _
  obtain ⟨x1, x2, hB⟩ := hf (.cells (WV (w0 bs 0)).toArray 58)
  change Code.wp _ _ _ _ (World.alloc ((w.alloc (.cells (WV ss).toArray 42)).alloc (.cells #[.int .u32 0, .int .u32 0, .int .u32 0, .int .u32 0, .int .u32 0, .int .u32 0, .int .u32 0, .int .u32 0] 42)) (.cells (WV (w0 bs 0)).toArray 58))
  generalize World.alloc ((w.alloc (.cells (WV ss).toArray 42)).alloc (.cells #[.int .u32 0, .int .u32 0, .int .u32 0, .int .u32 0, .int .u32 0, .int .u32 0, .int .u32 0, .int .u32 0] 42)) (.cells (WV (w0 bs 0)).toArray 58) = w3 at hx3 x1 x2 hB ⊢
  clear hf hz
  have x1' := Lib.hid x1
  have x2' := Lib.hid x2
  clear x1 x2
  go_loopw [6] (fun i wr => ∃ t : Nat, i = .int .i64 t ∧ t ≤ 16 ∧ Hid (WB wr (w.heap.size + 2) 58 (w0 bs t)) ∧ Hid (w3.grownBy wr (some (w.heap.size + 2)))) (fun i _ => 16 - (intOf i).toNat)
  case atStart => exact ⟨0, rfl, by omega, Lib.hid hx3, Lib.hid ⟨rfl, rfl, rfl, Nat.le_refl _, fun _ _ _ => rfl⟩⟩
  case round =>
    obtain ⟨t, rfl, ht, hw, hgr⟩ := hrel
    have hlt3 := hx3.lt
    have hBr : Below w.heap.size w wr := hB.trans (below_grown hgr.out (by omega) (by omega))
    by_cases h16 : t < 16
    · have hwd := word_any bs t wr b (off + 4 * t) (c - 4 * t) (fun j hj => by
        have := hcell'.out (4 * t + j) (by omega)
        rw [show off + 4 * t + j = off + (4 * t + j) by omega, hBr.cell (p := ⟨b, off + (4 * t + j), none⟩) hbl, this, List.getD_eq_getElem?_getD, List.getElem?_eq_getElem (by omega)]
        rfl)
      have hwd' := Lib.hid hwd
      have hsl := slice4 b off 64 c t (by omega) hc2
      have g1 : IntKind.i64.wrap (4 * (t : Int)) = 4 * t := IntWalk.i64_in _ (by omega)
      have g2 : IntKind.i64.wrap (4 * (t : Int) + 4) = 4 * t + 4 := IntWalk.i64_in _ (by omega)
      have i0 : (0 : Int) ≤ t := by omega
      have i1 : (t : Int) < 64 := by omega
      clear hwd
      go_wp2_with fail
      refine hwd'.out.mono ?_
      rintro e w5 ⟨rfl, n5, rfl⟩
      have hw5 : WB (wr.drewN n5) (w.heap.size + 2) 58 (w0 bs t) := hw.out
      have hc5 := hw5.cell (i := t) (by rw [w0_length _ _ (by omega)]; omega)
      have hf5 := hw5.frozen t
      have hst : WB ((wr.drewN n5).setCell ⟨w.heap.size + 2, t, none⟩ (.int .u32 (U (wacc bs t 4)))) (w.heap.size + 2) 58 (w0 bs (t + 1)) := by
        rw [← w0_succ bs t (by omega)]; exact hw5.set _
      have hgs := grown_set (i := t) (grown_dn hgr.out n5) (.int .u32 (U (wacc bs t 4)))
      have hst' := Lib.hid hst
      have hgs' := Lib.hid hgs
      clear hst hgs hw5 hwd' hsl
      go_wp2_with fail
      go_roundw
      case rel => exact ⟨t + 1, by go_num, by omega, hst', hgs'⟩
      case measure => simp [intOf]; omega
    · obtain rfl : t = 16 := by omega
      obtain ⟨wo, rfl⟩ : ∃ wo : World, wo = wr := ⟨_, rfl⟩
      clear ht h16
      rw [show (((16 : Nat)) : Int) = 16 from rfl]
      go_wp2_with fail
      go_loopw [7, 8, 9] (fun i _ _ wr => ∃ t : Nat, 16 ≤ t ∧ t ≤ 64 ∧ i = .int .i64 t ∧ Hid (WB wr (w.heap.size + 2) 58 (sch bs (t - 16))) ∧ Hid (w3.grownBy wr (some (w.heap.size + 2)))) (fun i _ _ _ => 64 - (intOf i).toNat)
      case atStart => exact ⟨16, by omega, by omega, rfl, hw, hgr⟩
      case round =>
        clear hw hgr hBr
        obtain ⟨t, ht0, ht, rfl, hw, hgr⟩ := hrel
        have hlen := sch_length bs (t - 16)
        by_cases hlt : t < 64
        · have c15 := hw.out.cell (i := t - 15) (by omega)
          have c2 := hw.out.cell (i := t - 2) (by omega)
          have g1 : IntKind.i64.wrap ((t : Int) - 15) = t - 15 := IntWalk.i64_in _ (by omega)
          have g2 : IntKind.i64.wrap ((t : Int) - 2) = t - 2 := IntWalk.i64_in _ (by omega)
          have g3 : ((t : Int) - 15).toNat = t - 15 := by omega
          have g4 : ((t : Int) - 2).toNat = t - 2 := by omega
          have i0 : (0 : Int) ≤ t - 15 := by omega
          have i1 : (t : Int) - 15 < 64 := by omega
          have i2 : (0 : Int) ≤ t - 2 := by omega
          have i3 : (t : Int) - 2 < 64 := by omega
          have hd : decide ((t : Int) < 64) = true := by simp; omega
          clear hlen
          go_wp2_with fail
          clear g1 g2 g3 g4 i0 i1 i2 i3 hd c15 c2
          have hlen := sch_length bs (t - 16)
          have c16 := hw.out.cell (i := t - 16) (by omega)
          have c7 := hw.out.cell (i := t - 7) (by omega)
          have ct := hw.out.cell (i := t) (by omega)
          have hwf := hw.out.frozen t
          have hn : nxt (sch bs (t - 16)) t = nxt (sch bs (t - 16)) t := rfl
          conv at hn => lhs; unfold nxt
          simp only [← List.getD_eq_getElem?_getD]
          generalize (sch bs (t - 16)).getD (t - 16) 0 = x16 at *
          generalize (sch bs (t - 16)).getD (t - 15) 0 = x15 at *
          generalize (sch bs (t - 16)).getD (t - 7) 0 = x7 at *
          generalize (sch bs (t - 16)).getD (t - 2) 0 = x2 at *
          have hst : WB (wr.setCell ⟨w.heap.size + 2, t, none⟩ (.int .u32 (U (x16 + sig0 x15 + x7 + sig1 x2)))) (w.heap.size + 2) 58 (sch bs (t + 1 - 16)) := by
            rw [hn, show t + 1 - 16 = (t - 16) + 1 by omega, sch, stepW, show 16 + (t - 16) = t by omega]
            exact hw.out.set _
          have hst' := Lib.hid hst
          have g1 : IntKind.i64.wrap ((t : Int) - 16) = t - 16 := IntWalk.i64_in _ (by omega)
          have g2 : IntKind.i64.wrap ((t : Int) - 7) = t - 7 := IntWalk.i64_in _ (by omega)
          have g3 : ((t : Int) - 16).toNat = t - 16 := by omega
          have g4 : ((t : Int) - 7).toNat = t - 7 := by omega
          have i0 : (0 : Int) ≤ t - 16 := by omega
          have i1 : (t : Int) - 16 < 64 := by omega
          have i2 : (0 : Int) ≤ t - 7 := by omega
          have i3 : (t : Int) - 7 < 64 := by omega
          have i4 : (0 : Int) ≤ t := by omega
          have i5 : (t : Int) < 64 := by omega
          have i6 : (16 : Int) ≤ t := by omega
          have i7 : (7 : Int) ≤ t := by omega
          have k16 : ∀ v, (wr.setCell ⟨w.heap.size + 2, t, none⟩ v).cell? ⟨w.heap.size + 2, t - 16, none⟩ = some (.int .u32 (U x16)) := fun v => (World.cell?_setCell_other wr _ _ v (fun e => by have h := congrArg (·.off) e; simp at h; omega)).trans c16
          have k7 : ∀ v, (wr.setCell ⟨w.heap.size + 2, t, none⟩ v).cell? ⟨w.heap.size + 2, t - 7, none⟩ = some (.int .u32 (U x7)) := fun v => (World.cell?_setCell_other wr _ _ v (fun e => by have h := congrArg (·.off) e; simp at h; omega)).trans c7
          have k16' := Lib.hid k16
          have k7' := Lib.hid k7
          clear hst hn hlen k16 k7
          go_region_held3 (fun W => W.cell? ⟨w.heap.size + 2, t - 16, none⟩ = some (.int .u32 (U x16)) ∧ W.cell? ⟨w.heap.size + 2, t - 7, none⟩ = some (.int .u32 (U x7))) (first | exact ⟨c16, c7⟩ | exact ⟨k16'.out _, k7'.out _⟩)
            (first
              | (go_at_call 43; refine (rror_any x15 7 (by decide) (by decide) _).mono ?_; rintro e w' ⟨rfl, n1, rfl⟩)
              | (go_at_call 43; refine (rror_any x15 18 (by decide) (by decide) _).mono ?_; rintro e w' ⟨rfl, n2, rfl⟩)
              | (go_at_call 43; refine (rror_any x2 17 (by decide) (by decide) _).mono ?_; rintro e w' ⟨rfl, n3, rfl⟩)
              | (go_at_call 43; refine (rror_any x2 19 (by decide) (by decide) _).mono ?_; rintro e w' ⟨rfl, n4, rfl⟩; have ct4 := ct; have hf4 := hwf)
              | fail)
          simp only [U_div8, U_div1024, U_xor, U_add]
          have hgs := grown_set (i := t) (grown_dn hgr.out (1 + n1 + n2 + n3 + n4)) (.int .u32 (U (x16 + sig0 x15 + x7 + sig1 x2)))
          have hgs' := Lib.hid hgs
          have hst6 : Hid (WB ((wr.drewN (1 + n1 + n2 + n3 + n4)).setCell ⟨w.heap.size + 2, t, none⟩ (.int .u32 (U (x16 + sig0 x15 + x7 + sig1 x2)))) (w.heap.size + 2) 58 (sch bs (t + 1 - 16))) := hst'
          clear hgs k16' k7' c16 c7 ct hwf
          go_wp2_with fail
          go_roundw
          case rel => exact ⟨t + 1, by omega, by omega, by go_num, hst6, hgs'⟩
          case measure => simp [intOf]; omega
        · obtain rfl : t = 64 := by omega
          obtain ⟨wo2, rfl⟩ : ∃ wo2 : World, wo2 = wr := ⟨_, rfl⟩
          rw [show (((64 : Nat)) : Int) = 64 from rfl]
          have hBr : Below w.heap.size w wo2 := hB.trans (below_grown hgr.out (by omega) (by omega))
          have hlw := hw.out.lt
          have hx1r : WB wo2 w.heap.size 42 ss := by
            unfold WB
            rw [hgr.out.block _ (by omega) (fun e => by injection e with e; omega)]
            exact x1'.out
          have hx2r : WB wo2 (w.heap.size + 1) 42 (List.replicate 8 0) := by
            unfold WB
            rw [hgr.out.block _ (by omega) (fun e => by injection e with e; omega)]
            exact x2'.out
          have hx1r' := Lib.hid hx1r
          have hx2r' := Lib.hid hx2r
          have hBr' := Lib.hid hBr
          have hsK : (WV Ktab).toArray.size = 64 := by rw [List.size_toArray, WV_length]; rfl
          have hsK' := Lib.hid hsK
          clear ht ht0 hlt hx1r hx2r hBr x1' x2' hgr hx3 hB hlen hsK
          go_wp2_with fail
          refine (numbers_any wo2).mono ?_
          rintro e w6 ⟨rfl, hb6⟩
          go_wp2_with (refine wpList_store_row rfl 58 _ _ rfl w6.heap.size _ rfl rfl 58 _ (heap_alloc_last w6 _) ?cj2 ?cl2 ?ck2 ?_
                       case cj2 => rw [hi, hsK'.out]
                       case cl2 => rw [hsK'.out]; rfl
                       case ck2 => exact WV_one _)
          rw [World.setRow_alloc_new]
          have hba := (Below.refl w6.heap.size w6).alloc (Nat.le_refl _) (.cells (WV Ktab).toArray 58)
          have hK7 : WB (w6.alloc (.cells (WV Ktab).toArray 58)) w6.heap.size 58 Ktab := heap_alloc_last _ _
          have hw6 := hw.out.below hb6 hlw
          have h16 := hx1r'.out.below hb6 hx1r'.out.lt
          have h26 := hx2r'.out.below hb6 hx2r'.out.lt
          have hw7 := hw6.below hba hw6.lt
          have h17 := h16.below hba h16.lt
          have h27 := h26.below hba h26.lt
          have hB7 := (hBr'.out.trans (hb6.mono hBr'.out.size)).trans (hba.mono (Nat.le_trans hBr'.out.size hb6.size))
          generalize w6.alloc (.cells (WV Ktab).toArray 58) = w7 at hK7 hw7 h17 h27 hB7 ⊢
          generalize w6.heap.size = gK at hK7 ⊢
          have s0 := h17.cell (i := 0) (by have := hs'.out; omega)
          have s1 := h17.cell (i := 1) (by have := hs'.out; omega)
          have s2 := h17.cell (i := 2) (by have := hs'.out; omega)
          have s3 := h17.cell (i := 3) (by have := hs'.out; omega)
          have s4 := h17.cell (i := 4) (by have := hs'.out; omega)
          have s5 := h17.cell (i := 5) (by have := hs'.out; omega)
          have s6 := h17.cell (i := 6) (by have := hs'.out; omega)
          have s7 := h17.cell (i := 7) (by have := hs'.out; omega)
          have h17' := Lib.hid h17
          have h27' := Lib.hid h27
          have hw7' := Lib.hid hw7
          have hK7' := Lib.hid hK7
          have hB7' := Lib.hid hB7
          clear hba hw6 h16 h26 h17 h27 hw7 hK7 hB7 hb6 hw hlw hx1r' hx2r' hBr' hi hsK'
          go_wp2_with fail
          go_quiet (fail)
          clear s0 s1 s2 s3 s4 s5 s6 s7
          go_wp2_with fail
          go_loopw [11, 12, 13, 14, 15, 16, 17, 18, 19, 20, 21] (fun a b c d e f g' h i _ _ wr => ∃ t : Nat, t ≤ 64 ∧ i = .int .i64 t ∧ ∃ st, Hid (st = rnds (sch bs 48) t (S8.of ss)) ∧ a = .int .u32 (U st.a) ∧ b = .int .u32 (U st.b) ∧ c = .int .u32 (U st.c) ∧ d = .int .u32 (U st.d) ∧
            e = .int .u32 (U st.e) ∧ f = .int .u32 (U st.f) ∧ g' = .int .u32 (U st.g) ∧ h = .int .u32 (U st.h) ∧ Sm w7 wr) (fun _ _ _ _ _ _ _ _ i _ _ _ => 64 - (intOf i).toNat)
          case atStart => exact ⟨0, by omega, rfl, S8.of ss, Lib.hid rfl, rfl, rfl, rfl, rfl, rfl, rfl, rfl, rfl, Sm.refl _⟩
          case round =>
            obtain ⟨t, ht, rfl, st, hst', rfl, rfl, rfl, rfl, rfl, rfl, rfl, rfl, hsm⟩ := hrel
            by_cases hlt : t < 64
            · have ck := (hsm.wb hK7'.out).cell (i := t) (by rw [Ktab_len]; exact hlt)
              have cw := (hsm.wb hw7'.out).cell (i := t) (by rw [sch_length]; exact hlt)
              have hr : rnds (sch bs 48) (t + 1) (S8.of ss) = rnd (Ktab.getD t 0) ((sch bs 48).getD t 0) st := by rw [rnds, hst'.out]
              generalize Ktab.getD t 0 = k at *
              generalize (sch bs 48).getD t 0 = x at *
              have hr' := Lib.hid hr
              have i0 : (0 : Int) ≤ t := by omega
              have i1 : (t : Int) < 64 := by omega
              clear hr
              go_wp2_with fail
              go_quiet ((go_at_call 43; exact Calls.quiet_of (rror_q _ _ (by omega) (by omega) _)))
              clear i0 i1 ck cw
              simp only [U_not, U_xor, U_and, sum5]
              have hp : st.h + (rotr st.e 6 ^^^ rotr st.e 11 ^^^ rotr st.e 25) + ((st.e &&& st.f) ^^^ (~~~st.e &&& st.g)) + k + x = pp st k x := rfl
              have hr2 : rnds (sch bs 48) (t + 1) (S8.of ss) = st.next (pp st k x) (qq st) := hr'.out
              rw [hp]
              generalize pp st k x = p at hr2 ⊢
              have hr2' := Lib.hid hr2
              have hsm2 := hsm.drewN nq
              generalize wr.drewN nq = w8 at hsm2 ⊢
              clear hp hr2 hr' hsm
              go_wp2_with (go_at_call 43; refine (rror_q _ _ (by omega) (by omega) _).mono ?_; rintro e w' ⟨rfl, n9, rfl⟩)
              go_roundw
              case rel =>
                exact ⟨t + 1, by omega, by go_num, st.next p (qq st), Lib.hid hr2'.out.symm, by simp only [U_xor, U_and, U_add2]; rfl, rfl, rfl, rfl, by simp only [U_add2]; rfl, rfl, rfl, rfl, hsm2⟩
              case measure => simp [intOf]; omega
            · obtain rfl : t = 64 := by omega
              have h1r := hsm.wb h17'.out
              have h2r := hsm.wb h27'.out
              have hBf := hsm.below hB7'.out
              have s0 := h1r.cell (i := 0) (by have := hs'.out; omega)
              have s1 := h1r.cell (i := 1) (by have := hs'.out; omega)
              have s2 := h1r.cell (i := 2) (by have := hs'.out; omega)
              have s3 := h1r.cell (i := 3) (by have := hs'.out; omega)
              have s4 := h1r.cell (i := 4) (by have := hs'.out; omega)
              have s5 := h1r.cell (i := 5) (by have := hs'.out; omega)
              have s6 := h1r.cell (i := 6) (by have := hs'.out; omega)
              have s7 := h1r.cell (i := 7) (by have := hs'.out; omega)
              have hfin : blockSt bs ss = addTo ss st.list 8 := by rw [blockSt, ← hst'.out]
              rw [addTo_eight ss hs'.out st] at hfin
              generalize ss.getD 0 0 = y0 at *
              generalize ss.getD 1 0 = y1 at *
              generalize ss.getD 2 0 = y2 at *
              generalize ss.getD 3 0 = y3 at *
              generalize ss.getD 4 0 = y4 at *
              generalize ss.getD 5 0 = y5 at *
              generalize ss.getD 6 0 = y6 at *
              generalize ss.getD 7 0 = y7 at *
              have e0 := U_add y0 st.a
              have e1 := U_add y1 st.b
              have e2 := U_add y2 st.c
              have e3 := U_add y3 st.d
              have e4 := U_add y4 st.e
              have e5 := U_add y5 st.f
              have e6 := U_add y6 st.g
              have e7 := U_add y7 st.h
              have hi8 : (Tryd.prog.info? 42).map (·.size) = some 8 := by kernel_rfl
              have hu8 : Tryd.prog.underlying 42 = some (.array 8 41) := by kernel_rfl
              have hfin' := Lib.hid hfin
              have hBf' := Lib.hid hBf
              have hrow := setRow_heap wr (w.heap.size + 1) _ #[.int .u32 (U (y0 + st.a)), .int .u32 (U (y1 + st.b)), .int .u32 (U (y2 + st.c)), .int .u32 (U (y3 + st.d)), .int .u32 (U (y4 + st.e)), .int .u32 (U (y5 + st.f)), .int .u32 (U (y6 + st.g)), .int .u32 (U (y7 + st.h))] _ _ h2r
              have hB9 := below_row hBf #[.int .u32 (U (y0 + st.a)), .int .u32 (U (y1 + st.b)), .int .u32 (U (y2 + st.c)), .int .u32 (U (y3 + st.d)), .int .u32 (U (y4 + st.e)), .int .u32 (U (y5 + st.f)), .int .u32 (U (y6 + st.g)), .int .u32 (U (y7 + st.h))] (g := w.heap.size + 1) (by omega) (by have := h2r.lt; omega)
              have hrow' := Lib.hid hrow
              have hB9' := Lib.hid hB9
              rw [show (((64 : Nat)) : Int) = 64 from rfl]
              clear hfin hBf hrow hB9 h1r hsm ht hlt
              go_wp2_with (refine wpList_store_row rfl 42 _ _ rfl (w.heap.size + 1) _ rfl rfl 42 _ h2r ?cj3 ?cl3 ?ck3 ?_
                           case cj3 => rw [hi8]; rfl
                           case cl3 => rfl
                           case ck3 => exact WV_one [y0 + st.a, y1 + st.b, y2 + st.c, y3 + st.d, y4 + st.e, y5 + st.f, y6 + st.g, y7 + st.h])
              exact bodyPost_ret (results_cell_row rfl _ _ (w.heap.size + 1) 42 _ (0, 0) _ rfl hrow'.out hu8 rfl (by rw [hi8]; rfl)) rfl ⟨by rw [hfin'.out]; rfl, hB9'.out⟩
end Go.Proofs.YtalphobaohffnaaDoor
