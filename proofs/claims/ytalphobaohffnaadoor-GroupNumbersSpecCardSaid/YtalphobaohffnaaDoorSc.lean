/- The words of a block: schedule. -/
import Derived.Test.YtalphobaohffnaaDoorRo
import Derived.StillTailTactics
import Derived.Deep.WholeRow
namespace Go.Proofs.YtalphobaohffnaaDoor
open Go.RowKit

theorem dN {B : Nat} {a w : World} (h : Below B a w) (n : Nat) : Below B a (w.drewN n) := ⟨h.os, h.tape, h.output, h.size, h.block⟩
/-- A slice of bytes that lies below a block. -/
def RBs (w : World) (B : Nat) (A : Option Addr) (bs : List UInt8) : Prop :=
  0 < bs.length → ∃ b off, A = some ⟨b, off, none⟩ ∧ b < B ∧ ∀ j (h : j < bs.length), w.cell? ⟨b, off + j, none⟩ = some (.int .u8 ((bs[j]).toNat : Int))

theorem U_shl8 (a : UInt32) : IntKind.u32.wrap (U a * 256) = U (UInt32.ofNat (a.toNat * 2 ^ 8)) := by
  have := U_shl a 8
  rw [← this]
  rfl
theorem U_byte (b : UInt8) : IntKind.u32.wrap (b.toNat : Int) = U (UInt32.ofNat b.toNat) := by
  rw [U_ofNat, IntKind.wrap_u32']; have := b.toNat_lt; omega
theorem wacc_step (bs : List UInt8) (t k : Nat) (h : 4 * t + k < bs.length) : bits .or .u32 (IntKind.u32.wrap (U (wacc bs t k) * 256)) (IntKind.u32.wrap (bs[4 * t + k].toNat : Int)) = U (wacc bs t (k + 1)) := by
  rw [U_shl8, U_byte, U_or, wacc]
  simp [h]

set_option maxRecDepth 100000 in
set_option maxHeartbeats 4000000 in
theorem schedule_any (bs : List UInt8) (hl : bs.length = 64) (w : World) (A : Option Addr) (c : Nat) (hr : RBs w w.heap.size A bs) :
    Calls Tryd.prog 37 #[.slice A 64 c] w fun e w' => e = .returned (.agg (WV (sch bs 48)).toArray) ∧ Below w.heap.size w w' := by
  go_enter Tryd.func37, Tryd.ntmps37
  go_wp2_with fail
  go_loopw [3, 4, 8] (fun _ _ i wr => ∃ t : Nat, t ≤ 16 ∧ i = .int .i64 t ∧ WB wr w.heap.size 58 (w0 bs t) ∧ Below w.heap.size w wr) (fun _ _ i _ => 16 - (intOf i).toNat)
  case atStart => exact ⟨0, by omega, rfl, heap_alloc_new w _, (Below.refl _ _).alloc (Nat.le_refl _) _⟩
  case round =>
    obtain ⟨t, ht, rfl, hw, hb⟩ := hrel
    by_cases hlt : t < 16
    · obtain ⟨wo, rfl⟩ : ∃ wo : World, wo = wr := ⟨_, rfl⟩
      have hd : decide ((t : Int) < 16) = true := by simp; omega
      go_wp2_with fail
      clear hd
      go_loopw [4, 11] (fun _ i wr => ∃ k : Nat, k ≤ 4 ∧ i = .int .i64 k ∧ WB wr w.heap.size 58 ((w0 bs t).set t (wacc bs t k)) ∧ Below w.heap.size w wr) (fun _ i _ => 4 - (intOf i).toNat)
      case atStart => exact ⟨0, by omega, rfl, by rw [wacc, w0_zero _ _ (by omega)]; exact hw, hb⟩
      case round =>
        obtain ⟨k, hk, rfl, hw, hb⟩ := hrel
        by_cases hlt4 : k < 4
        · obtain ⟨b, off, rfl, hbB, hc⟩ := hr (by omega)
          have hcell : wr.cell? ⟨b, off + (4 * t + k), none⟩ = some (.int .u8 (((bs[4 * t + k]'(by omega)).toNat : Int))) := (hb.cell (p := ⟨b, off + (4 * t + k), none⟩) hbB).trans (hc _ (by omega))
          have hl64 : ((w0 bs t).set t (wacc bs t k)).length = 64 := by rw [List.length_set, w0_length _ _ (by omega)]
          have hwc := hw.cell (i := t) (by omega)
          have hx : ((w0 bs t).set t (wacc bs t k)).getD t 0 = wacc bs t k := by
            rw [List.getD_eq_getElem?_getD, List.getElem?_set_self (by rw [w0_length _ _ (by omega)]; omega)]; rfl
          rw [hx] at hwc
          have hst : WB (wr.setCell ⟨w.heap.size, t, none⟩ (.int .u32 (bits .or .u32 (IntKind.u32.wrap (U (wacc bs t k) * 256)) (IntKind.u32.wrap (bs[4 * t + k].toNat : Int))))).drew w.heap.size 58 ((w0 bs t).set t (wacc bs t (k + 1))) := by
            rw [wacc_step bs t k (by omega)]
            have := hw.set (i := t) (wacc bs t (k + 1))
            rw [List.set_set] at this
            exact this
          have hst' := Lib.hid hst
          have hb' := Lib.hid hb
          have hwf := hw.frozen t
          have g1 : IntKind.i64.wrap (4 * (t : Int)) = 4 * t := IntWalk.i64_in _ (by omega)
          have g2 : IntKind.i64.wrap (4 * (t : Int) + k) = 4 * t + k := IntWalk.i64_in _ (by omega)
          have g3 : (4 * (t : Int) + k).toNat = 4 * t + k := by omega
          have i0 : (0 : Int) ≤ t := by omega
          have i1 : (t : Int) < 64 := by omega
          have i2 : (0 : Int) ≤ 4 * (t : Int) + k := by omega
          have i3 : 4 * (t : Int) + k < 64 := by omega
          clear hw hc hx hl64 hst hb
          go_wp2_with fail
          go_still_tail 15, (by kernel_rfl)
          change wpList _ _ _ _ _ wr.drew
          go_wp2_with fail
          go_roundw
          case rel => exact ⟨k + 1, by omega, by go_num, hst'.out, dN (hb'.out.setCell (p := ⟨w.heap.size, t, none⟩) (Nat.le_refl _) _) 1⟩
          case measure => simp [intOf]; omega
        · obtain rfl : k = 4 := by omega
          have hw1 : WB wr w.heap.size 58 (w0 bs (t + 1)) := by rw [w0_succ _ _ (by omega)] at hw; exact hw
          clear hw
          go_wp2_with fail
          go_roundw
          case rel => exact ⟨t + 1, by omega, by go_num, hw1, hb⟩
          case measure => simp [intOf]; omega
    · obtain rfl : t = 16 := by omega
      obtain ⟨wo, rfl⟩ : ∃ wo : World, wo = wr := ⟨_, rfl⟩
      clear hlt ht
      rw [show (((16 : Nat)) : Int) = 16 from rfl]
      go_wp2_with fail
      go_loopw [5, 6, 7] (fun i _ _ wr => ∃ t : Nat, 16 ≤ t ∧ t ≤ 64 ∧ i = .int .i64 t ∧ WB wr w.heap.size 58 (sch bs (t - 16)) ∧ Below w.heap.size w wr) (fun i _ _ _ => 64 - (intOf i).toNat)
      case atStart => exact ⟨16, by omega, by omega, rfl, hw, hb⟩
      case round =>
        obtain ⟨t, ht0, ht, rfl, hw, hb⟩ := hrel
        have hlen := sch_length bs (t - 16)
        by_cases hlt : t < 64
        · have hwH := Lib.hid hw
          have hbH := Lib.hid hb
          have c15 := hw.cell (i := t - 15) (by omega)
          have c2 := hw.cell (i := t - 2) (by omega)
          have g1 : IntKind.i64.wrap ((t : Int) - 15) = t - 15 := IntWalk.i64_in _ (by omega)
          have g2 : IntKind.i64.wrap ((t : Int) - 2) = t - 2 := IntWalk.i64_in _ (by omega)
          have g3 : ((t : Int) - 15).toNat = t - 15 := by omega
          have g4 : ((t : Int) - 2).toNat = t - 2 := by omega
          have i0 : (0 : Int) ≤ t - 15 := by omega
          have i1 : (t : Int) - 15 < 64 := by omega
          have i2 : (0 : Int) ≤ t - 2 := by omega
          have i3 : (t : Int) - 2 < 64 := by omega
          have hd : decide ((t : Int) < 64) = true := by simp; omega
          clear hw hb hlen
          go_wp2_with fail
          go_quiet (fail)
          clear g1 g2 g3 g4 i0 i1 i2 i3 hd c15 c2
          have hw : WB (wr.drewN nq) w.heap.size 58 (sch bs (t - 16)) := hwH.out
          have hb : Below w.heap.size w (wr.drewN nq) := dN hbH.out _
          generalize wr.drewN nq = w2 at hw hb ⊢
          clear hwH hbH
          have hlen := sch_length bs (t - 16)
          have c16 := hw.cell (i := t - 16) (by omega)
          have c7 := hw.cell (i := t - 7) (by omega)
          have ct := hw.cell (i := t) (by omega)
          have hwf := hw.frozen t
          have hn : nxt (sch bs (t - 16)) t = nxt (sch bs (t - 16)) t := rfl
          conv at hn => lhs; unfold nxt
          simp only [← List.getD_eq_getElem?_getD]
          generalize (sch bs (t - 16)).getD (t - 16) 0 = x16 at *
          generalize (sch bs (t - 16)).getD (t - 15) 0 = x15 at *
          generalize (sch bs (t - 16)).getD (t - 7) 0 = x7 at *
          generalize (sch bs (t - 16)).getD (t - 2) 0 = x2 at *
          have hst : WB (w2.setCell ⟨w.heap.size, t, none⟩ (.int .u32 (U (x16 + sig0 x15 + x7 + sig1 x2)))).drew w.heap.size 58 (sch bs (t + 1 - 16)) := by
            rw [hn, show t + 1 - 16 = (t - 16) + 1 by omega, sch, stepW, show 16 + (t - 16) = t by omega]
            exact hw.set _
          have hst' := Lib.hid hst
          have hb' := Lib.hid hb
          have g1 : IntKind.i64.wrap ((t : Int) - 16) = t - 16 := IntWalk.i64_in _ (by omega)
          have g2 : IntKind.i64.wrap ((t : Int) - 7) = t - 7 := IntWalk.i64_in _ (by omega)
          have g3 : ((t : Int) - 16).toNat = t - 16 := by omega
          have g4 : ((t : Int) - 7).toNat = t - 7 := by omega
          have i0 : (0 : Int) ≤ t - 16 := by omega
          have i1 : (t : Int) - 16 < 64 := by omega
          have i2 : (0 : Int) ≤ t - 7 := by omega
          have i3 : (t : Int) - 7 < 64 := by omega
          have i4 : (0 : Int) ≤ t := by omega
          have i5 : (t : Int) < 64 := by omega
          have i6 : (16 : Int) ≤ t := by omega
          have i7 : (7 : Int) ≤ t := by omega
          clear hw hst hb hn hlen
          go_wp2_with fail
          go_still_tail 29, (by kernel_rfl)
          still_call (ror_still x15 7 7 rfl (by decide) (by decide) _)
          repeat still_step
          still_call (ror_still x15 18 18 rfl (by decide) (by decide) _)
          repeat still_step
          still_call (ror_still x2 17 17 rfl (by decide) (by decide) _)
          repeat still_step
          still_call (ror_still x2 19 19 rfl (by decide) (by decide) _)
          repeat still_step
          refine wpStill_nil ?_
          change wpList _ _ _ _ _ w2.drew
          simp only [U_div8, U_div1024, U_xor, U_add]
          go_wp2_with fail
          go_roundw
          case rel => exact ⟨t + 1, by omega, by omega, by go_num, hst'.out, dN (hb'.out.setCell (p := ⟨w.heap.size, t, none⟩) (Nat.le_refl _) _) 1⟩
          case measure => simp [intOf]; omega
        · obtain rfl : t = 64 := by omega
          have hu : Tryd.prog.underlying 58 = some (.array 64 41) := by kernel_rfl
          have hi : (Tryd.prog.info? 58).map (·.size) = some 64 := by kernel_rfl
          have hsz : (WV (sch bs (64 - 16))).toArray.size = 64 := by rw [List.size_toArray, WV_length, hlen]
          have hself := setRow_self wr w.heap.size _ _ _ hw
          have hsz' := Lib.hid hsz
          have hself' := Lib.hid hself
          clear hsz hlen hself
          go_wp2_with (first
            | (refine wpList_load_row rfl 58 _ rfl w.heap.size rfl 58 _ (0, 0) _ hw hu rfl ?ci ?_; case ci => rw [hi, hsz'.out])
            | (refine wpList_store_row rfl 58 _ _ rfl w.heap.size _ rfl rfl 58 _ hw ?cj rfl ?ck ?_; case cj => rw [hi, hsz'.out]
               case ck => exact WV_one _))
          rw [hself'.out]
          exact bodyPost_ret (results_cell_row rfl _ _ w.heap.size 58 _ (0, 0) _ rfl hw hu rfl (by rw [hi, hsz'.out])) rfl ⟨rfl, hb⟩
end Go.Proofs.YtalphobaohffnaaDoor
