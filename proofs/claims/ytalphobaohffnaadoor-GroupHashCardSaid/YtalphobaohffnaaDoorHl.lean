/- GroupHash: true. -/
import Derived.Test.YtalphobaohffnaaDoorHa
import Derived.Test.YtalphobaohffnaaDoorGs
namespace Go.Proofs.YtalphobaohffnaaDoor
open Go.RowKit

theorem hN_int (d : List UInt8) (k : Nat) : (((hN d k : Nat) : Int) * 256 + ((hBy d k : Nat) : Int)) % 1073741789 = ((hN d (k + 1) : Nat) : Int) := by
  simp only [hN]
  omega
set_option maxRecDepth 100000 in
set_option maxHeartbeats 4000000 in
theorem hash_law (tag : ByteArray) (bs : List UInt8) (W : World) (A : Option Addr) (c : Nat) (hr : RBs W W.heap.size A bs) (hA : A = none → bs = []) (hK : KT W) (h0 : 0 < W.heap.size) :
    Calls Tryd.prog 4 #[.string tag, .slice A bs.length c] W fun e w' => e = .returned (.bool true) ∧ Below W.heap.size W w' := by
  replace hr := Lib.hid hr
  replace hK := Lib.hid hK
  replace hA := Lib.hid hA
  go_enter Tryd.func4, Tryd.ntmps4
  go_wp2_with fail
  refine (sane_any _).mono ?_
  rintro e w ⟨rfl, hB⟩
  replace hB := Lib.hid hB
  by_cases hb : bs.length ≤ 2000
  · by_cases htg : tag.size ≤ 200
    · have hH := Lib.hid (fun w hr hK h0 => Hash_any tag (by omega) bs (by omega) w A c hr hA.out hK h0)
      have hT := Lib.hid (fun w hr hK h0 => Tagged_any tag (by omega) bs (by omega) w A c hr hA.out hK h0)
      have b1 : decide ((2000 : Int) < bs.length) = false := by simp; omega
      have b2 : decide ((200 : Int) < tag.size) = false := by simp; omega
      go_wp2_with fail
      refine (hH.out _ (hr.out.below hB.out) (hK.out.below hB.out h0) (by have := hB.out.size; omega)).mono ?_
      rintro e w2 ⟨rfl, hb2⟩
      replace hB := Lib.hid (hB.out.trans (hb2.mono hB.out.size))
      clear hb2 hH
      go_wp2_with fail
      refine (hT.out _ (hr.out.below hB.out) (hK.out.below hB.out h0) (by have := hB.out.size; omega)).mono ?_
      rintro e w1 ⟨rfl, hb1⟩
      clear hT
      have hd := tagH_length tag.data.toList bs
      generalize tagH tag.data.toList bs = d at *
      have hs := Lib.hid (show (BV d).toArray.size = 32 by rw [List.size_toArray, BV_length, hd])
      have hi : (Tryd.prog.info? 30).map (·.size) = some 32 := by kernel_rfl
      replace hd := Lib.hid hd
      have hz : DB (w1.alloc (.cells #[.int .u8 0, .int .u8 0, .int .u8 0, .int .u8 0, .int .u8 0, .int .u8 0, .int .u8 0, .int .u8 0, .int .u8 0, .int .u8 0, .int .u8 0, .int .u8 0, .int .u8 0, .int .u8 0, .int .u8 0, .int .u8 0, .int .u8 0, .int .u8 0, .int .u8 0, .int .u8 0, .int .u8 0, .int .u8 0, .int .u8 0, .int .u8 0, .int .u8 0, .int .u8 0, .int .u8 0, .int .u8 0, .int .u8 0, .int .u8 0, .int .u8 0, .int .u8 0] 30)) w1.heap.size 30 (List.replicate 32 0) := heap_alloc_new w1 _
      have hbz := bnew w1 (.cells #[.int .u8 0, .int .u8 0, .int .u8 0, .int .u8 0, .int .u8 0, .int .u8 0, .int .u8 0, .int .u8 0, .int .u8 0, .int .u8 0, .int .u8 0, .int .u8 0, .int .u8 0, .int .u8 0, .int .u8 0, .int .u8 0, .int .u8 0, .int .u8 0, .int .u8 0, .int .u8 0, .int .u8 0, .int .u8 0, .int .u8 0, .int .u8 0, .int .u8 0, .int .u8 0, .int .u8 0, .int .u8 0, .int .u8 0, .int .u8 0, .int .u8 0, .int .u8 0] 30)
      have hb2 := Lib.hid ((hB.out.trans (hb1.mono hB.out.size)).trans (hbz.mono (hB.out.trans (hb1.mono hB.out.size)).size))
      have hz2 := Lib.hid (show DB ((w1.alloc (.cells #[.int .u8 0, .int .u8 0, .int .u8 0, .int .u8 0, .int .u8 0, .int .u8 0, .int .u8 0, .int .u8 0, .int .u8 0, .int .u8 0, .int .u8 0, .int .u8 0, .int .u8 0, .int .u8 0, .int .u8 0, .int .u8 0, .int .u8 0, .int .u8 0, .int .u8 0, .int .u8 0, .int .u8 0, .int .u8 0, .int .u8 0, .int .u8 0, .int .u8 0, .int .u8 0, .int .u8 0, .int .u8 0, .int .u8 0, .int .u8 0, .int .u8 0, .int .u8 0] 30)).setRow w1.heap.size (BV d).toArray) w1.heap.size 30 d from setRow_heap _ w1.heap.size _ (BV d).toArray _ _ hz)
      have hb3 := Lib.hid (show Below W.heap.size W ((w1.alloc (.cells #[.int .u8 0, .int .u8 0, .int .u8 0, .int .u8 0, .int .u8 0, .int .u8 0, .int .u8 0, .int .u8 0, .int .u8 0, .int .u8 0, .int .u8 0, .int .u8 0, .int .u8 0, .int .u8 0, .int .u8 0, .int .u8 0, .int .u8 0, .int .u8 0, .int .u8 0, .int .u8 0, .int .u8 0, .int .u8 0, .int .u8 0, .int .u8 0, .int .u8 0, .int .u8 0, .int .u8 0, .int .u8 0, .int .u8 0, .int .u8 0, .int .u8 0, .int .u8 0] 30)).setRow w1.heap.size (BV d).toArray) from (hb2.out.grown (grownBy_setRow _ w1.heap.size (BV d).toArray) hb2.out.size (fun k e => by injection e with e; have := (hB.out.trans (hb1.mono hB.out.size)).size; omega)))
      clear hb1 hbz hb2 hB
      go_wp2_with (refine wpList_store_row rfl 30 _ _ rfl w1.heap.size _ rfl rfl 30 _ hz ?cj ?cl ?ck ?_
                   case cj => rw [hi, hs.out]
                   case cl => rw [hs.out]; rfl
                   case ck => exact BV_all _)
      have hD := hz2.out
      have hB := hb3.out
      clear hz hz2 hb3
      generalize ((w1.alloc (.cells #[.int .u8 0, .int .u8 0, .int .u8 0, .int .u8 0, .int .u8 0, .int .u8 0, .int .u8 0, .int .u8 0, .int .u8 0, .int .u8 0, .int .u8 0, .int .u8 0, .int .u8 0, .int .u8 0, .int .u8 0, .int .u8 0, .int .u8 0, .int .u8 0, .int .u8 0, .int .u8 0, .int .u8 0, .int .u8 0, .int .u8 0, .int .u8 0, .int .u8 0, .int .u8 0, .int .u8 0, .int .u8 0, .int .u8 0, .int .u8 0, .int .u8 0, .int .u8 0] 30)).setRow w1.heap.size (BV d).toArray) = V at *
      generalize w1.heap.size = g at *
      replace hD := Lib.hid hD
      replace hB := Lib.hid hB
      go_loopw [7, 26] (fun n i wr => wr = V ∧ ∃ k : Nat, k ≤ 8 ∧ n = .int .i64 ((hN d k : Nat) : Int) ∧ i = .int .i64 (k : Int)) (fun _ i _ => 8 - (intOf i).toNat)
      case atStart => exact ⟨rfl, 0, by omega, rfl, rfl⟩
      case round =>
        obtain ⟨rfl, k, hk, rfl, rfl⟩ := hrel
        by_cases hlt8 : k < 8
        · have hc := hD.out.cell (i := k) (by have := hd.out; omega)
          have hnx := Lib.hid (hN_int d k)
          have hnl := hN_lt d k
          have hxl := (d.getD k 0).toNat_lt
          have j0 : (0 : Int) ≤ k := by omega
          have j1 : (k : Int) < 32 := by omega
          have j2 : (k : Int) < 8 := by omega
          by_cases hk0 : k = 0
          · subst hk0
            have hby : hBy d 0 = (d.getD 0 0).toNat % 128 := by unfold hBy; rw [if_pos rfl]
            have hbl := hBy_lt d 0
            have hby2 := Lib.hid (show ((d.getD 0 0).toNat : Int) % 128 = ((hBy d 0 : Nat) : Int) by rw [hby]; rfl)
            generalize (d.getD 0 0).toNat = x at *
            clear hby
            generalize hN d 0 = n at *
            go_wp2_with fail
            go_roundw
            case rel => exact ⟨trivial, 1, by omega, by rw [hby2.out, hnx.out], by go_num⟩
            case measure => simp [intOf]
          · have hby : hBy d k = (d.getD k 0).toNat := by unfold hBy; rw [if_neg hk0]
            rw [hby] at hnx
            generalize (d.getD k 0).toNat = x at *
            clear hby
            have hk0' : ((k : Int) == 0) = false := by simp; omega
            replace hk0 := Lib.hid hk0
            generalize hN d k = n at *
            go_wp2_with fail
            go_roundw
            case rel => exact ⟨trivial, k + 1, by omega, by rw [hnx.out], by go_num⟩
            case measure => simp [intOf]; omega
        · obtain rfl : k = 8 := by omega
          have hnl := hN_lt d 8
          have hge : (0 : Int) ≤ ((hN d 8 : Nat) : Int) := by omega
          have hlt : ((hN d 8 : Nat) : Int) < 1073741789 := by omega
          generalize hN d 8 = n at *
          go_wp2_with fail
          go_ret
          exact ⟨rfl, hB.out⟩
    · have b1 : decide ((2000 : Int) < bs.length) = false := by simp; omega
      have b2 : decide ((200 : Int) < tag.size) = true := by simp; omega
      go_wp2_with fail
      go_ret
      exact ⟨rfl, hB.out⟩
  · have b1 : decide ((2000 : Int) < bs.length) = true := by simp; omega
    go_wp2_with fail
    go_ret
    exact ⟨rfl, hB.out⟩
end Go.Proofs.YtalphobaohffnaaDoor
