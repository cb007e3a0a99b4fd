/- The reference's Hash, Element, Number: contracts. -/
import Derived.Test.YtalphobaohffnaaDoorHa
import Derived.Test.YtalphobaohffnaaDoorWd
import Derived.Test.YtalphobaohffnaaDoorGr
namespace Go.Proofs.YtalphobaohffnaaDoor
open Go.RowKit

/-- The number of the first k bytes. -/
def fN (d : List UInt8) : Nat → Nat
  | 0 => 0
  | k + 1 => fN d k * 256 + hBy d k
theorem fN_mod (d : List UInt8) : ∀ k, fN d k % 1073741789 = hN d k
  | 0 => rfl
  | k + 1 => by
    have h := fN_mod d k
    simp only [fN, hN]
    rw [← h]
    omega
theorem hBy_zero (d : List UInt8) : hBy d 0 < 128 := by
  unfold hBy
  rw [if_pos rfl]
  omega
theorem fN_le (d : List UInt8) : ∀ k, fN d (k + 1) + 1 ≤ 128 * 256 ^ k
  | 0 => by
    have := hBy_zero d
    simp only [fN, Nat.pow_zero]
    omega
  | k + 1 => by
    have h := fN_le d k
    have hb := hBy_lt d (k + 1)
    show fN d (k + 1) * 256 + hBy d (k + 1) + 1 ≤ 128 * 256 ^ (k + 1)
    rw [Nat.pow_succ, ← Nat.mul_assoc]
    omega
theorem fN_small (d : List UInt8) {k : Nat} (h : k < 8) : fN d (k + 1) < 9223372036854775808 := by
  have h1 := fN_le d k
  have h2 : 256 ^ k ≤ 256 ^ 7 := Nat.pow_le_pow_right (by omega) (by omega)
  have h3 : (256 : Nat) ^ 7 = 72057594037927936 := by decide
  omega
theorem fN_step (d : List UInt8) {k : Nat} (h : k + 1 < 8) : fN d (k + 1) * 256 + hBy d (k + 1) < 9223372036854775808 := fN_small d h
theorem fN_int (d : List UInt8) (k : Nat) : ((fN d k : Nat) : Int) * 256 + ((hBy d k : Nat) : Int) = ((fN d (k + 1) : Nat) : Int) := by
  simp only [fN]
  omega
theorem fN_fin {n m : Nat} (h : n % 1073741789 = m) : Int.tmod (n : Int) 1073741789 = (m : Int) ∧ (n : Int) % 1073741789 = (m : Int) := by
  subst h
  exact ⟨tmodN n 1073741789, rfl⟩
theorem hBy_pos {d : List UInt8} {k : Nat} (h : k ≠ 0) : hBy d k = (d.getD k 0).toNat := by unfold hBy; rw [if_neg h]

set_option maxRecDepth 100000 in
set_option maxHeartbeats 2000000 in
theorem rHash_any (tag : ByteArray) (ht : tag.size ≤ 100000) (bs : List UInt8) (hl : bs.length ≤ 900000) (w : World) (A : Option Addr) (c : Nat) (hr : RBs w w.heap.size A bs) (hA : A = none → bs = []) :
    Calls Tryd.prog 11 #[.string tag, .slice A bs.length c] w fun e w' => e = .returned (.int .i64 ((hN (tagH tag.data.toList bs) 8 : Nat) : Int)) ∧ Below w.heap.size w w' := by
  have hT := Lib.hid (rTagged_any tag ht bs hl w A c hr hA)
  have hd := tagH_length tag.data.toList bs
  generalize tagH tag.data.toList bs = d at *
  have hs := Lib.hid (show (BV d).toArray.size = 32 by rw [List.size_toArray, BV_length, hd])
  have hi : (Tryd.prog.info? 30).map (·.size) = some 32 := by kernel_rfl
  clear hr hA
  replace hd := Lib.hid hd
  go_enter Tryd.func11, Tryd.ntmps11
  go_wp2_with fail
  refine hT.out.mono ?_
  rintro e w1 ⟨rfl, hb1⟩
  have hz : DB (w1.alloc (.cells #[.int .u8 0, .int .u8 0, .int .u8 0, .int .u8 0, .int .u8 0, .int .u8 0, .int .u8 0, .int .u8 0, .int .u8 0, .int .u8 0, .int .u8 0, .int .u8 0, .int .u8 0, .int .u8 0, .int .u8 0, .int .u8 0, .int .u8 0, .int .u8 0, .int .u8 0, .int .u8 0, .int .u8 0, .int .u8 0, .int .u8 0, .int .u8 0, .int .u8 0, .int .u8 0, .int .u8 0, .int .u8 0, .int .u8 0, .int .u8 0, .int .u8 0, .int .u8 0] 30)) w1.heap.size 30 (List.replicate 32 0) := heap_alloc_new w1 _
  have hbz := bnew w1 (.cells #[.int .u8 0, .int .u8 0, .int .u8 0, .int .u8 0, .int .u8 0, .int .u8 0, .int .u8 0, .int .u8 0, .int .u8 0, .int .u8 0, .int .u8 0, .int .u8 0, .int .u8 0, .int .u8 0, .int .u8 0, .int .u8 0, .int .u8 0, .int .u8 0, .int .u8 0, .int .u8 0, .int .u8 0, .int .u8 0, .int .u8 0, .int .u8 0, .int .u8 0, .int .u8 0, .int .u8 0, .int .u8 0, .int .u8 0, .int .u8 0, .int .u8 0, .int .u8 0] 30)
  have hb2 := Lib.hid (hb1.trans (hbz.mono hb1.size))
  have hz2 : DB ((w1.alloc (.cells #[.int .u8 0, .int .u8 0, .int .u8 0, .int .u8 0, .int .u8 0, .int .u8 0, .int .u8 0, .int .u8 0, .int .u8 0, .int .u8 0, .int .u8 0, .int .u8 0, .int .u8 0, .int .u8 0, .int .u8 0, .int .u8 0, .int .u8 0, .int .u8 0, .int .u8 0, .int .u8 0, .int .u8 0, .int .u8 0, .int .u8 0, .int .u8 0, .int .u8 0, .int .u8 0, .int .u8 0, .int .u8 0, .int .u8 0, .int .u8 0, .int .u8 0, .int .u8 0] 30)).setRow w1.heap.size (BV d).toArray) w1.heap.size 30 d := setRow_heap _ w1.heap.size _ (BV d).toArray _ _ hz
  have c0 := hz2.cell (i := 0) (by have := hd.out; omega)
  have hx := Lib.hid (show fN d 1 = (d.getD 0 0).toNat % 128 by simp only [fN, hBy]; simp)
  have hb3 : Below w.heap.size w ((w1.alloc (.cells #[.int .u8 0, .int .u8 0, .int .u8 0, .int .u8 0, .int .u8 0, .int .u8 0, .int .u8 0, .int .u8 0, .int .u8 0, .int .u8 0, .int .u8 0, .int .u8 0, .int .u8 0, .int .u8 0, .int .u8 0, .int .u8 0, .int .u8 0, .int .u8 0, .int .u8 0, .int .u8 0, .int .u8 0, .int .u8 0, .int .u8 0, .int .u8 0, .int .u8 0, .int .u8 0, .int .u8 0, .int .u8 0, .int .u8 0, .int .u8 0, .int .u8 0, .int .u8 0] 30)).setRow w1.heap.size (BV d).toArray) := (hb2.out.grown (grownBy_setRow _ w1.heap.size (BV d).toArray) hb2.out.size (fun k e => by injection e with e; have := hb1.size; omega))
  have hrm : Int.tmod ((d.getD 0 0).toNat : Int) 128 = (((d.getD 0 0).toNat % 128 : Nat) : Int) := tmodN _ _
  have hxl := (d.getD 0 0).toNat_lt
  generalize (d.getD 0 0).toNat = x at *
  have hxw := IntWalk.wrap64_in (x : Int) (by omega)
  have hz3' := Lib.hid hz2
  have hb3' := Lib.hid hb3
  clear hT hb1 hbz hz2 hb3
  go_wp2_with (refine wpList_store_row rfl 30 _ _ rfl w1.heap.size _ rfl rfl 30 _ hz ?cj ?cl ?ck ?_
               case cj => rw [hi, hs.out]
               case cl => rw [hs.out]; rfl
               case ck => exact BV_all _)
  have hD := hz3'.out
  have hB := hb3'.out
  clear c0 hz hz3' hb3' hb2
  generalize ((w1.alloc (.cells #[.int .u8 0, .int .u8 0, .int .u8 0, .int .u8 0, .int .u8 0, .int .u8 0, .int .u8 0, .int .u8 0, .int .u8 0, .int .u8 0, .int .u8 0, .int .u8 0, .int .u8 0, .int .u8 0, .int .u8 0, .int .u8 0, .int .u8 0, .int .u8 0, .int .u8 0, .int .u8 0, .int .u8 0, .int .u8 0, .int .u8 0, .int .u8 0, .int .u8 0, .int .u8 0, .int .u8 0, .int .u8 0, .int .u8 0, .int .u8 0, .int .u8 0, .int .u8 0] 30)).setRow w1.heap.size (BV d).toArray) = V at *
  generalize w1.heap.size = g at *
  replace hD := Lib.hid hD
  replace hB := Lib.hid hB
  go_loopw [6, 7] (fun n i wr => wr = V ∧ ∃ k : Nat, k < 8 ∧ n = .int .i64 ((fN d (k + 1) : Nat) : Int) ∧ i = .int .i64 (((k + 1 : Nat) : Nat) : Int)) (fun _ i _ => 8 - (intOf i).toNat)
  case atStart => exact ⟨rfl, 0, by omega, by rw [hx.out]; first | rfl | omega, rfl⟩
  case round =>
    obtain ⟨rfl, k, hk, rfl, rfl⟩ := hrel
    by_cases hlt8 : k + 1 < 8
    · have hc := hD.out.cell (i := k + 1) (by have := hd.out; omega)
      have hb := hBy_pos (d := d) (k := k + 1) (by omega)
      rw [← hb] at hc
      clear hb
      have hnx := Lib.hid (fN_int d (k + 1))
      have hbl := hBy_lt d (k + 1)
      have hsm := fN_step d hlt8
      generalize hBy d (k + 1) = b at *
      generalize fN d (k + 1) = n at *
      have hsm : n * 256 + b < 9223372036854775808 := hsm
      generalize hj : k + 1 = j at *
      have j0 : (0 : Int) ≤ j := by omega
      have j1 : (j : Int) < 32 := by omega
      have j2 : (j : Int) < 8 := by omega
      replace hj := Lib.hid hj
      go_wp2_with fail
      go_roundw
      case rel => exact ⟨trivial, j, by omega, by rw [hnx.out], by go_num⟩
      case measure => simp [intOf]; omega
    · obtain rfl : k = 7 := by omega
      obtain ⟨hrr, hrr2⟩ := fN_fin (fN_mod d 8)
      generalize hm : hN d 8 = m at *
      replace hm := Lib.hid hm
      generalize fN d (7 + 1) = n at *
      go_wp2_with fail
      go_ret
      exact ⟨by rw [hm.out]; rfl, hB.out⟩
end Go.Proofs.YtalphobaohffnaaDoor
