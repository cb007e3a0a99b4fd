/- Hash: what the first eight bytes of a digest stand for: contract. -/
import Derived.Test.YtalphobaohffnaaDoorTg
import Derived.Test.YtalphobaohffnaaDoorGc
namespace Go.Proofs.YtalphobaohffnaaDoor
open Go.RowKit

/-- The k-th byte that counts. -/
def hBy (d : List UInt8) (k : Nat) : Nat := if k = 0 then (d.getD 0 0).toNat % 128 else (d.getD k 0).toNat
/-- The number of the first k bytes, modulo Q. -/
def hN (d : List UInt8) : Nat → Nat
  | 0 => 0
  | k + 1 => (hN d k * 256 + hBy d k) % 1073741789
theorem hBy_lt (d : List UInt8) (k : Nat) : hBy d k < 256 := by
  unfold hBy
  have h0 := (d.getD 0 0).toNat_lt
  have h1 := (d.getD k 0).toNat_lt
  split <;> omega
theorem hN_lt (d : List UInt8) : ∀ k, hN d k < 1073741789
  | 0 => by simp [hN]
  | _ + 1 => Nat.mod_lt _ (by omega)
theorem hN_md (d : List UInt8) (k : Nat) : md (sumI [((hN d k : Nat) : Int) * 256, ((hBy d k : Nat) : Int)]) = ((hN d (k + 1) : Nat) : Int) := by
  simp only [sumI, hN, md]
  omega
/-- The digest with its highest bit cleared. -/
def clr (d : List UInt8) : List UInt8 := d.set 0 (UInt8.ofNat ((d.getD 0 0).toNat % 128))
theorem clr_len (d : List UInt8) : (clr d).length = d.length := by simp [clr]
theorem clr_get {d : List UInt8} (hd : d.length = 32) {k : Nat} (hk : k < 32) : ((clr d).getD k 0).toNat = hBy d k := by
  have h0 := (d.getD 0 0).toNat_lt
  unfold clr hBy
  by_cases h : k = 0
  · subst h
    rw [if_pos rfl]
    have : 0 < d.length := by omega
    simp [List.getD, this]
    omega
  · rw [if_neg h]
    simp [List.getD, List.getElem?_set, show ¬ 0 = k by omega]
theorem and_low_all : ∀ i : Nat, i < 256 → bits BinOp.and IntKind.u8 (i : Int) 127 = ((i % 128 : Nat) : Int) := by decide +kernel
theorem and_low (b : UInt8) : bits BinOp.and IntKind.u8 (b.toNat : Int) 127 = (((UInt8.ofNat (b.toNat % 128)).toNat : Nat) : Int) := by
  have h0 := b.toNat_lt
  rw [and_low_all b.toNat (by omega)]
  simp
  omega

set_option maxRecDepth 100000 in
set_option maxHeartbeats 2000000 in
theorem Hash_any (tag : ByteArray) (ht : tag.size ≤ 100000) (bs : List UInt8) (hl : bs.length ≤ 900000) (w : World) (A : Option Addr) (c : Nat) (hr : RBs w w.heap.size A bs) (hA : A = none → bs = []) (hK : KT w) (h0 : 0 < w.heap.size) :
    Calls Tryd.prog 10 #[.string tag, .slice A bs.length c] w fun e w' => e = .returned (.int .i64 ((hN (tagH tag.data.toList bs) 8 : Nat) : Int)) ∧ Below w.heap.size w w' := by
  have hT := Lib.hid (Tagged_any tag ht bs hl w A c hr hA hK h0)
  have hd := tagH_length tag.data.toList bs
  generalize tagH tag.data.toList bs = d at *
  have hs := Lib.hid (show (BV d).toArray.size = 32 by rw [List.size_toArray, BV_length, hd])
  have hi : (Tryd.prog.info? 30).map (·.size) = some 32 := by kernel_rfl
  clear hr hA hK
  replace hd := Lib.hid hd
  go_enter Tryd.func10, Tryd.ntmps10
  go_wp2_with fail
  refine hT.out.mono ?_
  rintro e w1 ⟨rfl, hb1⟩
  have hz : DB (w1.alloc (.cells #[.int .u8 0, .int .u8 0, .int .u8 0, .int .u8 0, .int .u8 0, .int .u8 0, .int .u8 0, .int .u8 0, .int .u8 0, .int .u8 0, .int .u8 0, .int .u8 0, .int .u8 0, .int .u8 0, .int .u8 0, .int .u8 0, .int .u8 0, .int .u8 0, .int .u8 0, .int .u8 0, .int .u8 0, .int .u8 0, .int .u8 0, .int .u8 0, .int .u8 0, .int .u8 0, .int .u8 0, .int .u8 0, .int .u8 0, .int .u8 0, .int .u8 0, .int .u8 0] 30)) w1.heap.size 30 (List.replicate 32 0) := heap_alloc_new w1 _
  have hbz := bnew w1 (.cells #[.int .u8 0, .int .u8 0, .int .u8 0, .int .u8 0, .int .u8 0, .int .u8 0, .int .u8 0, .int .u8 0, .int .u8 0, .int .u8 0, .int .u8 0, .int .u8 0, .int .u8 0, .int .u8 0, .int .u8 0, .int .u8 0, .int .u8 0, .int .u8 0, .int .u8 0, .int .u8 0, .int .u8 0, .int .u8 0, .int .u8 0, .int .u8 0, .int .u8 0, .int .u8 0, .int .u8 0, .int .u8 0, .int .u8 0, .int .u8 0, .int .u8 0, .int .u8 0] 30)
  have hb2 := Lib.hid (hb1.trans (hbz.mono hb1.size))
  have hz2 : DB ((w1.alloc (.cells #[.int .u8 0, .int .u8 0, .int .u8 0, .int .u8 0, .int .u8 0, .int .u8 0, .int .u8 0, .int .u8 0, .int .u8 0, .int .u8 0, .int .u8 0, .int .u8 0, .int .u8 0, .int .u8 0, .int .u8 0, .int .u8 0, .int .u8 0, .int .u8 0, .int .u8 0, .int .u8 0, .int .u8 0, .int .u8 0, .int .u8 0, .int .u8 0, .int .u8 0, .int .u8 0, .int .u8 0, .int .u8 0, .int .u8 0, .int .u8 0, .int .u8 0, .int .u8 0] 30)).setRow w1.heap.size (BV d).toArray) w1.heap.size 30 d := setRow_heap _ w1.heap.size _ (BV d).toArray _ _ hz
  have c0 := hz2.cell (i := 0) (by have := hd.out; omega)
  have f0 := hz2.frozen 0
  obtain ⟨x, hx⟩ : ∃ x, d.getD 0 0 = x := ⟨_, rfl⟩
  obtain ⟨y, hy⟩ : ∃ y, UInt8.ofNat (x.toNat % 128) = y := ⟨_, rfl⟩
  rw [hx] at c0
  have ha := Lib.hid (and_low x)
  rw [hy] at ha
  have hcl : clr d = d.set 0 y := by unfold clr; rw [hx, hy]
  have hz3 := hz2.set (i := 0) y
  rw [← hcl] at hz3
  have hb3 : Below w.heap.size w (((w1.alloc (.cells #[.int .u8 0, .int .u8 0, .int .u8 0, .int .u8 0, .int .u8 0, .int .u8 0, .int .u8 0, .int .u8 0, .int .u8 0, .int .u8 0, .int .u8 0, .int .u8 0, .int .u8 0, .int .u8 0, .int .u8 0, .int .u8 0, .int .u8 0, .int .u8 0, .int .u8 0, .int .u8 0, .int .u8 0, .int .u8 0, .int .u8 0, .int .u8 0, .int .u8 0, .int .u8 0, .int .u8 0, .int .u8 0, .int .u8 0, .int .u8 0, .int .u8 0, .int .u8 0] 30)).setRow w1.heap.size (BV d).toArray).setCell ⟨w1.heap.size, 0, none⟩ (.int .u8 (y.toNat : Int))) := (hb2.out.grown (grownBy_setRow _ w1.heap.size (BV d).toArray) hb2.out.size (fun k e => by injection e with e; have := hb1.size; omega)).setCell (p := ⟨w1.heap.size, 0, none⟩) hb1.size _
  have hz3' := Lib.hid hz3
  have hb3' := Lib.hid hb3
  have hlt := Lib.hid hb1.size
  replace hx := Lib.hid hx
  replace hy := Lib.hid hy
  replace hcl := Lib.hid hcl
  clear hT hb1 hbz hz2 hz3 hb3
  go_wp2_with (refine wpList_store_row rfl 30 _ _ rfl w1.heap.size _ rfl rfl 30 _ hz ?cj ?cl ?ck ?_
               case cj => rw [hi, hs.out]
               case cl => rw [hs.out]; rfl
               case ck => exact BV_all _)
  rw [ha.out]
  have hD := hz3'.out
  have hB := hb3'.out
  clear c0 f0 hz hz3' hb3' hb2 ha
  generalize (((w1.alloc (.cells #[.int .u8 0, .int .u8 0, .int .u8 0, .int .u8 0, .int .u8 0, .int .u8 0, .int .u8 0, .int .u8 0, .int .u8 0, .int .u8 0, .int .u8 0, .int .u8 0, .int .u8 0, .int .u8 0, .int .u8 0, .int .u8 0, .int .u8 0, .int .u8 0, .int .u8 0, .int .u8 0, .int .u8 0, .int .u8 0, .int .u8 0, .int .u8 0, .int .u8 0, .int .u8 0, .int .u8 0, .int .u8 0, .int .u8 0, .int .u8 0, .int .u8 0, .int .u8 0] 30)).setRow w1.heap.size (BV d).toArray).setCell ⟨w1.heap.size, 0, none⟩ (.int .u8 (y.toNat : Int))) = V at *
  generalize w1.heap.size = g at *
  replace hD := Lib.hid hD
  replace hB := Lib.hid hB
  go_loopw [4, 14] (fun n i wr => Hid (Below V.heap.size V wr) ∧ ∃ k : Nat, k ≤ 8 ∧ n = .int .i64 ((hN d k : Nat) : Int) ∧ i = .int .i64 (k : Int)) (fun _ i _ => 8 - (intOf i).toNat)
  case atStart => exact ⟨Lib.hid (Below.refl _ _), 0, by omega, rfl, rfl⟩
  case round =>
    obtain ⟨hW, k, hk, rfl, rfl⟩ := hrel
    by_cases hlt8 : k < 8
    · have hDr := hD.out.below hW.out hD.out.lt
      have hc := hDr.cell (i := k) (by rw [clr_len]; have := hd.out; omega)
      rw [clr_get hd.out (by omega)] at hc
      have j0 : (0 : Int) ≤ k := by omega
      have j1 : (k : Int) < 32 := by omega
      have j2 : (k : Int) < 8 := by omega
      have hmd := Lib.hid (hN_md d k)
      have hbl := hBy_lt d k
      have hnl := hN_lt d k
      have hnx := Lib.hid (show hN d (k + 1) = hN d (k + 1) from rfl)
      clear hDr
      generalize hBy d k = b at *
      generalize hN d k = n at *
      have hI1 : I64 ((n : Int) * 256) := by unfold I64; omega
      have hI2 : I64 (b : Int) := by unfold I64; omega
      have hir := Lib.hid (IR.two hI1 hI2 wr 3)
      have hbn := bnew wr (.cells #[.int .i64 ((n : Int) * 256), .int .i64 (b : Int)] 3)
      replace hW := Lib.hid (hW.out.trans (hbn.mono hW.out.size))
      clear hI1 hI2 hbn
      go_wp2_with fail
      refine (modulo_any [(n : Int) * 256, (b : Int)] (by simp) _ _ _ hir.out).mono ?_
      rintro e w5 ⟨rfl, hb5⟩
      rw [hmd.out]
      replace hW := Lib.hid (hW.out.trans (hb5.mono hW.out.size))
      clear hb5 hc
      go_wp2_with fail
      go_roundw
      case rel => exact ⟨hW, k + 1, by omega, rfl, by go_num⟩
      case measure => simp [intOf]; omega
    · obtain rfl : k = 8 := by omega
      go_wp2_with fail
      go_ret
      exact ⟨rfl, hB.out.trans (hW.out.mono hB.out.size)⟩
end Go.Proofs.YtalphobaohffnaaDoor
