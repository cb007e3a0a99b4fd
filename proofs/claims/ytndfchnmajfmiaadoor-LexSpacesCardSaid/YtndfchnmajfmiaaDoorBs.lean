/- Small words: worlds, endings; what the package's variables hold; the class of a byte. -/
import Derived.Test.YtndfchnmajfmiaaDoorShelf
import Derived.Test.YtndfchnmajfmiaaDoorLp
import Derived.WalkKit
import Derived.Deep.Draws
import Derived.Lib.Hide
import Derived.Outline
import Derived.BigQuiet
import Derived.Deep.QuietTactic
namespace Go.Proofs.YtndfchnmajfmiaaDoor
open Go.RowKit

theorem retB {a b : Bool} (h : a = b) : Ending.returned (.bool a) = .returned (.bool b) := by rw [h]
theorem retI {k : IntKind} {a b : Int} (h : a = b) : Ending.returned (.int k a) = .returned (.int k b) := by rw [h]
theorem dN {B : Nat} {a w : World} (h : Below B a w) (n : Nat) : Below B a (w.drewN n) := ⟨h.os, h.tape, h.output, h.size, h.block⟩
theorem unD {B : Nat} {w w' : World} (h : Below B w.drew w') : Below B w w' := ⟨h.os, h.tape, h.output, h.size, h.block⟩
theorem unDN {B n : Nat} {w w' : World} (h : Below B (w.drewN n) w') : Below B w w' := ⟨h.os, h.tape, h.output, h.size, h.block⟩
theorem unbox {w wr : World} {o : Obj} (hb : Below (w.heap.size + 1) (w.alloc o) wr) : Below w.heap.size w wr :=
  ((Below.refl _ _).alloc (Nat.le_refl _) o).trans (hb.mono (by simp))
theorem bnew (w : World) (o : Obj) : Below w.heap.size w (w.alloc o) := (Below.refl _ _).alloc (Nat.le_refl _) o
theorem bcell {B : Nat} {W w1 : World} (hb : Below B W w1) : (∀ b o, b < B → w1.cell? ⟨b, o, none⟩ = W.cell? ⟨b, o, none⟩) ∧ (∀ b o, b < B → w1.frozen? ⟨b, o, none⟩ = W.frozen? ⟨b, o, none⟩) :=
  ⟨fun b o h => hb.cell (p := ⟨b, o, none⟩) h, fun b o h => hb.frozen (p := ⟨b, o, none⟩) h⟩
theorem add_none (b o i : Nat) : (⟨b, o, none⟩ : Addr).add i = ⟨b, o + i, none⟩ := by unfold Addr.add; split <;> simp_all
theorem list_data (l : List UInt8) : (⟨l.toArray⟩ : ByteArray).data.toList = l := by simp
theorem data_list (s : ByteArray) : (⟨s.data.toList.toArray⟩ : ByteArray) = s := by cases s; simp

/-- What the variables of the program's packages hold. -/
structure KW (w : World) : Prop where
  tab : ∀ c : UInt8, c.toNat < 128 → w.cell? ⟨0, c.toNat, none⟩ = some (.int .u8 (cls c : Nat))
  rng : ∃ te pe, w.cell? ⟨4, 0, none⟩ = some (.iface te pe)
  pow : Lib.TabIs Tryd.prog w "internal/strconv.uint64pow10" .u64 Lib.pow10Tab
  size : 7 ≤ w.heap.size
theorem gPow : Tryd.prog.globalNamed "internal/strconv.uint64pow10" = some 2 := by kernel_rfl
theorem KW.below {w w' : World} {B : Nat} (h : KW w) (hb : Below B w w') (hB : 7 ≤ B) : KW w' := by
  refine ⟨fun c hc => ?_, ?_, ?_, Nat.le_trans h.size hb.size⟩
  · rw [hb.cell (p := ⟨_, c.toNat, none⟩) (by simp; omega)]; exact h.tab c hc
  · rw [hb.cell (p := ⟨_, 0, none⟩) (by simp; omega)]; exact h.rng
  · have := h.pow
    unfold Lib.TabIs World.var? at this ⊢
    rw [gPow] at this ⊢
    simp only [Option.bind_some] at this ⊢
    rw [hb.block _ (by omega)]
    exact this
theorem KW.step {w w' : World} (h : KW w) (hb : Below w.heap.size w w') : KW w' := h.below hb h.size
theorem KW.al {w : World} (h : KW w) (o : Obj) : KW (w.alloc o) := h.step (bnew w o)
theorem KW.dr {w : World} (h : KW w) : KW w.drew := h.step ((Below.refl _ w).drew)
theorem KW.dn {w : World} (h : KW w) (n : Nat) : KW (w.drewN n) := h.step (dN (Below.refl _ w) n)

theorem cls_high (c : UInt8) (h : ¬ c.toNat < 128) : cls c = 0 := by
  have h1 : 128 ≤ c.toNat := by omega
  have n (k : Nat) (hk : k < 128) (h2 : k < 256) : (c == UInt8.ofNat k) = false := by
    rw [beq_eq_false_iff_ne]; intro e; rw [e] at h1; simp at h1; omega
  have hl : letterB c = false := by unfold letterB; simp [UInt8.le_iff_toNat_le]; omega
  have hd : digitB c = false := by unfold digitB; simp [UInt8.le_iff_toNat_le]; omega
  have hs : spaceB c = false := by unfold spaceB; simp only [Bool.or_eq_false_iff]; exact ⟨⟨⟨n 32 (by omega) (by omega), n 9 (by omega) (by omega)⟩, n 10 (by omega) (by omega)⟩, n 13 (by omega) (by omega)⟩
  have h5 : ¬ c = 95 := by have := n 95 (by omega) (by omega); simpa using this
  have h7 : ¬ c = 47 := by have := n 47 (by omega) (by omega); simpa using this
  have hg : signB c = false := by
    unfold signB
    simp only [List.contains_cons, List.contains_nil, Bool.or_false, Bool.or_eq_false_iff]
    exact ⟨n 123 (by omega) (by omega), n 125 (by omega) (by omega), n 40 (by omega) (by omega), n 41 (by omega) (by omega), n 59 (by omega) (by omega), n 44 (by omega) (by omega), n 61 (by omega) (by omega), n 58 (by omega) (by omega), n 46 (by omega) (by omega), n 60 (by omega) (by omega), n 62 (by omega) (by omega), n 33 (by omega) (by omega), n 43 (by omega) (by omega), n 45 (by omega) (by omega), n 42 (by omega) (by omega), n 47 (by omega) (by omega)⟩
  unfold cls
  simp [hl, hd, hs, h5, h7, hg]
theorem cls_le (c : UInt8) : cls c ≤ 6 := by unfold cls; repeat (split; · decide)
                                             decide

set_option maxRecDepth 100000 in
set_option maxHeartbeats 400000 in
theorem classOf_any (c : UInt8) (w : World) (hK : KW w) : Calls Tryd.prog 38 #[.int .u8 (c.toNat : Int)] w fun e w' => e = .returned (.int .u8 (cls c : Nat)) ∧ w = w' := by
  have hc : c.toNat < 256 := c.toNat_lt
  by_cases h : c.toNat < 128
  · have ht := hK.tab c h
    clear hK
    go_enter Tryd.func38, Tryd.ntmps38
    go_wp2_with fail
    go_ret
    exact ⟨rfl, rfl⟩
  · have ht := Lib.hid (cls_high c h)
    clear hK
    go_enter Tryd.func38, Tryd.ntmps38
    go_wp2_with fail
    go_ret
    exact ⟨by rw [ht.out]; rfl, rfl⟩
end Go.Proofs.YtndfchnmajfmiaaDoor
