/- A slice of bytes that came in, opened. -/
import Derived.Test.YtndfchnmajfmiaaDoorOp
namespace Go.Proofs.YtndfchnmajfmiaaDoor
open Go.ChangeShapes Go.WideShapes Go.ChangeAt Go.RowKit Go.Deep

/-- A slice of bytes that lies below a block. -/
def RBs (w : World) (B : Nat) (A : Option Addr) (bs : List UInt8) : Prop :=
  0 < bs.length → ∃ b off, A = some ⟨b, off, none⟩ ∧ b < B ∧ ∀ j (h : j < bs.length), w.cell? ⟨b, off + j, none⟩ = some (.int .u8 ((bs[j]).toNat : Int))
theorem RBs.under {w w' : World} {B : Nat} {A : Option Addr} {bs : List UInt8} (h : RBs w B A bs) (hb : Below B w w') : RBs w' B A bs := fun hp => by
  obtain ⟨b, off, e, hlt, hc⟩ := h hp
  exact ⟨b, off, e, hlt, fun j hj => (hb.cell (p := ⟨b, off + j, none⟩) hlt).trans (hc j hj)⟩
theorem RBs.step {w w' : World} {A : Option Addr} {bs : List UInt8} (h : RBs w w.heap.size A bs) (hb : Below w.heap.size w w') : RBs w' w'.heap.size A bs := fun hp => by
  obtain ⟨b, off, e, hlt, hc⟩ := h.under hb hp
  exact ⟨b, off, e, Nat.lt_of_lt_of_le hlt hb.size, hc⟩

set_option maxRecDepth 100000 in
theorem openB {H : Type} {enc : TypeId × Value → H} {sp : Nat → Bool} {r : Reach} {b0 : Nat} {W : World} {v : Value} {d : DataW H} {p : List MemPlace} (hv : Value.okWide Tryd.prog W r b0 39 v)
    (h : DataW.Trod enc Tryd.prog W 0 sp true 39 v d p) : ∃ (A : Option Addr) (bs : List UInt8) (cap : Nat), v = .slice A bs.length cap ∧ bs.length ≤ cap ∧ cap ≤ maxLen ∧ RBs W W.heap.size A bs := by
  have hc := okWide_sliceV Tryd.underlying39 hv
  obtain ⟨n, hn⟩ := h
  rcases open_ints Tryd.underlying39 Tryd.underlying5 (by kernel_rfl) hn with ⟨e, -⟩ | ⟨a, len, cap, zs, e, -, hlc, hcm, hz, -, hcell, hwf⟩
  · rw [hc] at e
    simp only [List.cons.injEq, and_true] at e
    exact ⟨none, [], 0, e, Nat.le_refl _, Nat.zero_le _, fun h => absurd h (Nat.lt_irrefl 0)⟩
  · rw [hc] at e
    simp only [List.cons.injEq, and_true] at e
    have hzl : len ≤ zs.length := by rw [hz]; split <;> omega
    have hbl : ((zs.take len).map fun z => UInt8.ofNat z.toNat).length = len := by simp; omega
    refine ⟨some a, (zs.take len).map fun z => UInt8.ofNat z.toNat, cap, by rw [hbl]; exact e, by rw [hbl]; exact hlc, hcm, fun hp => ?_⟩
    rw [hbl] at hp
    have h0 := hcell 0 (by omega)
    obtain ⟨b, o, s⟩ := a
    have hs : s = none := addr_none (a := ⟨b, o, s⟩) (by simpa [Addr.add] using h0)
    subst hs
    rw [add_none] at h0
    refine ⟨b, o, rfl, World.block_lt_of_cell? W ⟨b, o + 0, none⟩ h0, fun j hj => ?_⟩
    rw [hbl] at hj
    have h1 := hcell j (by omega)
    rw [add_none] at h1
    have hw := bounds_u8 (hwf (zs[j]'(by omega)) (List.getElem_mem _))
    rw [h1]
    have hg : zs.getD j 0 = zs[j]'(by omega) := by simp [List.getD, List.getElem?_eq_getElem (by omega : j < zs.length)]
    rw [hg]
    simp only [List.getElem_map, List.getElem_take, Option.some.injEq, Value.int.injEq, true_and]
    rw [UInt8.toNat_ofNat']
    omega
end Go.Proofs.YtndfchnmajfmiaaDoor
