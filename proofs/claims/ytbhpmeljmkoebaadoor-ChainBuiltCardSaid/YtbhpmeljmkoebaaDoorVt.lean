/- Lists of bytes that came in, opened. -/
import Derived.Test.YtbhpmeljmkoebaaDoorVs
import Derived.Test.YtbhpmeljmkoebaaDoorVo
namespace Go.Proofs.YtbhpmeljmkoebaaDoor
open Go.ChangeShapes Go.WideShapes Go.ChangeAt Go.RowKit Go.Deep

set_option maxRecDepth 100000 in
/-- A slice of slices of bytes that came in. -/
theorem openLs {H : Type} {enc : TypeId × Value → H} {sp : Nat → Bool} {r : Reach} {b0 : Nat} {W : World} {v : Value} {x : DataW H} {p : List MemPlace} (hv : Value.okWide Tryd.prog W r b0 33 v)
    (h : DataW.Trod enc Tryd.prog W 0 sp true 33 v x p) : ∃ (A : Option Addr) (l : List (List UInt8)) (cap : Nat), v = .slice A l.length cap ∧ l.length ≤ cap ∧ cap ≤ maxLen ∧ LL W W.heap.size l A := by
  have cB : Tryd.prog.cellsOf 23 = 1 := by kernel_rfl
  have hc := okWide_sliceV Tryd.underlying33 hv
  obtain ⟨n, hn⟩ := h
  rcases open_slice1 Tryd.underlying33 cB hn with ⟨e, -⟩ | ⟨a, len, cap, m, q, V, D, Pl, e, -, hlc, hcm, hm, -, hx⟩
  · rw [hc] at e
    simp only [List.cons.injEq, and_true] at e
    exact ⟨none, [], 0, e, Nat.le_refl _, Nat.zero_le _, LL.nil _ _ _⟩
  · rw [hc] at e
    simp only [List.cons.injEq, and_true] at e
    have hlm : len ≤ m := by rw [hm]; split <;> omega
    have hspot : 0 < len → a.spot = none := by
      intro hp
      obtain ⟨h0, ht⟩ := hx 0 (by omega)
      obtain ⟨b, o, s⟩ := a
      exact addr_none (a := ⟨b, o, s⟩) (v := V 0) (by simpa [Addr.add] using h0)
    have each : ∀ i, i < len → ∃ l : List UInt8, a.spot = none ∧ a.block < W.heap.size ∧ ∃ A c, W.cell? ⟨a.block, a.off + i, none⟩ = some (.slice A l.length c) ∧ RBs W W.heap.size A l ∧ (A = none → l = []) ∧ l.length ≤ c := by
      intro i hi
      obtain ⟨h0, ht⟩ := hx i (by omega)
      have hs := hspot (by omega)
      obtain ⟨b, o, s⟩ := a
      simp only at hs
      subst hs
      simp only [add_none] at h0
      have hb := World.block_lt_of_cell? W ⟨b, o + i, none⟩ h0
      rcases open_ints Tryd.underlying23 Tryd.underlying5 (by kernel_rfl) ht with ⟨e, -⟩ | ⟨a2, len2, cap2, zs, e, -, hlc2, hcm2, hz, -, hcell, hwf⟩
      · simp only [List.cons.injEq, and_true] at e
        exact ⟨[], rfl, hb, none, 0, by rw [h0, e]; rfl, fun h => absurd h (Nat.lt_irrefl 0), fun _ => rfl, Nat.le_refl _⟩
      · simp only [List.cons.injEq, and_true] at e
        have hzl : len2 ≤ zs.length := by rw [hz]; split <;> omega
        have hbl : ((zs.take len2).map fun z => UInt8.ofNat z.toNat).length = len2 := by simp; omega
        refine ⟨(zs.take len2).map fun z => UInt8.ofNat z.toNat, rfl, hb, some a2, cap2, by rw [hbl, h0, e], fun hp => ?_, (fun h => by cases h), by rw [hbl]; exact hlc2⟩
        rw [hbl] at hp
        have h1 := hcell 0 (by omega)
        obtain ⟨b2, o2, s2⟩ := a2
        have hs : s2 = none := addr_none (a := ⟨b2, o2, s2⟩) (by simpa [Addr.add] using h1)
        subst hs
        rw [add_none] at h1
        refine ⟨b2, o2, rfl, World.block_lt_of_cell? W ⟨b2, o2 + 0, none⟩ h1, fun j hj => ?_⟩
        rw [hbl] at hj
        have h2 := hcell j (by omega)
        rw [add_none] at h2
        have hw := bounds_u8 (hwf (zs[j]'(by omega)) (List.getElem_mem _))
        rw [h2]
        have hg : zs.getD j 0 = zs[j]'(by omega) := by simp [List.getD, List.getElem?_eq_getElem (by omega : j < zs.length)]
        rw [hg]
        simp only [List.getElem_map, List.getElem_take, Option.some.injEq, Value.int.injEq, true_and]
        rw [UInt8.toNat_ofNat']
        omega
    obtain ⟨F, hF⟩ := choose_lt each
    have hll : ((List.range len).map F).length = len := by simp
    refine ⟨some a, (List.range len).map F, cap, by rw [hll]; exact e, by rw [hll]; exact hlc, hcm, fun hp => ?_⟩
    rw [hll] at hp
    obtain ⟨hs, hb, -⟩ := hF 0 hp
    obtain ⟨b, o, s⟩ := a
    simp only at hs
    subst hs
    refine ⟨b, o, rfl, hb, fun i hi => ?_⟩
    rw [hll] at hi
    obtain ⟨-, -, h1⟩ := hF i hi
    simpa using h1
end Go.Proofs.YtbhpmeljmkoebaaDoor
