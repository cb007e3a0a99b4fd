/- A digest that came in, opened. -/
import Derived.Test.YtjfoihlelkfaoaaDoorLz
import Derived.OpenShut
namespace Go.Proofs.YtjfoihlelkfaoaaDoor
open Go.ChangeShapes Go.WideShapes Go.ChangeAt Go.RowKit Go.Deep

theorem openD {H : Type} {enc : TypeId × Value → H} {sp : Nat → Bool} {r : Reach} {b0 : Nat} {W : World} {v : Value} {x : DataW H} {p : List MemPlace} (hv : Value.okWide Tryd.prog W r b0 24 v)
    (h : DataW.Trod enc Tryd.prog W 0 sp true 24 v x p) : ∃ d : List UInt8, v = .agg (BV d).toArray ∧ d.length = 32 := by
  have hu : Tryd.prog.underlying 24 = some (.array 32 5) := Tryd.underlying24
  have c1 : Tryd.prog.cellsOf 5 = 1 := by kernel_rfl
  have cD : Tryd.prog.cellsOf 24 = 32 := by kernel_rfl
  unfold Value.okWide at hv
  rw [hu] at hv
  obtain ⟨cs, rfl, hz, -⟩ := hv
  rw [cD] at hz
  obtain ⟨n, hn⟩ := h
  simp only [Value.cells] at hn
  obtain ⟨xs, m, -, -, -, hl, hel⟩ := DataW.trod_array hu hn
  have key : ∀ j, j < 32 → ∃ c : UInt8, cs.toList[j]? = some (.int .u8 (c.toNat : Int)) := fun j hj => by
    have h0 := hel j hj
    rw [c1, Nat.mul_one, List.getElem?_eq_getElem (by omega)] at h0
    obtain ⟨z, e1, -, hw⟩ := DataW.trod_int Tryd.underlying5 h0
    have hb := bounds_u8 hw
    refine ⟨UInt8.ofNat z.toNat, ?_⟩
    have h1 : ((cs.toList.drop j).take 1)[0]? = some (.int .u8 z) := by rw [e1]; rfl
    have h2 : cs.toList[j]? = some (.int .u8 z) := by simpa using h1
    rw [h2, UInt8.toNat_ofNat']
    congr 2
    omega
  have all : ∀ (l : List Value), (∀ j, j < l.length → ∃ c : UInt8, l[j]? = some (.int .u8 (c.toNat : Int))) → ∃ d : List UInt8, l = BV d := by
    intro l
    induction l with
    | nil => intro _; exact ⟨[], rfl⟩
    | cons y r ih =>
      intro hk
      obtain ⟨c, hc⟩ := hk 0 (by simp)
      obtain ⟨d, hd⟩ := ih fun j hj => by
        have := hk (j + 1) (by simp; omega)
        simpa using this
      simp only [List.getElem?_cons_zero, Option.some.injEq] at hc
      exact ⟨c :: d, by rw [hc, hd]; rfl⟩
  have hlen : cs.toList.length = 32 := by simpa using hz
  obtain ⟨d, hd⟩ := all cs.toList fun j hj => key j (by omega)
  refine ⟨d, ?_, ?_⟩
  · rw [← hd]
  · have := congrArg List.length hd
    rw [BV_length, hlen] at this
    exact this.symm
end Go.Proofs.YtjfoihlelkfaoaaDoor
