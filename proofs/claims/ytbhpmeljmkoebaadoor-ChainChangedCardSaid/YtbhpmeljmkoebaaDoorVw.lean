/- A link and a byte that came in, opened. -/
import Derived.Test.YtbhpmeljmkoebaaDoorVu
import Derived.Test.YtbhpmeljmkoebaaDoorVo
namespace Go.Proofs.YtbhpmeljmkoebaaDoor
open Go.ChangeShapes Go.WideShapes Go.ChangeAt Go.RowKit Go.Deep

theorem U8.wf {n : Int} (h : (Lit.int .u8 n).wf = true) : ∃ u : UInt8, n = (u.toNat : Int) := by
  have h := bounds_u8 h
  refine ⟨UInt8.ofNat n.toNat, ?_⟩
  rw [UInt8.toNat_ofNat']
  omega
theorem openK {H : Type} {enc : TypeId × Value → H} {sp : Nat → Bool} {r : Reach} {b0 : Nat} {W : World} {v : Value} {d : DataW H} {p : List MemPlace} (hv : Value.okWide Tryd.prog W r b0 37 v)
    (h : DataW.Trod enc Tryd.prog W 0 sp true 37 v d p) : ∃ (y : Lk) (a : Option Addr) (c : Nat), v = .agg (LW y a c).toArray ∧ y.Fine ∧ Dt W W.heap.size y a c := by
  have hC : Tryd.prog.cellsOf 37 = 35 := by kernel_rfl
  obtain ⟨cs, rfl, -⟩ := okWide_struct Tryd.underlying37 hv
  obtain ⟨n, hn⟩ := h
  have hn' : DataW.trod enc Tryd.prog W 0 sp true n 37 cs.toList = some (d, p) := by simpa [Value.cells] using hn
  have hl : cs.toList.length = 35 := by
    obtain ⟨_, _, _, -, hl, -, -⟩ := DataW.trod_struct Tryd.underlying37 hn'
    rw [← hC]; exact hl
  obtain ⟨y, a, c, e, hf, hd⟩ := raw_link hl hn'
  exact ⟨y, a, c, by rw [← e], hf, hd⟩
end Go.Proofs.YtbhpmeljmkoebaaDoor
