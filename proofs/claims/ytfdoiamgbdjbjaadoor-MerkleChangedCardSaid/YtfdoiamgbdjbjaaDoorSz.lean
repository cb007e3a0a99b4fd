/- What the row's condition on the listed variable gives: the sixty-four numbers in their cells. -/
import Derived.Test.YtfdoiamgbdjbjaaDoorSb
import Derived.LaidMore
import Derived.ProofKit
import Derived.Stop.Joined
namespace Go.Proofs.YtfdoiamgbdjbjaaDoor
open Go.ChangeShapes Go.WideShapes Go.ChangeAt Go.RowKit

theorem gRounds : Tryd.prog.globalNamed "kinesphere/digest.rounds" = some 0 := by kernel_rfl
theorem tRounds : (Tryd.prog.globals[0]?).map (·.type) = some 79 := by kernel_rfl
abbrev laidR : List (String × DataW Unit) := [("kinesphere/digest.rounds", Rows.laid_kinesphere_digest_rounds)]

/-- The numbers, as the datum says them. -/
theorem laid_nums {H : Type} : (Rows.laid_kinesphere_digest_rounds : DataW H) = .agg (Ktab.map fun x => .lit (.int .u32 (U x))) := by
  unfold Rows.laid_kinesphere_digest_rounds Ktab
  simp only [List.map_cons, List.map_nil]
  rfl

theorem kt_of_laid {W : World} (h : laidMetH Tryd.prog laidR W) : KT W ∧ 0 < W.heap.size := by
  rw [MakeChecks.laidMetH_plain _ _ _ (by kernel_rfl)] at h
  obtain ⟨ps, ⟨g0, t0, cs0, f0, p0, q0, hg0, ht0, hv0, hd0, -, -⟩, -, -⟩ := h
  obtain rfl := Option.some.inj (gRounds.symm.trans hg0)
  obtain rfl := Option.some.inj (tRounds.symm.trans ht0)
  have hc : ∀ j, j < 64 → W.cell? ⟨0, j, none⟩ = some (.int .u32 (U (Ktab.getD j 0))) := by
    intro j hj
    obtain ⟨xs, m1, -, hx1, hlen, hn3, hel⟩ := DataW.trod_array Tryd.underlying79 hd0
    have c3 : Tryd.prog.cellsOf 56 = 1 := by kernel_rfl
    have h0 := hel j hj
    rw [laid_nums] at hx1
    simp only [Prod.mk.injEq, DataW.agg.injEq] at hx1
    obtain ⟨x, hx⟩ : ∃ x, xs[j]? = some x := ⟨_, List.getElem?_eq_getElem (by omega)⟩
    rw [hx, c3] at h0
    obtain ⟨k, e1, e2, -⟩ := DataW.trod_int Tryd.underlying56 h0
    have hk : k = U (Ktab.getD j 0) := by
      have h1 : (Ktab.map fun x => (DataW.lit (.int .u32 (U x)) : DataW Unit))[j]? = (xs.map (·.1))[j]? := by rw [hx1.1]
      have hl : j < Ktab.length := hj
      rw [List.getElem?_map, List.getElem?_map, hx, List.getElem?_eq_getElem hl, e2] at h1
      simp only [Option.map_some, Option.some.injEq, DataW.lit.injEq, Lit.int.injEq, true_and] at h1
      rw [← h1, List.getD_eq_getElem?_getD, List.getElem?_eq_getElem hl]
      rfl
    have hcell := World.var?_cell hg0 hv0 j
    have hget : cs0.toList[j]? = some (.int .u32 k) := by
      have h2 := congrArg (fun l => l[0]?) e1
      simpa using h2
    rw [Array.getElem?_toList] at hget
    rw [hcell, hget, hk]
  exact ⟨hc, World.block_lt_of_cell? W ⟨0, 0, none⟩ (hc 0 (by omega))⟩
end Go.Proofs.YtfdoiamgbdjbjaaDoor
