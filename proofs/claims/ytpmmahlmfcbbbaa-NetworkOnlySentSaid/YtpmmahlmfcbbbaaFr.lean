/- append behind an empty row without room: a new block. -/
import Derived.Test.YtpmmahlmfcbbbaaAr
namespace Go.Proofs.Ytpmmahlmfcbbbaa
open Go.RowKit

theorem run_append_fresh {P : Program} (w : World) (base : Nat) (t tx ty e : TypeId) (i : TypeInfo) (z : Value) (ht : P.underlying t = some (.slice e)) (hi : P.info? e = some i) (hz : i.zero = some z)
    (s by_ : Nat) (hsize : i.size = s) (hby : i.bytes = by_) (hby1 : by_ ≤ 1000) (hzs : z.cells.size = s) (g : Nat) (x : Value) (m : Nat) (news : List Value) (hs : Src P s tx x m news w) (hm : 0 < m) (hlen : m ≤ 1000000000) (hbase : base ≤ w.heap.size) :
    ∃ c w', (Builtin.append_ #[t, tx] ty #[.slice (some ⟨g, 0, none⟩) 0 0, x]).run P w = .ok (.slice (some ⟨w.heap.size, 0, none⟩) m c) w' ∧ w'.ownsRow base e s (.slice (some ⟨w.heap.size, 0, none⟩) m c) m news ∧ Below w.heap.size w w' := by
  have hnl : news.length = m * s := hs.newsLen
  have hs' : Src P i.size tx x m news w := by rw [hsize]; exact hs
  have hbb : m * i.bytes ≤ 1000000000000 := by rw [hby]; exact Nat.le_trans (Nat.mul_le_mul hlen hby1) (by decide)
  have hold : (Builtin.firstCells i.size 0 (.slice (some ⟨g, 0, none⟩) 0 0)).run P w.drew = .ok ([] : List Value).toArray w.drew := run_firstCells_some w.drew i.size 0 ⟨g, 0, none⟩ 0 0 [] (by simp) (fun j u hu => by simp at hu)
  have hr := run_append_grow_src (P := P) w t tx ty e i z ht hi hz (some ⟨g, 0, none⟩) 0 0 [] hold x m news hs' (by omega) (by omega) (growslice_fits (by omega) (by rw [Nat.zero_add]; omega))
  simp only [Nat.zero_add] at hr
  have hge := grownCap_ge w m 0 e
  have hcm : grownCap w m 0 e ≤ maxLen := grownCap_le_maxLen w m 0 e (by unfold maxLen; omega)
  refine ⟨_, _, hr, ⟨hnl, .inr ⟨w.heap.size, _, _, rfl, hbase, heap_alloc_new w.drew _, hge, hcm, ?_, ?_⟩⟩, ⟨rfl, rfl, rfl, by simp, fun k hk => Below.heap_alloc w.drew _ k hk⟩⟩
  · simp only [Array.size_append, List.size_toArray, size_zeroCells, hzs, List.nil_append, hnl]
    rw [← Nat.add_mul, Nat.add_sub_cancel' hge]
  · simp only [Array.toList_append, List.nil_append]
    rw [← hnl]
    exact List.take_left
end Go.Proofs.Ytpmmahlmfcbbbaa
