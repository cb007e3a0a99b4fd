/- For NetworkMoveSpec: rows of numbers; a net stored into a box that is there. -/
import Derived.Test.YtpmmahlmfcbbbaaRc
import Derived.Test.YtpmmahlmfcbbbaaNh
namespace Go.Proofs.Ytpmmahlmfcbbbaa
open Go.RowKit

theorem Try.infoI : (Try.prog.info? 3).map (fun i => (i.zero, i.size, i.bytes)) = some (some (.int .i64 0), 1, 8) := by kernel_rfl
def IV (L : List Int) : List Value := L.map fun n => .int .i64 n
/-- A row of numbers of the call's own. -/
structure IR (w0 : World) (g m cap : Nat) (L : List Int) (w : World) : Prop where
  bel : Below w0.heap.size w0 w
  len : m = L.length
  own : w.ownsRow w0.heap.size 3 1 (.slice (some ⟨g, 0, none⟩) m cap) m (IV L)
theorem IR.step {w0 : World} {g m cap : Nat} {L : List Int} {w w' : World} (h : IR w0 g m cap L w) (hb : Below w.heap.size w w') : IR w0 g m cap L w' := ⟨h.bel.trans (hb.mono h.bel.size), h.len, ownsRow_below h.own hb⟩
theorem IR.one {w0 : World} (x : Int) : IR w0 w0.heap.size 1 1 [x] (w0.alloc (.cells #[.int .i64 x] 3)) :=
  ⟨bnew w0 _, rfl, by simp [IV], .inr ⟨w0.heap.size, 1, _, rfl, Nat.le_refl _, heap_alloc_new w0 _, Nat.le_refl _, by unfold maxLen; omega, by simp, by simp [IV]⟩⟩
theorem IR.app {w0 : World} {g m cap : Nat} {L : List Int} {W : World} (h : IR w0 g m cap L W) (ty : TypeId) (s : Nat) (x : Int) (hs : W.heap[s]? = some (.cells #[.int .i64 x] 3 (0, 0))) (hn : m ≤ 5000) :
    ∃ g' cap' W', (Builtin.append_ #[39, 39] ty #[.slice (some ⟨g, 0, none⟩) m cap, .slice (some ⟨s, 0, none⟩) 1 1]).run Try.prog W = .ok (.slice (some ⟨g', 0, none⟩) (m + 1) cap') W' ∧ IR w0 g' (m + 1) cap' (L ++ [x]) W' := by
  obtain ⟨i0, hi0, hz0, hz1, hz2⟩ := info_parts Try.infoI
  obtain ⟨v', W', hr, ho, hg, -⟩ := run_append_src_row (P := Try.prog) W w0.heap.size 39 39 ty 3 i0 _ 1 8 Try.underlying39 hi0 hz0 hz1 hz2 rfl _ m (IV L) h.own (.slice (some ⟨s, 0, none⟩) 1 1) 1 [.int .i64 x]
    (Src.ofRow Try.underlying39 W (some ⟨s, 0, none⟩) 1 1 [.int .i64 x] rfl (by decide) (fun _ => ⟨_, rfl, fun j u hu => by rw [add_none, Nat.zero_add, cell_of_row W s j _ _ _ hs]; simpa using hu⟩) (by simp [Value.oneCell'])) (by omega) (by omega) h.bel.size
  obtain ⟨g', cap', rfl⟩ := ownsRow_succ ho
  exact ⟨g', cap', W', hr, h.bel.trans ((Below.refl _ W).grown hg h.bel.size fun k hk => (World.ownsRow.lt h.own k hk).1), by rw [List.length_append, h.len]; rfl, by unfold IV; rw [List.map_append]; exact ho⟩
theorem IR.cell {w0 : World} {g m cap : Nat} {L : List Int} {w : World} (h : IR w0 g m cap L w) {k : Nat} (hk : k < m) : w.cell? ⟨g, k, none⟩ = some (.int .i64 (L.getD k 0)) ∧ g < w.heap.size := by
  have hk' : k < L.length := by have := h.len; omega
  have := World.ownsRow.cells h.own (g := g) rfl k (.int .i64 (L.getD k 0)) (by unfold IV; simp [List.getD, hk'])
  rw [add_none, Nat.zero_add] at this
  exact ⟨this, World.block_lt_of_cell? w ⟨g, k, none⟩ this⟩

theorem NB.sets {w : World} {B : Nat} {a a' : Option Addr} {l x l' x' : Nat} (hk : w.heap[B]? = some (.cells #[.slice a l x, .slice a' l' x'] 25 (0, 0))) {D D' : Option Addr} {d d' : Nat} {m : Nt} (h : NR w (· < w.heap.size) D d D' d' m) :
    NB ((w.setCell ⟨B, 0, none⟩ (.slice D m.q.length d)).setCell ⟨B, 1, none⟩ (.slice D' m.ap.length d')) B D d D' d' m := by
  refine ⟨heap_setCell_same (w.setCell ⟨B, 0, none⟩ (.slice D m.q.length d)) B 1 _ _ (.slice D' m.ap.length d') (heap_setCell_same w B 0 _ _ (.slice D m.q.length d) hk), ?_⟩
  exact ((h.off fun o k n h => slice_box hk h).keep ((Kept.set fun b hb => hb.2).trans (Kept.set fun b hb => hb.2))).mono fun b hb => by simpa using hb.1
theorem NB.other {w : World} {B C : Nat} {a a' : Option Addr} {l x l' x' : Nat} (hk : w.heap[B]? = some (.cells #[.slice a l x, .slice a' l' x'] 25 (0, 0))) (hne : C ≠ B) {D D' : Option Addr} {d d' : Nat} {m : Nt} (h : NB w C D d D' d' m) (v0 v1 : Value) :
    NB ((w.setCell ⟨B, 0, none⟩ v0).setCell ⟨B, 1, none⟩ v1) C D d D' d' m := by
  refine ⟨(heap_setCell_other (w.setCell ⟨B, 0, none⟩ v0) ⟨B, 1, none⟩ C v1 hne).trans ((heap_setCell_other w ⟨B, 0, none⟩ C v0 hne).trans h.blk), ?_⟩
  exact ((h.net.off fun o k n h => slice_box hk h).keep ((Kept.set fun b hb => hb.2).trans (Kept.set fun b hb => hb.2))).mono fun b hb => by simpa using hb.1
theorem blk_other {w : World} {B C : Nat} {o : Obj} (h : w.heap[C]? = some o) (hne : C ≠ B) (v0 v1 : Value) : ((w.setCell ⟨B, 0, none⟩ v0).setCell ⟨B, 1, none⟩ v1).heap[C]? = some o :=
  (heap_setCell_other (w.setCell ⟨B, 0, none⟩ v0) ⟨B, 1, none⟩ C v1 hne).trans ((heap_setCell_other w ⟨B, 0, none⟩ C v0 hne).trans h)
/-- What lay in wl lies as it was. -/
structure BW (wl w : World) : Prop where
  bel : Below wl.heap.size wl w
theorem BW.step {wl w w' : World} (h : BW wl w) (hb : Below w.heap.size w w') : BW wl w' := ⟨h.bel.trans (hb.mono h.bel.size)⟩
theorem BW.sets {wl w : World} {B : Nat} (h : BW wl w) (hB : wl.heap.size ≤ B) (v0 v1 : Value) : BW wl ((w.setCell ⟨B, 0, none⟩ v0).setCell ⟨B, 1, none⟩ v1) := ⟨(h.bel.setCell (p := ⟨B, 0, none⟩) hB v0).setCell (p := ⟨B, 1, none⟩) hB v1⟩
end Go.Proofs.Ytpmmahlmfcbbbaa
