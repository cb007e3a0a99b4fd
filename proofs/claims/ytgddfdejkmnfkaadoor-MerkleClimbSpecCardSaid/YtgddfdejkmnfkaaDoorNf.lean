/- A list of leaves, copied, with one leaf changed. -/
import Derived.Test.YtgddfdejkmnfkaaDoorMy
import Derived.Test.YtgddfdejkmnfkaaDoorNd
import Derived.Test.YtgddfdejkmnfkaaDoorPr
import Derived.Test.YtgddfdejkmnfkaaDoorFw
import Derived.Deep.Slices
namespace Go.Proofs.YtgddfdejkmnfkaaDoor
open Go.RowKit Go.Deep

theorem Tryd.infoLs : (Tryd.prog.info? 34).map (fun i => (i.zero, i.size, i.bytes)) = some (some (.slice none 0 0), 1, 24) := by kernel_rfl
theorem copy_any (W : World) (ls : List (List UInt8)) (b off c : Nat) (ty : TypeId) (h : LL W W.heap.size ls (some ⟨b, off, none⟩)) (hp : 0 < ls.length) (hl : ls.length ≤ 40) :
    ∃ g cap W', (Builtin.append_ #[22, 22] ty #[.slice (some ⟨W.heap.size, 0, none⟩) 0 0, .slice (some ⟨b, off, none⟩) ls.length c]).run Tryd.prog (W.alloc (.cells #[] 34)) = .ok (.slice (some ⟨g, 0, none⟩) ls.length cap) W' ∧ Below W.heap.size W W' ∧ W.heap.size ≤ g ∧ ls.length ≤ cap ∧
      (∀ j, j < ls.length → W'.cell? ⟨g, j, none⟩ = W.cell? ⟨b, off + j, none⟩) ∧ (∃ cur, W'.heap[g]? = some (.cells cur 34 (0, 0)) ∧ ls.length ≤ cur.size) := by
  obtain ⟨b', off', e', hb, hc⟩ := h hp
  injection e' with e'
  injection e' with e1 e2
  subst e1 e2
  obtain ⟨Fv, hF⟩ := choose_lt (n := ls.length) (p := fun i v => W.cell? ⟨b, off + i, none⟩ = some v ∧ v.oneCell' = true) (fun i hi => by
    obtain ⟨a, c, h1, -⟩ := hc i hi
    exact ⟨_, h1, rfl⟩)
  have hb1 := bel1 W (.cells #[] 34)
  have ho : World.ownsRow (W.alloc (.cells #[] 34)) W.heap.size 34 1 (.slice (some ⟨W.heap.size, 0, none⟩) 0 0) 0 [] := World.ownsRow_lit W #[] 0 (Nat.le_refl _) (by unfold maxLen; omega) rfl
  obtain ⟨i0, hi0, hz0, hz1, hz2⟩ := info_parts Tryd.infoLs
  obtain ⟨v', W', hr, ho', hg, -⟩ := run_append_src_row (P := Tryd.prog) (W.alloc (.cells #[] 34)) W.heap.size 22 22 ty 34 i0 _ 1 24 Tryd.underlying22 hi0 hz0 hz1 hz2 rfl _ 0 [] ho (.slice (some ⟨b, off, none⟩) ls.length c) ls.length ((List.range ls.length).map Fv)
    (Src.ofRow Tryd.underlying22 _ (some ⟨b, off, none⟩) ls.length c ((List.range ls.length).map Fv) (by simp) (by decide) (fun _ => ⟨_, rfl, fun j u hu => by
      have hj : j < ls.length := by have := (List.getElem?_eq_some_iff.1 hu).1; simpa using this
      rw [List.getElem?_map, List.getElem?_range hj] at hu
      rw [add_none, hb1.cell (p := ⟨b, off + j, none⟩) hb, (hF j hj).1]
      exact hu⟩) (fun u hu => by
      obtain ⟨j, hj, rfl⟩ := List.mem_map.1 hu
      exact (hF j (List.mem_range.1 hj)).2)) (by omega) (by omega) (by simp)
  rcases ho'.2 with ⟨-, h0⟩ | ⟨g, cap, cur, rfl, hBg, hgg, hnc, hcm, hcs, htk⟩
  · omega
  · rw [Nat.zero_add] at hr hnc htk
    refine ⟨g, cap, W', hr, ?_, hBg, hnc, fun j hj => ?_, cur, hgg, by omega⟩
    · have h2 := (Below.refl W.heap.size (W.alloc (.cells #[] 34))).grown hg (by simp) (fun k e => by
        have e' : some W.heap.size = some k := e
        injection e' with e'
        omega)
      exact hb1.trans h2
    · rw [cell_of_row W' g j cur _ _ hgg, (hF j hj).1]
      have h3 : (cur.toList.take (ls.length * 1))[j]? = some (Fv j) := by rw [htk, List.nil_append, List.getElem?_map, List.getElem?_range hj]; rfl
      rw [Nat.mul_one, List.getElem?_take, if_pos hj, Array.getElem?_toList] at h3
      exact h3
/-- The copy reads as the list with one leaf changed. -/
theorem copy_set {W W' : World} {ls : List (List UInt8)} {b off g : Nat} (h : LL W W.heap.size ls (some ⟨b, off, none⟩)) (hB : Below W.heap.size W W') (hg : W.heap.size ≤ g) (hcell : ∀ j, j < ls.length → W'.cell? ⟨g, j, none⟩ = W.cell? ⟨b, off + j, none⟩) (hrow : ∃ cur, W'.heap[g]? = some (.cells cur 34 (0, 0)) ∧ ls.length ≤ cur.size)
    {I : Nat} (hI : I < ls.length) (x : List UInt8) (Bx : Option Addr) (cx : Nat) (hx : RBs W W.heap.size Bx x) (hxn : Bx = none → x = []) (hxc : x.length ≤ cx) :
    LL (W'.setCell ⟨g, I, none⟩ (.slice Bx x.length cx)) (W'.setCell ⟨g, I, none⟩ (.slice Bx x.length cx)).heap.size (ls.set I x) (some ⟨g, 0, none⟩) := fun _ => by
  obtain ⟨b', off', e', hb, hc⟩ := h (by omega)
  injection e' with e'
  injection e' with e1 e2
  subst e1 e2
  obtain ⟨cur, hcur, hcs⟩ := hrow
  have hgl : g < W'.heap.size := (Array.getElem?_eq_some_iff.1 hcur).1
  have hB2 : Below W.heap.size W (W'.setCell ⟨g, I, none⟩ (.slice Bx x.length cx)) := hB.setCell (p := ⟨g, I, none⟩) hg _
  refine ⟨g, 0, rfl, by simpa using hgl, fun j hj => ?_⟩
  rw [List.length_set] at hj
  rw [Nat.zero_add]
  have hset := heap_setCell_same W' g I cur 34 (.slice Bx x.length cx) hcur
  rw [cell_of_row _ g j _ _ _ hset]
  by_cases e : j = I
  · subst e
    refine ⟨Bx, cx, ?_, ?_⟩
    · simp only [List.getElem_set_self]
      rw [Array.getElem?_setIfInBounds_self_of_lt (by omega)]
    · simp only [List.getElem_set_self]
      exact ⟨hx.lift hB2 hB2.size, hxn, hxc⟩
  · obtain ⟨a, c, h1, h2, h3, h4⟩ := hc j hj
    refine ⟨a, c, ?_, ?_⟩
    · rw [List.getElem_set_ne (by omega), Array.getElem?_setIfInBounds_ne (by omega), ← cell_of_row W' g j _ _ _ hcur, hcell j hj, h1]
    · rw [List.getElem_set_ne (by omega)]
      exact ⟨h2.lift hB2 hB2.size, h3, h4⟩
end Go.Proofs.YtgddfdejkmnfkaaDoor
