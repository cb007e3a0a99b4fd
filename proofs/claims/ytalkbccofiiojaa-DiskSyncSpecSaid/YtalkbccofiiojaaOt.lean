/- Sectors in a row of the call's own whose block may be longer. -/
import Derived.Test.YtalkbccofiiojaaRn
import Derived.Test.YtalkbccofiiojaaSy
import Derived.Test.YtalkbccofiiojaaFr
namespace Go.Proofs.Ytalkbccofiiojaa
open Go.RowKit

def OT (w : World) (T : Nat → Prop) (g : Nat) (ls : List (List UInt8)) : Prop :=
  ∃ cs : Array Value, w.heap[g]? = some (.cells cs 35 (0, 0)) ∧ ls.length ≤ cs.size ∧ ∀ i (h : i < ls.length), ∃ v, cs[i]? = some v ∧ Row w T v ls[i]
theorem OT.lt {w : World} {T : Nat → Prop} {g : Nat} {ls : List (List UInt8)} (h : OT w T g ls) : g < w.heap.size := by
  obtain ⟨cs, h, -⟩ := h
  exact (Array.getElem?_eq_some_iff.1 h).1
theorem OT.keep {w w' : World} {T : Nat → Prop} {g : Nat} {ls : List (List UInt8)} (h : OT w T g ls) (hg : w'.heap[g]? = w.heap[g]?) (hk : Kept T w w') : OT w' T g ls := by
  obtain ⟨cs, h1, h2, h3⟩ := h
  refine ⟨cs, hg.trans h1, h2, fun i hi => ?_⟩
  obtain ⟨v, hv, hr⟩ := h3 i hi
  exact ⟨v, hv, hr.keep hk⟩
theorem OT.mono {w : World} {T T' : Nat → Prop} {g : Nat} {ls : List (List UInt8)} (h : OT w T g ls) (hT : ∀ b, T b → T' b) : OT w T' g ls := by
  obtain ⟨cs, h1, h2, h3⟩ := h
  refine ⟨cs, h1, h2, fun i hi => ?_⟩
  obtain ⟨v, hv, hr⟩ := h3 i hi
  exact ⟨v, hv, hr.mono hT⟩
theorem OT.step {w w' : World} {T : Nat → Prop} {g : Nat} {ls : List (List UInt8)} (h : OT w T g ls) (hT : ∀ b, T b → b < w.heap.size) (hb : Below w.heap.size w w') : OT w' T g ls :=
  h.keep (hb.block g h.lt) (Kept.of hT hb)
theorem OT.sr {w : World} {T : Nat → Prop} {g : Nat} {ls : List (List UInt8)} (h : OT w T g ls) : SR w (fun b => T b ∨ b = g) (some ⟨g, 0, none⟩) ls := fun _ => by
  obtain ⟨cs, h1, h2, h3⟩ := h
  refine ⟨g, 0, rfl, .inr rfl, fun i hi => ?_⟩
  obtain ⟨v, hv, hr⟩ := h3 i hi
  exact ⟨v, by rw [Nat.zero_add, cell_of_row w g i cs _ _ h1]; exact hv, hr.mono fun b hS => .inl hS⟩
theorem OT.frozen {w : World} {T : Nat → Prop} {g : Nat} {ls : List (List UInt8)} (h : OT w T g ls) (i : Nat) : w.frozen? ⟨g, i, none⟩ = false := by
  obtain ⟨cs, h1, -⟩ := h
  exact frozen_of_row w g i _ _ h1
theorem OT.cell {w : World} {T : Nat → Prop} {g : Nat} {ls : List (List UInt8)} (h : OT w T g ls) {i : Nat} (hi : i < ls.length) : ∃ A c, w.cell? ⟨g, i, none⟩ = some (.slice A ls[i].length c) ∧ ls[i].length ≤ c ∧ c ≤ maxLen ∧ RBs w T A ls[i] := by
  obtain ⟨cs, h1, h2, h3⟩ := h
  obtain ⟨v, hv, A, c, rfl, q1, q2, q3⟩ := h3 i hi
  exact ⟨A, c, by rw [cell_of_row w g i cs _ _ h1]; exact hv, q1, q2, q3⟩
theorem kept_setT (w : World) (T : Nat → Prop) (g i : Nat) (hT : ¬ T g) (v : Value) : Kept T w (w.setCell ⟨g, i, none⟩ v) := fun b _ hS =>
  World.cell?_of_block (heap_setCell_other w ⟨g, i, none⟩ b v (fun (e : b = g) => hT (e ▸ hS)))
theorem OT.set {w : World} {T : Nat → Prop} {g : Nat} {ls : List (List UInt8)} (h : OT w T g ls) (hT : ¬ T g) {i : Nat} {v : Value} {l : List UInt8} (hv : Row w T v l) : OT (w.setCell ⟨g, i, none⟩ v) T g (ls.set i l) := by
  obtain ⟨cs, h1, h2, h3⟩ := h
  refine ⟨_, heap_setCell_same w g i cs _ v h1, by simpa using h2, fun j hj => ?_⟩
  rw [List.length_set] at hj
  have hm : ∀ {u : Value} {m : List UInt8}, Row w T u m → Row (w.setCell ⟨g, i, none⟩ v) T u m := fun hr => hr.keep (kept_setT w T g i hT v)
  by_cases hij : i = j
  · subst hij
    exact ⟨v, by rw [Array.getElem?_setIfInBounds_self_of_lt (by omega)], by rw [List.getElem_set_self]; exact hm hv⟩
  · obtain ⟨u, hu, hr⟩ := h3 j hj
    exact ⟨u, by rw [Array.getElem?_setIfInBounds_ne hij]; exact hu, by rw [List.getElem_set_ne hij]; exact hm hr⟩
theorem OT.cell1 {w : World} {T : Nat → Prop} {g x : Nat} {ls : List (List UInt8)} (h : OT w T g ls) (o : Nat) (v : Value) (h1 : ¬ T x) (h2 : g ≠ x) : OT (w.setCell ⟨x, o, none⟩ v) T g ls :=
  h.keep (heap_setCell_other w ⟨x, o, none⟩ g v h2) (kept_setT w T x o h1 v)
/-- A copy of sectors: append to an empty list. -/
theorem copy_secs {w : World} {T : Nat → Prop} {A : Option Addr} {c : Nat} {ls : List (List UInt8)} (h : SR w T A ls) (hp : 0 < ls.length) (hl : ls.length ≤ 4096) (hT : ∀ b, T b → b < w.heap.size) (g0 : Nat) (ty : TypeId) :
    ∃ c1 w', (Builtin.append_ #[22, 22] ty #[.slice (some ⟨g0, 0, none⟩) 0 0, .slice A ls.length c]).run Try.prog w = .ok (.slice (some ⟨w.heap.size, 0, none⟩) ls.length c1) w' ∧ ls.length ≤ c1 ∧ c1 ≤ maxLen ∧ OT w' T w.heap.size ls ∧ Below w.heap.size w w' := by
  obtain ⟨Vs, hvl, hv, hsrc, hone⟩ := h.vals
  obtain ⟨i0, hi0, hz0, hz1, hz2⟩ := info_parts Try.infoB
  obtain ⟨c1, w', hr, ho, hb⟩ := run_append_fresh (P := Try.prog) w w.heap.size 22 22 ty 35 i0 _ Try.underlying22 hi0 hz0 1 24 hz1 hz2 (by omega) rfl g0 (.slice A ls.length c) ls.length Vs (Src.ofRow Try.underlying22 w A ls.length c Vs (by omega) (by decide) (fun h => hsrc hp) hone) hp (by omega) (Nat.le_refl _)
  rcases ho.2 with ⟨e, -⟩ | ⟨g', cap, cur, e, -, hg, hc, hm, -, -⟩
  · cases e
  · injection e with e1 _ e2
    injection e1 with e1
    injection e1 with e1
    subst e1 e2
    refine ⟨c1, w', hr, hc, hm, ⟨cur, hg, ?_, fun i hi => ?_⟩, hb⟩
    · by_cases hlt : ls.length ≤ cur.size
      · exact hlt
      · obtain ⟨v, h1, -⟩ := hv (ls.length - 1) (by omega)
        have h4 := World.ownsRow.cells ho (g := w.heap.size) rfl _ _ h1
        rw [add_none, cell_of_row w' _ _ cur _ _ hg] at h4
        have := (Array.getElem?_eq_some_iff.1 h4).1
        omega
    · obtain ⟨v, h1, h2⟩ := hv i hi
      have h4 := World.ownsRow.cells ho (g := w.heap.size) rfl i _ h1
      rw [add_none, Nat.zero_add, cell_of_row w' _ _ cur _ _ hg] at h4
      exact ⟨v, h4, h2.keep (Kept.of hT hb)⟩
end Go.Proofs.Ytalkbccofiiojaa
