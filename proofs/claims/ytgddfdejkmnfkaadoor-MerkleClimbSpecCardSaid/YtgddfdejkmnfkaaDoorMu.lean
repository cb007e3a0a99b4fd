/- What Prove carries from round to round. -/
import Derived.Test.YtgddfdejkmnfkaaDoorMt
namespace Go.Proofs.YtgddfdejkmnfkaaDoor
open Go.RowKit Go.Shelf

/-- The path of a leaf, as far as the first k rows give it. -/
def pathP (F : List (List UInt8)) (n i : Nat) : Nat → List (List UInt8)
  | 0 => []
  | k + 1 => if lone n i k = true then pathP F n i k else pathP F n i k ++ [(rowL F k).getD (oth (rowI i k)) []]
theorem pathP_len (F : List (List UInt8)) (n i k : Nat) : (pathP F n i k).length = used n i k := by
  induction k with
  | zero => rfl
  | succ k ih =>
    rw [pathP, used]
    split
    · exact ih
    · rw [List.length_append, ih]; rfl
theorem not_lone {n i k : Nat} (h : lone n i k = false) : oth (rowI i k) < rowN n k := by
  unfold lone at h
  have := of_decide_eq_false h
  omega
theorem row_elem_32 {F : List (List UInt8)} (h : ∀ d ∈ F, d.length = 32) {k j : Nat} (hj : j < (rowL F k).length) : ((rowL F k).getD j []).length = 32 := by
  rw [List.getD_eq_getElem?_getD, List.getElem?_eq_getElem hj]
  exact rowL_32 h k _ (List.getElem_mem hj)
theorem pathP_32 {F : List (List UInt8)} (h : ∀ d ∈ F, d.length = 32) (i : Nat) (k : Nat) : ∀ d ∈ pathP F F.length i k, d.length = 32 := by
  induction k with
  | zero => intro d hd; cases hd
  | succ k ih =>
    intro d hd
    rw [pathP] at hd
    split at hd
    · exact ih d hd
    · rename_i hl
      rcases List.mem_append.1 hd with hd | hd
      · exact ih d hd
      · rw [List.mem_singleton.1 hd]
        exact row_elem_32 h (by rw [rowL_len]; exact not_lone (by simpa using hl))
/-- Prove, plainly. -/
def proveP (ls : List (List UInt8)) (i : Int) : List (List UInt8) × Int := if isPl ls.length i = false then ([], 1) else (pathP (firstM ls) ls.length i.toNat (rows ls.length), 0)

theorem OD.ne_box {W : World} {B b : Nat} {v : Value} {l : List (List UInt8)} (h : OD W B v l) {cs : Array Value} {t : TypeId} (hb : W.heap[b]? = some (.cells cs t (0, 0))) (ht : t ≠ 30) : v.ownBlock ≠ some b := fun e => by
  rcases h.2 with ⟨h0, -⟩ | ⟨g, cap, cur, h0, -, hg, -⟩
  · rw [h0] at e; cases e
  · rw [h0] at e
    injection e with e
    subst e
    rw [hg] at hb
    injection hb with hb
    injection hb with h1 h2
    exact ht h2.symm
theorem OD.own {X Y : World} {B : Nat} {v : Value} {l : List (List UInt8)} {row : Option Nat} (h : OD X B v l) (hg : X.grownBy Y row) (hr : ∀ r, row = some r → ∃ o : Obj, X.heap[r]? = some o ∧ o.isCells = false) : OD Y B v l := by
  refine World.ownsRow.kept h hg ?_
  by_cases hn : v.ownBlock = none
  · exact .inl hn
  · refine .inr fun e => ?_
    rcases h.2 with ⟨h0, -⟩ | ⟨g, cap, cur, h0, -, hgc, -⟩
    · rw [h0] at hn; exact hn rfl
    · rw [h0] at e
      obtain ⟨o, ho, hc⟩ := hr g e.symm
      rw [hgc] at ho
      cases ho
      cases hc
theorem OD.box {W : World} {B b : Nat} {v : Value} {l : List (List UInt8)} (h : OD W B v l) {cs : Array Value} {t : TypeId} (hb : W.heap[b]? = some (.cells cs t (0, 0))) (ht : t ≠ 30) (u : Value) : OD (W.setCell ⟨b, 0, none⟩ u) B v l :=
  World.ownsRow.kept h (grownBy_setCell' W b u) (.inr (h.ne_box hb ht))
/-- Between two rounds of Prove: the boxes of the path, of the hash, of the row. -/
structure PI (w : World) (lp lr : List (List UInt8)) (B6 B7 : Nat) (u v : Value) (W : World) : Prop where
  bel : Below w.heap.size w W
  bu : W.heap[w.heap.size]? = some (.cells #[u] 25 (0, 0))
  bh : W.heap[B6]? = some (.cells #[.func (.func 21) #[] #[]] 45 (0, 0))
  bv : W.heap[B7]? = some (.cells #[v] 25 (0, 0))
  ou : OD W (w.heap.size + 1) u lp
  ov : OD W (w.heap.size + 1) v lr
  sep : ∀ g, v.ownBlock = some g → u.ownBlock ≠ some g
theorem PI.step {w : World} {lp lr : List (List UInt8)} {B6 B7 : Nat} {u v : Value} {W W' : World} (h : PI w lp lr B6 B7 u v W) (hb : Below W.heap.size W W') : PI w lp lr B6 B7 u v W' :=
  ⟨h.bel.trans (hb.mono h.bel.size), blk_at h.bu hb, blk_at h.bh hb, blk_at h.bv hb, h.ou.below hb, h.ov.below hb, h.sep⟩
theorem PI.own {w : World} {lp lr : Nat → List (List UInt8)} {B6 B7 B : Nat} (hB : w.heap.size ≤ B) : OwnFrom B (fun k W => ∃ u v, PI w (lp k) (lr k) B6 B7 u v W) := fun k X Y row hs hg hr => by
  obtain ⟨u, v, h⟩ := hs
  have hr2 := fun r e => (hr r e).2
  exact ⟨u, v, ownFrom_below (β := Unit) (w₀ := w) (Nat.le_refl _) hB () X Y row h.bel hg hr, cellsOwn (β := Unit) _ (fun _ => _) _ () X Y row h.bu hg hr2, cellsOwn (β := Unit) _ (fun _ => _) _ () X Y row h.bh hg hr2, cellsOwn (β := Unit) _ (fun _ => _) _ () X Y row h.bv hg hr2, h.ou.own hg hr2, h.ov.own hg hr2, h.sep⟩
/-- A path that grew, in its box. -/
theorem PI.path {w : World} {lp lp' lr : List (List UInt8)} {B6 B7 : Nat} {u u' v : Value} {W W' : World} (h : PI w lp lr B6 B7 u v W) (h6 : w.heap.size < B6) (h7 : w.heap.size < B7) (ho : OD W' (w.heap.size + 1) u' lp') (hg : W.grownBy W' u.ownBlock) (hu : u'.ownBlock = u.ownBlock ∨ u'.ownBlock = some W.heap.size) :
    W'.heap[w.heap.size]? = some (.cells #[u] 25 (0, 0)) ∧ PI w lp' lr B6 B7 u' v (W'.setCell ⟨w.heap.size, 0, none⟩ u') ∧ KeepsOthers W (W'.setCell ⟨w.heap.size, 0, none⟩ u') := by
  have e1 := h.ou.ne_box h.bu (by decide)
  have e2 := h.ou.ne_box h.bh (by decide)
  have e3 := h.ou.ne_box h.bv (by decide)
  have k1 := (hg.block _ (Array.getElem?_eq_some_iff.1 h.bu).1 (fun e => e1 e.symm)).trans h.bu
  have k2 := (hg.block _ (Array.getElem?_eq_some_iff.1 h.bh).1 (fun e => e2 e.symm)).trans h.bh
  have k3 := (hg.block _ (Array.getElem?_eq_some_iff.1 h.bv).1 (fun e => e3 e.symm)).trans h.bv
  have hv : OD W' (w.heap.size + 1) v lr := World.ownsRow.kept h.ov hg (by
    cases hvo : v.ownBlock with
    | none => exact .inl rfl
    | some g => exact .inr fun e => h.sep g hvo e.symm)
  have hb : Below w.heap.size w W' := h.bel.grown hg h.bel.size fun g e => by have := (World.ownsRow.lt h.ou g e).1; omega
  refine ⟨k1, ⟨hb.setCell (p := ⟨w.heap.size, 0, none⟩) (Nat.le_refl _) _, setOne k1, (setOther 0 (by omega)).trans k2, (setOther 0 (by omega)).trans k3, ho.box k1 (by decide) _, hv.box k1 (by decide) _, fun g hgv hgu => ?_⟩, (keepsOwn h.ou hg).trans (KeepsOthers.setCell _ _ _)⟩
  rcases hu with hu | hu
  · exact h.sep g hgv (hu.symm.trans hgu)
  · rw [hu] at hgu
    injection hgu with hgu
    have := (World.ownsRow.lt h.ov g hgv).2
    omega
/-- The next row, in its box. -/
theorem PI.row {w : World} {lp lr lr' : List (List UInt8)} {B6 B7 : Nat} {u v v' : Value} {W W' : World} (h : PI w lp lr B6 B7 u v W) (h6 : B6 < B7) (h7 : w.heap.size < B7) (hb : Below W.heap.size W W') (ho : OD W' W.heap.size v' lr') :
    PI w lp lr' B6 B7 u v' (W'.setCell ⟨B7, 0, none⟩ v') := by
  have h' := h.step hb
  have hz := (Array.getElem?_eq_some_iff.1 h.bu).1
  refine ⟨h'.bel.setCell (p := ⟨B7, 0, none⟩) (by simp; omega) _, (setOther 0 (by omega)).trans h'.bu, (setOther 0 (by omega)).trans h'.bh, setOne h'.bv, h'.ou.box h'.bv (by decide) _, (ownsRow_mono ho (by omega) : OD W' (w.heap.size + 1) v' lr').box h'.bv (by decide) _, fun g hgv hgu => ?_⟩
  have h1 := (World.ownsRow.lt ho g hgv).1
  have h2 := (World.ownsRow.lt h.ou g hgu).2
  omega
end Go.Proofs.YtgddfdejkmnfkaaDoor
