/- For NetworkAll: the box of the links, and the packets that are left, in a row of the call's own. -/
import Derived.Test.YtpmmahlmfcbbbaaM0
import Derived.Test.YtpmmahlmfcbbbaaL4p
namespace Go.Proofs.Ytpmmahlmfcbbbaa
open Go.RowKit

def Er (v : Value) (b : Nat) : Prop := v.ownBlock ≠ some b
structure SL (w0 : World) (Q R : List Pk) (v : Value) (w : World) : Prop where
  bel : Below w0.heap.size w0 w
  lt : w0.heap.size < w.heap.size
  row : ∃ xs, w.ownsRow (w0.heap.size + 1) 28 3 v R.length xs ∧ PkV w0 (· < w0.heap.size) xs R
  box : ∃ A c A' c', w.heap[w0.heap.size]? = some (.cells #[.slice A Q.length c, .slice A' 0 c'] 25 (0, 0)) ∧ NR w (fun b => b < w.heap.size ∧ Er v b) A c A' c' ⟨Q, []⟩
theorem SL.step {w0 w w' : World} {Q R : List Pk} {v : Value} (h : SL w0 Q R v w) (hb : Below w.heap.size w w') : SL w0 Q R v w' := by
  obtain ⟨xs, h1, h2⟩ := h.row
  obtain ⟨A, c, A', c', h3, h4⟩ := h.box
  exact ⟨h.bel.trans (hb.mono h.bel.size), Nat.lt_of_lt_of_le h.lt hb.size, ⟨xs, ownsRow_below h1 hb, h2⟩, A, c, A', c', blk_step h3 hb, (h4.keep fun b o hs => hb.cell (p := ⟨b, o, none⟩) hs.1).mono fun b hs => ⟨Nat.lt_of_lt_of_le hs.1 hb.size, hs.2⟩⟩
theorem SL.app {w0 W : World} {Q R : List Pk} {v : Value} (h : SL w0 Q R v W) (ty : TypeId) (s : Nat) (p : Pk) (A : Option Addr) (c : Nat) (hI : I64 p.frm ∧ I64 p.to) (hl : p.data.length ≤ c ∧ c ≤ maxLen) (hp : RBs w0 (· < w0.heap.size) A p.data)
    (hs : W.heap[s]? = some (.cells #[.int .i64 p.frm, .int .i64 p.to, .slice A p.data.length c] 28 (0, 0))) (hn : R.length ≤ 100) :
    ∃ v' W', (Builtin.append_ #[22, 22] ty #[v, .slice (some ⟨s, 0, none⟩) 1 1]).run Try.prog W = .ok v' W' ∧ SL w0 Q (R ++ [p]) v' W' := by
  obtain ⟨xs, h1, h2⟩ := h.row
  obtain ⟨A1, c1, A1', c1', h3, h4⟩ := h.box
  obtain ⟨i0, hi0, hz0, hz1, hz2⟩ := info_parts Try.infoP
  obtain ⟨v', W', hr, ho, hg, hv⟩ := run_append_src_row (P := Try.prog) W (w0.heap.size + 1) 22 22 ty 28 i0 _ 3 40 Try.underlying22 hi0 hz0 hz1 hz2 rfl v R.length xs h1 (.slice (some ⟨s, 0, none⟩) 1 1) 1 [.int .i64 p.frm, .int .i64 p.to, .slice A p.data.length c]
    (Src.ofRow Try.underlying22 W (some ⟨s, 0, none⟩) 1 1 _ rfl (by decide) (fun _ => ⟨_, rfl, fun j u hu => by rw [add_none, Nat.zero_add, cell_of_row W s j _ _ _ hs]; simpa using hu⟩) (by simp [Value.oneCell'])) (by omega) (by omega) h.lt
  have hsz := hg.size
  have hown : ∀ k, v.ownBlock = some k → w0.heap.size + 1 ≤ k := fun k hk => (World.ownsRow.lt h1 k hk).1
  have same : ∀ b, b < W.heap.size → Er v b → W'.heap[b]? = W.heap[b]? := fun b hb he => hg.block b hb (fun e => he e.symm)
  refine ⟨v', W', hr, h.bel.grown hg (by have := h.lt; omega) fun k hk => by have := hown k hk; omega, by have := h.lt; omega, ⟨_, by rw [List.length_append]; exact ho, h2.append (PkV.one p A c hI hl hp)⟩, A1, c1, A1', c1', (same _ h.lt (fun e => by have := hown _ e; omega)).trans h3, ?_⟩
  refine (h4.keep fun b o hb => World.cell?_of_block (same b hb.1 hb.2)).mono fun b hb => ⟨Nat.lt_of_lt_of_le hb.1 hsz, fun e => ?_⟩
  rcases hv with hv | hv
  · exact hb.2 (hv.symm.trans e)
  · rw [hv] at e
    injection e with e
    omega
theorem SL.own_ne {w0 w : World} {Q R : List Pk} {v : Value} (h : SL w0 Q R v w) {b : Nat} (hb : b ≤ w0.heap.size ∨ w.heap.size ≤ b) : Er v b := fun e => by
  obtain ⟨xs, h1, -⟩ := h.row
  have := World.ownsRow.lt h1 b e
  omega
/-- The box of the links, stored anew. -/
theorem SL.put {w0 w : World} {Q Q' R : List Pk} {v : Value} (h : SL w0 Q R v w) {D D' : Option Addr} {d d' : Nat} (hd : NR w (fun b => b < w.heap.size ∧ Er v b) D d D' d' ⟨Q', []⟩) :
    SL w0 Q' R v ((w.setCell ⟨w0.heap.size, 0, none⟩ (.slice D Q'.length d)).setCell ⟨w0.heap.size, 1, none⟩ (.slice D' 0 d')) := by
  have hne : v.ownBlock = none ∨ v.ownBlock ≠ some w0.heap.size := .inr (h.own_ne (.inl (Nat.le_refl _)))
  obtain ⟨xs, h1, h2⟩ := h.row
  obtain ⟨A, c, A', c', h3, -⟩ := h.box
  refine ⟨(h.bel.setCell (p := ⟨w0.heap.size, 0, none⟩) (Nat.le_refl _) _).setCell (p := ⟨w0.heap.size, 1, none⟩) (Nat.le_refl _) _, by have := h.lt; simpa using this, ⟨xs, (h1.kept (grownBy_setCell1 w w0.heap.size 0 _) hne).kept (grownBy_setCell1 _ w0.heap.size 1 _) hne, h2⟩, D, d, D', d',
    heap_setCell_same (w.setCell ⟨w0.heap.size, 0, none⟩ (.slice D Q'.length d)) w0.heap.size 1 _ _ (.slice D' 0 d') (heap_setCell_same w w0.heap.size 0 _ _ (.slice D Q'.length d) h3), ?_⟩
  exact ((hd.off fun o k n h => slice_box h3 h).keep ((Kept.set fun b hb => hb.2).trans (Kept.set fun b hb => hb.2))).mono fun b hb => ⟨by simpa using hb.1.1, hb.1.2⟩
/-- What a call gives that reads the links. -/
theorem SL.sn {w0 w w' : World} {Q R : List Pk} {v : Value} (h : SL w0 Q R v w) (hb : Below w.heap.size w w') {b : Nat} (hs : Sn (fun b => b < w.heap.size ∧ Er v b) w w' b) : b < w'.heap.size ∧ Er v b := by
  rcases hs with hs | hs
  · exact ⟨Nat.lt_of_lt_of_le hs.1 hb.size, hs.2⟩
  · exact ⟨hs.2, h.own_ne (.inr hs.1)⟩
theorem SL.arg {w0 w : World} {Q R : List Pk} {v : Value} (h : SL w0 Q R v w) {A : Option Addr} {l : List UInt8} (hp : RBs w0 (· < w0.heap.size) A l) : RBs w (fun b => b < w.heap.size ∧ Er v b) A l :=
  (hp.keep (Kept.below h.bel)).mono fun b hb => ⟨by have := h.lt; omega, h.own_ne (.inl (by omega))⟩
end Go.Proofs.Ytpmmahlmfcbbbaa
