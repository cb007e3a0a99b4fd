/- DiskHistory: what the law's variables hold. -/
import Derived.Test.YtalkbccofiiojaaHo
import Derived.Test.YtalkbccofiiojaaQe
import Derived.Test.YtalkbccofiiojaaAc
import Derived.Test.YtalkbccofiiojaaRv
namespace Go.Proofs.Ytalkbccofiiojaa
open Go.RowKit

def AV (l : List Ac) : List Value := l.flatMap fun a => [.bool a.sync, .int .u8 (a.pl.toNat : Int), .int .u8 (a.by_.toNat : Int)]
theorem AV_length (l : List Ac) : (AV l).length = l.length * 3 := by
  unfold AV
  induction l with
  | nil => rfl
  | cons a l ih => rw [List.flatMap_cons, List.length_append, ih]; simp; omega
theorem AV_get {l : List Ac} {i : Nat} (h : i < l.length) : (AV l)[i * 3]? = some (.bool l[i].sync) ∧ (AV l)[i * 3 + 1]? = some (.int .u8 (l[i].pl.toNat : Int)) ∧ (AV l)[i * 3 + 2]? = some (.int .u8 (l[i].by_.toNat : Int)) := by
  induction l generalizing i with
  | nil => simp at h
  | cons a l ih =>
    unfold AV at *
    rw [List.flatMap_cons]
    cases i with
    | zero => exact ⟨rfl, rfl, rfl⟩
    | succ i =>
      obtain ⟨h0, h1, h2⟩ := ih (i := i) (by simpa using h)
      refine ⟨?_, ?_, ?_⟩
      · rw [List.getElem?_append_right (by simp; omega)]
        simpa [show (i + 1) * 3 - 3 = i * 3 by omega] using h0
      · rw [List.getElem?_append_right (by simp; omega)]
        simpa [show (i + 1) * 3 + 1 - 3 = i * 3 + 1 by omega] using h1
      · rw [List.getElem?_append_right (by simp; omega)]
        simpa [show (i + 1) * 3 + 2 - 3 = i * 3 + 2 by omega] using h2
theorem AV_append (l m : List Ac) : AV (l ++ m) = AV l ++ AV m := by unfold AV; rw [List.flatMap_append]
theorem Try.infoA : (Try.prog.info? 46).map (fun i => (i.zero, i.size, i.bytes)) = some (some (.agg #[.bool false, .int .u8 0, .int .u8 0]), 3, 3) := by kernel_rfl

structure TH (B gd gl gf gs n0 : Nat) (W0 : World) (x : Dk) (L F Q : List UInt8) (v : Value) (acts : List Ac) (W : World) : Prop where
  base : Below B W0 W
  bd : B ≤ gd ∧ B ≤ gl ∧ B ≤ gf ∧ B ≤ gs ∧ B ≤ n0
  ne : gd ≠ gl ∧ gd ≠ gf ∧ gd ≠ gs ∧ gl ≠ gf ∧ gl ≠ gs ∧ gf ≠ gs
  up : gd < n0 ∧ gl < n0 ∧ gf < n0 ∧ gs < n0 ∧ n0 ≤ W.heap.size
  bx : ∃ S : Nat → Prop, (∀ b, S b → b < W.heap.size ∧ b ≠ gd ∧ b ≠ gl ∧ b ≠ gf ∧ b ≠ gs ∧ v.ownBlock ≠ some b) ∧ Bx W gd S x
  la : W.heap[gl]? = some (.cells (BV L).toArray 44 (0, 0))
  fi : W.heap[gf]? = some (.cells (BV F).toArray 44 (0, 0))
  se : W.heap[gs]? = some (.cells (BV Q).toArray 44 (0, 0))
  wa : W.ownsRow n0 46 3 v acts.length (AV acts)

theorem TH.step {B gd gl gf gs n0 : Nat} {W0 W W' : World} {x : Dk} {L F Q : List UInt8} {v : Value} {acts : List Ac} (h : TH B gd gl gf gs n0 W0 x L F Q v acts W) (hb : Below W.heap.size W W') : TH B gd gl gf gs n0 W0 x L F Q v acts W' := by
  obtain ⟨u1, u2, u3, u4, u5⟩ := h.up
  have hz := hb.size
  refine ⟨h.base.trans (hb.mono (by have := h.bd; omega)), h.bd, h.ne, ⟨u1, u2, u3, u4, by omega⟩, ?_, (hb.block _ (by omega)).trans h.la, (hb.block _ (by omega)).trans h.fi, (hb.block _ (by omega)).trans h.se, row_keep h.wa hb⟩
  obtain ⟨S, hS, A, c, A', c', hk, hd⟩ := h.bx
  exact ⟨S, fun b hb' => by obtain ⟨q1, q2⟩ := hS b hb'; exact ⟨by omega, q2⟩, A, c, A', c', hk.step hb, hd.keep (Kept.of (fun b h => (hS b h).1) hb)⟩
theorem BV_set (l : List UInt8) (j : Nat) (c : UInt8) : (BV l).set j (.int .u8 (c.toNat : Int)) = BV (l.set j c) := by
  unfold BV; rw [List.map_set]
/-- Behind a store into an array. -/
theorem own_set {w : World} {n0 n k : Nat} {t : TypeId} {v : Value} {xs : List Value} (h : w.ownsRow n0 t k v n xs) (g o : Nat) (u : Value) (hg : g < n0) : (w.setCell ⟨g, o, none⟩ u).ownsRow n0 t k v n xs := by
  refine ⟨h.1, ?_⟩
  rcases h.2 with ⟨h1, h2⟩ | ⟨g', cap, cur, h1, hB, hg', h3, h4, h5, h6⟩
  · exact .inl ⟨h1, h2⟩
  · exact .inr ⟨g', cap, cur, h1, hB, (heap_setCell_other w ⟨g, o, none⟩ g' u (by show g' ≠ g; omega)).trans hg', h3, h4, h5, h6⟩
theorem arr_set {w : World} {g j : Nat} {l : List UInt8} (h : w.heap[g]? = some (.cells (BV l).toArray 44 (0, 0))) (c : UInt8) : (w.setCell ⟨g, j, none⟩ (.int .u8 (c.toNat : Int))).heap[g]? = some (.cells (BV (l.set j c)).toArray 44 (0, 0)) := by
  rw [heap_setCell_same w g j _ _ _ h, ← BV_set]
  simp
theorem bx_set {W : World} {gd g o : Nat} {S : Nat → Prop} {x : Dk} (h : Bx W gd S x) (hg : gd ≠ g) (hS : ∀ b, S b → b ≠ g) (u : Value) : Bx (W.setCell ⟨g, o, none⟩ u) gd S x := by
  obtain ⟨A, c, A', c', hk, hd⟩ := h
  exact ⟨A, c, A', c', (heap_setCell_other W ⟨g, o, none⟩ gd u hg).trans hk, hd.keep fun b _ hb => World.cell?_of_block (heap_setCell_other W ⟨g, o, none⟩ b u (hS b hb))⟩
theorem TH.setL {B gd gl gf gs n0 : Nat} {W0 W : World} {x : Dk} {L F Q : List UInt8} {v : Value} {acts : List Ac} (h : TH B gd gl gf gs n0 W0 x L F Q v acts W) (j : Nat) (c : UInt8) : TH B gd gl gf gs n0 W0 x (L.set j c) F Q v acts (W.setCell ⟨gl, j, none⟩ (.int .u8 (c.toNat : Int))) := by
  obtain ⟨e1, e2, e3, e4, e5, e6⟩ := h.ne
  obtain ⟨S, hS, hx⟩ := h.bx
  exact ⟨h.base.setCell (by exact h.bd.2.1) _, h.bd, h.ne, by simpa using h.up, ⟨S, fun b hb => by simpa using hS b hb, bx_set hx e1 (fun b hb => (hS b hb).2.2.1) _⟩, arr_set h.la c, (heap_setCell_other W ⟨gl, j, none⟩ gf _ (Ne.symm e4)).trans h.fi, (heap_setCell_other W ⟨gl, j, none⟩ gs _ (Ne.symm e5)).trans h.se, own_set h.wa gl j _ h.up.2.1⟩
theorem TH.setF {B gd gl gf gs n0 : Nat} {W0 W : World} {x : Dk} {L F Q : List UInt8} {v : Value} {acts : List Ac} (h : TH B gd gl gf gs n0 W0 x L F Q v acts W) (j : Nat) (c : UInt8) : TH B gd gl gf gs n0 W0 x L (F.set j c) Q v acts (W.setCell ⟨gf, j, none⟩ (.int .u8 (c.toNat : Int))) := by
  obtain ⟨e1, e2, e3, e4, e5, e6⟩ := h.ne
  obtain ⟨S, hS, hx⟩ := h.bx
  exact ⟨h.base.setCell (by exact h.bd.2.2.1) _, h.bd, h.ne, by simpa using h.up, ⟨S, fun b hb => by simpa using hS b hb, bx_set hx e2 (fun b hb => (hS b hb).2.2.2.1) _⟩, (heap_setCell_other W ⟨gf, j, none⟩ gl _ e4).trans h.la, arr_set h.fi c, (heap_setCell_other W ⟨gf, j, none⟩ gs _ (Ne.symm e6)).trans h.se, own_set h.wa gf j _ h.up.2.2.1⟩
theorem TH.setQ {B gd gl gf gs n0 : Nat} {W0 W : World} {x : Dk} {L F Q : List UInt8} {v : Value} {acts : List Ac} (h : TH B gd gl gf gs n0 W0 x L F Q v acts W) (j : Nat) (c : UInt8) : TH B gd gl gf gs n0 W0 x L F (Q.set j c) v acts (W.setCell ⟨gs, j, none⟩ (.int .u8 (c.toNat : Int))) := by
  obtain ⟨e1, e2, e3, e4, e5, e6⟩ := h.ne
  obtain ⟨S, hS, hx⟩ := h.bx
  exact ⟨h.base.setCell (by exact h.bd.2.2.2.1) _, h.bd, h.ne, by simpa using h.up, ⟨S, fun b hb => by simpa using hS b hb, bx_set hx e3 (fun b hb => (hS b hb).2.2.2.2.1) _⟩, (heap_setCell_other W ⟨gs, j, none⟩ gl _ e5).trans h.la, (heap_setCell_other W ⟨gs, j, none⟩ gf _ e6).trans h.fi, arr_set h.se c, own_set h.wa gs j _ h.up.2.2.2.1⟩
/-- Another disk in the disk's box. -/
theorem TH.putx {B gd gl gf gs n0 : Nat} {W0 W : World} {x x' : Dk} {L F Q : List UInt8} {v : Value} {acts : List Ac} {A A' : Option Addr} {c c' : Nat} {S' : Nat → Prop} (h : TH B gd gl gf gs n0 W0 x L F Q v acts W) (hS' : ∀ b, S' b → b < W.heap.size ∧ b ≠ gd ∧ b ≠ gl ∧ b ≠ gf ∧ b ≠ gs ∧ v.ownBlock ≠ some b) (hd : DR W S' A c A' c' x') :
    TH B gd gl gf gs n0 W0 x' L F Q v acts ((((W.setCell ⟨gd, 0, none⟩ (.slice A x'.secs.length c)).setCell ⟨gd, 1, none⟩ (.slice A' x'.pend.length c')).setCell ⟨gd, 2, none⟩ (.int .i64 x'.left)).setCell ⟨gd, 3, none⟩ (.bool x'.stop)) := by
  obtain ⟨e1, e2, e3, e4, e5, e6⟩ := h.ne
  obtain ⟨S, hS, A0, c0, A0', c0', hk, -⟩ := h.bx
  have ho : ∀ b, b ≠ gd → ((((W.setCell ⟨gd, 0, none⟩ (.slice A x'.secs.length c)).setCell ⟨gd, 1, none⟩ (.slice A' x'.pend.length c')).setCell ⟨gd, 2, none⟩ (.int .i64 x'.left)).setCell ⟨gd, 3, none⟩ (.bool x'.stop)).heap[b]? = W.heap[b]? := fun b hb => by
    rw [heap_setCell_other _ _ _ _ hb, heap_setCell_other _ _ _ _ hb, heap_setCell_other _ _ _ _ hb, heap_setCell_other _ _ _ _ hb]
  exact ⟨(((h.base.setCell (by exact h.bd.1) _).setCell (by exact h.bd.1) _).setCell (by exact h.bd.1) _).setCell (by exact h.bd.1) _, h.bd, h.ne, by simpa using h.up, ⟨S', fun b hb => by simpa using hS' b hb, A, c, A', c', set4_same W gd hk, hd.keep fun b o hb => set4_other W gd _ _ _ _ b o (hS' b hb).2.1⟩,
    (ho gl (Ne.symm e1)).trans h.la, (ho gf (Ne.symm e2)).trans h.fi, (ho gs (Ne.symm e3)).trans h.se, own_set (own_set (own_set (own_set h.wa gd 0 _ h.up.1) gd 1 _ h.up.1) gd 2 _ h.up.1) gd 3 _ h.up.1⟩
theorem own_row {w : World} {n0 n k : Nat} {t : TypeId} {v : Value} {xs : List Value} (h : w.ownsRow n0 t k v n xs) (g : Nat) (cs : Array Value) (hg : g < n0) : (w.setRow g cs).ownsRow n0 t k v n xs := by
  refine ⟨h.1, ?_⟩
  rcases h.2 with ⟨h1, h2⟩ | ⟨g', cap, cur, h1, hB, hg', h3, h4, h5, h6⟩
  · exact .inl ⟨h1, h2⟩
  · exact .inr ⟨g', cap, cur, h1, hB, (setRow_other w g g' cs (by omega)).trans hg', h3, h4, h5, h6⟩
/-- The same by one store of the whole box. -/
theorem TH.putr {B gd gl gf gs n0 : Nat} {W0 W : World} {x x' : Dk} {L F Q : List UInt8} {v : Value} {acts : List Ac} {A A' : Option Addr} {c c' : Nat} {S' : Nat → Prop} (h : TH B gd gl gf gs n0 W0 x L F Q v acts W) (hS' : ∀ b, S' b → b < W.heap.size ∧ b ≠ gd ∧ b ≠ gl ∧ b ≠ gf ∧ b ≠ gs ∧ v.ownBlock ≠ some b) (hd : DR W S' A c A' c' x') :
    TH B gd gl gf gs n0 W0 x' L F Q v acts (W.setRow gd #[.slice A x'.secs.length c, .slice A' x'.pend.length c', .int .i64 x'.left, .bool x'.stop]) := by
  obtain ⟨e1, e2, e3, e4, e5, e6⟩ := h.ne
  obtain ⟨S, hS, A0, c0, A0', c0', hk, -⟩ := h.bx
  exact ⟨below_setRow h.base h.bd.1 _, h.bd, h.ne, by rw [size_setRow]; exact h.up, ⟨S', fun b hb => by rw [size_setRow]; exact hS' b hb, A, c, A', c', setRow_heap W gd _ _ _ _ hk, hd.keep fun b o hb => World.cell?_of_block (setRow_other W gd b _ (hS' b hb).2.1)⟩,
    (setRow_other W gd gl _ (Ne.symm e1)).trans h.la, (setRow_other W gd gf _ (Ne.symm e2)).trans h.fi, (setRow_other W gd gs _ (Ne.symm e3)).trans h.se, own_row h.wa gd _ h.up.1⟩
/-- The waiting acts begin anew. -/
theorem TH.fresh {B gd gl gf gs n0 : Nat} {W0 W : World} {x : Dk} {L F Q : List UInt8} {v : Value} {acts : List Ac} (h : TH B gd gl gf gs n0 W0 x L F Q v acts W) : TH B gd gl gf gs n0 W0 x L F Q (.slice (some ⟨W.heap.size, 0, none⟩) 0 0) [] (W.alloc (.cells #[] 46)) := by
  have h' := h.step (bnew W (.cells #[] 46))
  obtain ⟨S, hS, A, c, A', c', hk, hd⟩ := h.bx
  refine ⟨h'.base, h.bd, h.ne, h'.up, ⟨S, fun b hb => ?_, A, c, A', c', hk.step (bnew W _), hd.keep (Kept.of (fun b h => (hS b h).1) (bnew W _))⟩, h'.la, h'.fi, h'.se, own_empty (heap_alloc_new W _) h.up.2.2.2.2⟩
  obtain ⟨q1, q2, q3, q4, q5, -⟩ := hS b hb
  refine ⟨by simp; omega, q2, q3, q4, q5, fun e => ?_⟩
  simp only [Value.ownBlock, Option.some.injEq] at e
  omega
/-- One more act waits. -/
theorem TH.app {B gd gl gf gs n0 : Nat} {W0 W : World} {x : Dk} {L F Q : List UInt8} {v : Value} {acts : List Ac} (h : TH B gd gl gf gs n0 W0 x L F Q v acts W) (a : Ac) (ha : acts.length ≤ 100) (ty : TypeId) (g : Nat) (hg : W.heap[g]? = some (.cells #[.bool a.sync, .int .u8 (a.pl.toNat : Int), .int .u8 (a.by_.toNat : Int)] 46 (0, 0))) :
    ∃ v' W', (Builtin.append_ #[43, 43] ty #[v, .slice (some ⟨g, 0, none⟩) 1 1]).run Try.prog W = .ok v' W' ∧ TH B gd gl gf gs n0 W0 x L F Q v' (acts ++ [a]) W' := by
  obtain ⟨u1, u2, u3, u4, u5⟩ := h.up
  obtain ⟨i0, hi0, hz0, hz1, hz2⟩ := info_parts Try.infoA
  obtain ⟨v', W', hr, ho, hgr, hv'⟩ := run_append_src_row (P := Try.prog) W n0 43 43 ty 46 i0 _ 3 3 Try.underlying43 hi0 hz0 hz1 hz2 rfl v acts.length (AV acts) h.wa (.slice (some ⟨g, 0, none⟩) 1 1) 1 [.bool a.sync, .int .u8 (a.pl.toNat : Int), .int .u8 (a.by_.toNat : Int)] (Src.ofRow Try.underlying43 W _ 1 1 _ rfl (by decide) (fun _ => ⟨_, rfl, fun j u hu => by
    rw [add_none, Nat.zero_add, cell_of_row W g j _ _ _ hg]; simpa using hu⟩) (by simp [Value.oneCell'])) (by omega) (by omega) u5
  have hz := hgr.size
  have hB : Below n0 W W' := (Below.refl n0 W).grown hgr u5 fun k hk => (World.ownsRow.lt h.wa k hk).1
  refine ⟨v', W', hr, h.base.trans (hB.mono h.bd.2.2.2.2), h.bd, h.ne, ⟨u1, u2, u3, u4, by omega⟩, ?_, (hB.block _ u2).trans h.la, (hB.block _ u3).trans h.fi, (hB.block _ u4).trans h.se, ?_⟩
  · obtain ⟨S, hS, A, c, A', c', hk, hd⟩ := h.bx
    refine ⟨S, fun b hb => ?_, A, c, A', c', (hB.block _ u1).trans hk, hd.keep fun b o hb => World.cell?_of_block (hgr.block b (hS b hb).1 (fun e => (hS b hb).2.2.2.2.2 e.symm))⟩
    obtain ⟨q1, q2, q3, q4, q5, q6⟩ := hS b hb
    refine ⟨by omega, q2, q3, q4, q5, fun e => ?_⟩
    rcases hv' with hv' | hv'
    · exact q6 (hv'.symm.trans e)
    · rw [hv'] at e; injection e with e; omega
  · rw [List.length_append, AV_append]
    exact ho
end Go.Proofs.Ytalkbccofiiojaa
