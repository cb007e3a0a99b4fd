/- The reference's reader: a list. -/
import Derived.Test.YtaninbklippdaaaRu
import Derived.Deep.RegionHeld3
namespace Go.Proofs.Ytaninbklippdaaa
open Go.RowKit

theorem LS.put {w : World} {N M j : Nat} {v : Value} {l : List GV} (h : LS w N v l) (hM : M < N) (u : Value) : LS (w.setCell ⟨M, j, none⟩ u) N v l := by
  obtain ⟨Vs, hVl, hrow, hVs⟩ := h.row
  have hlt := hrow.lt
  refine ⟨Vs, hVl, hrow.kept (row := some M) (Upd.set1 w M j u) (by
    by_cases hv : v.ownBlock = none
    · exact .inl hv
    · right; intro e; have := (hlt M e).1; omega), fun i h1 h2 => ?_⟩
  refine ((hVs i h1 h2).keep (w' := w.setCell ⟨M, j, none⟩ u) fun b o hb => World.cell?_setCell_other _ _ _ _ (by intro e; injection e with e; omega)).mono fun b hb => ⟨hb.1, by rw [set_size]; exact hb.2.1, hb.2.2⟩
theorem LS.step2 {wr w1 w3 : World} {N R g cap : Nat} {v : Value} {l : List GV} {x : GV} {x0 x1 x2 x3 : Value} {Vs : List Value} (hN : N ≤ wr.heap.size) (hRN : R < N)
    (hVl : Vs.length = l.length) (hVs : ∀ i (h : i < l.length) (h' : i < Vs.length), RVS wr (fun b => N ≤ b ∧ b < wr.heap.size ∧ v.ownBlock ≠ some b) l[i] Vs[i])
    (hrow : wr.ownsRow N 26 4 v l.length (Vs.flatMap fun x => x.cells.toList))
    (hx : RVS w1 (fun b => wr.heap.size ≤ b ∧ b < w1.heap.size) x (.agg #[x0, x1, x2, x3])) (hu1 : Upd wr w1 R)
    (hown : w3.ownsRow N 26 4 (.slice (some ⟨g, 0, none⟩) (l.length + 1) cap) (l.length + 1) ((Vs.flatMap fun x => x.cells.toList) ++ [x0, x1, x2, x3]))
    (hg : (w1.alloc (.cells #[x0, x1, x2, x3] 26)).grownBy w3 v.ownBlock) (hat : v.ownBlock = some g ∨ g = w1.heap.size + 1) :
    LS w3 N (.slice (some ⟨g, 0, none⟩) (l ++ [x]).length cap) (l ++ [x]) := by
  have hlt := hrow.lt
  have hz1 := hu1.size
  have hz3 := hg.size
  simp only [World.size_alloc] at hz3
  have hkeep : ∀ b o, b < w1.heap.size → v.ownBlock ≠ some b → w3.cell? ⟨b, o, none⟩ = w1.cell? ⟨b, o, none⟩ := fun b o hb hne => by
    rw [World.grownBy.cell_far hg ⟨b, o, none⟩ (by simp; omega) (Ne.symm hne)]
    exact World.cell?_alloc_lt w1 _ ⟨b, o, none⟩ hb
  refine ⟨Vs ++ [.agg #[x0, x1, x2, x3]], by simp [hVl], ?_, ?_⟩
  · have e : (Vs ++ [Value.agg #[x0, x1, x2, x3]]).flatMap (fun x : Value => x.cells.toList) = (Vs.flatMap fun x => x.cells.toList) ++ [x0, x1, x2, x3] := by simp [List.flatMap_append, Value.cells]
    rw [e, List.length_append, List.length_singleton]
    exact hown
  · intro i h h'
    by_cases hi : i < l.length
    · rw [List.getElem_append_left hi, List.getElem_append_left (by omega)]
      have h1 := (hVs i hi (by omega)).keep (w' := w1) fun b o hb => hu1.cell hb.2.1 (by omega)
      have h2 := h1.keep (w' := w3) fun b o hb => hkeep b o (by omega) hb.2.2
      refine h2.mono fun b hb => ⟨hb.1, by omega, ?_⟩
      show some g ≠ some b
      rcases hat with hat | hat
      · rw [← hat]; exact hb.2.2
      · intro e; injection e with e; omega
    · have hi' : i = l.length := by simp at h; omega
      subst hi'
      rw [List.getElem_append_right (Nat.le_refl _), List.getElem_append_right (by omega)]
      simp only [Nat.sub_self, hVl, List.getElem_singleton]
      have h2 := hx.keep (w' := w3) fun b o hb => hkeep b o hb.2 (fun e => by have := (hlt b e).2; omega)
      refine h2.mono fun b hb => ⟨by omega, by omega, ?_⟩
      show some g ≠ some b
      intro e
      injection e with e
      rcases hat with hat | hat
      · have := (hlt g hat).2; omega
      · omega

/-- One value more, at a step of a region that draws its order. -/
theorem step_val {ops : Array Oper} {o : Oper} {a : Act} {K : Act → World → Prop} {Q : Exit → Act → World → Prop} {E : Prop} {wr w1 : World} (hgd : o.guard = none) (s y : Operand)
    (ho : o.op = .call { callee := .builtin .append, args := #[s, y], argTypes := #[24, 24] })
    {N R : Nat} {lv : Value} {dn : List GV} {x : GV} {x0 x1 x2 x3 : Value} (hs : a.eval s = lv) (hls : LS wr N lv dn) (hN : N ≤ wr.heap.size) (hRN : R < N) (hu1 : Upd wr w1 R)
    (hx : RVS w1 (fun b => wr.heap.size ≤ b ∧ b < w1.heap.size) x (.agg #[x0, x1, x2, x3])) (o4 : x0.oneCell' = true ∧ x1.oneCell' = true ∧ x2.oneCell' = true ∧ x3.oneCell' = true)
    (hy : a.eval y = .slice (some ⟨w1.heap.size, 0, none⟩) 1 1) (hl : dn.length ≤ 1000000)
    (h : ∀ v' w3, LS w3 N v' (dn ++ [x]) → (w1.alloc (.cells #[x0, x1, x2, x3] 26)).grownBy w3 lv.ownBlock → (∀ b, lv.ownBlock = some b → N ≤ b) → K (a.put o.dst v') w3) :
    if Region.wanted o (yielded ops a.tmps) = true then Oper.wp Try.prog o a (w1.alloc (.cells #[x0, x1, x2, x3] 26)) K Q else E := by
  obtain ⟨Vs, hVl, hrow, hVs⟩ := hls.row
  obtain ⟨i0, hi0, hi1, hi2, hi3⟩ := info_parts Try.infoV
  have hrow2 := hrow.kept (row := some R) hu1 (by
    by_cases hv : lv.ownBlock = none
    · exact .inl hv
    · right; intro e; have := (hrow.lt R e).1; omega)
  have hz1 := hu1.size
  refine step_append_lies _ hgd s y 24 ho N 26 i0 _ 4 56 Try.underlying24 hi0 hi1 hi2 hi3 rfl (by decide) lv dn.length _ hs (hrow2.alloc _) ⟨w1.heap.size, 0, none⟩ 1 1 [x0, x1, x2, x3] hy rfl
    (World.news_of_block (cs := #[x0, x1, x2, x3]) (heap_alloc_new w1 _)) (by simp [o4.1, o4.2.1, o4.2.2.1, o4.2.2.2]) (by omega) (by unfold maxLen; omega) (by omega) (by simp; omega) _ rfl ?_
  intro g cap w3 hown hgrow hat hlt3
  simp only [World.size_alloc] at hat
  have hq := LS.step2 hN hRN hVl hVs hrow hx hu1 hown hgrow hat
  rw [List.length_append, List.length_singleton] at hq
  exact h _ w3 hq hgrow (fun b hb => (hrow.lt b hb).1)

theorem Upd.grow {w w1 w3 : World} {R : Nat} {o : Obj} {row : Option Nat} (h : Upd w w1 R) (hg : (w1.alloc o).grownBy w3 row) (hrow : ∀ b, row = some b → w.heap.size ≤ b) : Upd w w3 R := by
  have hz := h.size
  have hz3 := hg.size
  simp only [World.size_alloc] at hz3
  refine ⟨hg.os.trans h.os, hg.tape.trans h.tape, hg.output.trans h.output, by omega, fun k hk hne => ?_⟩
  rw [hg.block k (by simp; omega) (fun e => by have := hrow k e.symm; omega), Below.heap_alloc w1 o k (by omega), h.block k hk hne]
theorem block_grow {w1 w3 : World} {o : Obj} {row : Option Nat} {M : Nat} (hg : (w1.alloc o).grownBy w3 row) (hM : M < w1.heap.size) (hne : row ≠ some M) : w3.heap[M]? = w1.heap[M]? := by
  rw [hg.block M (by simp; omega) (fun e => hne e.symm)]
  exact Below.heap_alloc w1 o M hM

theorem Upd.al2 {w w1 : World} {R : Nat} (h : Upd w w1 R) (o : Obj) : Upd w (w1.alloc o) R := by
  have hz := h.size
  exact ⟨h.os, h.tape, h.output, by simp; omega, fun k hk hne => (Below.heap_alloc w1 o k (by omega)).trans (h.block k hk hne)⟩
/-- The variable of the list that is read: its block M. -/
structure Box (w : World) (M : Nat) (lv : Value) : Prop where
  b0 : w.cell? ⟨M, 0, none⟩ = some (.int .i64 3)
  b1 : w.cell? ⟨M, 1, none⟩ = some (.int .i64 0)
  b2 : w.cell? ⟨M, 2, none⟩ = some (.string ⟨#[]⟩)
  b3 : w.cell? ⟨M, 3, none⟩ = some lv
  free : ∀ i, w.frozen? ⟨M, i, none⟩ = false
theorem Box.of {w w' : World} {M : Nat} {lv : Value} (h : Box w M lv) (hb : w'.heap[M]? = w.heap[M]?) : Box w' M lv := by
  have hc : ∀ i, w'.cell? ⟨M, i, none⟩ = w.cell? ⟨M, i, none⟩ := fun i => World.cell?_of_block hb
  exact ⟨(hc 0).trans h.b0, (hc 1).trans h.b1, (hc 2).trans h.b2, (hc 3).trans h.b3, fun i => (World.frozen?_of_block hb).trans (h.free i)⟩
theorem Box.put {w : World} {M : Nat} {lv : Value} (h : Box w M lv) (u : Value) : Box (w.setCell ⟨M, 3, none⟩ u) M u := by
  have n : ∀ i j : Nat, i ≠ j → (⟨M, i, none⟩ : Addr) ≠ ⟨M, j, none⟩ := fun i j h e => by injection e with _ e2; exact h e2
  refine ⟨?_, ?_, ?_, World.cell?_setCell_same _ _ _ h.b3, fun i => by rw [World.frozen?_setCell]; exact h.free i⟩
  · rw [World.cell?_setCell_other _ _ _ _ (n 3 0 (by omega))]; exact h.b0
  · rw [World.cell?_setCell_other _ _ _ _ (n 3 1 (by omega))]; exact h.b1
  · rw [World.cell?_setCell_other _ _ _ _ (n 3 2 (by omega))]; exact h.b2

theorem Box.new {w : World} {M : Nat} (hM : w.heap.size = M) (T : TypeId) : Box (w.alloc (.cells #[.int .i64 3, .int .i64 0, .string ⟨#[]⟩, .slice none 0 0] T)) M (.slice none 0 0) := by
  subst hM
  refine ⟨?_, ?_, ?_, ?_, fun i => ?_⟩
  · rw [World.cell?_alloc_at _ _ _ _ rfl]; rfl
  · rw [World.cell?_alloc_at _ _ _ _ rfl]; rfl
  · rw [World.cell?_alloc_at _ _ _ _ rfl]; rfl
  · rw [World.cell?_alloc_at _ _ _ _ rfl]; rfl
  · have := heap_alloc_new w (.cells #[.int .i64 3, .int .i64 0, .string ⟨#[]⟩, .slice none 0 0] T)
    unfold World.frozen?
    rw [this]
    simp

theorem strong3 {d k k' : Nat} {bs : List UInt8} {u : Nat} {bad' : Bool} (hdc : bs.drop k = 3 :: bs.drop (k + 1)) (hstr : ∀ u' r, rnum (bs.drop (k + 1)) 0 0 = some (u', r) → u = u' ∧ bad' = false ∧ bs.drop k' = r) :
    ∀ y r, dval (d + 1) (bs.drop k) = some (y, r) → bad' = false ∧ u ≤ bs.length - k' ∧ ∃ l, dvals (dval d) u (bs.drop k') = some (l, r) ∧ y = GV.mk 3 0 ⟨#[]⟩ l := fun y r hy => by
  rw [hdc, dval_cons, if_neg (by decide), if_neg (by decide), if_pos rfl] at hy
  simp only [dlist] at hy
  cases hr : rnum (bs.drop (k + 1)) 0 0 with
  | none => rw [hr] at hy; cases hy
  | some p =>
    rw [hr] at hy
    obtain ⟨rfl, h2, h3⟩ := hstr p.1 p.2 hr
    simp only [Option.bind_some] at hy
    cases hq : dvals (dval d) p.1 p.2 with
    | none => rw [hq] at hy; cases hy
    | some q =>
      rw [hq] at hy
      simp only [Option.map_some, Option.some.injEq, Prod.mk.injEq] at hy
      have hs := dvals_shorter (dval_shorter d) p.1 p.2 (l := q.1) (r := q.2) hq
      refine ⟨h2, ?_, q.1, ?_, hy.1.symm⟩
      · rw [← h3, List.length_drop] at hs
        omega
      · rw [h3, hq, ← hy.2]
theorem strong0 {k : Nat} {bs : List UInt8} (hdc : bs.drop k = 3 :: bs.drop (k + 1)) : ∀ y r, ¬ dval 0 (bs.drop k) = some (y, r) := fun y r hy => by
  rw [hdc, dval_cons, if_neg (by decide), if_neg (by decide), if_pos rfl] at hy
  cases hy
theorem strongS {d m kj k2 : Nat} {bs : List UInt8} {x : GV} {bad2 : Bool} (hstr : ∀ y r, dval d (bs.drop kj) = some (y, r) → x = y ∧ bad2 = false ∧ bs.drop k2 = r) {l' : List GV} {r : List UInt8}
    (h : dvals (dval d) (m + 1) (bs.drop kj) = some (l', r)) : bad2 = false ∧ ∃ l2, dvals (dval d) m (bs.drop k2) = some (l2, r) ∧ l' = x :: l2 := by
  rw [dvals] at h
  cases hv : dval d (bs.drop kj) with
  | none => rw [hv] at h; cases h
  | some p =>
    rw [hv] at h
    obtain ⟨rfl, h2, h3⟩ := hstr p.1 p.2 hv
    simp only [Option.bind_some] at h
    rw [h3]
    cases hq : dvals (dval d) m p.2 with
    | none => rw [hq] at h; cases h
    | some q =>
      rw [hq] at h
      simp only [Option.map_some, Option.some.injEq, Prod.mk.injEq] at h
      exact ⟨h2, q.1, by rw [← h.2], h.1.symm⟩
end Go.Proofs.Ytaninbklippdaaa
