/- The length of a path: pathLen. -/
import Derived.Test.YtgddfdejkmnfkaaDoorMw
import Derived.RangeFuncBox
namespace Go.Proofs.YtgddfdejkmnfkaaDoor
open Go.RowKit Go.Shelf

theorem cellsOwn {β : Type} (B : Nat) (f : β → Array Value) (t : TypeId) : Own (fun (k : β) W => W.heap[B]? = some (.cells (f k) t (0, 0))) := fun _ X Y row hs hg hrow =>
  (hg.block B (Array.getElem?_eq_some_iff.1 hs).1 (fun e' => by obtain ⟨o, ho, hc⟩ := hrow B e'.symm; rw [hs] at ho; cases ho; cases hc)).trans hs
theorem cellAt {W : World} {B i : Nat} {cs : Array Value} {t : TypeId} {v : Value} (h : W.heap[B]? = some (.cells cs t (0, 0))) (hv : cs[i]? = some v) : W.cell? ⟨B, i, none⟩ = some v := (cell_of_row W B i cs t _ h).trans hv
theorem frozenAt {W : World} {B : Nat} {cs : Array Value} {t : TypeId} (h : W.heap[B]? = some (.cells cs t (0, 0))) (i : Nat) : W.frozen? ⟨B, i, none⟩ = false := frozen_of_row W B i _ t h
theorem setOne {W : World} {B : Nat} {v u : Value} {t : TypeId} (h : W.heap[B]? = some (.cells #[v] t (0, 0))) : (W.setCell ⟨B, 0, none⟩ u).heap[B]? = some (.cells #[u] t (0, 0)) := by
  rw [heap_setCell_same W B 0 _ t u h]; rfl
theorem setOther {W : World} {B B' : Nat} (o : Nat) {u : Value} (h : B ≠ B') : (W.setCell ⟨B', o, none⟩ u).heap[B]? = W.heap[B]? := heap_setCell_other W ⟨B', o, none⟩ B u h
theorem keepsBel {W W' : World} (h : Below W.heap.size W W') : KeepsOthers W W' := ⟨h.size, fun k _ hk _ => (h.block k (Array.getElem?_eq_some_iff.1 hk).1).trans hk⟩
/-- The box of a round's step. -/
def StepAx (n i lo : Nat) (f : Nat → Nat → Array Value) (k : Nat) (a' : Act) (W : World) : Prop :=
  ∃ Bx, lo ≤ Bx ∧ W.heap[Bx]? = some (.cells #[.int .i64 (rowN n k : Int), .int .i64 (rowI i k : Int)] 50 (0, 0)) ∧ a' = { tmps := f k Bx, defers := [] }
theorem stepAx_own {n i lo B : Nat} {f : Nat → Nat → Array Value} (k : Nat) (a' : Act) : OwnFrom B (fun (_ : Unit) W => StepAx n i lo f k a' W) := fun _ X Y row hs hg hr => by
  obtain ⟨Bx, e1, e2, e3⟩ := hs
  exact ⟨Bx, e1, cellsOwn (β := Unit) _ (fun _ => _) _ () X Y row e2 hg (fun r e => (hr r e).2), e3⟩

attribute [local go_sem] Oper.semAt_some
set_option maxRecDepth 100000 in
set_option maxHeartbeats 2000000 in
theorem pathLen_any (n i : Nat) (hn : n ≤ 65536) (hi : i < n) (w : World) : Calls Tryd.prog 49 #[.int .i64 (n : Int), .int .i64 (i : Int)] w fun e w' => e = .returned (.int .i64 (pathN n i : Int)) ∧ Below w.heap.size w w' := by
  refine (callsIn_wide (n := 6)).1 ?_
  have hro : Fence.wide.round = none := rfl
  refine callsIn_of_wp_marks Tryd.func49 rfl trivial ?_ hro
  simp only [Tryd.ntmps49, List.size_toArray, List.length_cons, List.length_nil, Nat.reduceAdd, Nat.reduceSub, Array.replicate_succ, Array.replicate_zero, List.push_toArray, List.append_toArray, List.nil_append, List.cons_append]
  gi_wp2_with (refine ⟨trivial, ?_⟩; gi_at_call 25; refine (callsIn_wide.2 (way_any _ _ _)).mono ?_)
  rintro e w3 ⟨rfl, rfl⟩
  gi_wp2
  have hb1 := bel1 w (.cells #[.int .i64 0] 3)
  have hb2 := bel1 (w.alloc (.cells #[.int .i64 0] 3)) (.cells #[.int .i64 (n : Int)] 3)
  have hb3 := bel1 ((w.alloc (.cells #[.int .i64 0] 3)).alloc (.cells #[.int .i64 (n : Int)] 3)) (.cells #[.int .i64 (i : Int)] 3)
  have k1 := blk_at (blk_at (heap_alloc_new w (.cells #[.int .i64 0] 3)) hb2) hb3
  have k2 := blk_at (heap_alloc_new (w.alloc (.cells #[.int .i64 0] 3)) (.cells #[.int .i64 (n : Int)] 3)) hb3
  have k3 := heap_alloc_new ((w.alloc (.cells #[.int .i64 0] 3)).alloc (.cells #[.int .i64 (n : Int)] 3)) (.cells #[.int .i64 (i : Int)] 3)
  simp only [World.size_alloc] at k2 k3 ⊢
  have hB := (hb1.trans (hb2.mono hb1.size)).trans (hb3.mono (hb1.trans (hb2.mono hb1.size)).size)
  have hs : (((w.alloc (.cells #[.int .i64 0] 3)).alloc (.cells #[.int .i64 (n : Int)] 3)).alloc (.cells #[.int .i64 (i : Int)] 3)).heap.size = w.heap.size + 3 := by simp
  generalize ((w.alloc (.cells #[.int .i64 0] 3)).alloc (.cells #[.int .i64 (n : Int)] 3)).alloc (.cells #[.int .i64 (i : Int)] 3) = W0 at k1 k2 k3 hB hs ⊢
  clear hb1 hb2 hb3
  refine wpIn_rangeFunc_at hro (by omega) (gf := 43) (lb := #[.pointer (some ⟨w.heap.size + 1, 0, none⟩), .pointer (some ⟨w.heap.size + 1 + 1, 0, none⟩)]) rfl trivial (enters_of Tryd.func43 (by kernel_rfl) rfl)
    (way_gives Fence.wide _ trivial hro (by omega) (w.heap.size + 1) (w.heap.size + 1 + 1) n i hn hi W0 (by omega) (by omega) (cellAt (i := 0) k2 rfl) (cellAt (i := 0) k3 rfl))
    (fun _ _ => trivial) (fun _ _ _ _ _ _ _ _ => trivial) (Below.refl _ _) (fun _ _ => rfl)
    (fun k W => W.heap[w.heap.size]? = some (.cells #[.int .i64 (used n i k : Int)] 3 (0, 0)) ∧ (Below w.heap.size w W ∧ w.heap.size + 3 ≤ W.heap.size)) (fun _ _ _ => False)
    (OwnFrom.and (Own.from (cellsOwn _ (fun k => #[.int .i64 (used n i k : Int)]) _) _) (OwnFrom.and (ownFrom_below (Nat.le_refl _) (by omega)) (fun _ _ _ _ hs hg _ => Nat.le_trans hs hg.size)))
    (fun _ _ _ _ _ hs _ _ => hs) ⟨k1, hB, by omega⟩
    (StepAx n i (w.heap.size + 3) (fun k Bx => #[.int .i64 (n : Int), .int .i64 (i : Int), undef, undef, .pointer (some ⟨w.heap.size, 0, none⟩), .pointer (some ⟨Bx, 0, none⟩), .int .i64 (n : Int), .int .i64 (i : Int), .func (.func 43) #[] #[.pointer (some ⟨w.heap.size + 1, 0, none⟩), .pointer (some ⟨w.heap.size + 1 + 1, 0, none⟩)], .agg #[.int .i64 (rowN n k : Int), .int .i64 (rowI i k : Int)], undef, undef, undef, undef, undef, undef]))
    (fun k a' => stepAx_own k a') ?assign ?body ?done ?stop
  case assign =>
    rintro l k W K hk ⟨hI1, hI2, hI3⟩ hK
    unfold wayV
    gi_wp2
    exact hK _ _ ((KeepsOthers.alloc _ _).from _) trivial ⟨blk_at hI1 (bel1 _ _), hI2.alloc (by omega) _, by simp; omega⟩ ⟨W.heap.size, hI3, heap_alloc_new W _, rfl⟩
  case body =>
    rintro l k a' W hl - hk ⟨hI1, hI2, hI3⟩ ⟨Bx, hBx, bX, rfl⟩
    have hle := rowN_le n k
    have hle2 := rowI_le i k
    have hcon : Hid (Calls Tryd.prog 26 #[.agg #[.int .i64 (rowN n k : Int), .int .i64 (rowI i k : Int)]] W fun e w' => e = .returned (.bool (lone n i k)) ∧ Below W.heap.size W w') := alone_any (rowN n k) (rowI i k) (by omega) W
    have x0 := cellAt (i := 0) bX rfl
    have x1 := cellAt (i := 1) bX rfl
    have hul := used_le n i k
    have hrl := rows_16 hn
    cases hL : lone n i k with
    | true =>
      rw [hL] at hcon
      gi_wp2_with (refine ⟨trivial, ?_⟩; gi_at_call 26; refine (CallsIn.inRound l (callsIn_wide.2 hcon.out)).mono ?_)
      rintro e w5 ⟨rfl, hb5⟩
      gi_wp2
      exact ⟨(keepsBel hb5).from _, trivial, by rw [used, if_pos hL]; exact blk_at hI1 hb5, hI2.trans (hb5.mono hI2.size), Nat.le_trans hI3 hb5.size⟩
    | false =>
      rw [hL] at hcon
      gi_wp2_with (refine ⟨trivial, ?_⟩; gi_at_call 26; refine (CallsIn.inRound l (callsIn_wide.2 hcon.out)).mono ?_)
      rintro e w5 ⟨rfl, hb5⟩
      have bR := blk_at hI1 hb5
      have r0 := cellAt (i := 0) bR rfl
      have rf := frozenAt bR 0
      have hw1 : IntKind.i64.wrap ((used n i k : Int) + 1) = (used n i k : Int) + 1 := IntWalk.i64_in _ (by omega)
      have h5 := Lib.hid hb5
      have hbr := Lib.hid bR
      clear hb5 bR x0 x1 hcon
      gi_wp2
      refine ⟨((keepsBel h5.out).trans (KeepsOthers.setCell _ _ _)).from _, trivial, ?_, (hI2.trans (h5.out.mono hI2.size)).setCell (p := ⟨w.heap.size, 0, none⟩) (Nat.le_refl _) _, by simp; exact Nat.le_trans hI3 h5.out.size⟩
      rw [used, if_neg (by rw [hL]; decide)]
      exact setOne hbr.out
  case done =>
    rintro DD W hD ⟨hI1, hI2, hI3⟩ hK
    have r0 := cellAt (i := 0) hI1 rfl
    have rf := frozenAt hI1 0
    have hI1' := Lib.hid hI1
    have hK' := Lib.hid hK
    clear hI1 hK
    gi_wp2
    have hkk := (KeepsOthers.setCell W ⟨w.heap.size, 0, none⟩ (.int .i64 (used n i (rows n) : Int))).same DD _ hK'.out rfl
    have hr := setOne (u := .int .i64 (used n i (rows n) : Int)) hI1'.out
    refine ⟨by simp, .inl ⟨_, _, rfl, run_takeDeferred hkk, ?_⟩⟩
    have hc := cell_kept (cellAt (i := 0) hr rfl) (grownBy_putObj' _ DD (.deferred none)) (fun r e => by cases e; exact ⟨_, hkk, rfl⟩)
    have hBf := hI2.setCell (p := ⟨w.heap.size, 0, none⟩) (Nat.le_refl _) (.int .i64 (used n i (rows n) : Int))
    refine ⟨.int .i64 (used n i (rows n) : Int), ?_, rfl, hBf.trans (belowK_b (w := w) (Nat.le_refl _) _ DD _ _ (by omega) hkk rfl rfl)⟩
    simp [results, Tryd.results49, go_sem, hc]
  case stop =>
    rintro DD c k W _ _ h _
    exact h.elim
end Go.Proofs.YtgddfdejkmnfkaaDoor
