/- Value: the coefficients from the back. -/
import Derived.Test.YtfblkkdoijfpfaaFd
import Derived.Test.YtfblkkdoijfpfaaIw
import Derived.Test.YtfblkkdoijfpfaaIr
import Derived.RangeFuncBox
import Derived.Shelf.Abstract
namespace Go.Proofs.Ytfblkkdoijfpfaa
open Go.RowKit Go.Shelf

theorem bel1 (w : World) (o : Obj) : Below w.heap.size w (w.alloc o) := (Below.refl _ w).alloc (Nat.le_refl _) o
theorem heap_alloc_new (w : World) (o : Obj) : (w.alloc o).heap[w.heap.size]? = some o := World.alloc_heap_new w o
theorem blk_at {W W' : World} {g : Nat} {o : Obj} (h : W.heap[g]? = some o) (hb : Below W.heap.size W W') : W'.heap[g]? = some o := (hb.block g (Array.getElem?_eq_some_iff.1 h).1).trans h
theorem cellsOwn {β : Type} (B : Nat) (f : β → Array Value) (t : TypeId) : Own (fun (k : β) W => W.heap[B]? = some (.cells (f k) t (0, 0))) := fun _ X Y row hs hg hrow =>
  (hg.block B (Array.getElem?_eq_some_iff.1 hs).1 (fun e' => by obtain ⟨o, ho, hc⟩ := hrow B e'.symm; rw [hs] at ho; cases ho; cases hc)).trans hs
theorem cellAt {W : World} {B i : Nat} {cs : Array Value} {t : TypeId} {v : Value} (h : W.heap[B]? = some (.cells cs t (0, 0))) (hv : cs[i]? = some v) : W.cell? ⟨B, i, none⟩ = some v := (cell_of_row W B i cs t _ h).trans hv
theorem frozenAt {W : World} {B : Nat} {cs : Array Value} {t : TypeId} (h : W.heap[B]? = some (.cells cs t (0, 0))) (i : Nat) : W.frozen? ⟨B, i, none⟩ = false := frozen_of_row W B i _ t h
theorem setOne {W : World} {B : Nat} {v u : Value} {t : TypeId} (h : W.heap[B]? = some (.cells #[v] t (0, 0))) : (W.setCell ⟨B, 0, none⟩ u).heap[B]? = some (.cells #[u] t (0, 0)) := by
  rw [heap_setCell_same W B 0 _ t u h]; rfl
theorem setOther {W : World} {B B' : Nat} (o : Nat) {u : Value} (h : B ≠ B') : (W.setCell ⟨B', o, none⟩ u).heap[B]? = W.heap[B]? := heap_setCell_other W ⟨B', o, none⟩ B u h
theorem keepsBel {W W' : World} (h : Below W.heap.size W W') : KeepsOthers W W' := ⟨h.size, fun k _ hk _ => (h.block k (Array.getElem?_eq_some_iff.1 hk).1).trans hk⟩

theorem Backward_any (a : Option Addr) (n cap : Nat) (w : World) : Calls Try.prog 25 #[.slice a n cap] w fun e w' => e = .returned (.func (.func 28) #[] #[.pointer (some ⟨w.heap.size, 0, none⟩)]) ∧
    w' = w.alloc (.cells #[.slice a n cap] 32) := by
  go_enter Try.func25, Try.ntmps25
  go_wp2_with fail
  go_ret
  exact ⟨rfl, rfl⟩

/-- All blocks below B but those of E stay as they are. -/
def Kx (B : Nat) (E : Nat → Prop) (W W' : World) : Prop := W.heap.size ≤ W'.heap.size ∧ ∀ b, b < B → ¬ E b → W'.heap[b]? = W.heap[b]?
theorem Kx.trans {B : Nat} {E : Nat → Prop} {X Y Z : World} (h : Kx B E X Y) (h' : Kx B E Y Z) : Kx B E X Z := ⟨Nat.le_trans h.1 h'.1, fun b hb he => (h'.2 b hb he).trans (h.2 b hb he)⟩
theorem Kx.below {B : Nat} {E : Nat → Prop} {X Y : World} (h : Below B X Y) : Kx B E X Y := ⟨h.size, fun b hb _ => h.block b hb⟩
theorem Kx.refl (B : Nat) (E : Nat → Prop) (X : World) : Kx B E X X := ⟨Nat.le_refl _, fun _ _ _ => rfl⟩
theorem Kx.put {B : Nat} {E : Nat → Prop} (W : World) (l : Nat) (o' : Obj) (hl : B ≤ l) : Kx B E W (W.putObj l o') := ⟨by simp, fun b hb _ => World.putObj_heap_other (by omega)⟩
theorem Kx.set {B : Nat} {E : Nat → Prop} (W : World) (g o : Nat) (v : Value) (hg : E g) : Kx B E W (W.setCell ⟨g, o, none⟩ v) := ⟨by simp, fun b _ he => heap_setCell_other W ⟨g, o, none⟩ b v (fun e => he (e ▸ hg))⟩
theorem Kx.kept {B : Nat} {E : Nat → Prop} {W W' : World} (h : Kx B E W W') : Kept (fun b => b < B ∧ ¬ E b) W W' := fun b o hb => World.cell?_of_block (h.2 b hb.1 hb.2)
theorem Kx.cell {B : Nat} {E : Nat → Prop} {W W' : World} (h : Kx B E W W') {b o : Nat} (hb : b < B) (he : ¬ E b) : W'.cell? ⟨b, o, none⟩ = W.cell? ⟨b, o, none⟩ := World.cell?_of_block (h.2 b hb he)

def backV (l : List Int) (k : Nat) : Array Value := #[.int .i64 ((l.length - 1 - k : Nat) : Int), .int .i64 (l.getD (l.length - 1 - k) 0)]
set_option maxRecDepth 100000 in
set_option maxHeartbeats 2000000 in
theorem back_gives (F : Fence) (q : Nat) (hf : F.fn 28) (hro : F.round = none) (hq : 1 ≤ q) (Bl : Nat) (l : List Int) (hm : l.length ≤ 9223372036854775807) (a : Option Addr) (cap : Nat) (w : World) (E : Nat → Prop) (hBl : Bl < w.heap.size) (hE : ¬ E Bl) (hR : IR w (fun b => b < w.heap.size ∧ ¬ E b) a l)
    (c0 : w.cell? ⟨Bl, 0, none⟩ = some (.slice a l.length cap)) :
    GivesAt F q Try.prog 28 #[.pointer (some ⟨Bl, 0, none⟩)] (backV l) (Kx w.heap.size E) l.length w := fun lf J Jx W hW hJ _ hY hJ0 => by
  have d0 := (hW.cell (p := ⟨Bl, 0, none⟩) hBl).trans c0
  replace c0 := Lib.hid c0
  replace hR := Lib.hid hR
  refine callsIn_of_wp Try.func28 rfl hf ?_ hro
  simp only [Try.ntmps28, List.size_toArray, List.length_cons, List.length_nil, Nat.reduceAdd, Nat.reduceSub, Array.replicate_succ, Array.replicate_zero, List.push_toArray, List.append_toArray, List.nil_append, List.cons_append]
  gi_wp2
  clear d0
  gi_loopw [3] (fun i wr => ∃ k : Nat, k ≤ l.length ∧ i = .int .i64 ((l.length : Int) - 1 - k) ∧ J k wr ∧ Hid (Kx w.heap.size E w wr)) (fun i _ => (intOf i + 1).toNat)
  case atStart => exact ⟨0, Nat.zero_le _, by simp, hJ0, Lib.hid (Kx.below hW)⟩
  case round =>
    obtain ⟨k, hk, rfl, hJk, hb⟩ := hrel
    by_cases hlt : k < l.length
    · obtain ⟨j, hj⟩ : ∃ j, j = l.length - 1 - k := ⟨_, rfl⟩
      have hjl : j < l.length := by omega
      obtain ⟨b, off, rfl, hs, hc0, hI⟩ := (hR.out.keep hb.out.kept).at_ hjl
      have hcb := (hb.out.cell hBl hE).trans c0.out
      obtain ⟨fn, tmps, assign, body, hy, hRd⟩ := hY k wr hlt hJk
      unfold backV at hy
      rw [← hj, show l.getD j 0 = l[j] by simp [List.getD, hjl]] at hy
      rw [show (l.length : Int) - 1 - k = (j : Int) by omega]
      replace hj := Lib.hid (show (l.length : Int) - 1 - (k + 1 : Nat) = (j : Int) - 1 ∧ (l.length - 1 - (k + 1) = j - 1) by omega)
      generalize l[j] = x at *
      have j0 : (0 : Int) ≤ j := by omega
      have j1 : (j : Int) < l.length := by omega
      have hwr : IntKind.i64.wrap ((j : Int) - 1) = (j : Int) - 1 := IntWalk.i64_in _ (by omega)
      gi_wp2
      refine hRd.mono ?_
      rintro e W3 (⟨rfl, hJ3, hk3⟩ | ⟨rfl, hJx3⟩)
      · replace hb := Lib.hid (hb.out.trans hk3)
        clear hk3
        gi_wp2
        go_roundw
        case rel => exact ⟨k + 1, by omega, by rw [hj.out.1], hJ3, hb⟩
        case measure => simp [intOf]
      · gi_wp2
        refine bodyPost_ret (results_none rfl _ _ _) rfl ?_
        exact ⟨⟨_, rfl⟩, .inr ⟨k, hlt, hJx3⟩⟩
    · obtain rfl : k = l.length := by omega
      rw [show (l.length : Int) - 1 - l.length = -1 by omega]
      gi_wp2
      go_end0
      exact ⟨⟨_, rfl⟩, .inl hJk⟩

/-- The value of the last k coefficients. -/
def hv (l : List Int) (t : Int) (k : Nat) : Int := md (vl (l.drop (l.length - k)) t)
def vlF (l : List Int) (t : Int) : Int := md (vl l t)
theorem hv_zero (l : List Int) (t : Int) : hv l t 0 = 0 := by
  unfold hv
  rw [Nat.sub_zero, List.drop_length]
  rfl
theorem hv_all (l : List Int) (t : Int) : hv l t l.length = vlF l t := by unfold hv vlF; rw [Nat.sub_self, List.drop_zero]
theorem hv_step (l : List Int) (t : Int) (k : Nat) (hk : k < l.length) : md (sumI [mulF (hv l t k) t, l.getD (l.length - 1 - k) 0]) = hv l t (k + 1) := by
  unfold hv
  have hd : l.drop (l.length - (k + 1)) = l[l.length - 1 - k] :: l.drop (l.length - k) := by
    rw [show l.length - (k + 1) = l.length - 1 - k by omega, List.drop_eq_getElem_cons (by omega), show l.length - 1 - k + 1 = l.length - k by omega]
  rw [hd, show l.getD (l.length - 1 - k) 0 = l[l.length - 1 - k] by simp [List.getD, show l.length - 1 - k < l.length by omega]]
  simp only [sumI, vl]
  refine md_eq ?_
  have h1 := (mulF_cg (md (vl (l.drop (l.length - k)) t)) t).trans ((md_cg _).mul (Cg.refl t))
  refine (h1.add (Cg.refl (l[l.length - 1 - k] + 0))).trans (.of_eq ?_)
  grind

attribute [local go_sem] Oper.semAt_some
set_option maxRecDepth 100000 in
set_option maxHeartbeats 2000000 in
theorem Value_any (l : List Int) (t : Int) (hm : l.length ≤ 9223372036854775807) (w : World) (a : Option Addr) (cap : Nat) (hR : IR w (· < w.heap.size) a l) :
    Calls Try.prog 19 #[.slice a l.length cap, .int .i64 t] w fun e w' => e = .returned (.int .i64 (vlF l t)) ∧ Below w.heap.size w w' := by
  refine (callsIn_wide (n := 6)).1 ?_
  have hro : Fence.wide.round = none := rfl
  refine callsIn_of_wp_marks Try.func19 rfl trivial ?_ hro
  simp only [Try.ntmps19, List.size_toArray, List.length_cons, List.length_nil, Nat.reduceAdd, Nat.reduceSub, Array.replicate_succ, Array.replicate_zero, List.push_toArray, List.append_toArray, List.nil_append, List.cons_append]
  gi_wp2_with (refine ⟨trivial, ?_⟩; gi_at_call 25; refine (callsIn_wide.2 (Backward_any _ _ _ _)).mono ?_)
  rintro e w3 ⟨rfl, rfl⟩
  gi_wp2
  have hb1 := bel1 w (.cells #[.int .i64 t] 3)
  have hb2 := bel1 (w.alloc (.cells #[.int .i64 t] 3)) (.cells #[.int .i64 0] 3)
  have hb3 := bel1 ((w.alloc (.cells #[.int .i64 t] 3)).alloc (.cells #[.int .i64 0] 3)) (.cells #[.slice a l.length cap] 32)
  have k1 := blk_at (blk_at (heap_alloc_new w (.cells #[.int .i64 t] 3)) hb2) hb3
  have k2 := blk_at (heap_alloc_new (w.alloc (.cells #[.int .i64 t] 3)) (.cells #[.int .i64 0] 3)) hb3
  have k3 := heap_alloc_new ((w.alloc (.cells #[.int .i64 t] 3)).alloc (.cells #[.int .i64 0] 3)) (.cells #[.slice a l.length cap] 32)
  simp only [World.size_alloc] at k2 k3 ⊢
  have hB := (hb1.trans (hb2.mono hb1.size)).trans (hb3.mono (hb1.trans (hb2.mono hb1.size)).size)
  have hs : (((w.alloc (.cells #[.int .i64 t] 3)).alloc (.cells #[.int .i64 0] 3)).alloc (.cells #[.slice a l.length cap] 32)).heap.size = w.heap.size + 3 := by simp
  generalize ((w.alloc (.cells #[.int .i64 t] 3)).alloc (.cells #[.int .i64 0] 3)).alloc (.cells #[.slice a l.length cap] 32) = W0 at k1 k2 k3 hB hs ⊢
  clear hb1 hb2 hb3
  refine wpIn_rangeFunc_at hro (by omega) (gf := 28) (lb := #[.pointer (some ⟨w.heap.size + 1 + 1, 0, none⟩)]) rfl trivial (enters_of Try.func28 (by kernel_rfl) rfl)
    (back_gives Fence.wide _ trivial hro (by omega) (w.heap.size + 1 + 1) l hm a cap W0 (· = w.heap.size + 1) (by omega) (by omega) ((hR.keep (Kept.below hB)).mono (fun b hb => by omega)) (cellAt (i := 0) k3 rfl))
    Kx.trans (fun W i o o' hi _ _ _ => Kx.put W i o' hi) (Below.refl _ _) (fun _ _ => rfl)
    (fun k W => (W.heap[w.heap.size]? = some (.cells #[.int .i64 t] 3 (0, 0)) ∧ W.heap[w.heap.size + 1]? = some (.cells #[.int .i64 (hv l t k)] 3 (0, 0))) ∧ (Below w.heap.size w W ∧ w.heap.size + 3 ≤ W.heap.size)) (fun _ _ _ => False)
    (OwnFrom.and (OwnFrom.and (Own.from (cellsOwn _ (fun _ => #[.int .i64 t]) _) _) (Own.from (cellsOwn _ (fun k => #[.int .i64 (hv l t k)]) _) _)) (OwnFrom.and (ownFrom_below (Nat.le_refl _) (by omega)) (fun _ _ _ _ hs hg _ => Nat.le_trans hs hg.size)))
    (fun _ _ _ _ _ hs _ _ => hs) ⟨⟨k1, by rw [hv_zero]; exact k2⟩, hB, by omega⟩
    (fun k a' _ => a' = { tmps := #[.slice a l.length cap, .int .i64 t, undef, .pointer (some ⟨w.heap.size, 0, none⟩), .pointer (some ⟨w.heap.size + 1, 0, none⟩), undef, .int .i64 (l.getD (l.length - 1 - k) 0), .slice a l.length cap, .func (.func 28) #[] #[.pointer (some ⟨w.heap.size + 1 + 1, 0, none⟩)], .int .i64 ((l.length - 1 - k : Nat) : Int), .int .i64 (l.getD (l.length - 1 - k) 0), undef, undef, undef, undef, undef, undef, undef], defers := [] })
    (fun k a' _ _ _ _ hs _ _ => hs) ?assign ?body ?done ?stop
  case assign =>
    rintro lf k W K hk hI hK
    unfold backV
    gi_wp2
    exact hK _ _ ((keepsBel (Below.refl _ _)).from _) (Kx.refl _ _ _) hI rfl
  case body =>
    rintro lf k a' W hlf - hk ⟨⟨hI1, hI2⟩, hI3, hI4⟩ rfl
    have r3 := cellAt (i := 0) hI1 rfl
    have r4 := cellAt (i := 0) hI2 rfl
    have hx : I64 (l.getD (l.length - 1 - k) 0) := by
      obtain ⟨b, off, -, -, -, hI⟩ := hR.at_ (i := l.length - 1 - k) (by omega)
      rwa [show l.getD (l.length - 1 - k) 0 = l[l.length - 1 - k] by simp [List.getD, show l.length - 1 - k < l.length by omega]]
    have hst := Lib.hid (hv_step l t k hk)
    generalize l.getD (l.length - 1 - k) 0 = x at *
    have hsum := Lib.hid (fun c => sum_any [mulF (hv l t k) t, x] (by simp) _ _ c (IR.two (show I64 (mulF (hv l t k) t) from I64.md _) hx W 3))
    have hV := bel1 W (.cells #[.int .i64 (mulF (hv l t k) t), .int .i64 x] 3)
    have bR := blk_at hI2 hV
    have bT := blk_at hI1 hV
    have hI3' := Lib.hid hI3
    clear hI1 hI2 hI3
    gi_wp2_with (refine ⟨trivial, ?_⟩; gi_at_call 14; refine (CallsIn.inRound lf (callsIn_wide.2 (Mul_any _ _ _))).mono ?_)
    rintro e w5 ⟨rfl, rfl⟩
    have q4 := cellAt (i := 0) bR rfl
    have qf := frozenAt bR 0
    replace hst := hst
    have hbR := Lib.hid bR
    have hbT := Lib.hid bT
    have hVh := Lib.hid hV
    clear bR bT hV r3 r4
    gi_wp2_with (refine ⟨trivial, ?_⟩; gi_at_call 22; refine (CallsIn.inRound lf (callsIn_wide.2 (hsum.out _))).mono ?_)
    rintro e w5 ⟨rfl, rfl⟩
    gi_wp2
    refine ⟨((keepsBel hVh.out).trans (KeepsOthers.setCell _ _ _)).from _, (Kx.below (hVh.out.mono (by omega))).trans (Kx.set _ _ _ _ rfl), ⟨(setOther 0 (by omega)).trans hbT.out, ?_⟩, (hI3'.out.trans (hVh.out.mono (by omega))).setCell (p := ⟨w.heap.size + 1, 0, none⟩) (by simp) _, by simp; omega⟩
    rw [← hst.out]
    exact setOne hbR.out
  case done =>
    rintro DD W hD ⟨⟨hI1, hI2⟩, hI3, hI4⟩ hK
    have r0 := cellAt (i := 0) hI2 rfl
    have rf := frozenAt hI2 0
    have hI2' := Lib.hid hI2
    have hK' := Lib.hid hK
    clear hI1 hI2 hK
    gi_wp2
    have hkk := (KeepsOthers.setCell W ⟨w.heap.size + 1, 0, none⟩ (.int .i64 (hv l t l.length))).same DD _ hK'.out rfl
    have hr := setOne (u := .int .i64 (hv l t l.length)) hI2'.out
    refine ⟨by simp, .inl ⟨_, _, rfl, run_takeDeferred hkk, ?_⟩⟩
    have hc := cell_kept (cellAt (i := 0) hr rfl) (grownBy_putObj' _ DD (.deferred none)) (fun r e => by cases e; exact ⟨_, hkk, rfl⟩)
    have hBf := hI3.setCell (p := ⟨w.heap.size + 1, 0, none⟩) (by simp) (.int .i64 (hv l t l.length))
    refine ⟨.int .i64 (hv l t l.length), ?_, by rw [hv_all], hBf.trans (belowK_b (w := w) (Nat.le_refl _) _ DD _ _ (by omega) hkk rfl rfl)⟩
    simp [results, Try.results19, go_sem, hc]
  case stop =>
    rintro DD c k W _ _ h _
    exact h.elim
end Go.Proofs.Ytfblkkdoijfpfaa
