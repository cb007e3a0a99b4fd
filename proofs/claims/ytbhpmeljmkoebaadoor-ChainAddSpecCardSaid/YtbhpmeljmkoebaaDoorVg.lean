/- Check. -/
import Derived.Test.YtbhpmeljmkoebaaDoorVf
namespace Go.Proofs.YtbhpmeljmkoebaaDoor
open Go.RowKit Go.Shelf

theorem cellsOwn {β : Type} (B : Nat) (f : β → Array Value) (t : TypeId) : Own (fun (k : β) W => W.heap[B]? = some (.cells (f k) t (0, 0))) := fun _ X Y row hs hg hrow =>
  (hg.block B (Array.getElem?_eq_some_iff.1 hs).1 (fun e' => by obtain ⟨o, ho, hc⟩ := hrow B e'.symm; rw [hs] at ho; cases ho; cases hc)).trans hs
theorem cellAt {W : World} {B i : Nat} {cs : Array Value} {t : TypeId} {v : Value} (h : W.heap[B]? = some (.cells cs t (0, 0))) (hv : cs[i]? = some v) : W.cell? ⟨B, i, none⟩ = some v := (cell_of_row W B i cs t _ h).trans hv
theorem frozenAt {W : World} {B : Nat} {cs : Array Value} {t : TypeId} (h : W.heap[B]? = some (.cells cs t (0, 0))) (i : Nat) : W.frozen? ⟨B, i, none⟩ = false := frozen_of_row W B i _ t h
theorem setOne {W : World} {B : Nat} {v u : Value} {t : TypeId} (h : W.heap[B]? = some (.cells #[v] t (0, 0))) : (W.setCell ⟨B, 0, none⟩ u).heap[B]? = some (.cells #[u] t (0, 0)) := by
  rw [heap_setCell_same W B 0 _ t u h]; rfl
theorem keepsBel {W W' : World} (h : Below W.heap.size W W') : KeepsOthers W W' := ⟨h.size, fun k _ hk _ => (h.block k (Array.getElem?_eq_some_iff.1 hk).1).trans hk⟩
/-- A row of cells is stored in a region of a round. -/
theorem wpListIn_store_row {l n : Nat} {P : Program} {ops : Array Oper} {rest : List Oper} {o : Oper} {a : Act} {w : World} {Q : Exit → Act → World → Prop} (hgd : o.guard = none) (ty : TypeId) (x y : Operand) (ho : o.op = .store ty x y)
    (g : Nat) (cells : Array Value) (hx : a.eval x = .pointer (some ⟨g, 0, none⟩)) (hy : a.eval y = .agg cells)
    (t : TypeId) (old : Array Value) (hg : w.heap[g]? = some (.cells old t (0, 0))) (hi : (P.info? ty).map (·.size) = some cells.size)
    (hold : old.size = cells.size) (h1 : cells.all (·.oneCell') = true)
    (h : wpListIn (Fence.wide.inRound l) n P ops Q rest (a.put o.dst undef) (w.setRow g cells)) : wpListIn (Fence.wide.inRound l) n P ops Q (o :: rest) a w :=
  wpListIn_plain hgd fun _ hK => oper_round l n (fun c e => by rw [ho] at e; cases e) (wp_store_row ty x y ho g cells hx hy t old hg hi hold h1 (hK _ _ h))

/-- Does the link at place i follow those before it? -/
def okAt (l : List Lk) (i : Nat) : Bool := match l[i]? with | some x => followsP (l.take i) (headP (l.take i)) x | none => true
def chainB (l : List Lk) : Bool := (List.range l.length).all (okAt l)
def chkP (l : List Lk) : Int := if chainB l = true then 0 else 80
theorem okAt_eq {l : List Lk} {i : Nat} (h : i < l.length) : okAt l i = followsP (l.take i) (headP (l.take i)) l[i] := by
  unfold okAt
  rw [List.getElem?_eq_getElem h]
theorem chk_good {l : List Lk} (h : ∀ i, i < l.length → okAt l i = true) : chkP l = 0 := by
  have : chainB l = true := List.all_eq_true.2 fun i hi => h i (List.mem_range.1 hi)
  rw [chkP, if_pos this]
theorem chk_bad {l : List Lk} {i : Nat} (hi : i < l.length) (h : okAt l i = false) : chkP l = 80 := by
  have : ¬ chainB l = true := fun e => by
    have := List.all_eq_true.1 e i (List.mem_range.2 hi)
    rw [h] at this
    cases this
  rw [chkP, if_neg this]
/-- The box of a round's head. -/
def HeadAx (l : List Lk) (lo : Nat) (f : Nat → Nat → Array Value) (k : Nat) (a' : Act) (W : World) : Prop :=
  ∃ Bx, lo ≤ Bx ∧ W.heap[Bx]? = some (.cells (BV (headP (l.take k))).toArray 35 (0, 0)) ∧ a' = { tmps := f k Bx, defers := [] }
theorem headAx_own {l : List Lk} {lo B : Nat} {f : Nat → Nat → Array Value} (k : Nat) (a' : Act) : OwnFrom B (fun (_ : Unit) W => HeadAx l lo f k a' W) := fun _ X Y row hs hg hr => by
  obtain ⟨Bx, e1, e2, e3⟩ := hs
  exact ⟨Bx, e1, cellsOwn (β := Unit) _ (fun _ => _) _ () X Y row e2 hg (fun r e => (hr r e).2), e3⟩
def LnI (w : World) (a : Option Addr) (l : List Lk) (cap : Nat) (k : Nat) (W : World) : Prop :=
  (W.heap[w.heap.size]? = some (.cells #[.slice a l.length cap] 22 (0, 0)) ∧ W.heap[w.heap.size + 1]? = some (.cells #[.int .i64 0] 26 (0, 0))) ∧ ((Below w.heap.size w W ∧ w.heap.size + 3 ≤ W.heap.size) ∧ ∀ i, i < k → okAt l i = true)
def LnX (w : World) (l : List Lk) (c : Code) (k : Nat) (W : World) : Prop :=
  (c = .ret ∧ okAt l k = false) ∧ (W.heap[w.heap.size + 1]? = some (.cells #[.int .i64 80] 26 (0, 0)) ∧ (Below w.heap.size w W ∧ w.heap.size + 3 ≤ W.heap.size))

attribute [local go_sem] Oper.semAt_some
set_option maxRecDepth 100000 in
set_option maxHeartbeats 2000000 in
theorem Check_any (l : List Lk) (hl : Short l) (hm : l.length ≤ 1024) (w : World) (a : Option Addr) (cap : Nat) (hQ : QL w w.heap.size l a cap) (hKT : KT w) (h0 : 0 < w.heap.size) :
    Calls Tryd.prog 16 #[.slice a l.length cap] w fun e w' => e = .returned (.int .i64 (chkP l)) ∧ Below w.heap.size w w' := by
  refine (callsIn_wide (n := 6)).1 ?_
  have hro : Fence.wide.round = none := rfl
  have hm' : ¬ (l.length : Int) > 1024 := by omega
  refine callsIn_of_wp_marks Tryd.func16 rfl trivial ?_ hro
  simp only [Tryd.ntmps16, List.size_toArray, List.length_cons, List.length_nil, Nat.reduceAdd, Nat.reduceSub, Array.replicate_succ, Array.replicate_zero, List.push_toArray, List.append_toArray, List.nil_append, List.cons_append]
  gi_wp2
  refine ⟨trivial, ?_⟩
  refine (callsIn_wide.2 (beginnings_any _ _ _ _)).mono ?_
  rintro e w3 ⟨rfl, rfl⟩
  gi_wp2_with fail
  have hb1 := bel1 w (.cells #[.slice a l.length cap] 22)
  have hb2 := bel1 (w.alloc (.cells #[.slice a l.length cap] 22)) (.cells #[.int .i64 0] 26)
  have hb3 := bel1 ((w.alloc (.cells #[.slice a l.length cap] 22)).alloc (.cells #[.int .i64 0] 26)) (.cells #[.slice a l.length cap] 22)
  have k1 := blk_at (blk_at (heap_alloc_new w (.cells #[.slice a l.length cap] 22)) hb2) hb3
  have k2 := blk_at (heap_alloc_new (w.alloc (.cells #[.slice a l.length cap] 22)) (.cells #[.int .i64 0] 26)) hb3
  have k3 := heap_alloc_new ((w.alloc (.cells #[.slice a l.length cap] 22)).alloc (.cells #[.int .i64 0] 26)) (.cells #[.slice a l.length cap] 22)
  simp only [World.size_alloc] at k2 k3 ⊢
  have hB := (hb1.trans (hb2.mono hb1.size)).trans (hb3.mono (hb1.trans (hb2.mono hb1.size)).size)
  have hs : (((w.alloc (.cells #[.slice a l.length cap] 22)).alloc (.cells #[.int .i64 0] 26)).alloc (.cells #[.slice a l.length cap] 22)).heap.size = w.heap.size + 3 := by simp
  generalize ((w.alloc (.cells #[.slice a l.length cap] 22)).alloc (.cells #[.int .i64 0] 26)).alloc (.cells #[.slice a l.length cap] 22) = W0 at k1 k2 k3 hB hs ⊢
  clear hb1 hb2 hb3
  refine wpIn_rangeFunc_at hro (by omega) (gf := 41) (lb := #[.pointer (some ⟨w.heap.size + 1 + 1, 0, none⟩)]) rfl trivial (enters_of Tryd.func41 (by kernel_rfl) rfl)
    (begins_gives _ (by omega) (w.heap.size + 1 + 1) l hl (by omega) a cap W0 (by omega) (hQ.lift hB hB.size) (hKT.below hB h0) (by omega) (cellAt (i := 0) k3 rfl))
    (fun h1 h2 => h1.trans h2) (fun W i o o' hi ho hc hw => belowK_b (w := W0) (Nat.le_refl _) W i o o' hi ho hc hw) (Below.refl _ _) (fun _ _ => rfl)
    (LnI w a l cap) (LnX w l)
    (OwnFrom.and (OwnFrom.and (Own.from (cellsOwn _ (fun _ => #[.slice a l.length cap]) _) _) (Own.from (cellsOwn _ (fun _ => #[.int .i64 0]) _) _)) (OwnFrom.and (OwnFrom.and (ownFrom_below (Nat.le_refl _) (by omega)) (fun _ _ _ _ hs hg _ => Nat.le_trans hs hg.size)) (fun _ _ _ _ hs _ _ => hs)))
    (fun c => OwnFrom.and (fun _ _ _ _ hs _ _ => hs) (OwnFrom.and (Own.from (cellsOwn _ (fun _ => #[.int .i64 80]) _) _) (OwnFrom.and (ownFrom_below (Nat.le_refl _) (by omega)) (fun _ _ _ _ hs hg _ => Nat.le_trans hs hg.size)))) ⟨⟨k1, k2⟩, ⟨hB, by omega⟩, fun i hi => by omega⟩
    (HeadAx l (w.heap.size + 3) (fun k Bx => #[.slice a l.length cap, .pointer (some ⟨w.heap.size, 0, none⟩), .pointer (some ⟨w.heap.size + 1, 0, none⟩), .slice a k k, .pointer (some ⟨Bx, 0, none⟩), .slice a l.length cap, .int .i64 (l.length : Int), .bool false, .slice a l.length cap, .func (.func 41) #[] #[.pointer (some ⟨w.heap.size + 1 + 1, 0, none⟩)], .slice a k k, .agg (BV (headP (l.take k))).toArray, undef, undef, undef, undef, undef, undef, undef, undef, undef]))
    (fun k a' => headAx_own k a') ?assign ?body ?done ?stop
  case assign =>
    rintro lf k V K hk ⟨⟨hI1, hI2⟩, ⟨hI3, hI4⟩, hI5⟩ hK
    unfold beginV
    have hsz := Lib.hid (DV_size (headP_len (l.take k)))
    have hz := zero_new V
    gi_wp2_with (refine wpListIn_store_row rfl 35 _ _ rfl V.heap.size _ rfl rfl 35 _ hz ?cj ?cl ?ck ?_
                 case cj => rw [Tryd.iD]; exact congrArg some hsz.out.symm
                 case cl => rw [hsz.out]; rfl
                 case ck => exact BV_all _)
    have hnew := setRow_heap (V.alloc (.cells #[.int .u8 0, .int .u8 0, .int .u8 0, .int .u8 0, .int .u8 0, .int .u8 0, .int .u8 0, .int .u8 0, .int .u8 0, .int .u8 0, .int .u8 0, .int .u8 0, .int .u8 0, .int .u8 0, .int .u8 0, .int .u8 0, .int .u8 0, .int .u8 0, .int .u8 0, .int .u8 0, .int .u8 0, .int .u8 0, .int .u8 0, .int .u8 0, .int .u8 0, .int .u8 0, .int .u8 0, .int .u8 0, .int .u8 0, .int .u8 0, .int .u8 0, .int .u8 0] 35)) V.heap.size _ (BV (headP (l.take k))).toArray _ _ hz
    have hbl := below_row (bel1 V (.cells #[.int .u8 0, .int .u8 0, .int .u8 0, .int .u8 0, .int .u8 0, .int .u8 0, .int .u8 0, .int .u8 0, .int .u8 0, .int .u8 0, .int .u8 0, .int .u8 0, .int .u8 0, .int .u8 0, .int .u8 0, .int .u8 0, .int .u8 0, .int .u8 0, .int .u8 0, .int .u8 0, .int .u8 0, .int .u8 0, .int .u8 0, .int .u8 0, .int .u8 0, .int .u8 0, .int .u8 0, .int .u8 0, .int .u8 0, .int .u8 0, .int .u8 0, .int .u8 0] 35)) (g := V.heap.size) (BV (headP (l.take k))).toArray (Nat.le_refl _) (bel1 V _).size
    exact hK _ _ ((keepsBel hbl).from _) (hbl.mono (by omega)) ⟨⟨blk_at hI1 hbl, blk_at hI2 hbl⟩, ⟨hI3.trans (hbl.mono hI3.size), Nat.le_trans hI4 hbl.size⟩, hI5⟩ ⟨V.heap.size, hI4, hnew, rfl⟩
  case body =>
    rintro lf k a' V hlf - hk ⟨⟨hI1, hI2⟩, ⟨hI3, hI4⟩, hI5⟩ ⟨Bx, hBx, bX, rfl⟩
    have hQV := hQ.lift hI3 hI3.size
    obtain ⟨b, off, da, dc, ha, hbB, hr, hD⟩ := hQV.at_ hk
    have hf := (hQ.fine l[k] (List.getElem_mem hk)).prev
    have hlen : (l.take k).length = k := by rw [List.length_take]; omega
    have hQk := hQV.toto' (k := k) (Nat.le_of_lt hk)
    subst ha
    have hBxl := (Array.getElem?_eq_some_iff.1 bX).1
    have hc0 : Hid (∀ W, Below V.heap.size V W → W.cell? ⟨w.heap.size, 0, none⟩ = some (.slice (some ⟨b, off, none⟩) l.length cap)) := fun W hW => (hW.cell (p := ⟨w.heap.size, 0, none⟩) (Array.getElem?_eq_some_iff.1 hI1).1).trans (cellAt (i := 0) hI1 rfl)
    have hd : Hid (∀ W, Below V.heap.size V W → W.rangeAt Bx 0 (BV (headP (l.take k)))) := fun W hW => range_of (blk_at bX hW)
    have hx : Hid (∀ W, Below V.heap.size V W → W.rangeAt b (off + k * 35) (LW l[k] da dc)) := fun W hW j v hv => (hW.cell (p := ⟨b, off + k * 35 + j, none⟩) hbB).trans (hr j v hv)
    have hfl : Hid (∀ W, Below V.heap.size V W → Calls Tryd.prog 32 #[.slice (some ⟨b, off, none⟩) k k, .agg (BV (headP (l.take k))).toArray, .agg (LW l[k] da dc).toArray] W fun e w' => e = .returned (.bool (okAt l k)) ∧ Below W.heap.size W w') := fun W hW => by
      have := follows_any (l.take k) (headP (l.take k)) (headP_len _) l[k] hf W (some ⟨b, off, none⟩) da k dc (hQk.lift hW hW.size)
      rwa [hlen, ← okAt_eq hk] at this
    have hsd := Lib.hid (show (Tryd.prog.info? 35).map (·.size) = some (BV (headP (l.take k))).length by rw [Tryd.iD, BV_length, headP_len])
    have hsx := Lib.hid (LW_info (a := da) (c := dc) hf)
    have i0 : (0 : Int) ≤ k := by omega
    have i1 : (k : Int) < l.length := by omega
    have hI2' := Lib.hid hI2
    have hI1' := Lib.hid hI1
    have hI3' := Lib.hid hI3
    have hI5' := Lib.hid hI5
    generalize l[k] = x at *
    clear hQV hr hD hQk bX hf hlen hI1 hI2 hI3 hI5
    cases hok : okAt l k with
    | true =>
      rw [hok] at hfl
      gi_wp2
      refine wpIn_region_pre lf _ ?_ (by kernel_rfl) 9 0 (fun W => Below V.heap.size V W) (fun W W' => Below W.heap.size W W')
        (fun i v W => match i with
          | 0 => v = .slice (some ⟨b, off, none⟩) k k
          | 1 => v = .agg (BV (headP (l.take k))).toArray
          | 2 => v = .slice (some ⟨b, off, none⟩) l.length cap
          | 3 => v = .slice (some ⟨b, off, none⟩) k k
          | 4 => v = .int .i64 (k : Int)
          | 5 => v = .pointer (some ⟨b, off + k * 35, none⟩)
          | 6 => v = .agg (LW x da dc).toArray
          | 7 => v = .bool true
          | 8 => v = .bool false
          | _ => True) (fun _ => false)
        (by kernel_rfl) (by kernel_rfl) (by kernel_rfl) (by kernel_rfl) (by kernel_rfl) (by kernel_rfl) (by kernel_rfl) ?_ (fun _ _ h => h.size) (dN (Below.refl _ _) 1) ?_ ?_
      · rintro ⟨_, _, h⟩; exact h
      · intro i v W W' hb hF
        match i, hF with
        | 0, h => exact h
        | 1, h => exact h
        | 2, h => exact h
        | 3, h => exact h
        | 4, h => exact h
        | 5, h => exact h
        | 6, h => exact h
        | 7, h => exact h
        | 8, h => exact h
        | _ + 9, _ => trivial
      · refine ⟨?_, ?_, ?_, ?_, ?_, ?_, ?_, ?_, ?_, trivial⟩
        · refine stepJ_any rfl fun ac W hAA hG hDD K hK => ?_
          have h3 := hAA.getD (t := 3) (by kernel_rfl)
          simp only [Array.getD_eq_getD_getElem?] at h3
          rw [if_pos (by rfl)]
          exact wp_val (v := .slice (some ⟨b, off, none⟩) k k) (w' := W) (by simp [execOp, Act.eval, h3, go_sem]) (hK _ _ hG (Below.refl _ _) rfl (fun h => by cases h))
        · refine stepJ_any rfl fun ac W hAA hG hDD K hK => ?_
          have h4 := hAA.getD (t := 4) (by kernel_rfl)
          rw [if_pos (by rfl)]
          simp only [Array.getD_eq_getD_getElem?] at h4
          exact wp_load_mid 35 _ rfl Bx 0 (by simpa [Act.eval] using h4) (BV (headP (l.take k))) _ (hd.out W hG) Tryd.uD rfl hsd.out (hK _ _ hG (Below.refl _ _) rfl (fun h => by cases h))
        · refine stepJ_any rfl fun ac W hAA hG hDD K hK => ?_
          have h1 := hAA.getD (t := 1) (by kernel_rfl)
          simp only [Array.getD_eq_getD_getElem?] at h1
          have m0 := hc0.out W hG
          rw [if_pos (by rfl)]
          exact wp_val (v := .slice (some ⟨b, off, none⟩) l.length cap) (w' := W) (by simp [execOp, Act.eval, h1, go_sem, m0]) (hK _ _ hG (Below.refl _ _) rfl (fun h => by cases h))
        · refine stepJ_any rfl fun ac W hAA hG hDD K hK => ?_
          have h3 := hAA.getD (t := 3) (by kernel_rfl)
          simp only [Array.getD_eq_getD_getElem?] at h3
          rw [if_pos (by rfl)]
          exact wp_val (v := .slice (some ⟨b, off, none⟩) k k) (w' := W) (by simp [execOp, Act.eval, h3, go_sem]) (hK _ _ hG (Below.refl _ _) rfl (fun h => by cases h))
        · refine stepJ_any rfl fun ac W hAA hG hDD K hK => ?_
          have h15 := hDD.get 3 15 _ rfl rfl (by kernel_rfl)
          simp only [Array.getD_eq_getD_getElem?] at h15
          rw [if_pos (by rfl)]
          exact wp_val (v := .int .i64 (k : Int)) (w' := W) (by simp [execOp, Act.eval, h15, go_sem]) (hK _ _ hG (Below.refl _ _) rfl (fun h => by cases h))
        · refine stepJ_any rfl fun ac W hAA hG hDD K hK => ?_
          have h14 := hDD.get 2 14 _ rfl rfl (by kernel_rfl)
          have h16 := hDD.get 4 16 _ rfl rfl (by kernel_rfl)
          simp only [Array.getD_eq_getD_getElem?] at h14 h16
          rw [if_pos (by rfl)]
          exact wp_val (v := .pointer (some ⟨b, off + k * 35, none⟩)) (w' := W) (by simp [execOp, Act.eval, h14, h16, go_sem, i0, i1]) (hK _ _ hG (Below.refl _ _) rfl (fun h => by cases h))
        · refine stepJ_any rfl fun ac W hAA hG hDD K hK => ?_
          have h17 := hDD.get 5 17 _ rfl rfl (by kernel_rfl)
          rw [if_pos (by rfl)]
          simp only [Array.getD_eq_getD_getElem?] at h17
          exact wp_load_mid 37 _ rfl b (off + k * 35) (by simpa [Act.eval] using h17) (LW x da dc) _ (hx.out W hG) Tryd.underlying37 rfl hsx.out (hK _ _ hG (Below.refl _ _) rfl (fun h => by cases h))
        · refine stepJ_any rfl fun ac W hAA hG hDD K hK => ?_
          have h12 := hDD.get 0 12 _ rfl rfl (by kernel_rfl)
          have h13 := hDD.get 1 13 _ rfl rfl (by kernel_rfl)
          have h18 := hDD.get 6 18 _ rfl rfl (by kernel_rfl)
          simp only [Array.getD_eq_getD_getElem?] at h12 h13 h18
          rw [if_pos (by rfl)]
          refine wp_call (f := 32) (args := #[.slice (some ⟨b, off, none⟩) k k, .agg (BV (headP (l.take k))).toArray, .agg (LW x da dc).toArray]) (by simp [execOp, Act.eval, h12, h13, h18, go_sem]) ((hfl.out W hG).mono fun e W9 he => ?_)
          obtain ⟨rfl, hbw⟩ := he
          exact hK _ _ (hG.trans (hbw.mono hG.size)) hbw rfl (fun h => by cases h)
        · refine stepJ_any rfl fun ac W hAA hG hDD K hK => ?_
          have h19 := hDD.get 7 19 _ rfl rfl (by kernel_rfl)
          simp only [Array.getD_eq_getD_getElem?] at h19
          rw [if_pos (by rfl)]
          exact wp_val (v := .bool false) (w' := W) (by simp [execOp, Act.eval, h19, go_sem]) (hK _ _ hG (Below.refl _ _) rfl (fun h => by cases h))
      intro fu T W9 hG hF hne hltb
      have e12 : T 12 = .slice (some ⟨b, off, none⟩) k k := hF 0 _ rfl (by omega)
      have e13 : T 13 = .agg (BV (headP (l.take k))).toArray := hF 1 _ rfl (by omega)
      have e14 : T 14 = .slice (some ⟨b, off, none⟩) l.length cap := hF 2 _ rfl (by omega)
      have e15 : T 15 = .slice (some ⟨b, off, none⟩) k k := hF 3 _ rfl (by omega)
      have e16 : T 16 = .int .i64 (k : Int) := hF 4 _ rfl (by omega)
      have e17 : T 17 = .pointer (some ⟨b, off + k * 35, none⟩) := hF 5 _ rfl (by omega)
      have e18 : T 18 = .agg (LW x da dc).toArray := hF 6 _ rfl (by omega)
      have e19 : T 19 = .bool true := hF 7 _ rfl (by omega)
      have e20 : T 20 = .bool false := hF 8 _ rfl (by omega)
      clear hF hne hltb
      simp only [List.take, fillT, List.setIfInBounds_toArray, List.set_cons_zero, List.set_cons_succ, e12, e13, e14, e15, e16, e17, e18, e19, e20]
      clear e12 e13 e14 e15 e16 e17 e18 e19 e20
      refine wpAny_done (by kernel_rfl) ?_ _
      gi_wp2
      refine ⟨(keepsBel hG).from _, hG.mono (by omega), ⟨blk_at hI1'.out hG, blk_at hI2'.out hG⟩, ⟨hI3'.out.trans (hG.mono hI3'.out.size), Nat.le_trans hI4 hG.size⟩, fun i hi => ?_⟩
      by_cases e : i = k
      · rw [e]; exact hok
      · exact hI5'.out i (by omega)
    | false =>
      rw [hok] at hfl
      gi_wp2
      refine wpIn_region_pre lf _ ?_ (by kernel_rfl) 9 0 (fun W => Below V.heap.size V W) (fun W W' => Below W.heap.size W W')
        (fun i v W => match i with
          | 0 => v = .slice (some ⟨b, off, none⟩) k k
          | 1 => v = .agg (BV (headP (l.take k))).toArray
          | 2 => v = .slice (some ⟨b, off, none⟩) l.length cap
          | 3 => v = .slice (some ⟨b, off, none⟩) k k
          | 4 => v = .int .i64 (k : Int)
          | 5 => v = .pointer (some ⟨b, off + k * 35, none⟩)
          | 6 => v = .agg (LW x da dc).toArray
          | 7 => v = .bool false
          | 8 => v = .bool true
          | _ => True) (fun _ => false)
        (by kernel_rfl) (by kernel_rfl) (by kernel_rfl) (by kernel_rfl) (by kernel_rfl) (by kernel_rfl) (by kernel_rfl) ?_ (fun _ _ h => h.size) (dN (Below.refl _ _) 1) ?_ ?_
      · rintro ⟨_, _, h⟩; exact h
      · intro i v W W' hb hF
        match i, hF with
        | 0, h => exact h
        | 1, h => exact h
        | 2, h => exact h
        | 3, h => exact h
        | 4, h => exact h
        | 5, h => exact h
        | 6, h => exact h
        | 7, h => exact h
        | 8, h => exact h
        | _ + 9, _ => trivial
      · refine ⟨?_, ?_, ?_, ?_, ?_, ?_, ?_, ?_, ?_, trivial⟩
        · refine stepJ_any rfl fun ac W hAA hG hDD K hK => ?_
          have h3 := hAA.getD (t := 3) (by kernel_rfl)
          simp only [Array.getD_eq_getD_getElem?] at h3
          rw [if_pos (by rfl)]
          exact wp_val (v := .slice (some ⟨b, off, none⟩) k k) (w' := W) (by simp [execOp, Act.eval, h3, go_sem]) (hK _ _ hG (Below.refl _ _) rfl (fun h => by cases h))
        · refine stepJ_any rfl fun ac W hAA hG hDD K hK => ?_
          have h4 := hAA.getD (t := 4) (by kernel_rfl)
          rw [if_pos (by rfl)]
          simp only [Array.getD_eq_getD_getElem?] at h4
          exact wp_load_mid 35 _ rfl Bx 0 (by simpa [Act.eval] using h4) (BV (headP (l.take k))) _ (hd.out W hG) Tryd.uD rfl hsd.out (hK _ _ hG (Below.refl _ _) rfl (fun h => by cases h))
        · refine stepJ_any rfl fun ac W hAA hG hDD K hK => ?_
          have h1 := hAA.getD (t := 1) (by kernel_rfl)
          simp only [Array.getD_eq_getD_getElem?] at h1
          have m0 := hc0.out W hG
          rw [if_pos (by rfl)]
          exact wp_val (v := .slice (some ⟨b, off, none⟩) l.length cap) (w' := W) (by simp [execOp, Act.eval, h1, go_sem, m0]) (hK _ _ hG (Below.refl _ _) rfl (fun h => by cases h))
        · refine stepJ_any rfl fun ac W hAA hG hDD K hK => ?_
          have h3 := hAA.getD (t := 3) (by kernel_rfl)
          simp only [Array.getD_eq_getD_getElem?] at h3
          rw [if_pos (by rfl)]
          exact wp_val (v := .slice (some ⟨b, off, none⟩) k k) (w' := W) (by simp [execOp, Act.eval, h3, go_sem]) (hK _ _ hG (Below.refl _ _) rfl (fun h => by cases h))
        · refine stepJ_any rfl fun ac W hAA hG hDD K hK => ?_
          have h15 := hDD.get 3 15 _ rfl rfl (by kernel_rfl)
          simp only [Array.getD_eq_getD_getElem?] at h15
          rw [if_pos (by rfl)]
          exact wp_val (v := .int .i64 (k : Int)) (w' := W) (by simp [execOp, Act.eval, h15, go_sem]) (hK _ _ hG (Below.refl _ _) rfl (fun h => by cases h))
        · refine stepJ_any rfl fun ac W hAA hG hDD K hK => ?_
          have h14 := hDD.get 2 14 _ rfl rfl (by kernel_rfl)
          have h16 := hDD.get 4 16 _ rfl rfl (by kernel_rfl)
          simp only [Array.getD_eq_getD_getElem?] at h14 h16
          rw [if_pos (by rfl)]
          exact wp_val (v := .pointer (some ⟨b, off + k * 35, none⟩)) (w' := W) (by simp [execOp, Act.eval, h14, h16, go_sem, i0, i1]) (hK _ _ hG (Below.refl _ _) rfl (fun h => by cases h))
        · refine stepJ_any rfl fun ac W hAA hG hDD K hK => ?_
          have h17 := hDD.get 5 17 _ rfl rfl (by kernel_rfl)
          rw [if_pos (by rfl)]
          simp only [Array.getD_eq_getD_getElem?] at h17
          exact wp_load_mid 37 _ rfl b (off + k * 35) (by simpa [Act.eval] using h17) (LW x da dc) _ (hx.out W hG) Tryd.underlying37 rfl hsx.out (hK _ _ hG (Below.refl _ _) rfl (fun h => by cases h))
        · refine stepJ_any rfl fun ac W hAA hG hDD K hK => ?_
          have h12 := hDD.get 0 12 _ rfl rfl (by kernel_rfl)
          have h13 := hDD.get 1 13 _ rfl rfl (by kernel_rfl)
          have h18 := hDD.get 6 18 _ rfl rfl (by kernel_rfl)
          simp only [Array.getD_eq_getD_getElem?] at h12 h13 h18
          rw [if_pos (by rfl)]
          refine wp_call (f := 32) (args := #[.slice (some ⟨b, off, none⟩) k k, .agg (BV (headP (l.take k))).toArray, .agg (LW x da dc).toArray]) (by simp [execOp, Act.eval, h12, h13, h18, go_sem]) ((hfl.out W hG).mono fun e W9 he => ?_)
          obtain ⟨rfl, hbw⟩ := he
          exact hK _ _ (hG.trans (hbw.mono hG.size)) hbw rfl (fun h => by cases h)
        · refine stepJ_any rfl fun ac W hAA hG hDD K hK => ?_
          have h19 := hDD.get 7 19 _ rfl rfl (by kernel_rfl)
          simp only [Array.getD_eq_getD_getElem?] at h19
          rw [if_pos (by rfl)]
          exact wp_val (v := .bool true) (w' := W) (by simp [execOp, Act.eval, h19, go_sem]) (hK _ _ hG (Below.refl _ _) rfl (fun h => by cases h))
      intro fu T W9 hG hF hne hltb
      have e12 : T 12 = .slice (some ⟨b, off, none⟩) k k := hF 0 _ rfl (by omega)
      have e13 : T 13 = .agg (BV (headP (l.take k))).toArray := hF 1 _ rfl (by omega)
      have e14 : T 14 = .slice (some ⟨b, off, none⟩) l.length cap := hF 2 _ rfl (by omega)
      have e15 : T 15 = .slice (some ⟨b, off, none⟩) k k := hF 3 _ rfl (by omega)
      have e16 : T 16 = .int .i64 (k : Int) := hF 4 _ rfl (by omega)
      have e17 : T 17 = .pointer (some ⟨b, off + k * 35, none⟩) := hF 5 _ rfl (by omega)
      have e18 : T 18 = .agg (LW x da dc).toArray := hF 6 _ rfl (by omega)
      have e19 : T 19 = .bool false := hF 7 _ rfl (by omega)
      have e20 : T 20 = .bool true := hF 8 _ rfl (by omega)
      clear hF hne hltb
      simp only [List.take, fillT, List.setIfInBounds_toArray, List.set_cons_zero, List.set_cons_succ, e12, e13, e14, e15, e16, e17, e18, e19, e20]
      clear e12 e13 e14 e15 e16 e17 e18 e19 e20
      refine wpAny_done (by kernel_rfl) ?_ _
      have b2 := blk_at hI2'.out hG
      have r0 := cellAt (i := 0) b2 rfl
      have rf := frozenAt b2 0
      replace b2 := Lib.hid b2
      have hGh := Lib.hid hG
      clear hG
      gi_wp2
      refine ⟨((keepsBel hGh.out).trans (KeepsOthers.setCell _ _ _)).from _, ⟨rfl, hok⟩, setOne b2.out, (hI3'.out.trans (hGh.out.mono hI3'.out.size)).setCell (p := ⟨w.heap.size + 1, 0, none⟩) (Nat.le_succ _) _, by simp; exact Nat.le_trans hI4 hGh.out.size⟩
  case done =>
    rintro DD W hD ⟨⟨hI1, hI2⟩, ⟨hI3, hI4⟩, hI5⟩ hK
    have r0 := cellAt (i := 0) hI2 rfl
    have rf := frozenAt hI2 0
    have hI1' := Lib.hid hI2
    have hK' := Lib.hid hK
    have hc : chkP l = 0 := chk_good hI5
    clear hI1 hI2 hK hI5
    gi_wp2
    have hkk := (KeepsOthers.setCell W ⟨w.heap.size + 1, 0, none⟩ (.int .i64 0)).same DD _ hK'.out rfl
    have hr := setOne (u := .int .i64 0) hI1'.out
    refine ⟨by simp, .inl ⟨_, _, rfl, run_takeDeferred hkk, ?_⟩⟩
    have hc2 := cell_kept (cellAt (i := 0) hr rfl) (grownBy_putObj' _ DD (.deferred none)) (fun r e => by cases e; exact ⟨_, hkk, rfl⟩)
    have hBf := hI3.setCell (p := ⟨w.heap.size + 1, 0, none⟩) (Nat.le_succ _) (.int .i64 0)
    refine ⟨.int .i64 0, ?_, by rw [hc], hBf.trans (belowK_b (w := w) (Nat.le_refl _) _ DD _ _ (by omega) hkk rfl rfl)⟩
    simp [results, Tryd.results16, go_sem, hc2]
  case stop =>
    rintro DD c k W hD hk ⟨⟨rfl, hok⟩, hI2, hI3, hI4⟩ hK
    have hc : chkP l = 80 := chk_bad hk hok
    gi_wp2
    refine ⟨by simp, .inl ⟨_, _, rfl, run_takeDeferred hK, ?_⟩⟩
    have hc2 := cell_kept (cellAt (i := 0) hI2 rfl) (grownBy_putObj' _ DD (.deferred none)) (fun r e => by cases e; exact ⟨_, hK, rfl⟩)
    refine ⟨.int .i64 80, ?_, by rw [hc], hI3.trans (belowK_b (w := w) (Nat.le_refl _) _ DD _ _ (by omega) hK rfl rfl)⟩
    simp [results, Tryd.results16, go_sem, hc2]
end Go.Proofs.YtbhpmeljmkoebaaDoor
