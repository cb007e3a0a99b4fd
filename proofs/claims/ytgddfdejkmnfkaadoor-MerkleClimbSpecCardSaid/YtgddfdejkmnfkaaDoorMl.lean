/- Worlds that differ in some boxes; what a path is while its leaf climbs. -/
import Derived.Test.YtgddfdejkmnfkaaDoorMr
import Derived.Test.YtgddfdejkmnfkaaDoorIo
import Derived.Laws.ResultCell
namespace Go.Proofs.YtgddfdejkmnfkaaDoor
open Go.RowKit Go.Shelf

/-- All that lay in w lies as it did, but for the boxes E. -/
structure Fr (E : List Nat) (w w' : World) : Prop where
  size : w.heap.size ≤ w'.heap.size
  block : ∀ b, b < w.heap.size → b ∉ E → w'.heap[b]? = w.heap[b]?
theorem Fr.refl (E : List Nat) (w : World) : Fr E w w := ⟨Nat.le_refl _, fun _ _ _ => rfl⟩
theorem Fr.of {E : List Nat} {w w' : World} (h : Below w.heap.size w w') : Fr E w w' := ⟨h.size, fun b hb _ => h.block b hb⟩
theorem Fr.trans {E : List Nat} {a b c : World} (h : Fr E a b) (k : Fr E b c) : Fr E a c := ⟨Nat.le_trans h.size k.size, fun i hi he => (k.block i (Nat.lt_of_lt_of_le hi h.size) he).trans (h.block i hi he)⟩
theorem Fr.row {E : List Nat} (w : World) {g : Nat} (cs : Array Value) (hg : g ∈ E) : Fr E w (w.setRow g cs) := ⟨by simp, fun b _ he => setRow_other w g b cs (fun e => he (e ▸ hg))⟩
theorem Fr.cell {E : List Nat} (w : World) {g : Nat} (v : Value) (hg : g ∈ E) : Fr E w (w.setCell ⟨g, 0, none⟩ v) := ⟨by simp, fun b _ he => setOther 0 (fun e => he (e ▸ hg))⟩
theorem Fr.at_ {E : List Nat} {w w' : World} (h : Fr E w w') {g : Nat} {o : Obj} (hg : w.heap[g]? = some o) (he : g ∉ E) : w'.heap[g]? = some o := (h.block g (Array.getElem?_eq_some_iff.1 hg).1 he).trans hg
theorem OB.fr {E : List Nat} {w w' : World} {B : Nat} {v : Value} {l : List UInt8} (h : OB w B v l) (hf : Fr E w w') (hE : ∀ e ∈ E, e < B) : OB w' B v l := by
  refine ⟨h.1, ?_⟩
  rcases h.2 with h1 | ⟨g, cap, cur, h1, h2, h3, h4⟩
  · exact .inl h1
  · exact .inr ⟨g, cap, cur, h1, h2, hf.at_ h3 (fun he => by have := hE g he; omega), h4⟩
theorem below_row {w w' : World} {B g : Nat} (h : Below B w w') (c : Array Value) (hg : B ≤ g) (hB : B ≤ w'.heap.size) : Below B w (w'.setRow g c) := h.grown (grownBy_setRow _ _ _) hB (fun k e => by injection e with e; omega)
theorem DB.same {w w' : World} {g : Nat} {T : TypeId} {d : List UInt8} (h : DB w g T d) (e : w'.heap[g]? = w.heap[g]?) : DB w' g T d := e.trans h
theorem range_of {W : World} {g : Nat} {T : TypeId} {d : List UInt8} (h : DB W g T d) : W.rangeAt g 0 (BV d) := fun j v hv => by
  rw [cell_of_row W g (0 + j) _ _ _ h]; simpa using hv
/-- A box with a value, one that turns or not. -/
def boxOwn {β : Type} (B : Nat) (p : β → Value → Prop) (t : TypeId) (k : β) (W : World) : Prop := ∃ v, p k v ∧ W.heap[B]? = some (.cells #[v] t (0, 0))
theorem boxOwn_own {β : Type} (B : Nat) (p : β → Value → Prop) (t : TypeId) : Own (boxOwn B p t) := fun k X Y row hs hg hr => by
  obtain ⟨v, h1, h2⟩ := hs
  exact ⟨v, h1, cellsOwn (β := Unit) _ (fun _ => _) _ () X Y row h2 hg hr⟩
/-- The digest at the place of the step k on a way. -/
def clM (n i : Nat) (leaf : List UInt8) (p : List (List UInt8)) : Nat → List UInt8
  | 0 => sha (leafM leaf)
  | k + 1 => if lone n i k = true then clM n i leaf p k else sha (stepM (rowI i k) (clM n i leaf p k) (p.getD (used n i k) []))
theorem clM_len (n i : Nat) (leaf : List UInt8) (p : List (List UInt8)) (k : Nat) : (clM n i leaf p k).length = 32 := by
  induction k with
  | zero => exact sha_length _
  | succ k ih =>
    rw [clM]
    split
    · exact ih
    · exact sha_length _
theorem stepM_len {k : Nat} {d o : List UInt8} (hd : d.length = 32) (ho : o.length = 32) : (stepM k d o).length = 96 := by
  unfold stepM
  split
  · exact nodeM_len ho hd
  · exact nodeM_len hd ho
/-- What is left of a path, as it is read. -/
def PathV (w : World) (p : List (List UInt8)) (u : Nat) (v : Value) : Prop := ∃ a c, v = .slice a (p.length - u) c ∧ RD w w.heap.size (p.drop u) a c
theorem PathV.next {w : World} {p : List (List UInt8)} {u : Nat} {v : Value} (h : PathV w p u v) (hu : u < p.length) :
    ∃ b off c a' c', v = .slice (some ⟨b, off, none⟩) (p.length - u) c ∧ b < w.heap.size ∧ w.rangeAt b off (BV (p.getD u [])) ∧ (p.getD u []).length = 32 ∧
      (∀ W, (Instr.slice 25 (.slice (some ⟨b, off, none⟩) (p.length - u) c) (some (.int .i64 1)) none none).run Tryd.prog W = .ok (.slice a' (p.length - (u + 1)) c') W) ∧ PathV w p (u + 1) (.slice a' (p.length - (u + 1)) c') := by
  obtain ⟨a, c, rfl, hR⟩ := h
  have hl : (p.drop u).length = p.length - u := List.length_drop
  obtain ⟨b, off, rfl, hb, hr⟩ := hR.at_ (i := 0) (by omega)
  obtain ⟨a', hs, hR'⟩ := hR.from_ (k := 1) (by omega)
  have hg : (p.drop u)[0]'(by omega) = p.getD u [] := by rw [List.getElem_drop, List.getD_eq_getElem?_getD, List.getElem?_eq_getElem (by omega)]; rfl
  rw [hg, Nat.zero_mul, Nat.add_zero] at hr
  rw [hl, show p.length - u - 1 = p.length - (u + 1) by omega] at hs
  rw [List.drop_drop] at hR'
  refine ⟨b, off, c, a', c - 1, rfl, hb, hr, ?_, hs, ⟨a', c - 1, rfl, hR'⟩⟩
  rw [← hg]
  exact hR.2.2.1 _ (List.getElem_mem _)
theorem results_row_tmp {P : Program} {fn : Func} {p u : Tmp} {ty : TypeId} (h : fn.results = #[.cell p ty, .tmp u]) (tmps : Array Value) (w : World) (g : Nat) (t : TypeId) (cs : Array Value) (fr : Nat × Nat) (d : TypeDesc)
    (hp : tmps.getD p undef = .pointer (some ⟨g, 0, none⟩)) (hg : w.heap[g]? = some (.cells cs t fr))
    (hu : P.underlying ty = some d) (hd : (match d with | .struct _ | .array _ _ => true | _ => false) = true) (hi : (P.info? ty).map (·.size) = some cs.size) :
    (results fn tmps).run P w = .ok (.tuple #[.agg cs, tmps.getD u undef]) w := by
  rw [results_cell_tmp h, hp]
  simp [asAddr, Result.andThen, run_loadVar_row w g t ty cs fr d hg hu hd hi]

def zeroD : List UInt8 := List.replicate 32 0
theorem zero_new (w : World) : DB (w.alloc (.cells #[.int .u8 0, .int .u8 0, .int .u8 0, .int .u8 0, .int .u8 0, .int .u8 0, .int .u8 0, .int .u8 0, .int .u8 0, .int .u8 0, .int .u8 0, .int .u8 0, .int .u8 0, .int .u8 0, .int .u8 0, .int .u8 0, .int .u8 0, .int .u8 0, .int .u8 0, .int .u8 0, .int .u8 0, .int .u8 0, .int .u8 0, .int .u8 0, .int .u8 0, .int .u8 0, .int .u8 0, .int .u8 0, .int .u8 0, .int .u8 0, .int .u8 0, .int .u8 0] 30)) w.heap.size 30 zeroD := heap_alloc_new w _
/-- A hash, as a value. -/
def hashV : Value := .func (.func 21) #[] #[]
/-- The boxes of climb: the hash, what is left of the path, the digest. -/
structure CB (w : World) (v : Value) (d : List UInt8) (W : World) : Prop where
  bel : Below w.heap.size w W
  bh : W.heap[w.heap.size]? = some (.cells #[.func (.func 21) #[] #[]] 45 (0, 0))
  bp : W.heap[w.heap.size + 1]? = some (.cells #[v] 25 (0, 0))
  bd : DB W (w.heap.size + 1 + 1) 30 d
theorem CB.step {w : World} {v : Value} {d : List UInt8} {W W' : World} (h : CB w v d W) (hb : Below W.heap.size W W') : CB w v d W' := ⟨h.bel.trans (hb.mono h.bel.size), blk_at h.bh hb, blk_at h.bp hb, blk_at h.bd hb⟩
theorem CB.new (w : World) (v : Value) : CB w v zeroD (((w.alloc (.cells #[.func (.func 21) #[] #[]] 45)).alloc (.cells #[v] 25)).alloc (.cells #[.int .u8 0, .int .u8 0, .int .u8 0, .int .u8 0, .int .u8 0, .int .u8 0, .int .u8 0, .int .u8 0, .int .u8 0, .int .u8 0, .int .u8 0, .int .u8 0, .int .u8 0, .int .u8 0, .int .u8 0, .int .u8 0, .int .u8 0, .int .u8 0, .int .u8 0, .int .u8 0, .int .u8 0, .int .u8 0, .int .u8 0, .int .u8 0, .int .u8 0, .int .u8 0, .int .u8 0, .int .u8 0, .int .u8 0, .int .u8 0, .int .u8 0, .int .u8 0] 30)) := by
  have b1 := bel1 w (.cells #[.func (.func 21) #[] #[]] 45)
  have k1 := heap_alloc_new w (.cells #[.func (.func 21) #[] #[]] 45)
  obtain ⟨V1, hV1⟩ : ∃ V, w.alloc (.cells #[.func (.func 21) #[] #[]] 45) = V := ⟨_, rfl⟩
  have s1 : V1.heap.size = w.heap.size + 1 := by rw [← hV1]; simp
  rw [hV1] at b1 k1 ⊢
  have b2 := bel1 V1 (.cells #[v] 25)
  have k2 := heap_alloc_new V1 (.cells #[v] 25)
  obtain ⟨V2, hV2⟩ : ∃ V, V1.alloc (.cells #[v] 25) = V := ⟨_, rfl⟩
  have s2 : V2.heap.size = w.heap.size + 1 + 1 := by rw [← hV2]; simp; omega
  rw [hV2] at b2 k2 ⊢
  have b3 := bel1 V2 (.cells #[.int .u8 0, .int .u8 0, .int .u8 0, .int .u8 0, .int .u8 0, .int .u8 0, .int .u8 0, .int .u8 0, .int .u8 0, .int .u8 0, .int .u8 0, .int .u8 0, .int .u8 0, .int .u8 0, .int .u8 0, .int .u8 0, .int .u8 0, .int .u8 0, .int .u8 0, .int .u8 0, .int .u8 0, .int .u8 0, .int .u8 0, .int .u8 0, .int .u8 0, .int .u8 0, .int .u8 0, .int .u8 0, .int .u8 0, .int .u8 0, .int .u8 0, .int .u8 0] 30)
  have k3 := zero_new V2
  rw [s1] at k2
  rw [s2] at k3
  exact ⟨(b1.trans (b2.mono (by omega))).trans (b3.mono (by omega)), blk_at (blk_at k1 b2) b3, blk_at k2 b3, k3⟩
theorem CB.own {B : Nat} {w : World} {f : Nat → Value → Prop} {g : Nat → List UInt8} (hB : w.heap.size ≤ B) : OwnFrom B (fun k W => ∃ v, f k v ∧ CB w v (g k) W) := fun k X Y row hs hg hr => by
  obtain ⟨v, h1, h2⟩ := hs
  have hr2 := fun r e => (hr r e).2
  exact ⟨v, h1, ownFrom_below (β := Unit) (w₀ := w) (Nat.le_refl _) hB () X Y row h2.bel hg hr, cellsOwn (β := Unit) _ (fun _ => _) _ () X Y row h2.bh hg hr2, cellsOwn (β := Unit) _ (fun _ => _) _ () X Y row h2.bp hg hr2, cellsOwn (β := Unit) _ (fun _ => _) _ () X Y row h2.bd hg hr2⟩
theorem Fr.keeps {E : List Nat} {w w' : World} {B : Nat} (h : Fr E w w') (hE : ∀ e ∈ E, e < B) : KeepsFrom B w w' := ⟨h.size, fun k o hB hk _ => h.at_ hk (fun he => by have := hE k he; omega)⟩
/-- The boxes of climb while a drawn region stores into two of them: b10: the digest has been stored, b11: the path. -/
def CG (w W1 : World) (v v' : Value) (d d' : List UInt8) (b10 b11 : Bool) (W : World) : Prop := CB w (bif b11 then v' else v) (bif b10 then d' else d) W ∧ Fr [w.heap.size + 1, w.heap.size + 1 + 1] W1 W
theorem CG.step {w W1 : World} {v v' : Value} {d d' : List UInt8} {b10 b11 : Bool} {W W' : World} (h : CG w W1 v v' d d' b10 b11 W) (hb : Below W.heap.size W W') : CG w W1 v v' d d' b10 b11 W' := ⟨h.1.step hb, h.2.trans (Fr.of hb)⟩
theorem CB.lt {w : World} {v : Value} {d : List UInt8} {W : World} (h : CB w v d W) : w.heap.size + 1 + 1 < W.heap.size := (Array.getElem?_eq_some_iff.1 (show W.heap[w.heap.size + 1 + 1]? = some _ from h.bd)).1
theorem CG.dig {w W1 : World} {v v' : Value} {d d' : List UInt8} {b10 b11 : Bool} (W : World) (h : CG w W1 v v' d d' b10 b11 W) (cs : Array Value) (hc : cs = (BV d').toArray) : CG w W1 v v' d d' true b11 (W.setRow (w.heap.size + 1 + 1) cs) := by
  subst hc
  have hlt := h.1.lt
  exact ⟨⟨below_row h.1.bel _ (by omega) (by omega), (setRow_other _ _ _ _ (by omega)).trans h.1.bh, (setRow_other _ _ _ _ (by omega)).trans h.1.bp, setRow_heap W (w.heap.size + 1 + 1) _ (BV d').toArray _ _ h.1.bd⟩, h.2.trans (Fr.row W _ (by simp))⟩
theorem CG.pth {w W1 : World} {v v' : Value} {d d' : List UInt8} {b10 b11 : Bool} (W : World) (h : CG w W1 v v' d d' b10 b11 W) (u : Value) (hu : u = v') : CG w W1 v v' d d' b10 true (W.setCell ⟨w.heap.size + 1, 0, none⟩ u) := by
  subst hu
  exact ⟨⟨h.1.bel.setCell (p := ⟨w.heap.size + 1, 0, none⟩) (by simp) _, (setOther 0 (by omega)).trans h.1.bh, setOne h.1.bp, (setOther 0 (by omega)).trans h.1.bd⟩, h.2.trans (Fr.cell W _ (by simp))⟩
/-- climb, plainly. -/
def climbP (n i : Int) (leaf : List UInt8) (p : List (List UInt8)) : List UInt8 × Int :=
  if isPl n i = false then (zeroD, 1) else if p.length ≠ pathN n.toNat i.toNat then (zeroD, 70) else (clM n.toNat i.toNat leaf p (rows n.toNat), 0)
theorem isPl_iff {n i : Int} : isPl n i = true ↔ n ≤ 65536 ∧ 0 ≤ i ∧ i < n := by unfold isPl; simp
theorem climbP_len (n i : Int) (leaf : List UInt8) (p : List (List UInt8)) : (climbP n i leaf p).1.length = 32 := by
  unfold climbP
  split
  · rfl
  · split
    · rfl
    · exact clM_len _ _ _ _ _
end Go.Proofs.YtgddfdejkmnfkaaDoor
