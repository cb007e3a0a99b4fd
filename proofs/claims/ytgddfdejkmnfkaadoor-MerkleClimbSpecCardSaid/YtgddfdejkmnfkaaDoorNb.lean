/- What meet carries: the texts of two ways, plainly; its boxes. -/
import Derived.Test.YtgddfdejkmnfkaaDoorMx
import Derived.Test.YtgddfdejkmnfkaaDoorMz
namespace Go.Proofs.YtgddfdejkmnfkaaDoor
open Go.RowKit

/-- The text at the place of the step k on a way. -/
def txM (n i : Nat) (leaf : List UInt8) (p : List (List UInt8)) : Nat → List UInt8
  | 0 => leafM leaf
  | k + 1 => if lone n i k = true then txM n i leaf p k else stepM (rowI i k) (clM n i leaf p k) (p.getD (used n i k) [])
theorem clM_tx (n i : Nat) (leaf : List UInt8) (p : List (List UInt8)) (k : Nat) : clM n i leaf p k = sha (txM n i leaf p k) := by
  induction k with
  | zero => rfl
  | succ k ih =>
    rw [clM, txM]
    split
    · exact ih
    · rfl
theorem leafM_inj {a b : List UInt8} (h : leafM a = leafM b) : a = b := List.append_cancel_left h
theorem stepM_inj {k : Nat} {d d' o o' : List UInt8} (hd : d.length = 32) (hd' : d'.length = 32) (h : stepM k d o = stepM k d' o') : d = d' := by
  unfold stepM at h
  split at h
  · have h2 : o ++ d = o' ++ d' := List.append_cancel_left h
    exact (List.append_inj' h2 (by omega)).2
  · have h2 : d ++ o = d' ++ o' := List.append_cancel_left h
    exact (List.append_inj h2 (by omega)).1
/-- Two leaves that differ: their ways' texts differ up to where their digests meet. -/
theorem tx_ne (n i : Nat) {a b : List UInt8} (hab : a ≠ b) (p q : List (List UInt8)) : ∀ K, (∀ j, j < K → clM n i a p j ≠ clM n i b q j) → txM n i a p K ≠ txM n i b q K := by
  intro K
  induction K with
  | zero => intro _ h; exact hab (leafM_inj h)
  | succ K ih =>
    intro hK
    rw [txM, txM]
    split
    · exact ih fun j hj => hK j (by omega)
    · intro h
      exact hK K (by omega) (stepM_inj (clM_len n i a p K) (clM_len n i b q K) h)
theorem OB.ne {W : World} {B b : Nat} {v : Value} {l : List UInt8} (h : OB W B v l) {cs : Array Value} {t : TypeId} {fr : Nat × Nat} (hb : W.heap[b]? = some (.cells cs t fr)) (ht : t ≠ 5) : v.ownBlock ≠ some b := fun e => by
  rcases h.2 with ⟨rfl, -⟩ | ⟨g, cap, cur, rfl, -, hg, -⟩
  · cases e
  · injection e with e
    subst e
    rw [hg] at hb
    injection hb with hb
    injection hb with h1 h2
    exact ht h2.symm
theorem OB.frE {E : List Nat} {w w' : World} {B : Nat} {v : Value} {l : List UInt8} (h : OB w B v l) (hf : Fr E w w') (hE : ∀ e ∈ E, v.ownBlock ≠ some e) : OB w' B v l := by
  refine ⟨h.1, ?_⟩
  rcases h.2 with h' | ⟨g, cap, cur, e, hb, hg, r⟩
  · exact .inl h'
  · exact .inr ⟨g, cap, cur, e, hb, hf.at_ hg (fun he => hE g he (by rw [e]; rfl)), r⟩
/-- The boxes of meet: the hash, both paths, both texts, both digests. -/
structure MB (w : World) (bs : Nat × Nat × Nat × Nat × Nat × Nat × Nat) (vp vq vx vy : Value) (da db : List UInt8) (W : World) : Prop where
  bel : Below w.heap.size w W
  bh : W.heap[bs.1]? = some (.cells #[.func (.func 21) #[] #[]] 45 (0, 0))
  bp : W.heap[bs.2.1]? = some (.cells #[vp] 25 (0, 0))
  bq : W.heap[bs.2.2.1]? = some (.cells #[vq] 25 (0, 0))
  bx : W.heap[bs.2.2.2.1]? = some (.cells #[vx] 34 (0, 0))
  bY : W.heap[bs.2.2.2.2.1]? = some (.cells #[vy] 34 (0, 0))
  bA : DB W bs.2.2.2.2.2.1 30 da
  bB : DB W bs.2.2.2.2.2.2 30 db
theorem MB.step {w : World} {bs : Nat × Nat × Nat × Nat × Nat × Nat × Nat} {vp vq vx vy : Value} {da db : List UInt8} {W W' : World} (h : MB w bs vp vq vx vy da db W) (hb : Below W.heap.size W W') : MB w bs vp vq vx vy da db W' :=
  ⟨h.bel.trans (hb.mono h.bel.size), blk_at h.bh hb, blk_at h.bp hb, blk_at h.bq hb, blk_at h.bx hb, blk_at h.bY hb, blk_at h.bA hb, blk_at h.bB hb⟩
/-- The blocks are new, and apart. -/
def Apt (w : World) (bs : Nat × Nat × Nat × Nat × Nat × Nat × Nat) : Prop :=
  w.heap.size ≤ bs.1 ∧ bs.1 < bs.2.1 ∧ bs.2.1 < bs.2.2.1 ∧ bs.2.2.1 < bs.2.2.2.1 ∧ bs.2.2.2.1 < bs.2.2.2.2.1 ∧ bs.2.2.2.2.1 < bs.2.2.2.2.2.1 ∧ bs.2.2.2.2.1 < bs.2.2.2.2.2.2 ∧ bs.2.2.2.2.2.1 ≠ bs.2.2.2.2.2.2
section
variable {w : World} {h1 p1 q1 x1 y1 gA gB : Nat} {vp vq vx vy : Value} {da db : List UInt8} {W : World}
theorem MB.lt (hM : MB w (h1, p1, q1, x1, y1, gA, gB) vp vq vx vy da db W) : h1 < W.heap.size ∧ p1 < W.heap.size ∧ q1 < W.heap.size ∧ x1 < W.heap.size ∧ y1 < W.heap.size ∧ gA < W.heap.size ∧ gB < W.heap.size :=
  ⟨(Array.getElem?_eq_some_iff.1 hM.bh).1, (Array.getElem?_eq_some_iff.1 hM.bp).1, (Array.getElem?_eq_some_iff.1 hM.bq).1, (Array.getElem?_eq_some_iff.1 hM.bx).1, (Array.getElem?_eq_some_iff.1 hM.bY).1, hM.bA.lt, hM.bB.lt⟩
theorem MB.putp (hA : Apt w (h1, p1, q1, x1, y1, gA, gB)) (hM : MB w (h1, p1, q1, x1, y1, gA, gB) vp vq vx vy da db W) (u : Value) : MB w (h1, p1, q1, x1, y1, gA, gB) u vq vx vy da db (W.setCell ⟨p1, 0, none⟩ u) := by
  simp only [Apt] at hA
  exact ⟨hM.bel.setCell (p := ⟨p1, 0, none⟩) (by simp; omega) _, (setOther 0 (by simp; omega)).trans hM.bh, setOne hM.bp, (setOther 0 (by simp; omega)).trans hM.bq, (setOther 0 (by simp; omega)).trans hM.bx, (setOther 0 (by simp; omega)).trans hM.bY, (setOther 0 (by simp; omega)).trans hM.bA, (setOther 0 (by simp; omega)).trans hM.bB⟩
theorem MB.putq (hA : Apt w (h1, p1, q1, x1, y1, gA, gB)) (hM : MB w (h1, p1, q1, x1, y1, gA, gB) vp vq vx vy da db W) (u : Value) : MB w (h1, p1, q1, x1, y1, gA, gB) vp u vx vy da db (W.setCell ⟨q1, 0, none⟩ u) := by
  simp only [Apt] at hA
  exact ⟨hM.bel.setCell (p := ⟨q1, 0, none⟩) (by simp; omega) _, (setOther 0 (by simp; omega)).trans hM.bh, (setOther 0 (by simp; omega)).trans hM.bp, setOne hM.bq, (setOther 0 (by simp; omega)).trans hM.bx, (setOther 0 (by simp; omega)).trans hM.bY, (setOther 0 (by simp; omega)).trans hM.bA, (setOther 0 (by simp; omega)).trans hM.bB⟩
theorem MB.putx (hA : Apt w (h1, p1, q1, x1, y1, gA, gB)) (hM : MB w (h1, p1, q1, x1, y1, gA, gB) vp vq vx vy da db W) (u : Value) : MB w (h1, p1, q1, x1, y1, gA, gB) vp vq u vy da db (W.setCell ⟨x1, 0, none⟩ u) := by
  simp only [Apt] at hA
  exact ⟨hM.bel.setCell (p := ⟨x1, 0, none⟩) (by simp; omega) _, (setOther 0 (by simp; omega)).trans hM.bh, (setOther 0 (by simp; omega)).trans hM.bp, (setOther 0 (by simp; omega)).trans hM.bq, setOne hM.bx, (setOther 0 (by simp; omega)).trans hM.bY, (setOther 0 (by simp; omega)).trans hM.bA, (setOther 0 (by simp; omega)).trans hM.bB⟩
theorem MB.puty (hA : Apt w (h1, p1, q1, x1, y1, gA, gB)) (hM : MB w (h1, p1, q1, x1, y1, gA, gB) vp vq vx vy da db W) (u : Value) : MB w (h1, p1, q1, x1, y1, gA, gB) vp vq vx u da db (W.setCell ⟨y1, 0, none⟩ u) := by
  simp only [Apt] at hA
  exact ⟨hM.bel.setCell (p := ⟨y1, 0, none⟩) (by simp; omega) _, (setOther 0 (by simp; omega)).trans hM.bh, (setOther 0 (by simp; omega)).trans hM.bp, (setOther 0 (by simp; omega)).trans hM.bq, (setOther 0 (by simp; omega)).trans hM.bx, setOne hM.bY, (setOther 0 (by simp; omega)).trans hM.bA, (setOther 0 (by simp; omega)).trans hM.bB⟩
theorem MB.putA (hA : Apt w (h1, p1, q1, x1, y1, gA, gB)) (hM : MB w (h1, p1, q1, x1, y1, gA, gB) vp vq vx vy da db W) (d : List UInt8) : MB w (h1, p1, q1, x1, y1, gA, gB) vp vq vx vy d db (W.setRow gA (BV d).toArray) := by
  simp only [Apt] at hA
  have hl := hM.lt
  exact ⟨below_row hM.bel _ (by omega) (by omega), (setRow_other _ _ _ _ (by simp; omega)).trans hM.bh, (setRow_other _ _ _ _ (by simp; omega)).trans hM.bp, (setRow_other _ _ _ _ (by simp; omega)).trans hM.bq, (setRow_other _ _ _ _ (by simp; omega)).trans hM.bx, (setRow_other _ _ _ _ (by simp; omega)).trans hM.bY, setRow_heap W gA _ (BV d).toArray _ _ hM.bA, (setRow_other _ _ _ _ (by simp; omega)).trans hM.bB⟩
theorem MB.putB (hA : Apt w (h1, p1, q1, x1, y1, gA, gB)) (hM : MB w (h1, p1, q1, x1, y1, gA, gB) vp vq vx vy da db W) (d : List UInt8) : MB w (h1, p1, q1, x1, y1, gA, gB) vp vq vx vy da d (W.setRow gB (BV d).toArray) := by
  simp only [Apt] at hA
  have hl := hM.lt
  exact ⟨below_row hM.bel _ (by omega) (by omega), (setRow_other _ _ _ _ (by simp; omega)).trans hM.bh, (setRow_other _ _ _ _ (by simp; omega)).trans hM.bp, (setRow_other _ _ _ _ (by simp; omega)).trans hM.bq, (setRow_other _ _ _ _ (by simp; omega)).trans hM.bx, (setRow_other _ _ _ _ (by simp; omega)).trans hM.bY, (setRow_other _ _ _ _ (by simp; omega)).trans hM.bA, setRow_heap W gB _ (BV d).toArray _ _ hM.bB⟩
end
/-- A region that makes two rows of zeros and stores d into one of them: what it leaves. -/
def R2 (d : List UInt8) (w w' : World) : Prop := w.heap.size ≤ w'.heap.size ∧ ∀ b, b < w.heap.size → w'.heap[b]? = w.heap[b]? ∨ (DB w b 30 zeroD ∧ DB w' b 30 d)
theorem R2.refl (d : List UInt8) (w : World) : R2 d w w := ⟨Nat.le_refl _, fun _ _ => .inl rfl⟩
theorem R2.below {d : List UInt8} {w w' : World} (h : Below w.heap.size w w') : R2 d w w' := ⟨h.size, fun b hb => .inl (h.block b hb)⟩
theorem R2.row {d : List UInt8} {w w' : World} {g : Nat} (h : R2 d w w') (hg : DB w g 30 zeroD ∨ DB w g 30 d) : DB w' g 30 zeroD ∨ DB w' g 30 d := by
  rcases h.2 g (by rcases hg with hg | hg <;> exact hg.lt) with h1 | h1
  · exact hg.imp (fun x => h1.trans x) (fun x => h1.trans x)
  · exact .inr h1.2
theorem R2.full {d : List UInt8} {w w' : World} {g : Nat} (h : R2 d w w') (hg : DB w g 30 d) : DB w' g 30 d := by
  rcases h.2 g hg.lt with h1 | h1
  · exact h1.trans hg
  · exact h1.2
theorem R2.store {d : List UInt8} {w : World} {g : Nat} (hg : DB w g 30 zeroD ∨ DB w g 30 d) : R2 d w (w.setRow g (BV d).toArray) ∧ DB (w.setRow g (BV d).toArray) g 30 d := by
  have hs : DB (w.setRow g (BV d).toArray) g 30 d := by
    rcases hg with hg | hg <;> exact setRow_heap w g _ (BV d).toArray _ _ hg
  refine ⟨⟨by simp, fun b hb => ?_⟩, hs⟩
  by_cases e : b = g
  · subst e
    rcases hg with hg | hg
    · exact .inr ⟨hg, hs⟩
    · exact .inl (hs.trans hg.symm)
  · exact .inl (setRow_other _ _ _ _ (by omega))
/-- The five boxes that meet makes first. -/
structure M5 (w : World) (vp vq vx vy : Value) (W : World) : Prop where
  bel : Below w.heap.size w W
  bh : W.heap[w.heap.size]? = some (.cells #[.func (.func 21) #[] #[]] 45 (0, 0))
  bp : W.heap[w.heap.size + 1]? = some (.cells #[vp] 25 (0, 0))
  bq : W.heap[w.heap.size + 1 + 1]? = some (.cells #[vq] 25 (0, 0))
  bx : W.heap[w.heap.size + 1 + 1 + 1]? = some (.cells #[vx] 34 (0, 0))
  bY : W.heap[w.heap.size + 1 + 1 + 1 + 1]? = some (.cells #[vy] 34 (0, 0))
theorem M5.step {w : World} {vp vq vx vy : Value} {W W' : World} (h : M5 w vp vq vx vy W) (hb : Below W.heap.size W W') : M5 w vp vq vx vy W' :=
  ⟨h.bel.trans (hb.mono h.bel.size), blk_at h.bh hb, blk_at h.bp hb, blk_at h.bq hb, blk_at h.bx hb, blk_at h.bY hb⟩
theorem M5.puts {w : World} {vp vq vx vy : Value} {W : World} (h : M5 w vp vq vx vy W) (u v : Value) : M5 w vp vq u v ((W.setCell ⟨w.heap.size + 1 + 1 + 1, 0, none⟩ u).setCell ⟨w.heap.size + 1 + 1 + 1 + 1, 0, none⟩ v) :=
  ⟨(h.bel.setCell (p := ⟨w.heap.size + 1 + 1 + 1, 0, none⟩) (by simp; omega) _).setCell (p := ⟨w.heap.size + 1 + 1 + 1 + 1, 0, none⟩) (by simp; omega) _,
    (setOther 0 (by omega)).trans ((setOther 0 (by omega)).trans h.bh), (setOther 0 (by omega)).trans ((setOther 0 (by omega)).trans h.bp), (setOther 0 (by omega)).trans ((setOther 0 (by omega)).trans h.bq),
    (setOther 0 (by omega)).trans (setOne h.bx), setOne ((setOther 0 (by omega)).trans h.bY)⟩
theorem M5.new (w : World) (vp vq : Value) : M5 w vp vq (.slice none 0 0) (.slice none 0 0) (((((w.alloc (.cells #[.func (.func 21) #[] #[]] 45)).alloc (.cells #[vp] 25)).alloc (.cells #[vq] 25)).alloc (.cells #[.slice none 0 0] 34)).alloc (.cells #[.slice none 0 0] 34)) := by
  have b1 := bel1 w (.cells #[.func (.func 21) #[] #[]] 45)
  have k1 := heap_alloc_new w (.cells #[.func (.func 21) #[] #[]] 45)
  obtain ⟨V1, hV1⟩ : ∃ V, w.alloc (.cells #[.func (.func 21) #[] #[]] 45) = V := ⟨_, rfl⟩
  have s1 : V1.heap.size = w.heap.size + 1 := by rw [← hV1]; simp
  rw [hV1] at b1 k1 ⊢
  have b2 := bel1 V1 (.cells #[vp] 25)
  have k2 := heap_alloc_new V1 (.cells #[vp] 25)
  obtain ⟨V2, hV2⟩ : ∃ V, V1.alloc (.cells #[vp] 25) = V := ⟨_, rfl⟩
  have s2 : V2.heap.size = w.heap.size + 1 + 1 := by rw [← hV2]; simp; omega
  rw [hV2] at b2 k2 ⊢
  have b3 := bel1 V2 (.cells #[vq] 25)
  have k3 := heap_alloc_new V2 (.cells #[vq] 25)
  obtain ⟨V3, hV3⟩ : ∃ V, V2.alloc (.cells #[vq] 25) = V := ⟨_, rfl⟩
  have s3 : V3.heap.size = w.heap.size + 1 + 1 + 1 := by rw [← hV3]; simp; omega
  rw [hV3] at b3 k3 ⊢
  have b4 := bel1 V3 (.cells #[.slice none 0 0] 34)
  have k4 := heap_alloc_new V3 (.cells #[.slice none 0 0] 34)
  obtain ⟨V4, hV4⟩ : ∃ V, V3.alloc (.cells #[.slice none 0 0] 34) = V := ⟨_, rfl⟩
  have s4 : V4.heap.size = w.heap.size + 1 + 1 + 1 + 1 := by rw [← hV4]; simp; omega
  rw [hV4] at b4 k4 ⊢
  have b5 := bel1 V4 (.cells #[.slice none 0 0] 34)
  have k5 := heap_alloc_new V4 (.cells #[.slice none 0 0] 34)
  rw [s1] at k2
  rw [s2] at k3
  rw [s3] at k4
  rw [s4] at k5
  exact ⟨(((b1.trans (b2.mono (by omega))).trans (b3.mono (by omega))).trans (b4.mono (by omega))).trans (b5.mono (by omega)), blk_at (blk_at (blk_at (blk_at k1 b2) b3) b4) b5, blk_at (blk_at (blk_at k2 b3) b4) b5, blk_at (blk_at k3 b4) b5, blk_at k4 b5, k5⟩
theorem M5.full {w : World} {vp vq vx vy : Value} {W : World} (h : M5 w vp vq vx vy W) {gA gB : Nat} (hA : w.heap.size + 1 + 1 + 1 + 1 < gA) (hB : w.heap.size + 1 + 1 + 1 + 1 < gB) (hne : gA ≠ gB) (kA : DB W gA 30 zeroD) (kB : DB W gB 30 zeroD) (a b : List UInt8) :
    MB w (w.heap.size, w.heap.size + 1, w.heap.size + 1 + 1, w.heap.size + 1 + 1 + 1, w.heap.size + 1 + 1 + 1 + 1, gA, gB) vp vq vx vy a b ((W.setRow gA (BV a).toArray).setRow gB (BV b).toArray) ∧ Apt w (w.heap.size, w.heap.size + 1, w.heap.size + 1 + 1, w.heap.size + 1 + 1 + 1, w.heap.size + 1 + 1 + 1 + 1, gA, gB) := by
  have hap : Apt w (w.heap.size, w.heap.size + 1, w.heap.size + 1 + 1, w.heap.size + 1 + 1 + 1, w.heap.size + 1 + 1 + 1 + 1, gA, gB) := by simp only [Apt]; omega
  have h0 : MB w (w.heap.size, w.heap.size + 1, w.heap.size + 1 + 1, w.heap.size + 1 + 1 + 1, w.heap.size + 1 + 1 + 1 + 1, gA, gB) vp vq vx vy zeroD zeroD W := ⟨h.bel, h.bh, h.bp, h.bq, h.bx, h.bY, kA, kB⟩
  exact ⟨(h0.putA hap a).putB hap b, hap⟩
theorem M5.lt {w : World} {vp vq vx vy : Value} {W : World} (h : M5 w vp vq vx vy W) : w.heap.size + 1 + 1 + 1 + 1 < W.heap.size := (Array.getElem?_eq_some_iff.1 h.bY).1
theorem OB.own {X Y : World} {B : Nat} {v : Value} {l : List UInt8} {row : Option Nat} (h : OB X B v l) (hg : X.grownBy Y row) (hr : ∀ r, row = some r → ∃ o : Obj, X.heap[r]? = some o ∧ o.isCells = false) : OB Y B v l := by
  refine World.ownsRow.kept h hg ?_
  by_cases hn : v.ownBlock = none
  · exact .inl hn
  · refine .inr fun e => ?_
    rcases h.2 with ⟨h0, -⟩ | ⟨g, cap, cur, h0, -, hgc, -⟩
    · rw [h0] at hn; exact hn rfl
    · rw [h0] at e
      obtain ⟨o, ho, hc⟩ := hr g e.symm
      rw [hgc] at ho
      cases ho
      cases hc
theorem MB.own {B : Nat} {w : World} {bs : Nat × Nat × Nat × Nat × Nat × Nat × Nat} {f g : Nat → Value → Prop} {a b x y : Nat → List UInt8} (hB : w.heap.size ≤ B) :
    OwnFrom B (fun k W => ∃ vp vq vx vy, f k vp ∧ g k vq ∧ MB w bs vp vq vx vy (a k) (b k) W ∧ OB W w.heap.size vx (x k) ∧ OB W w.heap.size vy (y k)) := fun k X Y row hs hg hr => by
  obtain ⟨vp, vq, vx, vy, h1, h2, h3, h4, h5⟩ := hs
  have hr2 := fun r e => (hr r e).2
  exact ⟨vp, vq, vx, vy, h1, h2, ⟨ownFrom_below (β := Unit) (w₀ := w) (Nat.le_refl _) hB () X Y row h3.bel hg hr, cellsOwn (β := Unit) _ (fun _ => _) _ () X Y row h3.bh hg hr2, cellsOwn (β := Unit) _ (fun _ => _) _ () X Y row h3.bp hg hr2, cellsOwn (β := Unit) _ (fun _ => _) _ () X Y row h3.bq hg hr2,
    cellsOwn (β := Unit) _ (fun _ => _) _ () X Y row h3.bx hg hr2, cellsOwn (β := Unit) _ (fun _ => _) _ () X Y row h3.bY hg hr2, cellsOwn (β := Unit) _ (fun _ => _) _ () X Y row h3.bA hg hr2, cellsOwn (β := Unit) _ (fun _ => _) _ () X Y row h3.bB hg hr2⟩, h4.own hg hr2, h5.own hg hr2⟩
/-- The boxes while a drawn region stores into four of them. -/
def MG (w W2 : World) (h1 p1 q1 x1 y1 gA gB : Nat) (vp vp' vq vq' vx vy : Value) (da da' db db' : List UInt8) (b10 b11 b12 b13 : Bool) (W : World) : Prop :=
  MB w (h1, p1, q1, x1, y1, gA, gB) (bif b12 then vp' else vp) (bif b13 then vq' else vq) vx vy (bif b10 then da' else da) (bif b11 then db' else db) W ∧ Fr [gA, gB, p1, q1] W2 W
section
variable {w W2 : World} {h1 p1 q1 x1 y1 gA gB : Nat} {vp vp' vq vq' vx vy : Value} {da da' db db' : List UInt8} {b10 b11 b12 b13 : Bool} {W W' : World}
theorem MG.step (h : MG w W2 h1 p1 q1 x1 y1 gA gB vp vp' vq vq' vx vy da da' db db' b10 b11 b12 b13 W) (hb : Below W.heap.size W W') : MG w W2 h1 p1 q1 x1 y1 gA gB vp vp' vq vq' vx vy da da' db db' b10 b11 b12 b13 W' := ⟨h.1.step hb, h.2.trans (Fr.of hb)⟩
theorem MG.sA (hA : Apt w (h1, p1, q1, x1, y1, gA, gB)) (h : MG w W2 h1 p1 q1 x1 y1 gA gB vp vp' vq vq' vx vy da da' db db' b10 b11 b12 b13 W) : MG w W2 h1 p1 q1 x1 y1 gA gB vp vp' vq vq' vx vy da da' db db' true b11 b12 b13 (W.setRow gA (BV da').toArray) := ⟨h.1.putA hA da', h.2.trans (Fr.row W _ (by simp))⟩
theorem MG.sB (hA : Apt w (h1, p1, q1, x1, y1, gA, gB)) (h : MG w W2 h1 p1 q1 x1 y1 gA gB vp vp' vq vq' vx vy da da' db db' b10 b11 b12 b13 W) : MG w W2 h1 p1 q1 x1 y1 gA gB vp vp' vq vq' vx vy da da' db db' b10 true b12 b13 (W.setRow gB (BV db').toArray) := ⟨h.1.putB hA db', h.2.trans (Fr.row W _ (by simp))⟩
theorem MG.sp (hA : Apt w (h1, p1, q1, x1, y1, gA, gB)) (h : MG w W2 h1 p1 q1 x1 y1 gA gB vp vp' vq vq' vx vy da da' db db' b10 b11 b12 b13 W) : MG w W2 h1 p1 q1 x1 y1 gA gB vp vp' vq vq' vx vy da da' db db' b10 b11 true b13 (W.setCell ⟨p1, 0, none⟩ vp') := ⟨h.1.putp hA vp', h.2.trans (Fr.cell W _ (by simp))⟩
theorem MG.sq (hA : Apt w (h1, p1, q1, x1, y1, gA, gB)) (h : MG w W2 h1 p1 q1 x1 y1 gA gB vp vp' vq vq' vx vy da da' db db' b10 b11 b12 b13 W) : MG w W2 h1 p1 q1 x1 y1 gA gB vp vp' vq vq' vx vy da da' db db' b10 b11 b12 true (W.setCell ⟨q1, 0, none⟩ vq') := ⟨h.1.putq hA vq', h.2.trans (Fr.cell W _ (by simp))⟩
end
/-- A drawn region outside of rounds, each operation knowing which others have come. -/
theorem wp_region_ord {P : Program} {rid : Nat} {ops : Array Oper} {Q : Exit → Act → World → Prop} {a0 : Act} {w : World} (G : (Nat → Bool) → World → Prop) (R : World → World → Prop) (F : Nat → Value → World → Prop)
    (hm : P.follows .mixedOrders = true) (hn : slotsApart ops.toList = true) (hd : edgesDown 0 ops.toList = true) (hin : ((dsts ops.toList).all fun d => d < a0.tmps.size) = true)
    (hstab : ∀ i v w w', R w w' → F i v w → F i v w')
    (hG : G (fun _ => false) w.drew) (hstep : StepsO P ops Q a0 G R F 0 ops.toList)
    (hend : ∀ (L : Nat → Bool) (T : Nat → Value) (w' : World), (∀ i, i < ops.size → L i = true) → G L w' → (∀ i o, ops[i]? = some o → F i (match o.dst with | some d => T d | none => undef) w') → Q .normal ⟨fillT T ops.toList a0.tmps, a0.defers⟩ w') :
    (Code.region rid ops true).wp P Q a0 w := by
  have none0 : ∀ {i : Nat}, i < ops.size → (Array.replicate ops.size false).getD i true = true → False := fun {i} hi hl => by
    rw [Array.getD_eq_getD_getElem?] at hl
    simp [hi] at hl
  have hL0 : (fun i => (Array.replicate ops.size false).getD i false) = fun _ => false := by
    funext i
    rw [Array.getD_eq_getD_getElem?]
    rcases Nat.lt_or_ge i ops.size with h | h
    · simp [h]
    · simp [Nat.not_lt.2 h]
  refine wp_region_any hm ?_
  refine wpAny_ord hn hd (fun d h => by simpa using List.all_eq_true.1 hin d h) hstab hstep (fun L a w' hL ha hG' hf => ?_) ops.size (Array.replicate ops.size false) a0 _ (by simp) (fun j o ho hl => (none0 (Array.getElem?_eq_some_iff.1 ho).1 hl).elim) (by omega) (Agree.refl _ _) (by rw [hL0]; exact hG) (fun i o ho hl => (none0 (Array.getElem?_eq_some_iff.1 ho).1 hl).elim)
  rw [ha.fill]
  refine hend L _ w' hL hG' fun i o ho => ?_
  have := hf i o ho
  unfold slotV at this
  exact this
/-- A row of cells is loaded in a region of a round. -/
theorem wpListIn_load_row {l n : Nat} {P : Program} {ops : Array Oper} {rest : List Oper} {o : Oper} {a : Act} {w : World} {Q : Exit → Act → World → Prop} (hgd : o.guard = none) (ty : TypeId) (x : Operand) (ho : o.op = .load ty x)
    (g : Nat) (hx : a.eval x = .pointer (some ⟨g, 0, none⟩)) (t : TypeId) (cs : Array Value) (fr : Nat × Nat) (d : TypeDesc) (hg : w.heap[g]? = some (.cells cs t fr))
    (hu : P.underlying ty = some d) (hd : (match d with | .struct _ | .array _ _ => true | _ => false) = true) (hi : (P.info? ty).map (·.size) = some cs.size)
    (h : wpListIn (Fence.wide.inRound l) n P ops Q rest (a.put o.dst (.agg cs)) w) : wpListIn (Fence.wide.inRound l) n P ops Q (o :: rest) a w :=
  wpListIn_plain hgd fun _ hK => oper_round l n (fun c e => by rw [ho] at e; cases e) (wp_load_row ty x ho g hx t cs fr d hg hu hd hi (hK _ _ h))
/-- What stands at the start of the round k. -/
def MI (w : World) (bs : Nat × Nat × Nat × Nat × Nat × Nat × Nat) (n ix : Nat) (la lb : List UInt8) (p q : List (List UInt8)) (k : Nat) (W : World) : Prop :=
  ∃ vp vq vx vy, PathV w p (used n ix k) vp ∧ PathV w q (used n ix k) vq ∧ MB w bs vp vq vx vy (clM n ix la p k) (clM n ix lb q k) W ∧ OB W w.heap.size vx (txM n ix la p k) ∧ OB W w.heap.size vy (txM n ix lb q k)
theorem MI.mk {w : World} {bs : Nat × Nat × Nat × Nat × Nat × Nat × Nat} {n ix : Nat} {la lb : List UInt8} {p q : List (List UInt8)} {k : Nat} {W : World} {vp vq vx vy : Value} (h1 : PathV w p (used n ix k) vp) (h2 : PathV w q (used n ix k) vq) (h3 : MB w bs vp vq vx vy (clM n ix la p k) (clM n ix lb q k) W)
    (h4 : OB W w.heap.size vx (txM n ix la p k)) (h5 : OB W w.heap.size vy (txM n ix lb q k)) : MI w bs n ix la lb p q k W := ⟨vp, vq, vx, vy, h1, h2, h3, h4, h5⟩
theorem MI.own {B : Nat} {w : World} {bs : Nat × Nat × Nat × Nat × Nat × Nat × Nat} {n ix : Nat} {la lb : List UInt8} {p q : List (List UInt8)} (hB : w.heap.size ≤ B) : OwnFrom B (fun k W => MI w bs n ix la lb p q k W) :=
  MB.own (f := fun k v => PathV w p (used n ix k) v) (g := fun k v => PathV w q (used n ix k) v) (a := fun k => clM n ix la p k) (b := fun k => clM n ix lb q k) (x := fun k => txM n ix la p k) (y := fun k => txM n ix lb q k) hB
theorem MI.alone {w : World} {bs : Nat × Nat × Nat × Nat × Nat × Nat × Nat} {n ix : Nat} {la lb : List UInt8} {p q : List (List UInt8)} {k : Nat} {W : World} (hL : lone n ix k = true) (h : MI w bs n ix la lb p q k W) : MI w bs n ix la lb p q (k + 1) W := by
  unfold MI at h ⊢
  rw [used, if_pos hL, clM, if_pos hL, clM, if_pos hL, txM, if_pos hL, txM, if_pos hL]
  exact h
theorem MI.two {w : World} {bs : Nat × Nat × Nat × Nat × Nat × Nat × Nat} {n ix : Nat} {la lb : List UInt8} {p q : List (List UInt8)} {k : Nat} {W : World} {vp vq vx vy : Value} (hL : lone n ix k = false) (h1 : PathV w p (used n ix k + 1) vp) (h2 : PathV w q (used n ix k + 1) vq)
    (h3 : MB w bs vp vq vx vy (sha (stepM (rowI ix k) (clM n ix la p k) (p.getD (used n ix k) []))) (sha (stepM (rowI ix k) (clM n ix lb q k) (q.getD (used n ix k) []))) W)
    (h4 : OB W w.heap.size vx (stepM (rowI ix k) (clM n ix la p k) (p.getD (used n ix k) []))) (h5 : OB W w.heap.size vy (stepM (rowI ix k) (clM n ix lb q k) (q.getD (used n ix k) []))) : MI w bs n ix la lb p q (k + 1) W := by
  have hL' : ¬ lone n ix k = true := by rw [hL]; simp
  unfold MI
  rw [used, if_neg hL', clM, if_neg hL', clM, if_neg hL', txM, if_neg hL', txM, if_neg hL']
  exact ⟨vp, vq, vx, vy, h1, h2, h3, h4, h5⟩
theorem MI.step {w : World} {bs : Nat × Nat × Nat × Nat × Nat × Nat × Nat} {n ix : Nat} {la lb : List UInt8} {p q : List (List UInt8)} {k : Nat} {W W' : World} (h : MI w bs n ix la lb p q k W) (hb : Below W.heap.size W W') : MI w bs n ix la lb p q k W' := by
  obtain ⟨vp, vq, vx, vy, h1, h2, h3, h4, h5⟩ := h
  exact ⟨vp, vq, vx, vy, h1, h2, h3.step hb, h4.below hb, h5.below hb⟩
/-- What stands while the results are stored over themselves. -/
def FQ (w : World) (h1 p1 q1 x1 y1 gA gB : Nat) (vp vq vx vy : Value) (da db tx ty : List UInt8) (DD : Nat) (W : World) : Prop :=
  MB w (h1, p1, q1, x1, y1, gA, gB) vp vq vx vy da db W ∧ OB W w.heap.size vx tx ∧ OB W w.heap.size vy ty ∧ W.heap[DD]? = some (.deferred (some []))
theorem FQ.x {w : World} {h1 p1 q1 x1 y1 gA gB : Nat} {vp vq vx vy : Value} {da db tx ty : List UInt8} {DD : Nat} {W : World} (hA : Apt w (h1, p1, q1, x1, y1, gA, gB)) (hD : x1 ≠ DD) (h : FQ w h1 p1 q1 x1 y1 gA gB vp vq vx vy da db tx ty DD W) : FQ w h1 p1 q1 x1 y1 gA gB vp vq vx vy da db tx ty DD (W.setCell ⟨x1, 0, none⟩ vx) :=
  ⟨h.1.putx hA vx, h.2.1.frE (Fr.cell (E := [x1]) W vx (by simp)) (by simp only [List.mem_cons, List.not_mem_nil, or_false]; rintro e rfl; exact h.2.1.ne h.1.bx (by decide)),
    h.2.2.1.frE (Fr.cell (E := [x1]) W vx (by simp)) (by simp only [List.mem_cons, List.not_mem_nil, or_false]; rintro e rfl; exact h.2.2.1.ne h.1.bx (by decide)), (setOther 0 (fun e => hD e.symm)).trans h.2.2.2⟩
theorem FQ.y {w : World} {h1 p1 q1 x1 y1 gA gB : Nat} {vp vq vx vy : Value} {da db tx ty : List UInt8} {DD : Nat} {W : World} (hA : Apt w (h1, p1, q1, x1, y1, gA, gB)) (hD : y1 ≠ DD) (h : FQ w h1 p1 q1 x1 y1 gA gB vp vq vx vy da db tx ty DD W) : FQ w h1 p1 q1 x1 y1 gA gB vp vq vx vy da db tx ty DD (W.setCell ⟨y1, 0, none⟩ vy) :=
  ⟨h.1.puty hA vy, h.2.1.frE (Fr.cell (E := [y1]) W vy (by simp)) (by simp only [List.mem_cons, List.not_mem_nil, or_false]; rintro e rfl; exact h.2.1.ne h.1.bY (by decide)),
    h.2.2.1.frE (Fr.cell (E := [y1]) W vy (by simp)) (by simp only [List.mem_cons, List.not_mem_nil, or_false]; rintro e rfl; exact h.2.2.1.ne h.1.bY (by decide)), (setOther 0 (fun e => hD e.symm)).trans h.2.2.2⟩
end Go.Proofs.YtgddfdejkmnfkaaDoor
