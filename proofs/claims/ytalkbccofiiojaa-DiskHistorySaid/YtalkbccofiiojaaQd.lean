/- A disk's reading does not run through boxes of disks: it is kept where only such boxes change. -/
import Derived.Test.YtalkbccofiiojaaLs
import Derived.Test.YtalkbccofiiojaaNx
import Derived.Test.YtalkbccofiiojaaTp
namespace Go.Proofs.Ytalkbccofiiojaa
open Go.RowKit

theorem isBox_or {W W' : World} {g : Nat} {x0 x1 x2 x3 : Value} (h : IsBox W g) (hb : ∀ b, b < W.heap.size → W'.heap[b]? = W.heap[b]? ∨ (IsBox W b ∧ W'.heap[b]? = some (.cells #[x0, x1, x2, x3] 25 (0, 0)))) : IsBox W' g := by
  obtain ⟨a0, a1, a2, a3, h⟩ := h
  rcases hb g (Array.getElem?_eq_some_iff.1 h).1 with h1 | ⟨-, h1⟩
  · exact ⟨_, _, _, _, h1.trans h⟩
  · exact ⟨_, _, _, _, h1⟩

/-- A disk in a box. -/
def Bx (w : World) (g : Nat) (S : Nat → Prop) (x : Dk) : Prop := ∃ A c A' c', KB w g A c A' c' x ∧ DR w S A c A' c' x
/-- Where the disks of the law's variables lie: before the call, or behind its boxes. -/
def Sv (m n : Nat) (W : World) (b : Nat) : Prop := b < m ∨ (n ≤ b ∧ b < W.heap.size)
theorem Sv.lt {m n : Nat} {W : World} (h1 : m ≤ n) (h2 : n ≤ W.heap.size) (b : Nat) (h : Sv m n W b) : b < W.heap.size := by
  unfold Sv at h; omega
theorem Sv.up {m n : Nat} {W W' : World} (hb : W.heap.size ≤ W'.heap.size) (b : Nat) (h : Sv m n W b) : Sv m n W' b := by
  unfold Sv at *; omega
theorem Sv.sn {m n : Nat} {W W' : World} (hn : n ≤ W.heap.size) (hb : W.heap.size ≤ W'.heap.size) (b : Nat) (h : Sn (Sv m n W) W W' b) : Sv m n W' b := by
  unfold Sn Sv at *; omega
theorem Bx.step {m n g : Nat} {W W' : World} {x : Dk} (h : Bx W g (Sv m n W) x) (h1 : m ≤ n) (h2 : n ≤ W.heap.size) (hb : Below W.heap.size W W') : Bx W' g (Sv m n W') x := by
  obtain ⟨A, c, A', c', hk, hd⟩ := h
  exact ⟨A, c, A', c', hk.step hb, (hd.keep (Kept.of (Sv.lt h1 h2) hb)).mono fun b h => Sv.up hb.size b h⟩

/-- A box whose two lists can't be taken for a sector and its bytes. -/
def Qb (n : Nat) (W : World) (b : Nat) : Prop := ∃ A l0 c A' l1 c' z t, W.heap[b]? = some (.cells #[.slice A l0 c, .slice A' l1 c', .int .i64 z, .bool t] 25 (0, 0)) ∧ (l0 = 0 ∨ l0 = n) ∧ l1 ≠ 128
theorem Qb.cell {n : Nat} {W : World} {b o : Nat} {v : Value} (h : Qb n W b) (hc : W.cell? ⟨b, o, none⟩ = some v) : (o = 0 ∧ ∃ A l c, v = .slice A l c ∧ (l = 0 ∨ l = n)) ∨ (o = 1 ∧ ∃ A l c, v = .slice A l c ∧ l ≠ 128) ∨ (o = 2 ∧ ∃ z, v = .int .i64 z) ∨ (o = 3 ∧ ∃ t, v = .bool t) := by
  obtain ⟨A, l0, c, A', l1, c', z, t, hb, h0, h1⟩ := h
  have hl : World.cell? W ⟨b, o, none⟩ = (#[.slice A l0 c, .slice A' l1 c', .int .i64 z, .bool t] : Array Value)[o]? := cell_of_row W b o _ _ _ hb
  rw [hl] at hc
  match o, hc with
  | 0, hc => injection hc with hc; exact .inl ⟨rfl, A, l0, c, hc.symm, h0⟩
  | 1, hc => injection hc with hc; exact .inr (.inl ⟨rfl, A', l1, c', hc.symm, h1⟩)
  | 2, hc => injection hc with hc; exact .inr (.inr (.inl ⟨rfl, z, hc.symm⟩))
  | 3, hc => injection hc with hc; exact .inr (.inr (.inr ⟨rfl, t, hc.symm⟩))
  | _ + 4, hc => simp at hc
def Qk (n : Nat) (W W' : World) : Prop := ∀ b, b < W.heap.size → W'.heap[b]? = W.heap[b]? ∨ Qb n W b
theorem Qk.cell {n : Nat} {W W' : World} {b o : Nat} {v : Value} (h : Qk n W W') (hc : W.cell? ⟨b, o, none⟩ = some v) (hq : ¬ Qb n W b) : W'.cell? ⟨b, o, none⟩ = some v := by
  rcases h b (World.block_lt_of_cell? W ⟨b, o, none⟩ hc) with h1 | h1
  · rw [World.cell?_of_block h1]; exact hc
  · exact absurd h1 hq
theorem RBs.q {n : Nat} {W W' : World} {S : Nat → Prop} {A : Option Addr} {bs : List UInt8} (h : RBs W S A bs) (hk : Qk n W W') : RBs W' S A bs := fun hp => by
  obtain ⟨b, off, e, hs, hc⟩ := h hp
  refine ⟨b, off, e, hs, fun j hj => hk.cell (hc j hj) fun hq => ?_⟩
  rcases hq.cell (hc j hj) with ⟨-, _, _, _, h, -⟩ | ⟨-, _, _, _, h, -⟩ | ⟨-, _, h⟩ | ⟨-, _, h⟩
  · cases h
  · cases h
  · injection h with h _; cases h
  · cases h
theorem DB.qk {n : Nat} {W W' : World} {g : Nat} {bs : List UInt8} (h : DB W g bs) (hk : Qk n W W') : DB W' g bs := by
  rcases hk g h.lt with h1 | ⟨A, l0, c, A1, l1, c1, z, t, h1, -⟩
  · exact h1.trans h
  · unfold DB at h; rw [h] at h1; injection h1 with h1; injection h1 with _ h1 _; exact absurd h1 (by decide)
theorem Row.q {n : Nat} {W W' : World} {S : Nat → Prop} {v : Value} {bs : List UInt8} (h : Row W S v bs) (hk : Qk n W W') : Row W' S v bs := by
  obtain ⟨A, c, e, h1, h2, h3⟩ := h
  exact ⟨A, c, e, h1, h2, h3.q hk⟩
theorem SR.q {W W' : World} {S : Nat → Prop} {A : Option Addr} {ls : List (List UInt8)} (h : SR W S A ls) (h128 : ∀ s ∈ ls, s.length = 128) (hk : Qk ls.length W W') : SR W' S A ls := fun hp => by
  obtain ⟨b, off, e, hs, hc⟩ := h hp
  have hnq : ¬ Qb ls.length W b := fun hq => by
    obtain ⟨v, h1, A1, c1, rfl, -⟩ := hc 0 hp
    rw [h128 _ (List.getElem_mem hp)] at h1
    rcases hq.cell h1 with ⟨h0, _, l, _, h, hl⟩ | ⟨-, _, l, _, h, hl⟩ | ⟨-, _, h⟩ | ⟨-, _, h⟩
    · injection h with _ h _
      subst h
      have hl : 128 = ls.length := by omega
      obtain ⟨v, h3, A3, c3, rfl, -⟩ := hc 3 (by omega)
      rcases hq.cell h3 with ⟨h0, -⟩ | ⟨h0, -⟩ | ⟨h0, -⟩ | ⟨-, _, h⟩
      · omega
      · omega
      · omega
      · cases h
    · injection h with _ h _
      omega
    · cases h
    · cases h
  refine ⟨b, off, e, hs, fun i hi => ?_⟩
  obtain ⟨v, h1, h2⟩ := hc i hi
  exact ⟨v, hk.cell h1 hnq, h2.q hk⟩
theorem PR.q {n : Nat} {W W' : World} {S : Nat → Prop} {A : Option Addr} {ps : List Wr} (h : PR W S A ps) (hk : Qk n W W') : PR W' S A ps := fun hp => by
  obtain ⟨b, off, e, hs, hc⟩ := h hp
  have hnq : ¬ Qb n W b := fun hq => by
    obtain ⟨v, h0, h1, ⟨A1, c1, rfl, -⟩, -⟩ := hc 0 hp
    rcases hq.cell h0 with ⟨-, _, _, _, h, -⟩ | ⟨-, _, _, _, h, -⟩ | ⟨h2, -⟩ | ⟨-, _, h⟩
    · cases h
    · cases h
    · rcases hq.cell h1 with ⟨h3, -⟩ | ⟨h3, -⟩ | ⟨h3, -⟩ | ⟨-, _, h⟩
      · omega
      · omega
      · omega
      · cases h
    · cases h
  refine ⟨b, off, e, hs, fun i hi => ?_⟩
  obtain ⟨v, h0, h1, h2, h3⟩ := hc i hi
  exact ⟨v, hk.cell h0 hnq, hk.cell h1 hnq, h2.q hk, h3⟩
theorem DR.q {n : Nat} {W W' : World} {S : Nat → Prop} {A A' : Option Addr} {c c' : Nat} {x : Dk} (h : DR W S A c A' c' x) (hn : x.secs.length = n) (h128 : ∀ s ∈ x.secs, s.length = 128) (hk : Qk n W W') : DR W' S A c A' c' x := by
  subst hn
  exact ⟨h.cap, h.max, h.cap', h.max', h.secs.q h128 hk, h.pend.q hk, h.left⟩
theorem Bx.qb {W : World} {g n : Nat} {S : Nat → Prop} {x : Dk} (h : Bx W g S x) (hn : x.secs.length = n) (hp : x.pend.length ≠ 128) : Qb n W g := by
  obtain ⟨A, c, A', c', hk, -⟩ := h
  exact ⟨_, _, _, _, _, _, _, _, hk, .inr hn, hp⟩
/-- What a step may do while one box is filled with the disk x. -/
def Qr (m n k : Nat) (x : Dk) (W W' : World) : Prop := W.heap.size ≤ W'.heap.size ∧ ∀ b, b < W.heap.size → W'.heap[b]? = W.heap[b]? ∨ (Qb k W b ∧ Bx W' b (Sv m n W') x)
theorem Qr.same (m n k : Nat) (x : Dk) (W : World) : Qr m n k x W W := ⟨Nat.le_refl _, fun _ _ => .inl rfl⟩
theorem Qr.below {m n k : Nat} {x : Dk} {W W' : World} (hb : Below W.heap.size W W') : Qr m n k x W W' := ⟨hb.size, fun b h => .inl (hb.block b h)⟩
theorem Qr.qk {m n k : Nat} {x : Dk} {W W' : World} (h : Qr m n k x W W') : Qk k W W' := fun b hb => (h.2 b hb).imp_right fun h => h.1
theorem Qr.qb {m n k g : Nat} {x : Dk} {W W' : World} (h : Qr m n k x W W') (hn : x.secs.length = k) (hp : x.pend.length ≠ 128) (hq : Qb k W g) : Qb k W' g := by
  have hg : g < W.heap.size := by obtain ⟨_, _, _, _, _, _, _, _, hb, -⟩ := hq; exact (Array.getElem?_eq_some_iff.1 hb).1
  rcases h.2 g hg with h1 | ⟨-, h1⟩
  · obtain ⟨A, l0, c, A', l1, c', z, t, hb, h2⟩ := hq
    exact ⟨A, l0, c, A', l1, c', z, t, h1.trans hb, h2⟩
  · exact h1.qb hn hp
theorem Qr.dr {m n k : Nat} {x y : Dk} {W W' : World} {A A' : Option Addr} {c c' : Nat} (h : Qr m n k x W W') (hn : y.secs.length = k) (h128 : ∀ s ∈ y.secs, s.length = 128) (hd : DR W (Sv m n W) A c A' c' y) : DR W' (Sv m n W') A c A' c' y :=
  (hd.q hn h128 h.qk).mono fun b hb => Sv.up h.1 b hb
theorem Qr.bx {m n k g : Nat} {x : Dk} {W W' : World} (h : Qr m n k x W W') (hn : x.secs.length = k) (h128 : ∀ s ∈ x.secs, s.length = 128) (hb : Bx W g (Sv m n W) x) : Bx W' g (Sv m n W') x := by
  obtain ⟨A, c, A', c', hk, hd⟩ := hb
  rcases h.2 g hk.lt with h1 | ⟨-, h1⟩
  · exact ⟨A, c, A', c', h1.trans hk, h.dr hn h128 hd⟩
  · exact h1
/-- The store itself. -/
theorem Qr.put {m n k g : Nat} {x : Dk} {W : World} {A A' : Option Addr} {c c' : Nat} (hq : Qb k W g) (hn : x.secs.length = k) (h128 : ∀ s ∈ x.secs, s.length = 128) (hd : DR W (Sv m n W) A c A' c' x) :
    Qr m n k x W (W.setRow g #[.slice A x.secs.length c, .slice A' x.pend.length c', .int .i64 x.left, .bool x.stop]) ∧ Bx (W.setRow g #[.slice A x.secs.length c, .slice A' x.pend.length c', .int .i64 x.left, .bool x.stop]) g (Sv m n (W.setRow g #[.slice A x.secs.length c, .slice A' x.pend.length c', .int .i64 x.left, .bool x.stop])) x := by
  obtain ⟨A0, l0, c0, A1, l1, c1, z, t, hb, h2⟩ := hq
  have hrow := setRow_heap W g _ #[.slice A x.secs.length c, .slice A' x.pend.length c', .int .i64 x.left, .bool x.stop] _ _ hb
  have hqk : Qk k W (W.setRow g #[.slice A x.secs.length c, .slice A' x.pend.length c', .int .i64 x.left, .bool x.stop]) := fun b _ => by
    by_cases hbg : b = g
    · subst hbg; exact .inr ⟨A0, l0, c0, A1, l1, c1, z, t, hb, h2⟩
    · exact .inl (setRow_other W g b _ hbg)
  have hbx : Bx (W.setRow g #[.slice A x.secs.length c, .slice A' x.pend.length c', .int .i64 x.left, .bool x.stop]) g (Sv m n (W.setRow g #[.slice A x.secs.length c, .slice A' x.pend.length c', .int .i64 x.left, .bool x.stop])) x :=
    ⟨A, c, A', c', hrow, (hd.q hn h128 hqk).mono fun b hb => Sv.up (by rw [size_setRow]; exact Nat.le_refl _) b hb⟩
  refine ⟨⟨by rw [size_setRow]; exact Nat.le_refl _, fun b _ => ?_⟩, hbx⟩
  by_cases hbg : b = g
  · subst hbg; exact .inr ⟨⟨A0, l0, c0, A1, l1, c1, z, t, hb, h2⟩, hbx⟩
  · exact .inl (setRow_other W g b _ hbg)
theorem Qb.raw {k : Nat} (W : World) : Qb k (W.alloc (.cells #[.slice none 0 0, .slice none 0 0, .int .i64 0, .bool false] 25)) W.heap.size := ⟨_, _, _, _, _, _, _, _, heap_alloc_new W _, .inl rfl, by omega⟩
end Go.Proofs.Ytalkbccofiiojaa
