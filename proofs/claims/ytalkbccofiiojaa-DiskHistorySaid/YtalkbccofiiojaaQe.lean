/- As XQd, where the disks may lie anywhere. -/
import Derived.Test.YtalkbccofiiojaaQd
namespace Go.Proofs.Ytalkbccofiiojaa
open Go.RowKit

/-- Where the disks of the law's variables lie: before the call, or behind its boxes. -/
def Sg (m : Nat → Prop) (n : Nat) (W : World) (b : Nat) : Prop := m b ∨ (n ≤ b ∧ b < W.heap.size)
theorem Sg.lt {m : Nat → Prop} {n : Nat} {W : World} (h1 : ∀ b, m b → b < n) (h2 : n ≤ W.heap.size) (b : Nat) (h : Sg m n W b) : b < W.heap.size := by
  rcases h with h | h
  · have := h1 b h; omega
  · exact h.2
theorem Sg.up {m : Nat → Prop} {n : Nat} {W W' : World} (hb : W.heap.size ≤ W'.heap.size) (b : Nat) (h : Sg m n W b) : Sg m n W' b := h.imp id fun h => ⟨h.1, by omega⟩
theorem Sg.sn {m : Nat → Prop} {n : Nat} {W W' : World} (hn : n ≤ W.heap.size) (hb : W.heap.size ≤ W'.heap.size) (b : Nat) (h : Sn (Sg m n W) W W' b) : Sg m n W' b := h.elim (fun h => h.imp id fun h => ⟨h.1, by omega⟩) fun h => .inr ⟨by omega, h.2⟩
theorem Bx.stepg {m : Nat → Prop} {n g : Nat} {W W' : World} {x : Dk} (h : Bx W g (Sg m n W) x) (h1 : ∀ b, m b → b < n) (h2 : n ≤ W.heap.size) (hb : Below W.heap.size W W') : Bx W' g (Sg m n W') x := by
  obtain ⟨A, c, A', c', hk, hd⟩ := h
  exact ⟨A, c, A', c', hk.step hb, (hd.keep (Kept.of (Sg.lt h1 h2) hb)).mono fun b h => Sg.up hb.size b h⟩

/-- What a step may do while one box is filled with the disk x. -/
def Qg (m : Nat → Prop) (n k : Nat) (x : Dk) (W W' : World) : Prop := W.heap.size ≤ W'.heap.size ∧ ∀ b, b < W.heap.size → W'.heap[b]? = W.heap[b]? ∨ (Qb k W b ∧ Bx W' b (Sg m n W') x)
theorem Qg.same (m : Nat → Prop) (n k : Nat) (x : Dk) (W : World) : Qg m n k x W W := ⟨Nat.le_refl _, fun _ _ => .inl rfl⟩
theorem Qg.below {m : Nat → Prop} {n k : Nat} {x : Dk} {W W' : World} (hb : Below W.heap.size W W') : Qg m n k x W W' := ⟨hb.size, fun b h => .inl (hb.block b h)⟩
theorem Qg.qk {m : Nat → Prop} {n k : Nat} {x : Dk} {W W' : World} (h : Qg m n k x W W') : Qk k W W' := fun b hb => (h.2 b hb).imp_right fun h => h.1
theorem Qg.qb {m : Nat → Prop} {n k g : Nat} {x : Dk} {W W' : World} (h : Qg m n k x W W') (hn : x.secs.length = k) (hp : x.pend.length ≠ 128) (hq : Qb k W g) : Qb k W' g := by
  have hg : g < W.heap.size := by obtain ⟨_, _, _, _, _, _, _, _, hb, -⟩ := hq; exact (Array.getElem?_eq_some_iff.1 hb).1
  rcases h.2 g hg with h1 | ⟨-, h1⟩
  · obtain ⟨A, l0, c, A', l1, c', z, t, hb, h2⟩ := hq
    exact ⟨A, l0, c, A', l1, c', z, t, h1.trans hb, h2⟩
  · exact h1.qb hn hp
theorem Qg.dr {m : Nat → Prop} {n k : Nat} {x y : Dk} {W W' : World} {A A' : Option Addr} {c c' : Nat} (h : Qg m n k x W W') (hn : y.secs.length = k) (h128 : ∀ s ∈ y.secs, s.length = 128) (hd : DR W (Sg m n W) A c A' c' y) : DR W' (Sg m n W') A c A' c' y :=
  (hd.q hn h128 h.qk).mono fun b hb => Sg.up h.1 b hb
theorem Qg.bx {m : Nat → Prop} {n k g : Nat} {x : Dk} {W W' : World} (h : Qg m n k x W W') (hn : x.secs.length = k) (h128 : ∀ s ∈ x.secs, s.length = 128) (hb : Bx W g (Sg m n W) x) : Bx W' g (Sg m n W') x := by
  obtain ⟨A, c, A', c', hk, hd⟩ := hb
  rcases h.2 g hk.lt with h1 | ⟨-, h1⟩
  · exact ⟨A, c, A', c', h1.trans hk, h.dr hn h128 hd⟩
  · exact h1
/-- The store itself. -/
theorem Qg.put {m : Nat → Prop} {n k g : Nat} {x : Dk} {W : World} {A A' : Option Addr} {c c' : Nat} (hq : Qb k W g) (hn : x.secs.length = k) (h128 : ∀ s ∈ x.secs, s.length = 128) (hd : DR W (Sg m n W) A c A' c' x) :
    Qg m n k x W (W.setRow g #[.slice A x.secs.length c, .slice A' x.pend.length c', .int .i64 x.left, .bool x.stop]) ∧ Bx (W.setRow g #[.slice A x.secs.length c, .slice A' x.pend.length c', .int .i64 x.left, .bool x.stop]) g (Sg m n (W.setRow g #[.slice A x.secs.length c, .slice A' x.pend.length c', .int .i64 x.left, .bool x.stop])) x := by
  obtain ⟨A0, l0, c0, A1, l1, c1, z, t, hb, h2⟩ := hq
  have hrow := setRow_heap W g _ #[.slice A x.secs.length c, .slice A' x.pend.length c', .int .i64 x.left, .bool x.stop] _ _ hb
  have hqk : Qk k W (W.setRow g #[.slice A x.secs.length c, .slice A' x.pend.length c', .int .i64 x.left, .bool x.stop]) := fun b _ => by
    by_cases hbg : b = g
    · subst hbg; exact .inr ⟨A0, l0, c0, A1, l1, c1, z, t, hb, h2⟩
    · exact .inl (setRow_other W g b _ hbg)
  have hbx : Bx (W.setRow g #[.slice A x.secs.length c, .slice A' x.pend.length c', .int .i64 x.left, .bool x.stop]) g (Sg m n (W.setRow g #[.slice A x.secs.length c, .slice A' x.pend.length c', .int .i64 x.left, .bool x.stop])) x :=
    ⟨A, c, A', c', hrow, (hd.q hn h128 hqk).mono fun b hb => Sg.up (by rw [size_setRow]; exact Nat.le_refl _) b hb⟩
  refine ⟨⟨by rw [size_setRow]; exact Nat.le_refl _, fun b _ => ?_⟩, hbx⟩
  by_cases hbg : b = g
  · subst hbg; exact .inr ⟨⟨A0, l0, c0, A1, l1, c1, z, t, hb, h2⟩, hbx⟩
  · exact .inl (setRow_other W g b _ hbg)
theorem Qb.rawg {k : Nat} (W : World) : Qb k (W.alloc (.cells #[.slice none 0 0, .slice none 0 0, .int .i64 0, .bool false] 25)) W.heap.size := ⟨_, _, _, _, _, _, _, _, heap_alloc_new W _, .inl rfl, by omega⟩
end Go.Proofs.Ytalkbccofiiojaa
