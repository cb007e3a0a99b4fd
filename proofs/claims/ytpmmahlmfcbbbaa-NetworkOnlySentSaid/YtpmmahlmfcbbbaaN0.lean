/- Facts that stay where a box of the region's own gets its net, early or late. -/
import Derived.Test.YtpmmahlmfcbbbaaNh
import Derived.Test.YtpmmahlmfcbbbaaRj
namespace Go.Proofs.Ytpmmahlmfcbbbaa
open Go.RowKit

/-- A box with a net, whatever net. -/
def sbox (w : World) (b : Nat) : Prop := ∃ a l c a' l' c', w.heap[b]? = some (.cells #[.slice a l c, .slice a' l' c'] 25 (0, 0))
/-- The blocks that are no such box. -/
def PW (w : World) (b : Nat) : Prop := b < w.heap.size ∧ ¬ sbox w b
/-- A box that reads as U. -/
def Ux (U : Nt) (w : World) (g : Nat) : Prop := ∃ A c A' c', w.heap[g]? = some (.cells #[.slice A U.q.length c, .slice A' U.ap.length c'] 25 (0, 0)) ∧ NR w (PW w) A c A' c' U
def Rx (U : Nt) (w w' : World) : Prop := w.heap.size ≤ w'.heap.size ∧ ∀ b, b < w.heap.size → w'.heap[b]? = w.heap[b]? ∨ (sbox w b ∧ Ux U w' b)
theorem Rx.refl (U : Nt) (w : World) : Rx U w w := ⟨Nat.le_refl _, fun _ _ => .inl rfl⟩
theorem Rx.below {U : Nt} {w w' : World} (h : Below w.heap.size w w') : Rx U w w' := ⟨h.size, fun b hb => .inl (h.block b hb)⟩
theorem NR.px {w : World} {A A' : Option Addr} {c c' : Nat} {n : Nt} (h : NR w (· < w.heap.size) A c A' c' n) : NR w (PW w) A c A' c' n := by
  refine ⟨h.cap, h.max, h.cap', h.max', fun hp => ?_, fun hp => ?_⟩
  · obtain ⟨b, off, e, hs, hc⟩ := h.q hp
    have nb : ∀ (b o : Nat) (k : IntKind) (n : Int), w.cell? ⟨b, o, none⟩ = some (.int k n) → ¬ sbox w b := fun b o k n hx => by
      rintro ⟨a, l, c, a', l', c', hb⟩
      exact slice_box hb hx
    refine ⟨b, off, e, ⟨hs, ?_⟩, fun i hi => ?_⟩
    · obtain ⟨v, h0, -⟩ := hc 0 hp
      exact nb _ _ _ _ h0
    · obtain ⟨v, h0, h1, h2, ⟨A1, c1, e1, h3, h4, h5⟩, h6⟩ := hc i hi
      refine ⟨v, h0, h1, h2, ⟨A1, c1, e1, h3, h4, fun hq => ?_⟩, h6⟩
      obtain ⟨b2, off2, e2, hs2, hc2⟩ := h5 hq
      exact ⟨b2, off2, e2, ⟨hs2, nb _ _ _ _ (hc2 0 hq)⟩, hc2⟩
  · obtain ⟨b, off, e, hs, hc⟩ := h.ap hp
    refine ⟨b, off, e, ⟨hs, ?_⟩, hc⟩
    rintro ⟨a, l, c, a', l', c', hb⟩
    exact slice_box hb (hc 0 hp).1
theorem Rx.nr {U : Nt} {w w' : World} {A A' : Option Addr} {c c' : Nat} {n : Nt} (hr : Rx U w w') (h : NR w (PW w) A c A' c' n) : NR w' (PW w') A c A' c' n := by
  have same : ∀ b, PW w b → w'.heap[b]? = w.heap[b]? := fun b hb => by
    rcases hr.2 b hb.1 with h | h
    · exact h
    · exact absurd h.1 hb.2
  refine (h.keep fun b o hb => World.cell?_of_block (same b hb)).mono fun b hb => ⟨Nat.lt_of_lt_of_le hb.1 hr.1, ?_⟩
  rintro ⟨a, l, c, a', l', c', h⟩
  exact hb.2 ⟨a, l, c, a', l', c', (same b hb).symm.trans h⟩
theorem sbox.lt {w : World} {b : Nat} (h : sbox w b) : b < w.heap.size := by
  obtain ⟨_, _, _, _, _, _, h⟩ := h
  exact (Array.getElem?_eq_some_iff.1 h).1
theorem Ux.lt {U : Nt} {w : World} {b : Nat} (h : Ux U w b) : b < w.heap.size := by
  obtain ⟨_, _, _, _, h, -⟩ := h
  exact (Array.getElem?_eq_some_iff.1 h).1
theorem Rx.sbox {U : Nt} {w w' : World} {b : Nat} (hr : Rx U w w') (h : sbox w b) : sbox w' b := by
  rcases hr.2 b h.lt with e | ⟨-, A, c, A', c', e, -⟩
  · obtain ⟨a, l, c, a', l', c', h⟩ := h
    exact ⟨a, l, c, a', l', c', e.trans h⟩
  · exact ⟨_, _, _, _, _, _, e⟩
theorem Rx.ux {U : Nt} {w w' : World} {b : Nat} (hr : Rx U w w') (h : Ux U w b) : Ux U w' b := by
  rcases hr.2 b h.lt with e | h'
  · obtain ⟨A, c, A', c', h1, h2⟩ := h
    exact ⟨A, c, A', c', e.trans h1, hr.nr h2⟩
  · exact h'.2
theorem Rx.put {U : Nt} {w : World} {g : Nat} (hg : Go.Proofs.Ytpmmahlmfcbbbaa.sbox w g) {A A' : Option Addr} {c c' : Nat} (h : NR w (PW w) A c A' c' U) :
    Rx U w (w.setRow g #[.slice A U.q.length c, .slice A' U.ap.length c']) ∧ Ux U (w.setRow g #[.slice A U.q.length c, .slice A' U.ap.length c']) g := by
  obtain ⟨a, l, d, a', l', d', hk⟩ := hg
  have hne : ∀ b, PW w b → b ≠ g := fun b hb e => by subst e; exact hb.2 ⟨a, l, d, a', l', d', hk⟩
  have hux : Ux U (w.setRow g #[.slice A U.q.length c, .slice A' U.ap.length c']) g :=
    ⟨A, c, A', c', setRow_heap w g _ #[.slice A U.q.length c, .slice A' U.ap.length c'] _ _ hk, (h.keep fun b o hb => World.cell?_of_block (setRow_other w g b _ (hne b hb))).mono fun b hb => ⟨by simpa using hb.1, by
      rintro ⟨a, l, d, a', l', d', h⟩
      rw [setRow_other w g b _ (hne b hb)] at h
      exact hb.2 ⟨a, l, d, a', l', d', h⟩⟩⟩
  refine ⟨⟨by simp, fun b hb => ?_⟩, hux⟩
  by_cases e : b = g
  · subst e; exact .inr ⟨⟨a, l, d, a', l', d', hk⟩, hux⟩
  · exact .inl (setRow_other w g b _ e)
theorem Ux.box {U : Nt} {w : World} {g : Nat} (h : Ux U w g) : ∃ A c A' c', NB w g A c A' c' U := by
  obtain ⟨A, c, A', c', h1, h2⟩ := h
  exact ⟨A, c, A', c', h1, h2.mono fun b hb => hb.1⟩
theorem below_setRowN {B : Nat} {w w' : World} {g : Nat} (h : Below B w w') (hg : B ≤ g) (hB : B ≤ w'.heap.size) (cs : Array Value) : Below B w (w'.setRow g cs) := h.grown (grownBy_setRow w' g cs) hB (fun k hk => by injection hk; omega)
end Go.Proofs.Ytpmmahlmfcbbbaa
