/- As XN0, where the nets' readings keep out of a fixed set of blocks besides (E: where they may lie). -/
import Derived.Test.YtpmmahlmfcbbbaaN0
namespace Go.Proofs.Ytpmmahlmfcbbbaa
open Go.RowKit

def PE (E : Nat → Prop) (w : World) (b : Nat) : Prop := PW w b ∧ E b
def Ue (U : Nt) (E : Nat → Prop) (w : World) (g : Nat) : Prop := ∃ A c A' c', w.heap[g]? = some (.cells #[.slice A U.q.length c, .slice A' U.ap.length c'] 25 (0, 0)) ∧ NR w (PE E w) A c A' c' U
def Re (U : Nt) (E : Nat → Prop) (w w' : World) : Prop := w.heap.size ≤ w'.heap.size ∧ ∀ b, b < w.heap.size → w'.heap[b]? = w.heap[b]? ∨ (sbox w b ∧ Ue U E w' b)
theorem Re.refl (U : Nt) (E : Nat → Prop) (w : World) : Re U E w w := ⟨Nat.le_refl _, fun _ _ => .inl rfl⟩
theorem Re.below {U : Nt} {E : Nat → Prop} {w w' : World} (h : Below w.heap.size w w') : Re U E w w' := ⟨h.size, fun b hb => .inl (h.block b hb)⟩
theorem NR.pe {E : Nat → Prop} {w : World} {A A' : Option Addr} {c c' : Nat} {n : Nt} (h : NR w (fun b => b < w.heap.size ∧ E b) A c A' c' n) : NR w (PE E w) A c A' c' n := by
  have nb : ∀ (b o : Nat) (k : IntKind) (n : Int), w.cell? ⟨b, o, none⟩ = some (.int k n) → ¬ sbox w b := fun b o k n hx => by
    rintro ⟨a, l, c, a', l', c', hb⟩
    exact slice_box hb hx
  refine ⟨h.cap, h.max, h.cap', h.max', fun hp => ?_, fun hp => ?_⟩
  · obtain ⟨b, off, e, hs, hc⟩ := h.q hp
    refine ⟨b, off, e, ⟨⟨hs.1, ?_⟩, hs.2⟩, fun i hi => ?_⟩
    · obtain ⟨v, h0, -⟩ := hc 0 hp
      exact nb _ _ _ _ h0
    · obtain ⟨v, h0, h1, h2, ⟨A1, c1, e1, h3, h4, h5⟩, h6⟩ := hc i hi
      refine ⟨v, h0, h1, h2, ⟨A1, c1, e1, h3, h4, fun hq => ?_⟩, h6⟩
      obtain ⟨b2, off2, e2, hs2, hc2⟩ := h5 hq
      exact ⟨b2, off2, e2, ⟨⟨hs2.1, nb _ _ _ _ (hc2 0 hq)⟩, hs2.2⟩, hc2⟩
  · obtain ⟨b, off, e, hs, hc⟩ := h.ap hp
    exact ⟨b, off, e, ⟨⟨hs.1, nb _ _ _ _ (hc 0 hp).1⟩, hs.2⟩, hc⟩
theorem Re.same {U : Nt} {E : Nat → Prop} {w w' : World} (hr : Re U E w w') {b : Nat} (hb : PW w b) : w'.heap[b]? = w.heap[b]? := by
  rcases hr.2 b hb.1 with h | h
  · exact h
  · exact absurd h.1 hb.2
theorem Re.nr {U : Nt} {E : Nat → Prop} {w w' : World} {A A' : Option Addr} {c c' : Nat} {n : Nt} (hr : Re U E w w') (h : NR w (PE E w) A c A' c' n) : NR w' (PE E w') A c A' c' n := by
  refine (h.keep fun b o hb => World.cell?_of_block (hr.same hb.1)).mono fun b hb => ⟨⟨Nat.lt_of_lt_of_le hb.1.1 hr.1, ?_⟩, hb.2⟩
  rintro ⟨a, l, c, a', l', c', h⟩
  exact hb.1.2 ⟨a, l, c, a', l', c', (hr.same hb.1).symm.trans h⟩
theorem Ue.lt {U : Nt} {E : Nat → Prop} {w : World} {b : Nat} (h : Ue U E w b) : b < w.heap.size := by
  obtain ⟨_, _, _, _, h, -⟩ := h
  exact (Array.getElem?_eq_some_iff.1 h).1
theorem Re.sbox {U : Nt} {E : Nat → Prop} {w w' : World} {b : Nat} (hr : Re U E w w') (h : sbox w b) : sbox w' b := by
  rcases hr.2 b h.lt with e | ⟨-, A, c, A', c', e, -⟩
  · obtain ⟨a, l, c, a', l', c', h⟩ := h
    exact ⟨a, l, c, a', l', c', e.trans h⟩
  · exact ⟨_, _, _, _, _, _, e⟩
theorem Re.ue {U : Nt} {E : Nat → Prop} {w w' : World} {b : Nat} (hr : Re U E w w') (h : Ue U E w b) : Ue U E w' b := by
  rcases hr.2 b h.lt with e | h'
  · obtain ⟨A, c, A', c', h1, h2⟩ := h
    exact ⟨A, c, A', c', e.trans h1, hr.nr h2⟩
  · exact h'.2
theorem Re.put {U : Nt} {E : Nat → Prop} {w : World} {g : Nat} (hg : Go.Proofs.Ytpmmahlmfcbbbaa.sbox w g) {A A' : Option Addr} {c c' : Nat} (h : NR w (PE E w) A c A' c' U) :
    Re U E w (w.setRow g #[.slice A U.q.length c, .slice A' U.ap.length c']) ∧ Ue U E (w.setRow g #[.slice A U.q.length c, .slice A' U.ap.length c']) g := by
  obtain ⟨a, l, d, a', l', d', hk⟩ := hg
  have hne : ∀ b, PE E w b → b ≠ g := fun b hb e => by subst e; exact hb.1.2 ⟨a, l, d, a', l', d', hk⟩
  have hux : Ue U E (w.setRow g #[.slice A U.q.length c, .slice A' U.ap.length c']) g :=
    ⟨A, c, A', c', setRow_heap w g _ #[.slice A U.q.length c, .slice A' U.ap.length c'] _ _ hk, (h.keep fun b o hb => World.cell?_of_block (setRow_other w g b _ (hne b hb))).mono fun b hb => ⟨⟨by simpa using hb.1.1, by
      rintro ⟨a, l, d, a', l', d', h⟩
      rw [setRow_other w g b _ (hne b hb)] at h
      exact hb.1.2 ⟨a, l, d, a', l', d', h⟩⟩, hb.2⟩⟩
  refine ⟨⟨by simp, fun b hb => ?_⟩, hux⟩
  by_cases e : b = g
  · subst e; exact .inr ⟨⟨a, l, d, a', l', d', hk⟩, hux⟩
  · exact .inl (setRow_other w g b _ e)
end Go.Proofs.Ytpmmahlmfcbbbaa
