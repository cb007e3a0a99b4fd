/- Packets as lists of cells. -/
import Derived.Test.YtpmmahlmfcbbbaaNo
import Derived.Test.YtpmmahlmfcbbbaaNb
namespace Go.Proofs.Ytpmmahlmfcbbbaa
open Go.RowKit

/-- Cells that are packets. -/
def PkV (w : World) (S : Nat → Prop) (xs : List Value) (ps : List Pk) : Prop :=
  xs.length = ps.length * 3 ∧ ∀ i (h : i < ps.length), ∃ v, xs[i * 3]? = some (.int .i64 ps[i].frm) ∧ xs[i * 3 + 1]? = some (.int .i64 ps[i].to) ∧ xs[i * 3 + 2]? = some v ∧ Row w S v ps[i].data ∧ I64 ps[i].frm ∧ I64 ps[i].to
theorem PkV.keep {w w' : World} {S : Nat → Prop} {xs : List Value} {ps : List Pk} (hk : Kept S w w') (h : PkV w S xs ps) : PkV w' S xs ps := ⟨h.1, fun i hi => by
  obtain ⟨v, h0, h1, h2, h3, h4⟩ := h.2 i hi
  exact ⟨v, h0, h1, h2, h3.keep hk, h4⟩⟩
theorem PkV.mono {w : World} {S S' : Nat → Prop} (hS : ∀ b, S b → S' b) {xs : List Value} {ps : List Pk} (h : PkV w S xs ps) : PkV w S' xs ps := ⟨h.1, fun i hi => by
  obtain ⟨v, h0, h1, h2, h3, h4⟩ := h.2 i hi
  exact ⟨v, h0, h1, h2, h3.mono hS, h4⟩⟩
theorem PkV.one {w : World} {S : Nat → Prop} (p : Pk) (A : Option Addr) (c : Nat) (hI : I64 p.frm ∧ I64 p.to) (hl : p.data.length ≤ c ∧ c ≤ maxLen) (h : RBs w S A p.data) : PkV w S [.int .i64 p.frm, .int .i64 p.to, .slice A p.data.length c] [p] := ⟨rfl, fun i hi => by
  have : i = 0 := by simp at hi; exact hi
  subst this
  exact ⟨_, rfl, rfl, rfl, ⟨A, c, rfl, hl.1, hl.2, h⟩, hI⟩⟩
theorem PkV.append {w : World} {S : Nat → Prop} {xs ys : List Value} {ps qs : List Pk} (h : PkV w S xs ps) (k : PkV w S ys qs) : PkV w S (xs ++ ys) (ps ++ qs) := ⟨by rw [List.length_append, List.length_append, h.1, k.1, Nat.add_mul], fun i hi => by
  by_cases hlt : i < ps.length
  · obtain ⟨v, h0, h1, h2, h3⟩ := h.2 i hlt
    have hx := h.1
    rw [List.getElem?_append_left (by omega), List.getElem?_append_left (by omega), List.getElem?_append_left (by omega), List.getElem_append_left hlt]
    exact ⟨v, h0, h1, h2, h3⟩
  · rw [List.length_append] at hi
    obtain ⟨v, h0, h1, h2, h3⟩ := k.2 (i - ps.length) (by omega)
    have hx := h.1
    rw [List.getElem?_append_right (by omega), List.getElem?_append_right (by omega), List.getElem?_append_right (by omega), List.getElem_append_right (by omega)]
    rw [show i * 3 - xs.length = (i - ps.length) * 3 by omega, show i * 3 + 1 - xs.length = (i - ps.length) * 3 + 1 by omega, show i * 3 + 2 - xs.length = (i - ps.length) * 3 + 2 by omega]
    exact ⟨v, h0, h1, h2, h3⟩⟩
theorem QR.vals {w : World} {S : Nat → Prop} {A : Option Addr} {ps : List Pk} (h : QR w S A ps) :
    ∃ xs : List Value, PkV w S xs ps ∧ (0 < xs.length → ∃ ad, A = some ad ∧ ∀ j u, xs[j]? = some u → w.cell? (ad.add j) = some u) ∧ ∀ u ∈ xs, u.oneCell' = true := by
  by_cases hp : 0 < ps.length
  case neg =>
    have : ps = [] := List.eq_nil_of_length_eq_zero (by omega)
    subst this
    exact ⟨[], ⟨rfl, fun i hi => absurd hi (by simp)⟩, fun h => absurd h (by simp), fun v hv => by simp at hv⟩
  obtain ⟨b, off, e, hs, hc⟩ := h hp
  have hx : ∀ k : Fin (ps.length * 3), ∃ v, w.cell? ⟨b, off + k.1, none⟩ = some v ∧ v.oneCell' = true := fun k => by
    obtain ⟨k, hk⟩ := k
    obtain ⟨v, h0, h1, h2, ⟨A1, c1, rfl, -⟩, -⟩ := hc (k / 3) (by omega)
    rcases (show k % 3 = 0 ∨ k % 3 = 1 ∨ k % 3 = 2 by omega) with m | m | m
    · exact ⟨_, by rw [show off + k = off + k / 3 * 3 by omega]; exact h0, rfl⟩
    · exact ⟨_, by rw [show off + k = off + k / 3 * 3 + 1 by omega]; exact h1, rfl⟩
    · exact ⟨_, by rw [show off + k = off + k / 3 * 3 + 2 by omega]; exact h2, rfl⟩
  have hg : ∀ j (hj : j < ps.length * 3) u, w.cell? ⟨b, off + j, none⟩ = some u → (List.ofFn fun k => Classical.choose (hx k))[j]? = some u := fun j hj u hu => by
    have e2 := hu.symm.trans (Classical.choose_spec (hx ⟨j, hj⟩)).1
    injection e2 with e2
    rw [List.getElem?_ofFn, dif_pos hj, e2]
  refine ⟨List.ofFn fun k => Classical.choose (hx k), ⟨by simp, fun i hi => ?_⟩, fun _ => ⟨_, e, fun j u hu => ?_⟩, fun u hu => ?_⟩
  · obtain ⟨v, h0, h1, h2, h3⟩ := hc i hi
    exact ⟨v, hg _ (by omega) _ h0, hg _ (by omega) _ h1, hg _ (by omega) _ h2, h3⟩
  · rw [List.getElem?_ofFn] at hu
    split at hu
    · rename_i hj
      injection hu with hu
      subst hu
      rw [add_none]
      exact (Classical.choose_spec (hx ⟨j, hj⟩)).1
    · cases hu
  · rw [List.mem_ofFn] at hu
    obtain ⟨k, rfl⟩ := hu
    exact (Classical.choose_spec (hx k)).2
/-- A row of the call's own, as packets. -/
theorem QR.ofRow {w : World} {B : Nat} {v : Value} {xs : List Value} {ps : List Pk} {S : Nat → Prop} (h : w.ownsRow B 28 3 v ps.length xs) (hp : PkV w S xs ps) :
    ∃ A c, v = .slice A ps.length c ∧ ps.length ≤ c ∧ c ≤ maxLen ∧ QR w (fun g => S g ∨ (B ≤ g ∧ g < w.heap.size)) A ps := by
  rcases h.2 with ⟨rfl, h0⟩ | ⟨g, cap, cur, rfl, hb, hg, hc, hm, -, ht⟩
  · exact ⟨none, 0, by rw [h0], by omega, Nat.zero_le _, fun h => absurd h (by omega)⟩
  · refine ⟨_, cap, rfl, hc, hm, fun hpos => ⟨g, 0, rfl, .inr ⟨hb, (Array.getElem?_eq_some_iff.1 hg).1⟩, fun j hj => ?_⟩⟩
    obtain ⟨u, h0, h1, h2, h3, h4⟩ := hp.2 j hj
    have k0 := World.ownsRow.cells h (g := g) rfl _ _ h0
    have k1 := World.ownsRow.cells h (g := g) rfl _ _ h1
    have k2 := World.ownsRow.cells h (g := g) rfl _ _ h2
    rw [add_none] at k0 k1 k2
    exact ⟨u, k0, by rw [Nat.add_assoc]; exact k1, by rw [Nat.add_assoc]; exact k2, h3.mono fun _ h => .inl h, h4⟩
theorem QR.take {w : World} {S : Nat → Prop} {A : Option Addr} {ps : List Pk} (h : QR w S A ps) (k : Nat) : QR w S A (ps.take k) := fun hp => by
  rw [List.length_take] at hp
  obtain ⟨b, off, e, hs, hc⟩ := h (by omega)
  refine ⟨b, off, e, hs, fun i hi => ?_⟩
  rw [List.length_take] at hi
  rw [List.getElem_take]
  exact hc i (by omega)
theorem QR.drop {w : World} {S : Nat → Prop} {b off : Nat} {ps : List Pk} (h : QR w S (some ⟨b, off, none⟩) ps) (k : Nat) : QR w S (some ⟨b, off + k * 3, none⟩) (ps.drop k) := fun hp => by
  rw [List.length_drop] at hp
  obtain ⟨b', off', e, hs, hc⟩ := h (by omega)
  simp only [Option.some.injEq, Addr.mk.injEq, and_true] at e
  obtain ⟨rfl, rfl⟩ := e
  refine ⟨_, _, rfl, hs, fun i hi => ?_⟩
  rw [List.length_drop] at hi
  obtain ⟨v, h0, h1, h2, h3⟩ := hc (k + i) (by omega)
  rw [List.getElem_drop]
  exact ⟨v, by rw [← h0]; congr 2; omega, by rw [← h1]; congr 2; omega, by rw [← h2]; congr 2; omega, h3⟩
end Go.Proofs.Ytpmmahlmfcbbbaa
