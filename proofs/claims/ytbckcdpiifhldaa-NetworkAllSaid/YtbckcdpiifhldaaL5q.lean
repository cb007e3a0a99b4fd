/- For NetworkAll's second loop: parts of rows of packets, a new row for the old one, and what is plainly left. -/
import Derived.Test.YtbckcdpiifhldaaL5p
namespace Go.Proofs.Ytbckcdpiifhldaa
open Go.RowKit

def lenV : Value → Nat
  | .slice _ n _ => n
  | _ => 0
theorem PkV.take {w : World} {S : Nat → Prop} {xs : List Value} {ps : List Pk} (h : PkV w S xs ps) (k : Nat) (hk : k ≤ ps.length) : PkV w S (xs.take (k * 3)) (ps.take k) := by
  have hl := h.1
  refine ⟨by rw [List.length_take, List.length_take]; omega, fun i hi => ?_⟩
  have hik : i < k := by rw [List.length_take] at hi; omega
  obtain ⟨v, h0, h1, h2, h3⟩ := h.2 i (by omega)
  rw [List.getElem?_take_of_lt (by omega), List.getElem?_take_of_lt (by omega), List.getElem?_take_of_lt (by omega), List.getElem_take]
  exact ⟨v, h0, h1, h2, h3⟩
theorem PkV.drop {w : World} {S : Nat → Prop} {xs : List Value} {ps : List Pk} (h : PkV w S xs ps) (k : Nat) (hk : k ≤ ps.length) : PkV w S (xs.drop (k * 3)) (ps.drop k) := by
  have hl := h.1
  refine ⟨by rw [List.length_drop, List.length_drop]; omega, fun i hi => ?_⟩
  rw [List.length_drop] at hi
  obtain ⟨v, h0, h1, h2, h3⟩ := h.2 (k + i) (by omega)
  rw [List.getElem?_drop, List.getElem?_drop, List.getElem?_drop, List.getElem_drop]
  exact ⟨v, by rw [← h0]; congr 1; omega, by rw [← h1]; congr 1; omega, by rw [← h2]; congr 1; omega, h3⟩
theorem PkV.ones {w : World} {S : Nat → Prop} {xs : List Value} {ps : List Pk} (h : PkV w S xs ps) : ∀ u ∈ xs, u.oneCell' = true := fun u hu => by
  obtain ⟨k, hk, rfl⟩ := List.mem_iff_getElem.1 hu
  have hl := h.1
  obtain ⟨v, h0, h1, h2, ⟨A, c, rfl, -⟩, -⟩ := h.2 (k / 3) (by omega)
  rcases (show k % 3 = 0 ∨ k % 3 = 1 ∨ k % 3 = 2 by omega) with m | m | m
  · rw [show k / 3 * 3 = k by omega, List.getElem?_eq_getElem hk] at h0
    injection h0 with h0
    rw [h0]; rfl
  · rw [show k / 3 * 3 + 1 = k by omega, List.getElem?_eq_getElem hk] at h1
    injection h1 with h1
    rw [h1]; rfl
  · rw [show k / 3 * 3 + 2 = k by omega, List.getElem?_eq_getElem hk] at h2
    injection h2 with h2
    rw [h2]; rfl
/-- What a part of a row reads as. -/
structure Part (w0 V : World) (A : Option Addr) (m : Nat) (ys : List Value) : Prop where
  len : ys.length = m * 3
  cells : ∀ W, Below V.heap.size V W → 0 < ys.length → ∃ ad, A = some ad ∧ ∀ j u, ys[j]? = some u → W.cell? (ad.add j) = some u
  ones : ∀ u ∈ ys, u.oneCell' = true
/-- The row, parted at j. -/
theorem SL.parts {w0 V : World} {Q R : List Pk} {v : Value} (h : SL w0 Q R v V) {j : Nat} (hj : j < R.length) :
    ∃ g c xs ys, v = .slice (some ⟨g, 0, none⟩) R.length c ∧ R.length ≤ c ∧ c ≤ maxLen ∧ Part w0 V (some ⟨g, 0, none⟩) j xs ∧ PkV w0 (· < w0.heap.size) xs (R.take j) ∧
      Part w0 V (if c = j + 1 then some ⟨g, 0, none⟩ else some ⟨g, (j + 1) * 3, none⟩) (R.length - (j + 1)) ys ∧ PkV w0 (· < w0.heap.size) ys (R.drop (j + 1)) ∧
      ∃ (p : Pk) (Ap : Option Addr) (cp : Nat), R[j]? = some p ∧ (V.cell? ⟨g, j * 3, none⟩ = some (.int .i64 p.frm) ∧ V.cell? ⟨g, j * 3 + 1, none⟩ = some (.int .i64 p.to) ∧ V.cell? ⟨g, j * 3 + 2, none⟩ = some (.slice Ap p.data.length cp)) ∧ g < V.heap.size ∧ RBs w0 (· < w0.heap.size) Ap p.data := by
  obtain ⟨xs, ho, hp⟩ := h.row
  have hl := hp.1
  rcases ho.2 with ⟨-, h0⟩ | ⟨g, c, cur, rfl, hb, hg, hc, hm, hs, ht⟩
  · omega
  have hcl := fun (i : Nat) (u : Value) (hu : xs[i]? = some u) => World.ownsRow.cells ho (g := g) rfl i u hu
  have hgl : g < V.heap.size := (Array.getElem?_eq_some_iff.1 hg).1
  refine ⟨g, c, xs.take (j * 3), xs.drop ((j + 1) * 3), rfl, hc, hm, ⟨by rw [List.length_take]; omega, fun W hW _ => ⟨_, rfl, fun i u hu => ?_⟩, (hp.take j (by omega)).ones⟩, hp.take j (by omega), ⟨by rw [List.length_drop]; omega, fun W hW hpos => ?_, (hp.drop (j + 1) (by omega)).ones⟩, hp.drop (j + 1) (by omega), ?_⟩
  · have hu' : xs[i]? = some u := by
      rw [List.getElem?_take] at hu
      split at hu
      · exact hu
      · cases hu
    have := hcl i u hu'
    rw [add_none] at this ⊢
    exact (hW.cell (p := ⟨g, 0 + i, none⟩) hgl).trans this
  · rw [List.length_drop] at hpos
    rw [if_neg (by omega)]
    refine ⟨_, rfl, fun i u hu => ?_⟩
    rw [List.getElem?_drop] at hu
    have := hcl _ u hu
    rw [add_none] at this ⊢
    rw [Nat.zero_add] at this
    exact (hW.cell (p := ⟨g, (j + 1) * 3 + i, none⟩) hgl).trans this
  · obtain ⟨v, h0, h1, h2, ⟨Ap, cp, rfl, h3, h4, h5⟩, h6⟩ := hp.2 j hj
    refine ⟨R[j], Ap, cp, List.getElem?_eq_getElem hj, ⟨?_, ?_, ?_⟩, hgl, h5⟩
    · have := hcl _ _ h0; rwa [add_none, Nat.zero_add] at this
    · have := hcl _ _ h1; rwa [add_none, Nat.zero_add] at this
    · have := hcl _ _ h2; rwa [add_none, Nat.zero_add] at this
/-- A new row, made behind w. -/
theorem SL.turn {w0 w w' : World} {Q R R' : List Pk} {v v' : Value} {xs : List Value} (h : SL w0 Q R v w) (hb : Below w.heap.size w w') (ho : w'.ownsRow w.heap.size 28 3 v' R'.length xs) (hp : PkV w0 (· < w0.heap.size) xs R') : SL w0 Q R' v' w' := by
  have hlt := h.lt
  obtain ⟨A, c, A', c', h3, h4⟩ := h.box
  refine ⟨h.bel.trans (hb.mono h.bel.size), Nat.lt_of_lt_of_le h.lt hb.size, ⟨xs, ⟨ho.1, by
    rcases ho.2 with h1 | ⟨g, cap, cur, h1, h2, h3⟩
    · exact .inl h1
    · exact .inr ⟨g, cap, cur, h1, by omega, h3⟩⟩, hp⟩, A, c, A', c', blk_step h3 hb, (h4.keep fun b o hs => hb.cell (p := ⟨b, o, none⟩) hs.1).mono fun b hs => ⟨Nat.lt_of_lt_of_le hs.1 hb.size, fun e => ?_⟩⟩
  have := (World.ownsRow.lt ho b e).1
  omega
/-- What is read elsewhere than in the row, kept. -/
theorem NR.er {w w' : World} {v : Value} {A A' : Option Addr} {c c' : Nat} {n : Nt} (h : NR w (fun b => b < w.heap.size ∧ Er v b) A c A' c' n) (hb : Below w.heap.size w w') : NR w' (fun b => b < w'.heap.size ∧ Er v b) A c A' c' n :=
  (h.keep fun b o hs => hb.cell (p := ⟨b, o, none⟩) hs.1).mono fun b hs => ⟨Nat.lt_of_lt_of_le hs.1 hb.size, hs.2⟩

/-- A valid queue on links that are not cut. -/
def okQ (Q : List Pk) : Prop := ntB ⟨Q, []⟩ = true
theorem all_plain {Q : List Pk} {j : Nat} {p : Pk} (h : ntB ⟨Q, []⟩ = true) (hp : Q[j]? = some p) :
    delivN ⟨Q, []⟩ j = p ∧ loseN ⟨Q, []⟩ j = (⟨Q.take j ++ Q.drop (j + 1), []⟩, 0) ∧ ntB ⟨Q.take j ++ Q.drop (j + 1), []⟩ = true ∧ (Q.take j ++ Q.drop (j + 1)).length + 1 = Q.length := by
  obtain ⟨hj, rfl⟩ := List.getElem?_eq_some_iff.1 hp
  have hj' : j < (⟨Q, []⟩ : Nt).q.length := hj
  have hlen := less_len (n := ⟨Q, []⟩) hj'
  refine ⟨?_, lose_less h hj', ntB_of h (by have := (ntB_iff.1 h).1; show (lessN ⟨Q, []⟩ j).q.length ≤ 4096; have : Q.length ≤ 4096 := this; have : (lessN ⟨Q, []⟩ j).q.length + 1 = Q.length := hlen; omega) rfl (less_mem (n := ⟨Q, []⟩) (k := j)), hlen⟩
  rw [delivN_ok (findN_at h hj') hj', if_neg (by simp [cutB])]
end Go.Proofs.Ytbckcdpiifhldaa
