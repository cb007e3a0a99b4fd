/- append of packets: onto an empty row, behind a row of the call's own, behind a row that came in. -/
import Derived.Test.YtpmmahlmfcbbbaaNp
import Derived.Test.YtpmmahlmfcbbbaaFs
namespace Go.Proofs.Ytpmmahlmfcbbbaa
open Go.RowKit

theorem own_zero {w : World} {B g : Nat} (h : w.heap[g]? = some (.cells #[] 28 (0, 0))) (hB : B ≤ g) : w.ownsRow B 28 3 (.slice (some ⟨g, 0, none⟩) 0 0) 0 [] :=
  ⟨by simp, .inr ⟨g, 0, #[], rfl, hB, h, Nat.le_refl _, Nat.zero_le _, by simp, by simp⟩⟩
theorem zero_own {w : World} {B g : Nat} (h : w.ownsRow B 28 3 (.slice (some ⟨g, 0, none⟩) 0 0) 0 []) : w.heap[g]? = some (.cells #[] 28 (0, 0)) := by
  rcases h.2 with ⟨h0, -⟩ | ⟨g', cap, cur, e, -, hg, -, -, hs, -⟩
  · cases h0
  · injection e with e1 _ e3
    injection e1 with e1
    injection e1 with e1
    subst e1 e3
    have : cur = #[] := Array.eq_empty_of_size_eq_zero (by omega)
    rw [hg, this]
theorem own_lit {w : World} {B g : Nat} {x0 x1 x2 : Value} (h : w.heap[g]? = some (.cells #[x0, x1, x2] 28 (0, 0))) (hB : B ≤ g) : w.ownsRow B 28 3 (.slice (some ⟨g, 0, none⟩) 1 1) 1 [x0, x1, x2] :=
  ⟨by simp, .inr ⟨g, 1, _, rfl, hB, h, Nat.le_refl _, by unfold maxLen; omega, by simp, by simp⟩⟩
theorem setRow_same {w : World} {g : Nat} {cur : Array Value} {t : TypeId} (h : w.heap[g]? = some (.cells cur t (0, 0))) (cs : Array Value) (hc : cs = cur) : Below w.heap.size w (w.setRow g cs) := by
  subst hc
  refine ⟨rfl, rfl, rfl, by simp, fun k hk => ?_⟩
  by_cases hg : k = g
  · subst hg; rw [setRow_heap w k cs cs _ _ h, h]
  · exact setRow_other w g k cs hg
/-- A row of packets: empty and without room, or of the call's own. -/
def Own0 (B : Nat) (n : Nat) (xs : List Value) (v : Value) (W : World) : Prop :=
  W.ownsRow B 28 3 v n xs ∧ (n = 0 → ∃ g, v = .slice (some ⟨g, 0, none⟩) 0 0)
theorem append_empty (w : World) (B : Nat) (ty : TypeId) (g : Nat) (hown : w.ownsRow B 28 3 (.slice (some ⟨g, 0, none⟩) 0 0) 0 []) (A : Option Addr) (m c : Nat) (news : List Value) (hl : news.length = m * 3)
    (hA : 0 < news.length → ∃ ad, A = some ad ∧ ∀ j u, news[j]? = some u → w.cell? (ad.add j) = some u) (h1 : ∀ u ∈ news, u.oneCell' = true) (hlen : m ≤ 1000000) (hB : B ≤ w.heap.size) :
    ∃ v' w', (Builtin.append_ #[22, 22] ty #[.slice (some ⟨g, 0, none⟩) 0 0, .slice A m c]).run Try.prog w = .ok v' w' ∧ Own0 B m news v' w' ∧ Below w.heap.size w w' := by
  obtain ⟨i0, hi0, hz0, hz1, hz2⟩ := info_parts Try.infoP
  have hs := Src.ofRow (P := Try.prog) Try.underlying22 w A m c news hl (by decide) hA h1
  have hgz := zero_own hown
  by_cases hm : m = 0
  · subst hm
    have hn : news = [] := List.eq_nil_of_length_eq_zero (by simpa using hl)
    subst hn
    have hst := run_storeCells_at Try.prog g 0 28 [] 0 #[] w hgz (by simp) (by simp)
    simp only [Nat.add_zero] at hst
    have hr : (Builtin.append_ #[22, 22] ty #[.slice (some ⟨g, 0, none⟩) 0 0, .slice A 0 c]).run Try.prog w = .ok (.slice (some ⟨g, 0, none⟩) 0 0) (w.setRow g #[]) := by
      have hs' : Src Try.prog i0.size 22 (.slice A 0 c) 0 [] w := by rw [hz1]; exact hs
      have hst2 : (storeCells ⟨g, 0, none⟩ []).run Try.prog w = .ok () (w.setRow g #[]) := by simpa using hst
      rcases hs.kind with ⟨e', hk⟩ | hk <;> simp [Builtin.append_, run_underlying Try.underlying22, run_underlying hk, sizeOf, typeInfo, hi0, hs'.len, hs'.cells, Addr.add_lit, hst2]
    refine ⟨_, _, hr, ⟨?_, fun _ => ⟨g, rfl⟩⟩, setRow_same hgz _ rfl⟩
    exact ownsRow_below hown (setRow_same hgz _ rfl)
  · obtain ⟨c', w', hr, ho, hb⟩ := run_append_fresh (P := Try.prog) w B 22 22 ty 28 i0 _ Try.underlying22 hi0 hz0 3 40 hz1 hz2 (by decide) rfl g (.slice A m c) m news hs (by omega) (by omega) hB
    exact ⟨_, _, hr, ⟨ho, fun h => absurd h hm⟩, hb⟩
/-- What an append of m behind n does to rows. -/
def Rr (B n m : Nat) (xs ys : List Value) (w w' : World) : Prop := Below w.heap.size w w' ∨ (1 ≤ n ∧ SparedR B 28 3 n m xs ys w w')
theorem Rr.size {B n m : Nat} {xs ys : List Value} {w w' : World} (h : Rr B n m xs ys w w') : w.heap.size ≤ w'.heap.size := by
  rcases h with h | ⟨-, h⟩
  · exact h.size
  · exact h.size
theorem Rr.few {B n m k : Nat} {xs ys zs : List Value} {v : Value} {w w' : World} (h : Rr B n m xs ys w w') (hk : k ≤ 1) (ho : w.ownsRow B 28 3 v k zs) : w'.ownsRow B 28 3 v k zs := by
  rcases h with h | ⟨h1, h⟩
  · exact ownsRow_below ho h
  · exact h.few k zs v (by omega) ho
theorem Rr.one {B n m : Nat} {xs ys : List Value} {v : Value} {w w' : World} (h : Rr B n m xs ys w w') (ho : Own0 B n xs v w) : Own0 B n xs v w' := by
  rcases h with h | ⟨h1, h⟩
  · exact ⟨ownsRow_below ho.1 h, ho.2⟩
  · exact ⟨h.one v ho.1, ho.2⟩
theorem Rr.two {B n m : Nat} {xs ys : List Value} {v : Value} {w w' : World} (h : Rr B n m xs ys w w') (ho : w.ownsRow B 28 3 v (n + m) (xs ++ ys)) : w'.ownsRow B 28 3 v (n + m) (xs ++ ys) := by
  rcases h with h | ⟨h1, h⟩
  · exact ownsRow_below ho h
  · exact h.two v ho
theorem append_behind (w : World) (B : Nat) (ty : TypeId) (v : Value) (n : Nat) (xs : List Value) (hown : Own0 B n xs v w) (A : Option Addr) (m c : Nat) (news : List Value) (hl : news.length = m * 3)
    (hA : 0 < news.length → ∃ ad, A = some ad ∧ ∀ j u, news[j]? = some u → w.cell? (ad.add j) = some u) (h1 : ∀ u ∈ news, u.oneCell' = true) (hlen : n + m ≤ 1000000) (hB : B ≤ w.heap.size) :
    ∃ v' w', (Builtin.append_ #[22, 22] ty #[v, .slice A m c]).run Try.prog w = .ok v' w' ∧ w'.ownsRow B 28 3 v' (n + m) (xs ++ news) ∧ Rr B n m xs news w w' ∧ Below B w w' := by
  obtain ⟨i0, hi0, hz0, hz1, hz2⟩ := info_parts Try.infoP
  have hs := Src.ofRow (P := Try.prog) Try.underlying22 w A m c news hl (by decide) hA h1
  by_cases hn : n = 0
  · subst hn
    obtain ⟨g, rfl⟩ := hown.2 rfl
    have hx : xs = [] := List.eq_nil_of_length_eq_zero (by have := hown.1.1; simpa using this)
    subst hx
    obtain ⟨v', w', hr, ho, hb⟩ := append_empty w B ty g hown.1 A m c news hl hA h1 (by omega) hB
    exact ⟨v', w', hr, by rw [Nat.zero_add, List.nil_append]; exact ho.1, .inl hb, hb.mono hB⟩
  · obtain ⟨v', w', hr, ho, hsp⟩ := run_append_spare (P := Try.prog) w B 22 22 ty 28 i0 _ Try.underlying22 hi0 hz0 3 40 hz1 hz2 (by decide) rfl v n xs hown.1 (.slice A m c) m news hs (by omega) hB
    exact ⟨v', w', hr, ho, .inr ⟨by omega, hsp⟩, hsp.below⟩
end Go.Proofs.Ytpmmahlmfcbbbaa
