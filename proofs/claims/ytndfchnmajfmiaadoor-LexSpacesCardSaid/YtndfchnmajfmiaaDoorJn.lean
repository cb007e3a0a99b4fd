/- LexJoined: the law. -/
import Derived.Test.YtndfchnmajfmiaaDoorWr
import Derived.Test.YtndfchnmajfmiaaDoorPj
import Derived.Maps.AppendAt
import Derived.Laws.AppendOwnNone
namespace Go.Proofs.YtndfchnmajfmiaaDoor
open Go.RowKit

theorem TO.form' {w : World} {B : Nat} {v : Value} {m : List Tk} (h : TO w B v m) : ∃ A c, v = .slice A m.length c ∧ (A = none → c = 0) ∧ TR w w.heap.size A m := by
  obtain ⟨A, c, rfl, -, hr⟩ := h.form
  refine ⟨A, c, rfl, fun hA => ?_, hr⟩
  subst hA
  rcases h.2 with ⟨e, _⟩ | ⟨g, cap, cur, e, _⟩
  · injection e
  · injection e with e; cases e
/-- Lex of a source: its tokens, and whether they are nil. -/
theorem Lex_okN (s : ByteArray) (hl : s.size ≤ 65536) {m : List Tk} (h : lexL s.data.toList = .ok m) (w : World) (hK : KW w) :
    Calls Tryd.prog 12 #[.string s] w fun e w' => ∃ A c, e = .returned (.tuple #[.slice A m.length c, .int .i64 0, .int .i64 0]) ∧ (A = none → c = 0) ∧ TR w' w'.heap.size A m ∧ Below w.heap.size w w' := by
  refine (Lex_any s hl w hK).mono fun e w' he => ?_
  unfold LexPost at he
  rw [h] at he
  obtain ⟨v, rfl, hto, hb⟩ := he
  obtain ⟨A, c, rfl, hc, hr⟩ := hto.form'
  exact ⟨A, c, rfl, hc, hr, hb⟩

theorem TR.cells {w : World} {b off : Nat} {m : List Tk} (h : ∀ i (h : i < m.length), w.cell? ⟨b, off + i * 4, none⟩ = some (.int .i64 m[i].k) ∧ w.cell? ⟨b, off + i * 4 + 1, none⟩ = some (.string ⟨m[i].s.toArray⟩) ∧
    w.cell? ⟨b, off + i * 4 + 2, none⟩ = some (.int .i64 m[i].n) ∧ w.cell? ⟨b, off + i * 4 + 3, none⟩ = some (.int .i64 m[i].p)) : ∀ j u, (flatT m)[j]? = some u → w.cell? ((⟨b, off, none⟩ : Addr).add j) = some u := by
  intro j u hu
  have hj : j < (flatT m).length := (List.getElem?_eq_some_iff.1 hu).1
  rw [flatT_length] at hj
  have hi : j / 4 < m.length := by omega
  obtain ⟨g0, g1, g2, g3⟩ := flatT_get m (j / 4) hi
  obtain ⟨c0, c1, c2, c3⟩ := h (j / 4) hi
  rw [add_none]
  have hr : j % 4 = 0 ∨ j % 4 = 1 ∨ j % 4 = 2 ∨ j % 4 = 3 := by omega
  rcases hr with hr | hr | hr | hr
  · have e : j = j / 4 * 4 := by omega
    generalize j / 4 = q at *
    subst e
    rw [g0] at hu
    rw [c0, hu]
  · have e : j = j / 4 * 4 + 1 := by omega
    generalize j / 4 = q at *
    subst e
    rw [g1] at hu
    rw [← Nat.add_assoc, c1, hu]
  · have e : j = j / 4 * 4 + 2 := by omega
    generalize j / 4 = q at *
    subst e
    rw [g2] at hu
    rw [← Nat.add_assoc, c2, hu]
  · have e : j = j / 4 * 4 + 3 := by omega
    generalize j / 4 = q at *
    subst e
    rw [g3] at hu
    rw [← Nat.add_assoc, c3, hu]
theorem flatT_one' (m : List Tk) : ∀ u ∈ flatT m, u.oneCell' = true := by
  intro u hu
  unfold flatT at hu
  obtain ⟨t, -, ht⟩ := List.mem_flatMap.1 hu
  simp only [tkC, List.mem_cons, List.not_mem_nil, or_false] at ht
  rcases ht with rfl | rfl | rfl | rfl <;> rfl

/-- append of a list of tokens, empty or not. -/
theorem app_toks {ops : Array Oper} {rest : List Oper} {o : Oper} {a : Act} {Q : Exit → Act → World → Prop} {w : World} (hgd : o.guard = none) (s x : Operand)
    (ho : o.op = .call { callee := .builtin .append, args := #[s, x], argTypes := #[23, 23] })
    (B : Nat) (v : Value) (m l : List Tk) (hs : a.eval s = v) (hown : TO w B v m) (A : Option Addr) (c : Nat) (hA : A = none → c = 0) (hx : a.eval x = .slice A l.length c) (hr : TR w w.heap.size A l) (hlen : m.length + l.length ≤ 100000000) (hB : B ≤ w.heap.size)
    (h : ∀ v' w', TO w' B v' (m ++ l) → Below B w w' → wpList Tryd.prog ops Q rest (a.put o.dst v') w') : wpList Tryd.prog ops Q (o :: rest) a w := by
  obtain ⟨i0, hi0, hz0, hz1, hz2⟩ := info_parts Tryd.infoT
  cases A with
  | none =>
    obtain rfl := hA rfl
    have hl : l = [] := by
      rcases Nat.eq_zero_or_pos l.length with h0 | h0
      · exact List.eq_nil_of_length_eq_zero h0
      · obtain ⟨b, off, e, -⟩ := hr h0
        cases e
    subst hl
    refine wpList_append_own_none hgd s x 23 ho B 35 i0 4 Tryd.underlying23 hi0 v m.length (flatT m) hs hown hx ?_
    have := h v w (by rw [List.append_nil]; exact hown) (Below.refl _ _)
    exact this
  | some ad =>
    have hc : ∀ j u, (flatT l)[j]? = some u → w.cell? (ad.add j) = some u := by
      rcases Nat.eq_zero_or_pos l.length with h0 | h0
      · have hl : l = [] := List.eq_nil_of_length_eq_zero h0
        subst hl
        intro j u hu
        simp [flatT] at hu
      · obtain ⟨b, off, e, -, hcs⟩ := hr h0
        injection e with e
        subst e
        exact TR.cells hcs
    refine wpList_plain hgd fun K hK => ?_
    obtain ⟨v', w', hrun, h2, h3, -, -⟩ := run_append_own_at (P := Tryd.prog) w B 23 o.type 35 i0 _ 4 40 Tryd.underlying23 hi0 hz0 hz1 hz2 rfl (by decide) v m.length (flatT m) hown ad l.length c (flatT l) (flatT_length l) hc (flatT_one' l) (by unfold maxLen; omega) (by omega) hB
    unfold Oper.wp
    simp [execOp, ho, resolve, invoke, builtin, hs, hx, hrun, Result.andThen]
    refine hK _ _ (h v' w' ?_ ?_)
    · unfold TO
      rw [flatT_append, List.length_append]
      exact h2
    · exact (Below.refl B w).grown h3 hB fun k hk => (hown.lt k hk).1
theorem TO.fresh (w : World) : TO (w.alloc (.cells #[] 35)) w.heap.size (.slice (some ⟨w.heap.size, 0, none⟩) 0 0) [] := by
  have h := World.ownsRow_lit (base := w.heap.size) (e := 35) (size := 4) w #[] 0 (Nat.le_refl _) (by unfold maxLen; omega) rfl
  simpa [TO, flatT] using h
theorem shift_take (y : List Tk) (k d : Nat) (h : k < y.length) : (y.take (k + 1)).map (shiftT d) = (y.take k).map (shiftT d) ++ [shiftT d y[k]] := by
  rw [List.take_succ_eq_append_getElem h, List.map_append]
  rfl
end Go.Proofs.YtndfchnmajfmiaaDoor
