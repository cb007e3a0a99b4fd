/- Plain facts on tokens of a source. -/
import Derived.Test.YtndfchnmajfmiaaDoorSc
namespace Go.Proofs.YtndfchnmajfmiaaDoor

theorem take_run_name {c : UInt8} {r : List UInt8} (h : letterB c = true) (h32 : run partB (c :: r) ≤ 32) : nameB ((c :: r).take (run partB (c :: r))) = true := by
  rw [nameB_run h]; exact decide_eq_true h32
/-- A piece's token is valid, and stands at its place. -/
theorem piece_tok {l : List UInt8} {p n : Nat} {t : Tk} (h : piece l p = some (n, some t)) : validB t = true ∧ t.p = p := by
  cases l with
  | nil => cases h
  | cons c r =>
    rw [piece] at h
    split at h
    · cases h
    · split at h
      · rename_i h2
        split at h
        · rename_i h3
          simp only [Option.some.injEq, Prod.mk.injEq] at h
          obtain ⟨-, rfl⟩ := h
          refine ⟨?_, rfl⟩
          unfold validB
          rw [if_pos rfl]
          simp only [take_run_name h2 h3]
          rfl
        · cases h
      · split at h
        · split at h
          · rename_i h3
            simp only [Option.some.injEq, Prod.mk.injEq] at h
            obtain ⟨-, rfl⟩ := h
            refine ⟨?_, rfl⟩
            unfold validB
            rw [if_neg (by simp), if_pos rfl]
            simp only [List.isEmpty_nil, Bool.true_and, Bool.and_eq_true, decide_eq_true_eq]
            exact ⟨by omega, by have := h3.1; omega⟩
          · cases h
        · split at h
          · cases h
          · split at h
            · rename_i h3
              simp only [Option.some.injEq, Prod.mk.injEq] at h
              obtain ⟨-, rfl⟩ := h
              refine ⟨?_, rfl⟩
              unfold validB
              rw [if_neg (by simp), if_neg (by simp), if_pos rfl]
              simp only [h3]
              rfl
            · cases h

theorem lexR_cases (l : List UInt8) (p : Nat) : (l = [] ∧ lexR l p = .ok []) ∨ (l ≠ [] ∧ piece l p = none ∧ lexR l p = .error p) ∨
    ∃ n t, piece l p = some (n, t) ∧ 1 ≤ n ∧ n ≤ l.length ∧ lexR l p = (lexR (l.drop n) (p + n)).map (t.toList ++ ·) := by
  by_cases hl : l = []
  · subst hl; exact .inl ⟨rfl, rfl⟩
  · cases h : piece l p with
    | none => exact .inr (.inl ⟨hl, rfl, lexR_err hl h⟩)
    | some q =>
      obtain ⟨n, t⟩ := q
      have := piece_pos h
      exact .inr (.inr ⟨n, t, rfl, this.1, this.2, lexR_step h⟩)

/-- The tokens of a source are valid, and lie in it. -/
theorem lexR_tokens (N : Nat) : ∀ (l : List UInt8) (p : Nat) (m : List Tk), l.length ≤ N → lexR l p = .ok m → ∀ t ∈ m, validB t = true ∧ (p : Int) ≤ t.p ∧ t.p < p + l.length := by
  induction N with
  | zero =>
    intro l p m hl h t ht
    have : l = [] := List.eq_nil_of_length_eq_zero (by omega)
    subst this
    rw [lexR_nil] at h
    cases h
    cases ht
  | succ N ih =>
    intro l p m hl h t ht
    rcases lexR_cases l p with ⟨rfl, h1⟩ | ⟨-, -, h1⟩ | ⟨n, u, hp, h1, h2, h3⟩
    · rw [h1] at h; cases h; cases ht
    · rw [h1] at h; cases h
    · rw [h3] at h
      cases hr : lexR (l.drop n) (p + n) with
      | error q => rw [hr] at h; cases h
      | ok k =>
        rw [hr] at h
        simp only [Except.map, Except.ok.injEq] at h
        subst h
        rcases List.mem_append.1 ht with ht | ht
        · cases u with
          | none => cases ht
          | some u =>
            simp only [Option.toList_some, List.mem_singleton] at ht
            subst ht
            obtain ⟨g1, g2⟩ := piece_tok hp
            exact ⟨g1, by omega, by omega⟩
        · have hd : (l.drop n).length = l.length - n := List.length_drop
          have := ih _ _ _ (by omega) hr t ht
          refine ⟨this.1, by omega, by omega⟩
theorem lexL_valid {l : List UInt8} {m : List Tk} (h : lexL l = .ok m) : ∀ t ∈ m, validB t = true := fun t ht => (lexR_tokens l.length l 0 m (Nat.le_refl _) h t ht).1
theorem valid_name {t : Tk} (h : validB t = true) (hk : t.k = 1) : nameB t.s = true ∧ t.n = 0 := by
  unfold validB at h
  rw [if_pos hk, Bool.and_eq_true, beq_iff_eq] at h
  exact ⟨h.2, h.1⟩
/-- A name is one token. -/
theorem lexL_name {s : List UInt8} (h : nameB s = true) : lexL s = .ok [⟨1, s, 0, 0⟩] := by
  cases s with
  | nil => cases h
  | cons c r =>
    have h' := h
    simp only [nameB, Bool.and_eq_true, decide_eq_true_eq] at h
    obtain ⟨hc, hl, hr⟩ := h
    have hrun : run partB (c :: r) = (c :: r).length := by
      have := run_all_iff partB (c :: r)
      rw [List.all_cons, hr, show partB c = true by simp [partB, hc]] at this
      exact of_decide_eq_true this
    have hsp : spaceB c = false := by
      have := all_imp (P := letterB) (Q := fun c => !spaceB c) (by decide +kernel) hc
      simpa using this
    have hp : piece (c :: r) 0 = some ((c :: r).length, some ⟨1, c :: r, 0, 0⟩) := by
      rw [piece, hrun, if_neg (by rw [hsp]; decide), if_pos hc, if_pos (by simp; omega), List.take_length]
      rfl
    unfold lexL
    rw [lexR_step hp, List.drop_length, lexR_nil]
    rfl
end Go.Proofs.YtndfchnmajfmiaaDoor
