/- Plain facts on tokens of a source. -/
import Derived.Test.YtndfchnmajfmiaaDoorSc
namespace Go.Proofs.YtndfchnmajfmiaaDoor

theorem take_run_name {c : UInt8} {r : List UInt8} (h : letterB c = true) (h32 : run partB (c :: r) ≤ 32) : nameB ((c :: r).take (run partB (c :: r))) = true := by
  rw [nameB_run h]; exact decide_eq_true h32
/-- A piece's token is valid, and stands at its place. -/
theorem piece_tok {l : List UInt8} {p n : Nat} {t : Tk} (h : piece l p = some (n, some t)) : validB t = true ∧ t.p = p := by
  cases l with
  | nil => cases h
  | cons c r =>
    rw [piece] at h
    split at h
    · cases h
    · split at h
      · rename_i h2
        split at h
        · rename_i h3
          simp only [Option.some.injEq, Prod.mk.injEq] at h
          obtain ⟨-, rfl⟩ := h
          refine ⟨?_, rfl⟩
          unfold validB
          rw [if_pos rfl]
          simp only [take_run_name h2 h3]
          rfl
        · cases h
      · split at h
        · split at h
          · rename_i h3
            simp only [Option.some.injEq, Prod.mk.injEq] at h
            obtain ⟨-, rfl⟩ := h
            refine ⟨?_, rfl⟩
            unfold validB
            rw [if_neg (by simp), if_pos rfl]
            simp only [List.isEmpty_nil, Bool.true_and, Bool.and_eq_true, decide_eq_true_eq]
            exact ⟨by omega, by have := h3.1; omega⟩
          · cases h
        · split at h
          · cases h
          · split at h
            · rename_i h3
              simp only [Option.some.injEq, Prod.mk.injEq] at h
              obtain ⟨-, rfl⟩ := h
              refine ⟨?_, rfl⟩
              unfold validB
              rw [if_neg (by simp), if_neg (by simp), if_pos rfl]
              simp only [h3]
              rfl
            · cases h

theorem lexR_cases (l : List UInt8) (p : Nat) : (l = [] ∧ lexR l p = .ok []) ∨ (l ≠ [] ∧ piece l p = none ∧ lexR l p = .error p) ∨
    ∃ n t, piece l p = some (n, t) ∧ 1 ≤ n ∧ n ≤ l.length ∧ lexR l p = (lexR (l.drop n) (p + n)).map (t.toList ++ ·) := by
  by_cases hl : l = []
  · subst hl; exact .inl ⟨rfl, rfl⟩
  · cases h : piece l p with
    | none => exact .inr (.inl ⟨hl, rfl, lexR_err hl h⟩)
    | some q =>
      obtain ⟨n, t⟩ := q
      have := piece_pos h
      exact .inr (.inr ⟨n, t, rfl, this.1, this.2, lexR_step h⟩)

/-- The tokens of a source are valid, and lie in it. -/
theorem lexR_tokens (N : Nat) : ∀ (l : List UInt8) (p : Nat) (m : List Tk), l.length ≤ N → lexR l p = .ok m → ∀ t ∈ m, validB t = true ∧ (p : Int) ≤ t.p ∧ t.p < p + l.length := by
  induction N with
  | zero =>
    intro l p m hl h t ht
    have : l = [] := List.eq_nil_of_length_eq_zero (by omega)
    subst this
    rw [lexR_nil] at h
    cases h
    cases ht
  | succ N ih =>
    intro l p m hl h t ht
    rcases lexR_cases l p with ⟨rfl, h1⟩ | ⟨-, -, h1⟩ | ⟨n, u, hp, h1, h2, h3⟩
    · rw [h1] at h; cases h; cases ht
    · rw [h1] at h; cases h
    · rw [h3] at h
      cases hr : lexR (l.drop n) (p + n) with
      | error q => rw [hr] at h; cases h
      | ok k =>
        rw [hr] at h
        simp only [Except.map, Except.ok.injEq] at h
        subst h
        rcases List.mem_append.1 ht with ht | ht
        · cases u with
          | none => cases ht
          | some u =>
            simp only [Option.toList_some, List.mem_singleton] at ht
            subst ht
            obtain ⟨g1, g2⟩ := piece_tok hp
            exact ⟨g1, by omega, by omega⟩
        · have hd : (l.drop n).length = l.length - n := List.length_drop
          have := ih _ _ _ (by omega) hr t ht
          refine ⟨this.1, by omega, by omega⟩
theorem lexL_valid {l : List UInt8} {m : List Tk} (h : lexL l = .ok m) : ∀ t ∈ m, validB t = true := fun t ht => (lexR_tokens l.length l 0 m (Nat.le_refl _) h t ht).1
theorem valid_name {t : Tk} (h : validB t = true) (hk : t.k = 1) : nameB t.s = true ∧ t.n = 0 := by
  unfold validB at h
  rw [if_pos hk, Bool.and_eq_true, beq_iff_eq] at h
  exact ⟨h.2, h.1⟩
/-- A name is one token. -/
theorem lexL_name {s : List UInt8} (h : nameB s = true) : lexL s = .ok [⟨1, s, 0, 0⟩] := by
  cases s with
  | nil => cases h
  | cons c r =>
    have h' := h
    simp only [nameB, Bool.and_eq_true, decide_eq_true_eq] at h
    obtain ⟨hc, hl, hr⟩ := h
    have hrun : run partB (c :: r) = (c :: r).length := by
      have := run_all_iff partB (c :: r)
      rw [List.all_cons, hr, show partB c = true by simp [partB, hc]] at this
      exact of_decide_eq_true this
    have hsp : spaceB c = false := by
      have := all_imp (P := letterB) (Q := fun c => !spaceB c) (by decide +kernel) hc
      simpa using this
    have hp : piece (c :: r) 0 = some ((c :: r).length, some ⟨1, c :: r, 0, 0⟩) := by
      rw [piece, hrun, if_neg (by rw [hsp]; decide), if_pos hc, if_pos (by simp; omega), List.take_length]
      rfl
    unfold lexL
    rw [lexR_step hp, List.drop_length, lexR_nil]
    rfl

/-! Runs of a part, and of a longer list -/
theorem run_take (p : UInt8 → Bool) (l : List UInt8) : ∀ k, run p (l.take k) = min (run p l) k := by
  induction l with
  | nil => intro k; simp [run]
  | cons c r ih =>
    intro k
    cases k with
    | zero => simp [run]
    | succ k =>
      rw [List.take_succ_cons, run, run, ih]
      split <;> omega
theorem run_append_lt (p : UInt8 → Bool) (l x : List UInt8) (h : run p l < l.length) : run p (l ++ x) = run p l := by
  induction l with
  | nil => simp at h
  | cons c r ih =>
    rw [List.cons_append, run, run]
    rw [run] at h
    split
    · rename_i hc
      rw [if_pos hc] at h
      rw [ih (by simpa using h)]
    · rfl
theorem run_append_stop (p : UInt8 → Bool) (l x : List UInt8) {c : UInt8} (hc : p c = false) : run p (l ++ c :: x) = run p l := by
  induction l with
  | nil =>
    show run p (c :: x) = 0
    rw [run, if_neg (by rw [hc]; decide)]
  | cons d r ih => rw [List.cons_append, run, run, ih]
theorem take_append_run {p : UInt8 → Bool} (l x : List UInt8) : (l ++ x).take (run p l) = l.take (run p l) := List.take_append_of_le_length (run_le p l)

/-- A piece that lies in a part of the list is the part's piece. -/
theorem piece_take {l : List UInt8} {p n k : Nat} {t : Option Tk} (h : piece l p = some (n, t)) (hk : n ≤ k) : piece (l.take k) p = some (n, t) := by
  cases l with
  | nil => cases h
  | cons c r =>
    have hn := (piece_pos h).1
    cases k with
    | zero => omega
    | succ k =>
      have ht : (c :: r).take (k + 1) = c :: r.take k := List.take_succ_cons
      have hr : ∀ q, run q (c :: r) ≤ k + 1 → run q (c :: r.take k) = run q (c :: r) ∧ (c :: r.take k).take (run q (c :: r)) = (c :: r).take (run q (c :: r)) := fun q hq => by
        rw [← ht, run_take]
        exact ⟨by omega, by rw [List.take_take]; congr 1; omega⟩
      rw [ht]
      rw [piece] at h ⊢
      split at h
      · rename_i h1; rw [if_pos h1]; exact h
      · rename_i h1
        rw [if_neg h1]
        split at h
        · rename_i h2
          rw [if_pos h2]
          split at h
          · rename_i h3
            have hh := h
            simp only [Option.some.injEq, Prod.mk.injEq] at hh
            obtain ⟨e1, e2⟩ := hr partB (by omega)
            rw [e1, e2, if_pos h3]
            exact h
          · cases h
        · rename_i h2
          rw [if_neg h2]
          split at h
          · rename_i h3
            rw [if_pos h3]
            split at h
            · rename_i h4
              have hh := h
              simp only [Option.some.injEq, Prod.mk.injEq] at hh
              obtain ⟨e1, e2⟩ := hr digitB (by omega)
              rw [e1, e2, if_pos h4]
              exact h
            · cases h
          · rename_i h3
            rw [if_neg h3]
            split at h
            · rename_i h4
              have hh := h
              simp only [Option.some.injEq, Prod.mk.injEq] at hh
              have h47 : run (· != 10) (c :: r) = run (· != 10) r + 1 := run_pos (by rw [h4.1]; rfl)
              have h48 : 1 ≤ run (· != 10) r := by
                cases r with
                | nil => have := h4.2; cases this
                | cons d r' =>
                  have e := h4.2
                  simp only [List.head?_cons, Option.some.injEq] at e
                  subst e
                  have : run (· != 10) ((47 : UInt8) :: r') = run (· != 10) r' + 1 := run_pos (by decide)
                  omega
              have hhd : (r.take k).head? = some 47 := by
                cases r with
                | nil => have := h4.2; cases this
                | cons d r' => cases k with
                  | zero => omega
                  | succ k => rw [List.take_succ_cons]; exact h4.2
              obtain ⟨e1, -⟩ := hr (· != 10) (by omega)
              rw [if_pos ⟨h4.1, hhd⟩, e1]
              exact h
            · rename_i h4
              have hhd : ¬ (c = 47 ∧ (r.take k).head? = some 47) := by
                rintro ⟨g1, g2⟩
                refine h4 ⟨g1, ?_⟩
                cases r with
                | nil => simp at g2
                | cons d r' => cases k with
                  | zero => simp at g2
                  | succ k => rw [List.take_succ_cons] at g2; exact g2
              rw [if_neg hhd]
              exact h
/-- A piece behind which something stands is a piece whatever follows. -/
theorem piece_append {l : List UInt8} {p n : Nat} {t : Option Tk} (h : piece l p = some (n, t)) (hn : n < l.length) (x : List UInt8) : piece (l ++ x) p = some (n, t) := by
  cases l with
  | nil => cases h
  | cons c r =>
    have hr : ∀ q, run q (c :: r) < (c :: r).length → run q (c :: (r ++ x)) = run q (c :: r) ∧ (c :: (r ++ x)).take (run q (c :: r)) = (c :: r).take (run q (c :: r)) := fun q hq => by
      have := run_append_lt q (c :: r) x hq
      rw [List.cons_append] at this
      refine ⟨this, ?_⟩
      rw [← List.cons_append]
      exact take_append_run _ _
    rw [List.cons_append]
    rw [piece] at h ⊢
    split at h
    · rename_i h1; rw [if_pos h1]; exact h
    · rename_i h1
      rw [if_neg h1]
      split at h
      · rename_i h2
        rw [if_pos h2]
        split at h
        · rename_i h3
          have hh := h
          simp only [Option.some.injEq, Prod.mk.injEq] at hh
          obtain ⟨e1, e2⟩ := hr partB (by omega)
          rw [e1, e2, if_pos h3]
          exact h
        · cases h
      · rename_i h2
        rw [if_neg h2]
        split at h
        · rename_i h3
          rw [if_pos h3]
          split at h
          · rename_i h4
            have hh := h
            simp only [Option.some.injEq, Prod.mk.injEq] at hh
            obtain ⟨e1, e2⟩ := hr digitB (by omega)
            rw [e1, e2, if_pos h4]
            exact h
          · cases h
        · rename_i h3
          rw [if_neg h3]
          split at h
          · rename_i h4
            have hh := h
            simp only [Option.some.injEq, Prod.mk.injEq] at hh
            have hhd : (r ++ x).head? = some 47 := by
              cases r with
              | nil => have := h4.2; cases this
              | cons d r' => exact h4.2
            obtain ⟨e1, -⟩ := hr (· != 10) (by omega)
            rw [if_pos ⟨h4.1, hhd⟩, e1]
            exact h
          · rename_i h4
            split at h
            · rename_i h5
              have hh := h
              simp only [Option.some.injEq, Prod.mk.injEq] at hh
              have hhd : ¬ (c = 47 ∧ (r ++ x).head? = some 47) := by
                rintro ⟨g1, g2⟩
                refine h4 ⟨g1, ?_⟩
                cases r with
                | nil => simp at hn; omega
                | cons d r' => exact g2
              rw [if_neg hhd, if_pos h5]
              exact h
            · cases h
/-- What is no piece is none with a space and more behind it. -/
theorem piece_bad {l : List UInt8} {p : Nat} (hl : l ≠ []) (h : piece l p = none) {b : UInt8} (hb1 : partB b = false) (hb2 : digitB b = false) (x : List UInt8) (p' : Nat) : piece (l ++ b :: x) p' = none := by
  cases l with
  | nil => exact absurd rfl hl
  | cons c r =>
    have hr : ∀ q : UInt8 → Bool, q b = false → run q (c :: (r ++ b :: x)) = run q (c :: r) ∧ (c :: (r ++ b :: x)).take (run q (c :: r)) = (c :: r).take (run q (c :: r)) := fun q hq => by
      have := run_append_stop q (c :: r) x hq
      rw [List.cons_append] at this
      refine ⟨this, ?_⟩
      rw [← List.cons_append]
      exact take_append_run _ _
    rw [List.cons_append]
    rw [piece] at h ⊢
    split at h
    · cases h
    · rename_i h1
      rw [if_neg h1]
      split at h
      · rename_i h2
        rw [if_pos h2]
        split at h
        · cases h
        · rename_i h3
          obtain ⟨e1, -⟩ := hr partB hb1
          rw [e1, if_neg h3]
      · rename_i h2
        rw [if_neg h2]
        split at h
        · rename_i h3
          rw [if_pos h3]
          split at h
          · cases h
          · rename_i h4
            obtain ⟨e1, e2⟩ := hr digitB hb2
            rw [e1, e2, if_neg h4]
        · rename_i h3
          rw [if_neg h3]
          split at h
          · cases h
          · split at h
            · cases h
            · rename_i h4 h5
              have h6 : c ≠ 47 := by rintro rfl; exact h5 (by decide)
              rw [if_neg (fun g => h6 g.1), if_neg h5]
theorem piece_none {l : List UInt8} {p : Nat} (h : piece l p = none) (p' : Nat) : piece l p' = none := by
  cases l with
  | nil => rfl
  | cons c r =>
    rw [piece] at h ⊢
    split at h
    · cases h
    · rename_i h1
      rw [if_neg h1]
      split at h
      · rename_i h2
        rw [if_pos h2]
        split at h
        · cases h
        · rename_i h3; rw [if_neg h3]
      · rename_i h2
        rw [if_neg h2]
        split at h
        · rename_i h3
          rw [if_pos h3]
          split at h
          · cases h
          · rename_i h4; rw [if_neg h4]
        · rename_i h3
          rw [if_neg h3]
          split at h
          · cases h
          · rename_i h4
            rw [if_neg h4]
            split at h
            · cases h
            · rename_i h5; rw [if_neg h5]

/-- What the place of an error says. -/
theorem lexR_error (N : Nat) : ∀ (l : List UInt8) (p q : Nat), l.length ≤ N → lexR l p = .error q →
    p ≤ q ∧ q - p < l.length ∧ (∃ m, lexR (l.take (q - p)) p = .ok m) ∧ (∀ b x, partB b = false → digitB b = false → lexR (l ++ b :: x) p = .error q) ∧ lexR (l.drop (q - p)) 0 = .error 0 := by
  induction N with
  | zero =>
    intro l p q hl h
    have : l = [] := List.eq_nil_of_length_eq_zero (by omega)
    subst this
    rw [lexR_nil] at h
    cases h
  | succ N ih =>
    intro l p q hl h
    rcases lexR_cases l p with ⟨rfl, h1⟩ | ⟨hne, hp, h1⟩ | ⟨n, u, hp, h1, h2, h3⟩
    · rw [h1] at h; cases h
    · rw [h1] at h
      injection h with h
      subst h
      refine ⟨Nat.le_refl _, ?_, ⟨[], ?_⟩, fun b x hb1 hb2 => ?_, ?_⟩
      · rw [Nat.sub_self]; exact List.length_pos_iff.2 hne
      · rw [Nat.sub_self, List.take_zero]; rfl
      · exact lexR_err (by simp) (piece_bad hne hp hb1 hb2 x p)
      · rw [Nat.sub_self, List.drop_zero]
        exact lexR_err hne (piece_none hp 0)
    · rw [h3] at h
      cases hr : lexR (l.drop n) (p + n) with
      | ok k => rw [hr] at h; cases h
      | error q' =>
        rw [hr] at h
        simp only [Except.map, Except.error.injEq] at h
        subst h
        have hd : (l.drop n).length = l.length - n := List.length_drop
        obtain ⟨g1, g2, ⟨m, g3⟩, g4, g5⟩ := ih _ _ _ (by omega) hr
        refine ⟨by omega, by omega, ⟨u.toList ++ m, ?_⟩, fun b x hb1 hb2 => ?_, ?_⟩
        · rw [lexR_step (piece_take hp (k := q' - p) (by omega))]
          have : (l.take (q' - p)).drop n = (l.drop n).take (q' - (p + n)) := by rw [List.drop_take]; congr 1; omega
          rw [this, g3]
          rfl
        · rw [lexR_step (piece_append hp (by omega) (b :: x))]
          have : (l ++ b :: x).drop n = l.drop n ++ b :: x := List.drop_append_of_le_length h2
          rw [this, g4 b x hb1 hb2]
          rfl
        · have : l.drop (q' - p) = (l.drop n).drop (q' - (p + n)) := by rw [List.drop_drop]; congr 1; omega
          rw [this]
          exact g5
theorem lexL_error {l : List UInt8} {q : Nat} (h : lexL l = .error q) : q < l.length ∧ (∃ m, lexL (l.take q) = .ok m) ∧ (∀ b x, partB b = false → digitB b = false → lexL (l ++ b :: x) = .error q) ∧ lexL (l.drop q) = .error 0 := by
  obtain ⟨-, h2, h3, h4, h5⟩ := lexR_error l.length l 0 q (Nat.le_refl _) h
  exact ⟨h2, h3, h4, h5⟩
end Go.Proofs.YtndfchnmajfmiaaDoor
