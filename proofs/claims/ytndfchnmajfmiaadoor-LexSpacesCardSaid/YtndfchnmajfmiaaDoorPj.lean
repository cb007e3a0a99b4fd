/- Plain facts: a line feed between two sources. -/
import Derived.Test.YtndfchnmajfmiaaDoorPb
namespace Go.Proofs.YtndfchnmajfmiaaDoor

theorem head_nl (r x : List UInt8) : ((r ++ 10 :: x).head? = some 47) = (r.head? = some 47) := by
  cases r with
  | nil => simp
  | cons d r => rfl
theorem piece_nl {l : List UInt8} (hl : l ≠ []) (x : List UInt8) (p : Nat) : piece (l ++ 10 :: x) p = piece l p := by
  cases l with
  | nil => exact absurd rfl hl
  | cons c r =>
    have hr : ∀ q : UInt8 → Bool, q 10 = false → run q (c :: (r ++ 10 :: x)) = run q (c :: r) ∧ (c :: (r ++ 10 :: x)).take (run q (c :: r)) = (c :: r).take (run q (c :: r)) := fun q hq => by
      have := run_append_stop q (c :: r) x hq
      rw [List.cons_append] at this
      refine ⟨this, ?_⟩
      rw [← List.cons_append]
      exact take_append_run _ _
    obtain ⟨a1, a2⟩ := hr partB (by decide)
    obtain ⟨b1, b2⟩ := hr digitB (by decide)
    obtain ⟨c1, c2⟩ := hr (· != 10) (by decide)
    rw [List.cons_append, piece, piece, a1, a2, b1, b2, c1]
    simp only [head_nl]
/-- A list with tokens, a line feed, and more. -/
theorem lexR_nl (N : Nat) : ∀ (l : List UInt8) (p : Nat) (m : List Tk) (x : List UInt8), l.length ≤ N → lexR l p = .ok m → lexR (l ++ 10 :: x) p = (lexR x (p + l.length + 1)).map (m ++ ·) := by
  have base : ∀ (p : Nat) (x : List UInt8), lexR ([] ++ 10 :: x) p = (lexR x (p + ([] : List UInt8).length + 1)).map (([] : List Tk) ++ ·) := fun p x => by
    rw [List.nil_append, lexR_step (piece_space x p (by decide)), List.drop_succ_cons, List.drop_zero]
    rfl
  induction N with
  | zero =>
    intro l p m x hl h
    have : l = [] := List.eq_nil_of_length_eq_zero (by omega)
    subst this
    rw [lexR_nil] at h
    cases h
    exact base p x
  | succ N ih =>
    intro l p m x hl h
    rcases lexR_cases l p with ⟨rfl, h1⟩ | ⟨-, -, h1⟩ | ⟨n, u, hp, h1, h2, h3⟩
    · rw [h1] at h; cases h; exact base p x
    · rw [h1] at h; cases h
    · rw [h3] at h
      cases hr : lexR (l.drop n) (p + n) with
      | error q => rw [hr] at h; cases h
      | ok k =>
        rw [hr] at h
        simp only [Except.map, Except.ok.injEq] at h
        subst h
        have hd : (l.drop n).length = l.length - n := List.length_drop
        have hne : l ≠ [] := fun e => by subst e; simp at h2; omega
        rw [lexR_step (by rw [piece_nl hne]; exact hp), List.drop_append_of_le_length h2, ih _ _ _ x (by omega) hr, hd]
        have : p + n + (l.length - n) + 1 = p + l.length + 1 := by omega
        rw [this]
        cases lexR x (p + l.length + 1) <;> simp [Except.map]
def shiftT (d : Nat) (t : Tk) : Tk := ⟨t.k, t.s, t.n, t.p + d⟩
theorem piece_shift (l : List UInt8) (p d : Nat) : piece l (p + d) = (piece l p).map fun q => (q.1, q.2.map (shiftT d)) := by
  cases l with
  | nil => rfl
  | cons c r =>
    rw [piece, piece]
    repeat' split
    all_goals first | rfl | (simp [shiftT])
theorem lexR_shift (N : Nat) : ∀ (l : List UInt8) (p d : Nat), l.length ≤ N → lexR l (p + d) = match lexR l p with | .ok m => .ok (m.map (shiftT d)) | .error q => .error (q + d) := by
  induction N with
  | zero =>
    intro l p d hl
    have : l = [] := List.eq_nil_of_length_eq_zero (by omega)
    subst this
    rfl
  | succ N ih =>
    intro l p d hl
    have hs := piece_shift l p d
    rcases lexR_cases l p with ⟨rfl, h1⟩ | ⟨hne, hp, h1⟩ | ⟨n, u, hp, h1, h2, h3⟩
    · rfl
    · rw [hp] at hs
      rw [h1, lexR_err hne hs]
    · rw [hp] at hs
      have hd : (l.drop n).length = l.length - n := List.length_drop
      rw [lexR_step hs, h3]
      simp only
      rw [show p + d + n = p + n + d by omega, ih _ (p + n) d (by omega)]
      cases lexR (l.drop n) (p + n) with
      | error q => rfl
      | ok k => cases u <;> simp [Except.map]
/-- Two sources with a line feed between them. -/
theorem lexL_joined (a b : List UInt8) : lexL (a ++ 10 :: b) = match lexL a with
    | .error q => .error q
    | .ok x => match lexL b with
      | .error q => .error (q + (a.length + 1))
      | .ok y => .ok (x ++ y.map (shiftT (a.length + 1))) := by
  cases ha : lexL a with
  | error q => exact (lexL_error ha).2.2.1 10 b (by decide) (by decide)
  | ok x =>
    have h1 := lexR_nl a.length a 0 x b (Nat.le_refl _) ha
    have h2 := lexR_shift b.length b 0 (a.length + 1) (Nat.le_refl _)
    unfold lexL at *
    rw [h1, show 0 + a.length + 1 = 0 + (a.length + 1) by omega, h2]
    cases lexR b 0 <;> rfl
theorem sameT_refl (t : Tk) : sameT t t = true := by simp [sameT]
theorem sameL_refl (l : List Tk) : sameL l l = true := by
  induction l with
  | nil => rfl
  | cons t r ih => rw [sameL, sameT_refl, ih]; rfl
theorem equalL_refl (l : List Tk) : equalL l l = true := by
  induction l with
  | nil => rfl
  | cons t r ih => rw [equalL, sameT_refl, ih]; simp
end Go.Proofs.YtndfchnmajfmiaaDoor
