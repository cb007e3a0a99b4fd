/- Tokens of a source, as plain lists. -/
import Derived.Lib.ItoaNum
import Derived.Lib.AtoiAll
import Derived.Lib.Join
import Derived.Lib.Bytealg
namespace Go.Proofs.YtndfchnmajfmiaaDoor

def letterB (c : UInt8) : Bool := (97 ≤ c && c ≤ 122) || (65 ≤ c && c ≤ 90)
def digitB (c : UInt8) : Bool := 48 ≤ c && c ≤ 57
def spaceB (c : UInt8) : Bool := c == 32 || c == 9 || c == 10 || c == 13
def signB (c : UInt8) : Bool := [123, 125, 40, 41, 59, 44, 61, 58, 46, 60, 62, 33, 43, 45, 42, 47].contains c
def partB (c : UInt8) : Bool := letterB c || digitB c || c == 95
/-- The class of a byte: 0 other, 1 white, 2 letter, 3 digit, 4 underscore, 5 mark, 6 slash. -/
def cls (c : UInt8) : Nat := if letterB c then 2 else if digitB c then 3 else if spaceB c then 1 else if c = 95 then 4 else if c = 47 then 6 else if signB c then 5 else 0

/-- How many elements at the head satisfy p. -/
def run (p : UInt8 → Bool) : List UInt8 → Nat
  | [] => 0
  | c :: r => if p c then run p r + 1 else 0
theorem run_le (p : UInt8 → Bool) (l : List UInt8) : run p l ≤ l.length := by
  induction l with
  | nil => exact Nat.le_refl _
  | cons c r ih => rw [run]; split <;> simp <;> omega
theorem run_pos {p : UInt8 → Bool} {c : UInt8} {r : List UInt8} (h : p c = true) : run p (c :: r) = run p r + 1 := by rw [run, if_pos h]
theorem run_all (p : UInt8 → Bool) (l : List UInt8) : ∀ x ∈ l.take (run p l), p x = true := by
  induction l with
  | nil => simp [run]
  | cons c r ih =>
    rw [run]
    split
    · rename_i h
      intro x hx
      simp only [List.take_succ_cons, List.mem_cons] at hx
      rcases hx with rfl | hx
      · exact h
      · exact ih x hx
    · simp
theorem run_at (p : UInt8 → Bool) (l : List UInt8) : ∀ j, j < run p l → ∃ h : j < l.length, p l[j] = true := by
  induction l with
  | nil => intro j h; simp [run] at h
  | cons c r ih =>
    intro j h
    rw [run] at h
    split at h
    · rename_i hc
      cases j with
      | zero => exact ⟨by simp, hc⟩
      | succ j =>
        obtain ⟨h1, h2⟩ := ih j (by omega)
        exact ⟨by simpa using h1, by simpa using h2⟩
    · omega
theorem run_end (p : UInt8 → Bool) (l : List UInt8) (h : run p l < l.length) : p l[run p l] = false := by
  induction l with
  | nil => simp at h
  | cons c r ih =>
    by_cases hc : p c = true
    · have e : run p (c :: r) = run p r + 1 := run_pos hc
      simp only [e] at h ⊢
      simp only [List.getElem_cons_succ]
      exact ih (by simpa using h)
    · have e : run p (c :: r) = 0 := by rw [run, if_neg hc]
      simp only [e, List.getElem_cons_zero]
      simpa using hc
/-- In a loop that counts up: j is within the run. -/
theorem run_lt {p : UInt8 → Bool} {l : List UInt8} {j : Nat} (hj : j ≤ run p l) (h : j < l.length) (hp : p l[j] = true) : j < run p l := by
  rcases Nat.lt_or_ge j (run p l) with h1 | h1
  · exact h1
  · have e : j = run p l := by omega
    subst e
    rw [run_end p l h] at hp
    cases hp
theorem run_stop {p : UInt8 → Bool} {l : List UInt8} {j : Nat} (hj : j ≤ run p l) (h : ∀ h : j < l.length, p l[j] = false) : j = run p l := by
  rcases Nat.lt_or_ge j (run p l) with h1 | h1
  · obtain ⟨h2, h3⟩ := run_at p l j h1
    rw [h h2] at h3
    cases h3
  · omega

/-- The number that digits spell, behind acc. -/
def dg (a : Nat) (c : UInt8) : Nat := 10 * a + (c.toNat - 48)
def val (acc : Nat) (l : List UInt8) : Nat := l.foldl dg acc
def num (l : List UInt8) : Nat := val 0 l
theorem val_cons (acc : Nat) (c : UInt8) (r : List UInt8) : val acc (c :: r) = val (dg acc c) r := by unfold val; rw [List.foldl_cons]
theorem val_le (l : List UInt8) : ∀ acc, acc ≤ val acc l := by
  induction l with
  | nil => intro acc; exact Nat.le_refl _
  | cons c r ih => intro acc; rw [val_cons]; exact Nat.le_trans (by unfold dg; omega) (ih _)
theorem val_append (l m : List UInt8) (acc : Nat) : val acc (l ++ m) = val (val acc l) m := by unfold val; rw [List.foldl_append]
theorem num_take_succ (l : List UInt8) (k : Nat) (h : k < l.length) : num (l.take (k + 1)) = 10 * num (l.take k) + (l[k].toNat - 48) := by
  unfold num
  rw [List.take_succ_eq_append_getElem h, val_append, val_cons]
  unfold dg
  unfold val
  rw [List.foldl_nil]
theorem num_take_le (l : List UInt8) (k : Nat) : num (l.take k) ≤ num l := by
  conv => rhs; rw [← List.take_append_drop k l]
  unfold num
  rw [val_append]
  exact val_le _ _

/-- A token. -/
structure Tk where
  k : Int
  s : List UInt8
  n : Int
  p : Int

def two40 : Nat := 1099511627776

/-- What begins at the head of l, at place p: how many bytes, and its token, if it has one. -/
def piece (l : List UInt8) (p : Nat) : Option (Nat × Option Tk) :=
  match l with
  | [] => none
  | c :: r =>
    if spaceB c then some (1, none)
    else if letterB c then (if run partB (c :: r) ≤ 32 then some (run partB (c :: r), some ⟨1, (c :: r).take (run partB (c :: r)), 0, p⟩) else none)
    else if digitB c then (if num ((c :: r).take (run digitB (c :: r))) ≤ two40 ∧ (run digitB (c :: r) = 1 ∨ c ≠ 48) then some (run digitB (c :: r), some ⟨2, [], num ((c :: r).take (run digitB (c :: r))), p⟩) else none)
    else if c = 47 ∧ r.head? = some 47 then some (run (· != 10) (c :: r), none)
    else if signB c then some (1, some ⟨3, [c], 0, p⟩)
    else none

theorem piece_pos {l : List UInt8} {p n : Nat} {t : Option Tk} (h : piece l p = some (n, t)) : 1 ≤ n ∧ n ≤ l.length := by
  cases l with
  | nil => simp [piece] at h
  | cons c r =>
    have r1 := run_le partB (c :: r)
    have r2 := run_le digitB (c :: r)
    have r3 := run_le (· != 10) (c :: r)
    rw [piece] at h
    split at h
    · simp at h; simp; omega
    · split at h
      · rename_i h2
        split at h
        · simp only [Option.some.injEq, Prod.mk.injEq] at h
          have : run partB (c :: r) = run partB r + 1 := run_pos (by simp [partB, h2])
          omega
        · cases h
      · split at h
        · rename_i h3
          split at h
          · simp only [Option.some.injEq, Prod.mk.injEq] at h
            have : run digitB (c :: r) = run digitB r + 1 := run_pos h3
            omega
          · cases h
        · split at h
          · rename_i h4
            simp only [Option.some.injEq, Prod.mk.injEq] at h
            have : run (· != 10) (c :: r) = run (· != 10) r + 1 := run_pos (by rw [h4.1]; rfl)
            omega
          · split at h
            · simp at h; simp; omega
            · cases h

/-- The tokens of l, which begins at place p, or the place of what is none. -/
def lexF : Nat → List UInt8 → Nat → Except Nat (List Tk)
  | 0, _, _ => .ok []
  | f + 1, l, p =>
    match l with
    | [] => .ok []
    | c :: r =>
      match piece (c :: r) p with
      | none => .error p
      | some (n, t) => (lexF f ((c :: r).drop n) (p + n)).map (t.toList ++ ·)
def lexR (l : List UInt8) (p : Nat) : Except Nat (List Tk) := lexF l.length l p
def lexL (l : List UInt8) : Except Nat (List Tk) := lexR l 0

theorem lexF_enough (f : Nat) : ∀ (g : Nat) (l : List UInt8) (p : Nat), l.length ≤ f → l.length ≤ g → lexF f l p = lexF g l p := by
  induction f with
  | zero =>
    intro g l p h _
    obtain rfl : l = [] := List.eq_nil_of_length_eq_zero (by omega)
    cases g <;> rfl
  | succ f ih =>
    intro g l p h1 h2
    cases g with
    | zero =>
      obtain rfl : l = [] := List.eq_nil_of_length_eq_zero (by omega)
      rfl
    | succ g =>
      cases l with
      | nil => rfl
      | cons c r =>
        rw [lexF, lexF]
        cases hp : piece (c :: r) p with
        | none => rfl
        | some q =>
          obtain ⟨n, t⟩ := q
          have hn := piece_pos hp
          simp only
          rw [ih g _ _ (by rw [List.length_drop]; simp at h1 ⊢; omega) (by rw [List.length_drop]; simp at h2 ⊢; omega)]
theorem lexR_nil (p : Nat) : lexR [] p = .ok [] := rfl
theorem lexR_err {l : List UInt8} {p : Nat} (hl : l ≠ []) (h : piece l p = none) : lexR l p = .error p := by
  cases l with
  | nil => exact absurd rfl hl
  | cons c r => unfold lexR; rw [List.length_cons, lexF, h]
theorem lexR_step {l : List UInt8} {p n : Nat} {t : Option Tk} (h : piece l p = some (n, t)) : lexR l p = (lexR (l.drop n) (p + n)).map (t.toList ++ ·) := by
  have hn := piece_pos h
  cases l with
  | nil => simp [piece] at h
  | cons c r =>
    unfold lexR
    rw [List.length_cons, lexF, h]
    simp only
    rw [lexF_enough r.length _ _ _ (by rw [List.length_drop]; simp; omega) (Nat.le_refl _)]

/-- Behind tokens m that have been collected. -/
def pre (m : List Tk) (x : Except Nat (List Tk)) : Except Nat (List Tk) := x.map (m ++ ·)
theorem pre_nil (x : Except Nat (List Tk)) : pre [] x = x := by cases x <;> rfl
theorem pre_pre (m m' : List Tk) (x : Except Nat (List Tk)) : pre m (pre m' x) = pre (m ++ m') x := by cases x <;> simp [pre, Except.map]
theorem pre_ok (m l : List Tk) : pre m (.ok l) = .ok (m ++ l) := rfl
theorem pre_err (m : List Tk) (p : Nat) : pre m (.error p) = .error p := rfl

/-- In a loop: at place p of s, behind tokens m. -/
theorem at_step {s : List UInt8} {p n : Nat} {t : Option Tk} {m : List Tk} (he : lexL s = pre m (lexR (s.drop p) p)) (h : piece (s.drop p) p = some (n, t)) : lexL s = pre (m ++ t.toList) (lexR (s.drop (p + n)) (p + n)) := by
  rw [he, lexR_step h, List.drop_drop]
  exact pre_pre _ _ _
theorem at_err {s : List UInt8} {p : Nat} {m : List Tk} (he : lexL s = pre m (lexR (s.drop p) p)) (hp : p < s.length) (h : piece (s.drop p) p = none) : lexL s = .error p := by
  rw [he, lexR_err (by intro e; have := congrArg List.length e; simp at this; omega) h]
  rfl
theorem at_end {s : List UInt8} {p : Nat} {m : List Tk} (he : lexL s = pre m (lexR (s.drop p) p)) (hp : s.length ≤ p) : lexL s = .ok m := by
  rw [he, List.drop_of_length_le hp, lexR_nil, pre_ok, List.append_nil]

/-- A name. -/
def nameB (l : List UInt8) : Bool := match l with
  | [] => false
  | c :: r => letterB c && (decide (r.length < 32) && r.all partB)
/-- How a token is written. -/
def spell (t : Tk) : List UInt8 := if t.k = 2 then Lib.itoa t.n else t.s
def validB (t : Tk) : Bool :=
  if t.k = 1 then t.n == 0 && nameB t.s
  else if t.k = 2 then t.s.isEmpty && (decide (0 ≤ t.n) && decide (t.n ≤ (two40 : Nat)))
  else if t.k = 3 then t.n == 0 && (match t.s with | [c] => signB c | _ => false)
  else false
def textL (l : List Tk) : List UInt8 := Lib.join (l.map spell) [32]
def sameT (x y : Tk) : Bool := x.k == y.k && (decide (x.s = y.s) && x.n == y.n)
def sameL : List Tk → List Tk → Bool
  | [], [] => true
  | x :: l, y :: m => sameT x y && sameL l m
  | _, _ => false
def equalL : List Tk → List Tk → Bool
  | [], [] => true
  | x :: l, y :: m => (sameT x y && x.p == y.p) && equalL l m
  | _, _ => false
end Go.Proofs.YtndfchnmajfmiaaDoor
