/- The numbers modulo the prime, plainly: it is one; inverses by Fermat; polynomials and their roots; the polynomial through points. -/
import Derived.WalkKit
import Derived.Test.YtfblkkdoijfpfaaProg
namespace Go.Proofs.Ytfblkkdoijfpfaa

/-- Are the numbers from d on (2 ^ k of them) no divisors of the prime, beyond 1? -/
def trial (k : Nat) : Nat → Bool := Nat.rec (fun d => Nat.ble d 1 || !(Nat.beq (Nat.mod 1073741789 d) 0)) (fun k ih d => ih d && ih (d + 2 ^ k)) k
theorem trial_all : trial 15 0 = true := by decide +kernel
theorem trial_of : ∀ (k d : Nat), trial k d = true → ∀ m, d ≤ m → m < d + 2 ^ k → m ≤ 1 ∨ 1073741789 % m ≠ 0 := by
  intro k
  induction k with
  | zero =>
    intro d h m h1 h2
    have e : m = d := by omega
    subst e
    have h : (Nat.ble m 1 || !(Nat.beq (Nat.mod 1073741789 m) 0)) = true := h
    rcases Bool.or_eq_true _ _ ▸ h with h | h
    · exact .inl (Nat.le_of_ble_eq_true h)
    · refine .inr fun e => ?_
      have e : Nat.mod 1073741789 m = 0 := e
      rw [e] at h
      cases h
  | succ k ih =>
    intro d h m h1 h2
    have h : (trial k d && trial k (d + 2 ^ k)) = true := h
    rw [Bool.and_eq_true] at h
    rw [Nat.pow_succ] at h2
    rcases Nat.lt_or_ge m (d + 2 ^ k) with hm | hm
    · exact ih d h.1 m h1 hm
    · exact ih _ h.2 m hm (by omega)
/-- The prime has no divisor but 1 and itself. -/
theorem prime_div (d : Nat) (hd : d ∣ 1073741789) : d = 1 ∨ d = 1073741789 := by
  obtain ⟨e, he⟩ := hd
  have small : ∀ x, x ∣ 1073741789 → x < 32768 → x ≤ 1 := fun x hx hl => by
    rcases trial_of 15 0 trial_all x (Nat.zero_le _) (by omega) with h | h
    · exact h
    · exact absurd (Nat.mod_eq_zero_of_dvd hx) h
  have h1 : d ≠ 0 := by rintro rfl; omega
  have h2 : e ≠ 0 := by rintro rfl; omega
  rcases Nat.lt_or_ge d 32768 with h | h
  · have := small d ⟨e, he⟩ h
    omega
  · rcases Nat.lt_or_ge e 32768 with h' | h'
    · have := small e ⟨d, by rw [he, Nat.mul_comm]⟩ h'
      have e1 : e = 1 := by omega
      subst e1
      omega
    · have := Nat.mul_le_mul h h'
      omega
theorem prime_nat (a b : Nat) (h : 1073741789 ∣ a * b) : 1073741789 ∣ a ∨ 1073741789 ∣ b := by
  rcases prime_div _ (Nat.gcd_dvd_left 1073741789 a) with h1 | h1
  · exact .inr (Nat.Coprime.dvd_of_dvd_mul_left h1 h)
  · exact .inl (h1 ▸ Nat.gcd_dvd_right 1073741789 a)
/-- Congruence modulo the prime. -/
def Cg (a b : Int) : Prop := ∃ k, a - b = 1073741789 * k
theorem prime_int (a b : Int) (h : Cg (a * b) 0) : Cg a 0 ∨ Cg b 0 := by
  obtain ⟨k, hk⟩ := h
  have h1 : (1073741789 : Int) ∣ a * b := ⟨k, by omega⟩
  have h2 : 1073741789 ∣ a.natAbs * b.natAbs := by
    have := Int.natAbs_dvd_natAbs.2 h1
    rwa [Int.natAbs_mul] at this
  rcases prime_nat _ _ h2 with h | h
  · obtain ⟨k, hk⟩ := Int.natAbs_dvd_natAbs.1 (show (1073741789 : Int).natAbs ∣ a.natAbs from h)
    exact .inl ⟨k, by omega⟩
  · obtain ⟨k, hk⟩ := Int.natAbs_dvd_natAbs.1 (show (1073741789 : Int).natAbs ∣ b.natAbs from h)
    exact .inr ⟨k, by omega⟩
theorem Cg.refl (a : Int) : Cg a a := ⟨0, by omega⟩
theorem Cg.symm {a b : Int} (h : Cg a b) : Cg b a := by obtain ⟨k, hk⟩ := h; exact ⟨-k, by omega⟩
theorem Cg.trans {a b c : Int} (h : Cg a b) (h' : Cg b c) : Cg a c := by obtain ⟨k, hk⟩ := h; obtain ⟨j, hj⟩ := h'; exact ⟨k + j, by omega⟩
theorem Cg.add {a b c d : Int} (h : Cg a b) (h' : Cg c d) : Cg (a + c) (b + d) := by obtain ⟨k, hk⟩ := h; obtain ⟨j, hj⟩ := h'; exact ⟨k + j, by omega⟩
theorem Cg.sub {a b c d : Int} (h : Cg a b) (h' : Cg c d) : Cg (a - c) (b - d) := by obtain ⟨k, hk⟩ := h; obtain ⟨j, hj⟩ := h'; exact ⟨k - j, by omega⟩
theorem Cg.mul {a b c d : Int} (h : Cg a b) (h' : Cg c d) : Cg (a * c) (b * d) := by
  obtain ⟨k, hk⟩ := h; obtain ⟨j, hj⟩ := h'
  exact ⟨k * c + b * j, by grind⟩
theorem Cg.of_eq {a b : Int} (h : a = b) : Cg a b := h ▸ Cg.refl a
/-- The number of the field for which an integer stands. -/
def md (n : Int) : Int := n % 1073741789
theorem md_cg (n : Int) : Cg (md n) n := ⟨-(n / 1073741789), by unfold md; omega⟩
theorem md_range (n : Int) : 0 ≤ md n ∧ md n < 1073741789 := by unfold md; omega
theorem md_id {n : Int} (h : 0 ≤ n) (h' : n < 1073741789) : md n = n := by unfold md; omega
theorem md_eq {a b : Int} (h : Cg a b) : md a = md b := by
  obtain ⟨k, hk⟩ := h
  unfold md
  omega
theorem cg_of_md {a b : Int} (h : md a = md b) : Cg a b := ((md_cg a).symm.trans (.of_eq h)).trans (md_cg b)
theorem md_zero {a : Int} : md a = 0 ↔ Cg a 0 := ⟨fun h => cg_of_md (h.trans (by unfold md; omega)), fun h => (md_eq h).trans (by unfold md; omega)⟩
theorem md_md (n : Int) : md (md n) = md n := md_eq (md_cg n)
def addF (a b : Int) : Int := md (a + b)
def mulF (a b : Int) : Int := md (a * b)
theorem addF_cg (a b : Int) : Cg (addF a b) (a + b) := md_cg _
theorem mulF_cg (a b : Int) : Cg (mulF a b) (a * b) := md_cg _
/-- Pascal's triangle. -/
def ch : Nat → Nat → Nat
  | _, 0 => 1
  | 0, _ + 1 => 0
  | n + 1, k + 1 => ch n k + ch n (k + 1)
theorem ch_mul : ∀ n k, (k + 1) * ch (n + 1) (k + 1) = (n + 1) * ch n k := by
  intro n
  induction n with
  | zero =>
    intro k
    cases k with
    | zero => rfl
    | succ k => simp [ch]
  | succ n ih =>
    intro k
    show (k + 1) * (ch (n + 1) k + ch (n + 1) (k + 1)) = (n + 1 + 1) * ch (n + 1) k
    have h1 := ih k
    cases k with
    | zero => simp only [ch] at h1 ⊢; grind
    | succ j =>
      have h2 := ih j
      have h3 : ch (n + 1) (j + 1) = ch n j + ch n (j + 1) := rfl
      grind
theorem ch_zero : ∀ n k, n < k → ch n k = 0 := by
  intro n
  induction n with
  | zero => intro k h; cases k with | zero => omega | succ k => rfl
  | succ n ih =>
    intro k h
    cases k with
    | zero => omega
    | succ k =>
      show ch n k + ch n (k + 1) = 0
      rw [ih k (by omega), ih (k + 1) (by omega)]
theorem ch_self : ∀ n, ch n n = 1 := by
  intro n
  induction n with
  | zero => rfl
  | succ n ih =>
    show ch n n + ch n (n + 1) = 1
    rw [ih, ch_zero n (n + 1) (by omega)]
def bn (n : Nat) (a : Int) : Nat → Int
  | 0 => 0
  | m + 1 => bn n a m + (ch n m : Int) * a ^ m
theorem bn_step (n : Nat) (a : Int) : ∀ m, bn (n + 1) a (m + 1) = bn n a (m + 1) + a * bn n a m := by
  intro m
  induction m with
  | zero => simp [bn, ch]
  | succ m ih =>
    have e : ch (n + 1) (m + 1) = ch n m + ch n (m + 1) := rfl
    have p : a ^ (m + 1) = a ^ m * a := Int.pow_succ a m
    rw [show bn (n + 1) a (m + 1 + 1) = bn (n + 1) a (m + 1) + (ch (n + 1) (m + 1) : Int) * a ^ (m + 1) from rfl, ih, show bn n a (m + 1 + 1) = bn n a (m + 1) + (ch n (m + 1) : Int) * a ^ (m + 1) from rfl, show bn n a (m + 1) = bn n a m + (ch n m : Int) * a ^ m from rfl, e, p, Int.natCast_add]
    grind
theorem binom (a : Int) : ∀ n, (1 + a) ^ n = bn n a (n + 1) := by
  intro n
  induction n with
  | zero => simp [bn, ch]
  | succ n ih =>
    rw [Int.pow_succ, ih, bn_step, show bn n a (n + 1 + 1) = bn n a (n + 1) + (ch n (n + 1) : Int) * a ^ (n + 1) from rfl, ch_zero n (n + 1) (by omega)]
    grind
theorem fermat_step (p : Nat) (hp : 0 < p) (hpr : ∀ a b : Nat, p ∣ a * b → p ∣ a ∨ p ∣ b) (a : Int) : ∃ k, (1 + a) ^ p - (1 + a ^ p) = (p : Int) * k := by
  have mid : ∀ m, m + 1 ≤ p → ∃ k, bn p a (m + 1) - 1 = (p : Int) * k := by
    intro m
    induction m with
    | zero => intro _; exact ⟨0, by simp [bn, ch]⟩
    | succ m ih =>
      intro hm
      obtain ⟨k, hk⟩ := ih (by omega)
      have hd : p ∣ ch p (m + 1) := by
        obtain ⟨p', rfl⟩ : ∃ p', p = p' + 1 := ⟨p - 1, by omega⟩
        rcases hpr (m + 1) (ch (p' + 1) (m + 1)) ⟨_, ch_mul p' m⟩ with h | h
        · have := Nat.le_of_dvd (by omega) h
          omega
        · exact h
      obtain ⟨c, hc⟩ := hd
      refine ⟨k + c * a ^ (m + 1), ?_⟩
      rw [show bn p a (m + 1 + 1) = bn p a (m + 1) + (ch p (m + 1) : Int) * a ^ (m + 1) from rfl, hc, Int.natCast_mul]
      grind
  obtain ⟨p', rfl⟩ : ∃ p', p = p' + 1 := ⟨p - 1, by omega⟩
  obtain ⟨k, hk⟩ := mid p' (Nat.le_refl _)
  refine ⟨k, ?_⟩
  rw [binom, show bn (p' + 1) a (p' + 1 + 1) = bn (p' + 1) a (p' + 1) + (ch (p' + 1) (p' + 1) : Int) * a ^ (p' + 1) from rfl, ch_self]
  grind
theorem fermat_nat (p : Nat) (hp : 0 < p) (hpr : ∀ a b : Nat, p ∣ a * b → p ∣ a ∨ p ∣ b) : ∀ n : Nat, ∃ k, (n : Int) ^ p - n = (p : Int) * k := by
  intro n
  induction n with
  | zero =>
    obtain ⟨p', rfl⟩ : ∃ p', p = p' + 1 := ⟨p - 1, by omega⟩
    exact ⟨0, by simp [Int.pow_succ]⟩
  | succ n ih =>
    obtain ⟨k, hk⟩ := ih
    obtain ⟨j, hj⟩ := fermat_step p hp hpr n
    refine ⟨k + j, ?_⟩
    rw [show ((n + 1 : Nat) : Int) = 1 + (n : Int) by omega]
    grind
/-- n to the power of e, as a number of the field. -/
@[irreducible] def pwF (n : Int) (e : Nat) : Int := md (n ^ e)
theorem pwF_eq (n : Int) (e : Nat) : pwF n e = md (n ^ e) := by unfold pwF; rfl
/-- The inverse. -/
@[irreducible] def invF (n : Int) : Int := pwF n 1073741787
theorem invF_eq (n : Int) : invF n = pwF n 1073741787 := by unfold invF; rfl
theorem Cg.pow {a b : Int} (h : Cg a b) (n : Nat) : Cg (a ^ n) (b ^ n) := by
  induction n with
  | zero => exact .of_eq (by rw [Int.pow_zero, Int.pow_zero])
  | succ n ih => rw [Int.pow_succ, Int.pow_succ]; exact ih.mul h
theorem pow_two_more (a : Int) (p q : Nat) (h : q = p + 2) : a * (a * a ^ p) = a ^ q := by
  subst h
  rw [Int.pow_succ, Int.pow_succ]
  grind
theorem fermat_cg (n : Int) (p q : Nat) (h : q = p + 2) (hq : q = 1073741789) : Cg (n * (n * n ^ p)) n := by
  rw [pow_two_more n p q h]
  obtain ⟨m, hm⟩ : ∃ m : Nat, md n = (m : Int) := ⟨(md n).toNat, by have := md_range n; omega⟩
  obtain ⟨k, hk⟩ := fermat_nat q (by omega) (by rw [hq]; exact prime_nat) m
  have h1 : Cg (md n ^ q) (md n) := by
    rw [hm]
    exact ⟨k, by rw [hk, hq]; rfl⟩
  exact (((md_cg n).symm.pow q).trans h1).trans (md_cg n)
theorem invF_range (n : Int) : 0 ≤ invF n ∧ invF n < 1073741789 := by rw [invF_eq, pwF_eq]; exact md_range _
theorem cancelF {a b c : Int} (hc : ¬ Cg c 0) (h : Cg (c * a) (c * b)) : Cg a b := by
  have h1 : Cg (c * (a - b)) 0 := by
    obtain ⟨k, hk⟩ := h
    exact ⟨k, by grind⟩
  rcases prime_int _ _ h1 with h2 | h2
  · exact absurd h2 hc
  · obtain ⟨k, hk⟩ := h2
    exact ⟨k, by omega⟩
theorem inv_cg (n : Int) (hn : ¬ Cg n 0) : Cg (n * invF n) 1 := by
  obtain ⟨p, hp⟩ : ∃ p, p = 1073741787 := ⟨_, rfl⟩
  rw [invF_eq, pwF_eq, ← hp]
  have h := fermat_cg n p (p + 2) rfl (by omega)
  have h2 : Cg (n * (n * md (n ^ p))) (n * 1) := ((Cg.refl n).mul ((Cg.refl n).mul (md_cg _))).trans (h.trans (.of_eq (by omega)))
  exact cancelF hn h2
/-- The only number of the field whose product with n is 1. -/
theorem inv_unique (n x : Int) (h : Cg (n * x) 1) (h0 : 0 ≤ x) (h1 : x < 1073741789) : invF n = x := by
  have hn : ¬ Cg n 0 := fun h2 => by
    have h3 := (h2.mul (Cg.refl x)).symm.trans h
    obtain ⟨k, hk⟩ := h3
    omega
  have h4 := cancelF hn ((inv_cg n hn).trans h.symm)
  have := md_eq h4
  rwa [md_id (invF_range n).1 (invF_range n).2, md_id h0 h1] at this
/-- The value of a polynomial, not reduced. -/
def vl : List Int → Int → Int
  | [], _ => 0
  | c :: r, t => c + t * vl r t
def pAdd : List Int → List Int → List Int
  | [], b => b
  | a, [] => a
  | a :: r, b :: s => (a + b) :: pAdd r s
theorem vl_add : ∀ a b t, vl (pAdd a b) t = vl a t + vl b t := by
  intro a
  induction a with
  | nil => intro b t; simp [pAdd, vl]
  | cons x r ih =>
    intro b t
    cases b with
    | nil => simp [pAdd, vl]
    | cons y s =>
      simp only [pAdd, vl, ih]
      grind
theorem pAdd_length : ∀ a b, (pAdd a b).length = max a.length b.length := by
  intro a
  induction a with
  | nil => intro b; simp [pAdd]
  | cons x r ih =>
    intro b
    cases b with
    | nil => simp [pAdd]
    | cons y s => simp only [pAdd, List.length_cons, ih]; omega
theorem vl_map (k : Int) : ∀ a t, vl (a.map (k * ·)) t = k * vl a t := by
  intro a
  induction a with
  | nil => intro t; simp [vl]
  | cons x r ih => intro t; simp only [List.map, vl, ih]; grind
theorem vl_div : ∀ (c : List Int) (x : Int), ∃ q : List Int, q.length ≤ c.length - 1 ∧ ∀ t, vl c t = vl c x + (t - x) * vl q t := by
  intro c
  induction c with
  | nil => intro x; exact ⟨[], Nat.le_refl _, fun t => by simp [vl]⟩
  | cons c0 cs ih =>
    intro x
    cases cs with
    | nil => exact ⟨[], Nat.zero_le _, fun t => by simp [vl]⟩
    | cons c1 cs =>
      obtain ⟨q, hq, he⟩ := ih x
      refine ⟨vl (c1 :: cs) x :: q, by simp only [List.length_cons] at hq ⊢; omega, fun t => ?_⟩
      rw [show vl (c0 :: c1 :: cs) t = c0 + t * vl (c1 :: cs) t from rfl, show vl (c0 :: c1 :: cs) x = c0 + x * vl (c1 :: cs) x from rfl, show vl (vl (c1 :: cs) x :: q) t = vl (c1 :: cs) x + t * vl q t from rfl, he t]
      grind
/-- A function whose values are those of a polynomial with at most n coefficients. -/
def PF (n : Nat) (f : Int → Int) : Prop := ∃ c : List Int, c.length ≤ n ∧ ∀ t, Cg (f t) (vl c t)
theorem PF.mono {n m : Nat} {f : Int → Int} (h : PF n f) (hm : n ≤ m) : PF m f := by obtain ⟨c, h1, h2⟩ := h; exact ⟨c, by omega, h2⟩
theorem PF.cg {n : Nat} {f g : Int → Int} (h : PF n f) (hg : ∀ t, Cg (g t) (f t)) : PF n g := by obtain ⟨c, h1, h2⟩ := h; exact ⟨c, h1, fun t => (hg t).trans (h2 t)⟩
theorem PF.zero (n : Nat) : PF n (fun _ => 0) := ⟨[], Nat.zero_le _, fun _ => Cg.refl _⟩
theorem PF.one : PF 1 (fun _ => 1) := ⟨[1], Nat.le_refl _, fun t => .of_eq (by simp [vl])⟩
theorem PF.add {n : Nat} {f g : Int → Int} (h : PF n f) (hg : PF n g) : PF n (fun t => f t + g t) := by
  obtain ⟨c, h1, h2⟩ := h
  obtain ⟨d, h3, h4⟩ := hg
  exact ⟨pAdd c d, by rw [pAdd_length]; omega, fun t => by rw [vl_add]; exact (h2 t).add (h4 t)⟩
theorem PF.smul {n : Nat} {f : Int → Int} (h : PF n f) (k : Int) : PF n (fun t => k * f t) := by
  obtain ⟨c, h1, h2⟩ := h
  exact ⟨c.map (k * ·), by rw [List.length_map]; exact h1, fun t => by rw [vl_map]; exact (Cg.refl k).mul (h2 t)⟩
theorem PF.lin {n : Nat} {f : Int → Int} (h : PF n f) (x : Int) : PF (n + 1) (fun t => (t - x) * f t) := by
  obtain ⟨c, h1, h2⟩ := h
  refine ⟨pAdd (0 :: c) (c.map ((-x) * ·)), by rw [pAdd_length, List.length_cons, List.length_map]; omega, fun t => ?_⟩
  rw [vl_add, vl_map]
  refine ((Cg.refl (t - x)).mul (h2 t)).trans (.of_eq ?_)
  simp only [vl]
  grind
/-- No two of the numbers are congruent. -/
def Diff : List Int → Prop
  | [] => True
  | x :: r => (∀ y ∈ r, ¬ Cg y x) ∧ Diff r
theorem PF.roots : ∀ (n : Nat) (f : Int → Int) (xs : List Int), PF n f → Diff xs → n ≤ xs.length → (∀ x ∈ xs, Cg (f x) 0) → ∀ t, Cg (f t) 0 := by
  intro n
  induction n with
  | zero =>
    rintro f xs ⟨c, h1, h2⟩ _ _ _ t
    have e : c = [] := List.eq_nil_of_length_eq_zero (by omega)
    subst e
    exact h2 t
  | succ n ih =>
    rintro f xs ⟨c, h1, h2⟩ hd hl hr t
    cases xs with
    | nil => simp at hl
    | cons x xs =>
      obtain ⟨q, hq, he⟩ := vl_div c x
      have hx : Cg (vl c x) 0 := (h2 x).symm.trans (hr x (List.mem_cons_self ..))
      have hft : ∀ t, Cg (f t) ((t - x) * vl q t) := fun t => ((h2 t).trans (.of_eq (he t))).trans ((hx.add (Cg.refl _)).trans (.of_eq (by omega)))
      have hz := ih (fun t => vl q t) xs ⟨q, by omega, fun _ => Cg.refl _⟩ hd.2 (by simpa using hl) fun y hy => by
        rcases prime_int _ _ ((hft y).symm.trans (hr y (List.mem_cons_of_mem _ hy))) with h | h
        · refine absurd ?_ (hd.1 y hy)
          obtain ⟨k, hk⟩ := h
          exact ⟨k, by omega⟩
        · exact h
      exact (hft t).trans (((Cg.refl (t - x)).mul (hz t)).trans (.of_eq (by omega)))
theorem PF.unique {n : Nat} {f g : Int → Int} {xs : List Int} (hf : PF n f) (hg : PF n g) (hd : Diff xs) (hl : n ≤ xs.length) (h : ∀ x ∈ xs, Cg (f x) (g x)) (t : Int) : Cg (f t) (g t) := by
  have h1 := (hf.add (hg.smul (-1))).roots n _ xs hd hl (fun x hx => by
    obtain ⟨k, hk⟩ := h x hx
    exact ⟨k, by grind⟩) t
  obtain ⟨k, hk⟩ := h1
  exact ⟨k, by grind⟩
/-- The product of the differences to all but the place i; j: the place of the first. -/
def pr (t : Int) (i : Nat) : Nat → List Int → Int
  | _, [] => 1
  | j, x :: r => (if j = i then 1 else t - x) * pr t i (j + 1) r
theorem pr_PF (i : Nat) : ∀ (l : List Int) (j : Nat), PF (l.length + 1) (fun t => pr t i j l) ∧ (j ≤ i → i < j + l.length → PF l.length (fun t => pr t i j l)) := by
  intro l
  induction l with
  | nil => intro j; exact ⟨PF.one, fun h1 h2 => by simp at h2; omega⟩
  | cons x r ih =>
    intro j
    obtain ⟨h1, h2⟩ := ih (j + 1)
    rcases Nat.decEq j i with hj | hj
    · have e : (fun t => pr t i j (x :: r)) = fun t => (t - x) * pr t i (j + 1) r := by funext t; simp only [pr, if_neg hj]
      rw [e]
      refine ⟨h1.lin x, fun h3 h4 => (h2 (by omega) (by simp only [List.length_cons] at h4; omega)).lin x⟩
    · have e : (fun t => pr t i j (x :: r)) = fun t => pr t i (j + 1) r := by funext t; simp only [pr, if_pos hj]; omega
      rw [e]
      exact ⟨h1.mono (by simp), fun _ _ => h1⟩
theorem pr_zero (t : Int) (i : Nat) : ∀ (l : List Int) (j k : Nat) (h : k < l.length), j + k ≠ i → l[k] = t → pr t i j l = 0 := by
  intro l
  induction l with
  | nil => intro j k h; simp at h
  | cons x r ih =>
    intro j k h hi he
    cases k with
    | zero =>
      have he : x = t := he
      simp only [pr]
      rw [if_neg (by omega), he]
      grind
    | succ k =>
      simp only [pr]
      rw [ih (j + 1) k (by simpa using h) (by omega) (by simpa using he)]
      omega
theorem pr_ne (t : Int) (i : Nat) : ∀ (l : List Int) (j : Nat), (∀ k (h : k < l.length), j + k ≠ i → ¬ Cg t l[k]) → ¬ Cg (pr t i j l) 0 := by
  intro l
  induction l with
  | nil => intro j _ h; obtain ⟨k, hk⟩ := h; simp only [pr] at hk; omega
  | cons x r ih =>
    intro j hn h
    have hr := ih (j + 1) fun k hk hi => by
      have := hn (k + 1) (by simpa using hk) (by omega)
      simpa using this
    rcases Nat.decEq j i with hj | hj
    · simp only [pr, if_neg hj] at h
      rcases prime_int _ _ h with h | h
      · refine hn 0 (by simp) (by omega) ?_
        obtain ⟨k, hk⟩ := h
        exact ⟨k, by simp only [List.getElem_cons_zero]; omega⟩
      · exact hr h
    · simp only [pr, if_pos hj] at h
      exact hr ((Cg.of_eq (by omega)).trans h)
/-- The terms of the value at t from the place j on; all: all X. -/
def tms (all : List Int) (t : Int) : Nat → List (Int × Int) → Int
  | _, [] => 0
  | j, p :: r => p.2 * (pr t j 0 all * invF (pr p.1 j 0 all)) + tms all t (j + 1) r
/-- The value at t of the polynomial through the points. -/
def thr (l : List (Int × Int)) (t : Int) : Int := tms (l.map Prod.fst) t 0 l
theorem tms_PF (all : List Int) : ∀ (l : List (Int × Int)) (j : Nat), j + l.length ≤ all.length → PF all.length (fun t => tms all t j l) := by
  intro l
  induction l with
  | nil => intro j _; exact PF.zero _
  | cons p r ih =>
    intro j hj
    simp only [List.length_cons] at hj
    have h1 := (((pr_PF j all 0).2 (by omega) (by omega)).smul (p.2 * invF (pr p.1 j 0 all))).add (ih (j + 1) (by omega))
    refine h1.cg fun t => .of_eq ?_
    simp only [tms]
    grind
theorem thr_PF (l : List (Int × Int)) : PF l.length (thr l) := by
  have := tms_PF (l.map Prod.fst) l 0 (by simp)
  rwa [List.length_map] at this
theorem Diff.ne : ∀ {l : List Int}, Diff l → ∀ i j (hi : i < l.length) (hj : j < l.length), i ≠ j → ¬ Cg l[i] l[j] := by
  intro l
  induction l with
  | nil => intro _ i j hi; simp at hi
  | cons x r ih =>
    rintro ⟨h1, h2⟩ i j hi hj hne
    cases i with
    | zero =>
      cases j with
      | zero => omega
      | succ j => simp only [List.getElem_cons_zero, List.getElem_cons_succ]; exact fun h => h1 _ (List.getElem_mem _) h.symm
    | succ i =>
      cases j with
      | zero => simp only [List.getElem_cons_zero, List.getElem_cons_succ]; exact h1 _ (List.getElem_mem _)
      | succ j => simp only [List.getElem_cons_succ]; exact ih h2 i j (by simpa using hi) (by simpa using hj) (by omega)
theorem tms_at (all : List Int) (hd : Diff all) (k : Nat) (hk : k < all.length) : ∀ (l : List (Int × Int)) (j : Nat), j + l.length ≤ all.length → (∀ m (hm : m < l.length), (l[m]).1 = all[j + m]!) →
    Cg (tms all all[k] j l) (if h : j ≤ k ∧ k - j < l.length then (l[k - j]'h.2).2 else 0) := by
  intro l
  induction l with
  | nil => intro j _ _; exact .of_eq (by simp [tms])
  | cons p r ih =>
    intro j hj hx
    simp only [List.length_cons] at hj
    have hr := ih (j + 1) (by omega) fun m hm => by
      have := hx (m + 1) (by simpa using hm)
      simpa [Nat.add_assoc, Nat.add_comm, Nat.add_left_comm] using this
    have hp : p.1 = all[j]'(by omega) := by
      have := hx 0 (by simp)
      simp only [List.getElem_cons_zero, Nat.add_zero] at this
      rw [this, getElem!_pos all j (by omega)]
    simp only [tms]
    rcases Nat.decEq j k with hjk | hjk
    · rw [pr_zero all[k] j all 0 k hk (by omega) rfl]
      refine ((Cg.of_eq (by rw [Int.zero_mul, Int.mul_zero])).add hr).trans (.of_eq ?_)
      rw [Int.zero_add]
      rcases Nat.lt_or_ge k j with h | h
      · rw [dif_neg (by omega), dif_neg (by omega)]
      · obtain ⟨m, rfl⟩ : ∃ m, k = j + 1 + m := ⟨k - (j + 1), by omega⟩
        simp only [show j + 1 + m - (j + 1) = m by omega, show j + 1 + m - j = m + 1 by omega, List.getElem_cons_succ, List.length_cons, Nat.add_lt_add_iff_right]
        by_cases hm : m < r.length
        · rw [dif_pos ⟨by omega, hm⟩, dif_pos ⟨by omega, hm⟩]
        · rw [dif_neg (by omega), dif_neg (by omega)]
    · subst hjk
      rw [dif_pos ⟨Nat.le_refl _, by simp⟩]
      rw [dif_neg (by omega)] at hr
      simp only [Nat.sub_self, List.getElem_cons_zero]
      rw [hp]
      have h1 := inv_cg (pr all[j] j 0 all) (pr_ne all[j] j all 0 fun m hm hne => hd.ne j m hk hm (by omega))
      exact (((Cg.refl p.2).mul h1).add hr).trans (.of_eq (by omega))
/-- At the X of a point the value is its Y. -/
theorem thr_at (l : List (Int × Int)) (hd : Diff (l.map Prod.fst)) (k : Nat) (hk : k < l.length) : Cg (thr l l[k].1) l[k].2 := by
  have h := tms_at (l.map Prod.fst) hd k (by simpa using hk) l 0 (by simp) fun m hm => by simp [hm]
  rw [dif_pos ⟨Nat.zero_le _, by simpa using hk⟩] at h
  simpa [thr] using h
/-- What has the points' values, with no more coefficients than there are points, is the polynomial through them. -/
theorem thr_unique (l : List (Int × Int)) (hd : Diff (l.map Prod.fst)) (f : Int → Int) (hf : PF l.length f) (hv : ∀ p ∈ l, Cg (f p.1) p.2) (t : Int) : Cg (thr l t) (f t) := by
  refine (thr_PF l).unique hf hd (by simp) (fun x hx => ?_) t
  obtain ⟨p, hp, rfl⟩ := List.mem_map.1 hx
  obtain ⟨k, hk, rfl⟩ := List.mem_iff_getElem.1 hp
  exact (thr_at l hd k hk).trans (hv _ hp).symm
end Go.Proofs.Ytfblkkdoijfpfaa
