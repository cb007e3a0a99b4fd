/- Plain facts: what is spelled is read again. -/
import Derived.Test.YtndfchnmajfmiaaDoorPl
namespace Go.Proofs.YtndfchnmajfmiaaDoor

theorem dig_byte {k : Nat} (h : k < 10) : digitB (UInt8.ofNat (48 + k)) = true ∧ (UInt8.ofNat (48 + k)).toNat = 48 + k := by
  have : (UInt8.ofNat (48 + k)).toNat = 48 + k := by simp; omega
  refine ⟨?_, this⟩
  unfold digitB
  simp only [Bool.and_eq_true, decide_eq_true_eq, UInt8.le_iff_toNat_le, this]
  exact ⟨by show 48 ≤ 48 + k; omega, by show 48 + k ≤ 57; omega⟩
theorem num_snoc (l : List UInt8) (c : UInt8) : num (l ++ [c]) = 10 * num l + (c.toNat - 48) := by
  unfold num
  rw [val_append]
  rfl
/-- A number's digits: they are digits, they spell it, and the first is not 0 unless it is alone. -/
theorem dec_facts (N : Nat) : ∀ u, u ≤ N → (∀ c ∈ Lib.decDigits u, digitB c = true) ∧ num (Lib.decDigits u) = u ∧ 1 ≤ (Lib.decDigits u).length ∧ (0 < u → (Lib.decDigits u).head? ≠ some 48) ∧ (10 ≤ u ∨ (Lib.decDigits u).length = 1) := by
  induction N with
  | zero =>
    intro u hu
    obtain rfl : u = 0 := by omega
    rw [Lib.decDigits, dif_pos (by omega)]
    refine ⟨fun c hc => ?_, rfl, by simp, fun h => absurd h (by omega), .inr rfl⟩
    simp only [List.mem_singleton] at hc
    subst hc
    decide
  | succ N ih =>
    intro u hu
    by_cases h10 : u < 10
    · have hb := dig_byte h10
      rw [Lib.decDigits, dif_pos h10]
      refine ⟨fun c hc => ?_, ?_, by simp, fun h => ?_, .inr rfl⟩
      · simp only [List.mem_singleton] at hc
        subst hc
        exact hb.1
      · have := num_snoc [] (UInt8.ofNat (48 + u))
        rw [List.nil_append, hb.2] at this
        rw [this]
        show 10 * 0 + (48 + u - 48) = u
        omega
      · simp only [List.head?_cons, ne_eq, Option.some.injEq]
        intro e
        have := congrArg UInt8.toNat e
        rw [hb.2] at this
        have : 48 + u = 48 := this
        omega
    · obtain ⟨h1, h2, h3, h4, -⟩ := ih (u / 10) (by omega)
      have hb := dig_byte (k := u % 10) (by omega)
      rw [Lib.decDigits, dif_neg h10]
      refine ⟨fun c hc => ?_, ?_, by simp, fun _ => ?_, .inl (by omega)⟩
      · rcases List.mem_append.1 hc with hc | hc
        · exact h1 c hc
        · simp only [List.mem_singleton] at hc
          subst hc
          exact hb.1
      · rw [num_snoc, h2, hb.2]
        omega
      · have h4 := h4 (by omega)
        cases hd : Lib.decDigits (u / 10) with
        | nil => rw [hd] at h3; simp at h3
        | cons c r => rw [hd] at h4; simpa using h4

theorem run_all_append (p : UInt8 → Bool) (l x : List UInt8) (h : ∀ c ∈ l, p c = true) (hx : ∀ c, x.head? = some c → p c = false) : run p (l ++ x) = l.length := by
  induction l with
  | nil =>
    rw [List.nil_append]
    cases x with
    | nil => rfl
    | cons c r => rw [run, if_neg (by rw [hx c rfl]; decide)]; rfl
  | cons c r ih =>
    rw [List.cons_append, run, if_pos (h c (by simp)), ih (fun d hd => h d (by simp [hd]))]
    rfl

/-- What follows a token that is spelled: nothing, or white space. -/
def Gap (x : List UInt8) : Prop := ∀ c, x.head? = some c → spaceB c = true
theorem gap_part {x : List UInt8} (h : Gap x) : ∀ c, x.head? = some c → partB c = false := fun c hc => by
  simpa using all_imp (P := spaceB) (Q := fun c => !partB c) (by decide +kernel) (h c hc)
theorem gap_digit {x : List UInt8} (h : Gap x) : ∀ c, x.head? = some c → digitB c = false := fun c hc => by
  simpa using all_imp (P := spaceB) (Q := fun c => !digitB c) (by decide +kernel) (h c hc)
theorem gap_slash {x : List UInt8} (h : Gap x) : x.head? ≠ some 47 := fun e => by
  have := h 47 e
  exact absurd this (by decide)

theorem itoa_pos {n : Int} (h : 0 ≤ n) : Lib.itoa n = Lib.decDigits n.toNat := by unfold Lib.itoa; rw [if_neg (by omega)]

/-- A valid token that is spelled is a piece. -/
theorem piece_spell {t : Tk} (hv : validB t = true) {x : List UInt8} (hx : Gap x) (p : Nat) : piece (spell t ++ x) p = some ((spell t).length, some ⟨t.k, t.s, t.n, p⟩) ∧ 1 ≤ (spell t).length := by
  obtain ⟨k, s, n, q⟩ := t
  unfold validB at hv
  simp only at hv
  split at hv
  · rename_i hk
    subst hk
    rw [Bool.and_eq_true, beq_iff_eq] at hv
    obtain ⟨rfl, hn⟩ := hv
    have hsp : spell ⟨1, s, 0, q⟩ = s := rfl
    rw [hsp]
    cases s with
    | nil => cases hn
    | cons c r =>
      simp only [nameB, Bool.and_eq_true, decide_eq_true_eq] at hn
      obtain ⟨hc, hl, hr⟩ := hn
      have hrun : run partB ((c :: r) ++ x) = (c :: r).length := run_all_append _ _ _ (fun d hd => by
        rcases List.mem_cons.1 hd with rfl | hd
        · simp [partB, hc]
        · exact List.all_eq_true.1 hr d hd) (gap_part hx)
      have hs : spaceB c = false := by simpa using all_imp (P := letterB) (Q := fun c => !spaceB c) (by decide +kernel) hc
      refine ⟨?_, by simp⟩
      rw [List.cons_append] at hrun ⊢
      have htake : (c :: (r ++ x)).take (c :: r).length = c :: r := by rw [← List.cons_append]; exact List.take_left
      rw [piece, if_neg (by rw [hs]; decide), if_pos hc, hrun, if_pos (by simp; omega), htake]
  · split at hv
    · rename_i hk
      subst hk
      simp only [Bool.and_eq_true, decide_eq_true_eq, List.isEmpty_iff] at hv
      obtain ⟨rfl, h0, h40⟩ := hv
      have hsp : spell ⟨2, [], n, q⟩ = Lib.decDigits n.toNat := by unfold spell; rw [if_pos rfl]; exact itoa_pos h0
      obtain ⟨d1, d2, d3, d4, d5⟩ := dec_facts n.toNat n.toNat (Nat.le_refl _)
      rw [hsp]
      have hrun := run_all_append digitB _ x d1 (gap_digit hx)
      refine ⟨?_, d3⟩
      generalize Lib.decDigits n.toNat = ds at *
      cases ds with
      | nil => simp at d3
      | cons c r =>
        have hc := d1 c (by simp)
        have hs : spaceB c = false := by simpa using all_imp (P := digitB) (Q := fun c => !spaceB c) (by decide +kernel) hc
        have hl : letterB c = false := by simpa using all_imp (P := digitB) (Q := fun c => !letterB c) (by decide +kernel) hc
        have htake : (c :: (r ++ x)).take (c :: r).length = c :: r := by rw [← List.cons_append]; exact List.take_left
        rw [List.cons_append] at hrun ⊢
        rw [piece, if_neg (by rw [hs]; decide), if_neg (by rw [hl]; decide), if_pos hc, hrun, htake, d2, if_pos]
        · have : ((n.toNat : Nat) : Int) = n := by omega
          rw [this]
        · refine ⟨by omega, ?_⟩
          rcases Nat.eq_zero_or_pos n.toNat with h | h
          · left; rcases d5 with h5 | h5 <;> first | omega | exact h5
          · right; have := d4 h; simpa using this
    · split at hv
      · rename_i hk
        subst hk
        rw [Bool.and_eq_true, beq_iff_eq] at hv
        obtain ⟨rfl, hg⟩ := hv
        have hsp : spell ⟨3, s, 0, q⟩ = s := rfl
        rw [hsp]
        match s, hg with
        | [c], hg =>
          refine ⟨?_, by simp⟩
          have hs : spaceB c = false := by simpa using all_imp (P := signB) (Q := fun c => !spaceB c) (by decide +kernel) hg
          have hl : letterB c = false := by simpa using all_imp (P := signB) (Q := fun c => !letterB c) (by decide +kernel) hg
          have hd : digitB c = false := by simpa using all_imp (P := signB) (Q := fun c => !digitB c) (by decide +kernel) hg
          rw [List.cons_append, List.nil_append, piece, if_neg (by rw [hs]; decide), if_neg (by rw [hl]; decide), if_neg (by rw [hd]; decide), if_neg (fun h => gap_slash hx h.2), if_pos hg]
          rfl
      · cases hv

theorem piece_space (x : List UInt8) (p : Nat) {c : UInt8} (hc : spaceB c = true) : piece (c :: x) p = some (1, none) := by rw [piece, if_pos hc]

theorem join_cons (t : Tk) (u : Tk) (r : List Tk) : textL (t :: u :: r) = spell t ++ 32 :: textL (u :: r) := by
  unfold textL
  simp [Lib.join]
theorem join_one (t : Tk) : textL [t] = spell t := by unfold textL; simp [Lib.join]

theorem sameT_self (t : Tk) (p : Int) : sameT t ⟨t.k, t.s, t.n, p⟩ = true := by simp [sameT]
/-- The text of valid tokens has the same tokens. -/
theorem lexR_text : ∀ (l : List Tk), l.all validB = true → ∀ p, ∃ m, lexR (textL l) p = .ok m ∧ sameL l m = true
  | [], _, p => ⟨[], rfl, rfl⟩
  | [t], h, p => by
    have hv : validB t = true := by simpa using h
    obtain ⟨h1, h2⟩ := piece_spell hv (x := []) (fun c hc => by cases hc) p
    rw [List.append_nil] at h1
    refine ⟨[⟨t.k, t.s, t.n, p⟩], ?_, ?_⟩
    · rw [join_one, lexR_step h1, List.drop_length, lexR_nil]; rfl
    · rw [sameL, sameT_self]; rfl
  | t :: u :: r, h, p => by
    rw [List.all_cons, Bool.and_eq_true] at h
    obtain ⟨m, hm, hs⟩ := lexR_text (u :: r) h.2 (p + (spell t).length + 1)
    obtain ⟨h1, h2⟩ := piece_spell h.1 (x := 32 :: textL (u :: r)) (fun c hc => by simp only [List.head?_cons, Option.some.injEq] at hc; subst hc; decide) p
    refine ⟨⟨t.k, t.s, t.n, p⟩ :: m, ?_, ?_⟩
    · rw [join_cons, lexR_step h1, List.drop_left, lexR_step (piece_space _ _ (by decide)), List.drop_succ_cons, List.drop_zero, hm]
      rfl
    · rw [sameL, sameT_self, hs]; rfl
theorem lexL_text {l : List Tk} (h : l.all validB = true) : ∃ m, lexL (textL l) = .ok m ∧ sameL l m = true := lexR_text l h 0

/-- Digits without leading zeros are those of their number. -/
theorem dec_num (r : List UInt8) : ∀ (c : UInt8), digitB c = true → (∀ d ∈ r, digitB d = true) → (r = [] ∨ c ≠ 48) → Lib.decDigits (num (c :: r)) = c :: r := by
  have key : ∀ (N : Nat) (r : List UInt8) (c : UInt8), r.length ≤ N → digitB c = true → (∀ d ∈ r, digitB d = true) → (r = [] ∨ c ≠ 48) → Lib.decDigits (num (c :: r)) = c :: r := by
    have dig : ∀ c, digitB c = true → 48 ≤ c.toNat ∧ c.toNat ≤ 57 := fun c hc => by
      unfold digitB at hc
      simp only [Bool.and_eq_true, decide_eq_true_eq, UInt8.le_iff_toNat_le] at hc
      exact hc
    have back : ∀ c, digitB c = true → UInt8.ofNat (48 + (c.toNat - 48)) = c := fun c hc => by
      have := dig c hc
      rw [show 48 + (c.toNat - 48) = c.toNat by omega]
      exact UInt8.ofNat_toNat
    have one : ∀ c, num [c] = c.toNat - 48 := fun c => by
      have := num_snoc [] c
      rw [List.nil_append] at this
      rw [this]
      show 10 * 0 + _ = _
      omega
    intro N
    induction N with
    | zero =>
      intro r c hl hc hr h
      have : r = [] := List.eq_nil_of_length_eq_zero (by omega)
      subst this
      have := dig c hc
      rw [one, Lib.decDigits, dif_pos (by omega), back c hc]
    | succ N ih =>
      intro r c hl hc hr h
      rcases List.eq_nil_or_concat r with rfl | ⟨r', d, rfl⟩
      · have := dig c hc
        rw [one, Lib.decDigits, dif_pos (by omega), back c hc]
      · simp only [List.concat_eq_append] at *
        have hd := hr d (by simp)
        have hc0 : c ≠ 48 := h.resolve_left (by simp)
        have hdd := dig d hd
        have hcc := dig c hc
        have h1 := ih r' c (by simp at hl; omega) hc (fun x hx => hr x (by simp [hx])) (.inr hc0)
        have hpos : 1 ≤ num (c :: r') := by
          have h2 : c.toNat ≠ 48 := fun e => hc0 (UInt8.toNat_inj.1 e)
          have h3 := num_take_le (c :: r') 1
          rw [List.take_succ_cons, List.take_zero, one] at h3
          omega
        rw [← List.cons_append, num_snoc, Lib.decDigits, dif_neg (by omega)]
        have e1 : (10 * num (c :: r') + (d.toNat - 48)) / 10 = num (c :: r') := by omega
        have e2 : (10 * num (c :: r') + (d.toNat - 48)) % 10 = d.toNat - 48 := by omega
        rw [e1, e2, h1, back d hd]
  intro c hc hr h
  exact key r.length r c (Nat.le_refl _) hc hr h
/-- A piece's token is spelled as it stands. -/
theorem piece_text {l : List UInt8} {p n : Nat} {t : Tk} (h : piece l p = some (n, some t)) : spell t = l.take n := by
  cases l with
  | nil => cases h
  | cons c r =>
    rw [piece] at h
    split at h
    · cases h
    · split at h
      · split at h
        · simp only [Option.some.injEq, Prod.mk.injEq] at h
          obtain ⟨rfl, rfl⟩ := h
          rfl
        · cases h
      · split at h
        · rename_i hd
          split at h
          · rename_i h3
            simp only [Option.some.injEq, Prod.mk.injEq] at h
            obtain ⟨rfl, rfl⟩ := h
            have e : run digitB (c :: r) = run digitB r + 1 := run_pos hd
            have hall := run_all digitB (c :: r)
            have hz := h3.2
            unfold spell
            rw [if_pos rfl, itoa_pos (by simp only; omega)]
            simp only [Int.toNat_natCast]
            rw [e] at hall hz ⊢
            rw [List.take_succ_cons] at hall ⊢
            refine dec_num _ c hd (fun d hd => hall d (by simp [hd])) ?_
            rcases hz with hz | hz
            · left
              have : run digitB r = 0 := by omega
              rw [this, List.take_zero]
            · exact .inr hz
          · cases h
        · split at h
          · cases h
          · split at h
            · simp only [Option.some.injEq, Prod.mk.injEq] at h
              obtain ⟨rfl, rfl⟩ := h
              rfl
            · cases h
/-- The text of a source's tokens is at most twice as long. -/
theorem lexR_short (N : Nat) : ∀ (l : List UInt8) (p : Nat) (m : List Tk), l.length ≤ N → lexR l p = .ok m → (textL m).length ≤ 2 * l.length ∧ m.length ≤ l.length := by
  have tl : ∀ (t : Tk) (m : List Tk), (textL (t :: m)).length ≤ (spell t).length + 1 + (textL m).length := fun t m => by
    cases m with
    | nil => rw [join_one]; omega
    | cons u r => rw [join_cons, List.length_append, List.length_cons]; omega
  induction N with
  | zero =>
    intro l p m hl h
    have : l = [] := List.eq_nil_of_length_eq_zero (by omega)
    subst this
    rw [lexR_nil] at h
    cases h
    exact ⟨Nat.le_refl _, Nat.le_refl _⟩
  | succ N ih =>
    intro l p m hl h
    rcases lexR_cases l p with ⟨rfl, h1⟩ | ⟨-, -, h1⟩ | ⟨n, u, hp, h1, h2, h3⟩
    · rw [h1] at h; cases h; exact ⟨Nat.le_refl _, Nat.le_refl _⟩
    · rw [h1] at h; cases h
    · rw [h3] at h
      cases hr : lexR (l.drop n) (p + n) with
      | error q => rw [hr] at h; cases h
      | ok k =>
        rw [hr] at h
        simp only [Except.map, Except.ok.injEq] at h
        subst h
        have hd : (l.drop n).length = l.length - n := List.length_drop
        obtain ⟨g1, g2⟩ := ih _ _ _ (by omega) hr
        cases u with
        | none => simp only [Option.toList_none, List.nil_append]; exact ⟨by omega, by omega⟩
        | some t =>
          simp only [Option.toList_some, List.singleton_append]
          have g3 := tl t k
          have g4 := congrArg List.length (piece_text hp)
          rw [List.length_take] at g4
          refine ⟨by omega, by simp; omega⟩
theorem lexL_short {l : List UInt8} {m : List Tk} (h : lexL l = .ok m) : (textL m).length ≤ 2 * l.length ∧ m.length ≤ l.length := lexR_short l.length l 0 m (Nat.le_refl _) h
end Go.Proofs.YtndfchnmajfmiaaDoor
