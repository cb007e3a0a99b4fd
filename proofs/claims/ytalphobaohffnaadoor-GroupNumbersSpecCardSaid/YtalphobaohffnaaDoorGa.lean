/- Plainly: Gauss's sign, the law of reciprocity, Euler's criterion; the prime of the group and its powers. -/
import Derived.WalkKit
import Derived.Test.YtalphobaohffnaaDoorProg
namespace Go.Proofs.YtalphobaohffnaaDoor

/-- A product over a list. -/
def prodL : List Int → Int
  | [] => 1
  | x :: l => x * prodL l
theorem prodL_perm {l m : List Int} (h : l.Perm m) : prodL l = prodL m := by
  induction h with
  | nil => rfl
  | cons x _ ih => simp only [prodL, ih]
  | swap x y l => simp only [prodL]; grind
  | trans _ _ h1 h2 => exact h1.trans h2
/-- The sum modulo two over a list. -/
def xorL : List Bool → Bool
  | [] => false
  | x :: l => xor x (xorL l)
theorem xorL_perm {l m : List Bool} (h : l.Perm m) : xorL l = xorL m := by
  induction h with
  | nil => rfl
  | cons x _ ih => simp only [xorL, ih]
  | swap x y l => simp only [xorL]; cases x <;> cases y <;> cases xorL l <;> rfl
  | trans _ _ h1 h2 => exact h1.trans h2
theorem xorL_append : ∀ (l m : List Bool), xorL (l ++ m) = xor (xorL l) (xorL m)
  | [], m => by simp [xorL]
  | x :: l, m => by simp only [List.cons_append, xorL, xorL_append l m]; cases x <;> cases xorL l <;> cases xorL m <;> rfl
theorem xorL_xor {α : Type} (f g : α → Bool) : ∀ l : List α, xorL (l.map fun k => xor (f k) (g k)) = xor (xorL (l.map f)) (xorL (l.map g))
  | [] => rfl
  | x :: l => by
    simp only [List.map_cons, xorL, xorL_xor f g l]
    cases f x <;> cases g x <;> cases xorL (l.map f) <;> cases xorL (l.map g) <;> rfl
theorem prodL_mul {α : Type} (f g : α → Int) : ∀ l : List α, prodL (l.map fun k => f k * g k) = prodL (l.map f) * prodL (l.map g)
  | [] => rfl
  | x :: l => by simp only [List.map_cons, prodL, prodL_mul f g l]; grind
theorem prodL_const {α : Type} (a : Int) : ∀ l : List α, prodL (l.map fun _ => a) = a ^ l.length
  | [] => by simp [prodL]
  | x :: l => by simp only [List.map_cons, prodL, prodL_const a l, List.length_cons, Int.pow_succ]; grind
theorem perm_of {α : Type} [BEq α] [LawfulBEq α] : ∀ (l L : List α), l.Nodup → (∀ x ∈ l, x ∈ L) → L.length ≤ l.length → l.Perm L
  | [], L, _, _, h => by
    have : L = [] := List.eq_nil_of_length_eq_zero (by simpa using h)
    subst this
    exact .nil
  | x :: l, L, hn, hs, h => by
    have hx : x ∈ L := hs x (List.mem_cons_self ..)
    rw [List.nodup_cons] at hn
    refine List.Perm.trans (List.Perm.cons x (perm_of l (L.erase x) hn.2 (fun y hy => ?_) ?_)) (List.perm_cons_erase hx).symm
    · exact (List.mem_erase_of_ne (fun e => by subst e; exact hn.1 hy)).2 (hs y (List.mem_cons_of_mem _ hy))
    · rw [List.length_erase_of_mem hx]
      simp only [List.length_cons] at h
      omega
/-- The numbers from 1 to h. -/
def upTo1 : Nat → List Nat
  | 0 => []
  | h + 1 => upTo1 h ++ [h + 1]
theorem mem_upTo1 : ∀ (h k : Nat), k ∈ upTo1 h ↔ 1 ≤ k ∧ k ≤ h
  | 0, k => by simp only [upTo1, List.not_mem_nil, false_iff]; omega
  | h + 1, k => by
    simp only [upTo1, List.mem_append, mem_upTo1 h k, List.mem_singleton]
    omega
theorem len_upTo1 : ∀ h : Nat, (upTo1 h).length = h
  | 0 => rfl
  | h + 1 => by simp only [upTo1, List.length_append, len_upTo1 h, List.length_singleton]
theorem nodup_upTo1 : ∀ h : Nat, (upTo1 h).Nodup
  | 0 => List.nodup_nil
  | h + 1 => by
    rw [upTo1, List.nodup_append]
    refine ⟨nodup_upTo1 h, by simp, fun a ha b hb => ?_⟩
    rw [mem_upTo1] at ha
    rw [List.mem_singleton] at hb
    omega
theorem nodup_map {α β : Type} (f : α → β) : ∀ l : List α, l.Nodup → (∀ x ∈ l, ∀ y ∈ l, f x = f y → x = y) → (l.map f).Nodup
  | [], _, _ => List.nodup_nil
  | x :: l, hn, hi => by
    rw [List.nodup_cons] at hn
    rw [List.map_cons, List.nodup_cons]
    refine ⟨fun hm => ?_, nodup_map f l hn.2 fun a ha b hb => hi a (List.mem_cons_of_mem _ ha) b (List.mem_cons_of_mem _ hb)⟩
    obtain ⟨y, hy, e⟩ := List.mem_map.1 hm
    have := hi y (List.mem_cons_of_mem _ hy) x (List.mem_cons_self ..) e
    exact hn.1 (this ▸ hy)
/-- A map of the numbers from 1 to h into themselves that gives none twice gives each. -/
theorem perm_upTo1 (h : Nat) (s : Nat → Nat) (h1 : ∀ k, 1 ≤ k → k ≤ h → 1 ≤ s k ∧ s k ≤ h) (h2 : ∀ k j, 1 ≤ k → k ≤ h → 1 ≤ j → j ≤ h → s k = s j → k = j) : ((upTo1 h).map s).Perm (upTo1 h) := by
  refine perm_of _ _ (nodup_map s _ (nodup_upTo1 h) fun x hx y hy e => ?_) (fun x hx => ?_) (by simp)
  · rw [mem_upTo1] at hx hy
    exact h2 x y hx.1 hx.2 hy.1 hy.2 e
  · obtain ⟨k, hk, rfl⟩ := List.mem_map.1 hx
    rw [mem_upTo1] at hk ⊢
    exact h1 k hk.1 hk.2
theorem xorL_reorder (h : Nat) (s : Nat → Nat) (f : Nat → Bool) (hp : ((upTo1 h).map s).Perm (upTo1 h)) : xorL ((upTo1 h).map fun k => f (s k)) = xorL ((upTo1 h).map f) := by
  have := xorL_perm (hp.map f)
  rwa [List.map_map] at this
theorem prodL_reorder (h : Nat) (s : Nat → Nat) (f : Nat → Int) (hp : ((upTo1 h).map s).Perm (upTo1 h)) : prodL ((upTo1 h).map fun k => f (s k)) = prodL ((upTo1 h).map f) := by
  have := prodL_perm (hp.map f)
  rwa [List.map_map] at this
theorem xorL_congr (h : Nat) (f g : Nat → Bool) (e : ∀ k, 1 ≤ k → k ≤ h → f k = g k) : xorL ((upTo1 h).map f) = xorL ((upTo1 h).map g) := by
  rw [List.map_congr_left fun k hk => e k ((mem_upTo1 h k).1 hk).1 ((mem_upTo1 h k).1 hk).2]
theorem prodL_congr (h : Nat) (f g : Nat → Int) (e : ∀ k, 1 ≤ k → k ≤ h → f k = g k) : prodL ((upTo1 h).map f) = prodL ((upTo1 h).map g) := by
  rw [List.map_congr_left fun k hk => e k ((mem_upTo1 h k).1 hk).1 ((mem_upTo1 h k).1 hk).2]

/-! Gauss: n = 2h + 1, a has no divisor with it. -/
/-- The rest of a k, or its distance to n where it is more than h. -/
def ab (a h k : Nat) : Nat := if a * k % (2 * h + 1) ≤ h then a * k % (2 * h + 1) else 2 * h + 1 - a * k % (2 * h + 1)
def ng (a h k : Nat) : Bool := !decide (a * k % (2 * h + 1) ≤ h)
/-- Gauss's sign, as a bit. -/
def gs (a h : Nat) : Bool := xorL ((upTo1 h).map (ng a h))
theorem rest_pos {a h k : Nat} (hc : Nat.Coprime (2 * h + 1) a) (h1 : 1 ≤ k) (h2 : k ≤ h) : a * k % (2 * h + 1) ≠ 0 := fun e => by
  have := Nat.Coprime.dvd_of_dvd_mul_left hc (Nat.dvd_of_mod_eq_zero e)
  have := Nat.le_of_dvd (by omega) this
  omega
theorem ab_range {a h k : Nat} (hc : Nat.Coprime (2 * h + 1) a) (h1 : 1 ≤ k) (h2 : k ≤ h) : 1 ≤ ab a h k ∧ ab a h k ≤ h := by
  have e := rest_pos hc h1 h2
  have l := Nat.mod_lt (a * k) (show 2 * h + 1 > 0 by omega)
  unfold ab
  split <;> omega
theorem ab_inj {a h k j : Nat} (hc : Nat.Coprime (2 * h + 1) a) (h1 : 1 ≤ k) (h2 : k ≤ h) (h3 : 1 ≤ j) (h4 : j ≤ h) (e : ab a h k = ab a h j) : k = j := by
  have key : ∀ x y : Nat, x ≤ y → y ≤ h → 1 ≤ x → a * x % (2 * h + 1) = a * y % (2 * h + 1) → x = y := fun x y hxy hy hx e => by
    have hd : (2 * h + 1) ∣ a * (y - x) := by
      rw [Nat.mul_sub]
      exact Nat.dvd_of_mod_eq_zero (Nat.sub_mod_eq_zero_of_mod_eq e.symm)
    have := Nat.Coprime.dvd_of_dvd_mul_left hc hd
    rcases Nat.eq_zero_or_pos (y - x) with h | h
    · omega
    · have := Nat.le_of_dvd h this
      omega
  have p1 := rest_pos hc h1 h2
  have p2 := rest_pos hc h3 h4
  have l1 := Nat.mod_lt (a * k) (show 2 * h + 1 > 0 by omega)
  have l2 := Nat.mod_lt (a * j) (show 2 * h + 1 > 0 by omega)
  have cases : a * k % (2 * h + 1) = a * j % (2 * h + 1) ∨ a * k % (2 * h + 1) + a * j % (2 * h + 1) = 2 * h + 1 := by
    unfold ab at e
    split at e <;> split at e <;> omega
  rcases cases with c | c
  · rcases Nat.le_total k j with hk | hk
    · exact key k j hk h4 h1 c
    · exact (key j k hk h2 h3 c.symm).symm
  · have hd : (2 * h + 1) ∣ a * (k + j) := by
      refine Nat.dvd_of_mod_eq_zero ?_
      rw [Nat.mul_add, Nat.add_mod, c, Nat.mod_self]
    have := Nat.le_of_dvd (by omega) (Nat.Coprime.dvd_of_dvd_mul_left hc hd)
    omega
theorem ab_perm {a h : Nat} (hc : Nat.Coprime (2 * h + 1) a) : ((upTo1 h).map (ab a h)).Perm (upTo1 h) :=
  perm_upTo1 h _ (fun _ h1 h2 => ab_range hc h1 h2) (fun _ _ h1 h2 h3 h4 e => ab_inj hc h1 h2 h3 h4 e)
/-- The bit of a product: the bits, one behind the other. -/
theorem ng_mul {a b h k : Nat} (hb : Nat.Coprime (2 * h + 1) b) (ha : Nat.Coprime (2 * h + 1) a) (h1 : 1 ≤ k) (h2 : k ≤ h) : ng (a * b) h k = xor (ng b h k) (ng a h (ab b h k)) := by
  have hr := ab_range hb h1 h2
  have p := rest_pos ha hr.1 hr.2
  have l := Nat.mod_lt (a * ab b h k) (show 2 * h + 1 > 0 by omega)
  have e : a * b * k % (2 * h + 1) = a * (b * k % (2 * h + 1)) % (2 * h + 1) := by
    rw [Nat.mul_assoc, Nat.mul_mod a (b * k), Nat.mul_mod a (b * k % (2 * h + 1)), Nat.mod_mod]
  by_cases c : b * k % (2 * h + 1) ≤ h
  · have ea : ab b h k = b * k % (2 * h + 1) := by unfold ab; rw [if_pos c]
    unfold ng
    rw [e, ea, decide_eq_true c]
    simp
  · have ea : ab b h k + b * k % (2 * h + 1) = 2 * h + 1 := by
      have l := Nat.mod_lt (b * k) (show 2 * h + 1 > 0 by omega)
      unfold ab
      rw [if_neg c]
      omega
    have es : (a * ab b h k + a * (b * k % (2 * h + 1))) % (2 * h + 1) = 0 := by
      rw [← Nat.mul_add, ea]
      exact Nat.mul_mod_left _ _
    have l3 := Nat.mod_lt (a * (b * k % (2 * h + 1))) (show 2 * h + 1 > 0 by omega)
    have e2 : a * (b * k % (2 * h + 1)) % (2 * h + 1) = 2 * h + 1 - a * ab b h k % (2 * h + 1) := by
      rw [Nat.add_mod] at es
      generalize a * ab b h k % (2 * h + 1) = u at *
      generalize a * (b * k % (2 * h + 1)) % (2 * h + 1) = v at *
      have := Nat.div_add_mod (u + v) (2 * h + 1)
      rw [es] at this
      have h5 : (u + v) / (2 * h + 1) < 2 := (Nat.div_lt_iff_lt_mul (by omega)).2 (by omega)
      generalize (u + v) / (2 * h + 1) = q at *
      rcases (by omega : q = 0 ∨ q = 1) with rfl | rfl <;> omega
    unfold ng
    rw [e, e2, decide_eq_false c]
    by_cases c2 : a * ab b h k % (2 * h + 1) ≤ h
    · rw [decide_eq_true c2, decide_eq_false (by omega)]; rfl
    · rw [decide_eq_false c2, decide_eq_true (by omega)]; rfl
/-- Gauss's sign of a product. -/
theorem gs_mul {a b h : Nat} (ha : Nat.Coprime (2 * h + 1) a) (hb : Nat.Coprime (2 * h + 1) b) : gs (a * b) h = xor (gs a h) (gs b h) := by
  unfold gs
  rw [xorL_congr h _ _ fun k h1 h2 => ng_mul hb ha h1 h2, xorL_xor, xorL_reorder h (ab b h) (ng a h) (ab_perm hb)]
  exact Bool.xor_comm _ _
theorem gs_mod {a b h : Nat} (e : a % (2 * h + 1) = b % (2 * h + 1)) : gs a h = gs b h := by
  unfold gs
  refine xorL_congr h _ _ fun k _ _ => ?_
  unfold ng
  rw [Nat.mul_mod, e, ← Nat.mul_mod]
theorem gs_one (h : Nat) : gs 1 h = false := by
  have : gs 1 h = xorL ((upTo1 h).map fun _ => false) := xorL_congr h _ _ fun k h1 h2 => by
    unfold ng
    rw [Nat.one_mul, Nat.mod_eq_of_lt (by omega), decide_eq_true h2]
    rfl
  rw [this]
  generalize upTo1 h = l
  induction l with
  | nil => rfl
  | cons x l ih => simpa [xorL] using ih
/-- The parity. -/
def od (n : Nat) : Bool := decide (n % 2 = 1)
theorem cnt : ∀ m q : Nat, q ≤ m → xorL ((upTo1 m).map fun l => decide (l ≤ q)) = od q
  | 0, q, h => by
    have : q = 0 := by omega
    subst this
    rfl
  | m + 1, q, h => by
    rw [upTo1, List.map_append, xorL_append]
    rcases Nat.lt_or_ge m q with c | c
    · have e : q = m + 1 := by omega
      subst e
      rw [xorL_congr m _ (fun l => decide (l ≤ m)) fun k h1 h2 => by rw [decide_eq_true h2, decide_eq_true (by omega)], cnt m m (Nat.le_refl _)]
      unfold od
      simp only [List.map_cons, List.map_nil, xorL, Nat.le_refl, decide_true]
      rcases Nat.mod_two_eq_zero_or_one m with e | e
      · rw [show (m + 1) % 2 = 1 by omega, e]; rfl
      · rw [show (m + 1) % 2 = 0 by omega, e]; rfl
    · rw [cnt m q c]
      simp only [List.map_cons, List.map_nil, xorL]
      rw [decide_eq_false (show ¬ m + 1 ≤ q by omega)]
      simp
theorem cnt_all (m : Nat) : xorL ((upTo1 m).map fun _ => true) = od m := by
  rw [← cnt m m (Nat.le_refl _)]
  exact xorL_congr m _ _ fun k _ h => by rw [decide_eq_true h]
theorem od_add (a b : Nat) : od (a + b) = xor (od a) (od b) := by
  unfold od
  rcases Nat.mod_two_eq_zero_or_one a with e | e <;> rcases Nat.mod_two_eq_zero_or_one b with f | f <;>
    rw [Nat.add_mod, e, f] <;> rfl
theorem od_mul (a b : Nat) : od (a * b) = (od a && od b) := by
  unfold od
  rcases Nat.mod_two_eq_zero_or_one a with e | e <;> rcases Nat.mod_two_eq_zero_or_one b with f | f <;>
    rw [Nat.mul_mod, e, f] <;> rfl
/-- The sign of 2. -/
theorem gs_two (h : Nat) : gs 2 h = xor (od h) (od (h / 2)) := by
  have : gs 2 h = xorL ((upTo1 h).map fun k => xor true (decide (k ≤ h / 2))) := xorL_congr h _ _ fun k h1 h2 => by
    unfold ng
    rw [Nat.mod_eq_of_lt (by omega)]
    have e : decide (2 * k ≤ h) = decide (k ≤ h / 2) := decide_eq_decide.2 (by omega)
    rw [e, Bool.true_xor]
  rw [this, xorL_xor, cnt_all, cnt h (h / 2) (Nat.div_le_self ..)]
theorem xorL_false {α : Type} : ∀ l : List α, xorL (l.map fun _ => false) = false
  | [] => rfl
  | x :: l => by simp only [List.map_cons, xorL, xorL_false l]; rfl
theorem xorL_swap {α β : Type} (f : α → β → Bool) (M : List β) : ∀ L : List α, xorL (L.map fun k => xorL (M.map (f k))) = xorL (M.map fun l => xorL (L.map fun k => f k l))
  | [] => by simp only [List.map_nil, xorL]; exact (xorL_false M).symm
  | x :: L => by
    simp only [List.map_cons, xorL]
    rw [xorL_swap f M L, xorL_xor (f x) fun l => xorL (L.map fun k => f k l)]
/-- Eisenstein: the sign, by the points below a line. -/
theorem gs_line {h m : Nat} (hc : Nat.Coprime (2 * h + 1) (2 * m + 1)) : gs (2 * m + 1) h = xorL ((upTo1 h).map fun k => xorL ((upTo1 m).map fun l => decide (l * (2 * h + 1) ≤ (2 * m + 1) * k))) := by
  have e1 : xorL ((upTo1 h).map od) = xor (xor (xorL ((upTo1 h).map fun k => od ((2 * m + 1) * k / (2 * h + 1)))) (gs (2 * m + 1) h)) (xorL ((upTo1 h).map od)) := by
    have : xorL ((upTo1 h).map od) = xorL ((upTo1 h).map fun k => xor (xor (od ((2 * m + 1) * k / (2 * h + 1))) (ng (2 * m + 1) h k)) (od (ab (2 * m + 1) h k))) := xorL_congr h _ _ fun k h1 h2 => by
      have d := Nat.div_add_mod ((2 * m + 1) * k) (2 * h + 1)
      have l := Nat.mod_lt ((2 * m + 1) * k) (show 2 * h + 1 > 0 by omega)
      have f : od k = xor (od ((2 * m + 1) * k / (2 * h + 1))) (od ((2 * m + 1) * k % (2 * h + 1))) := by
        rw [← od_add]
        have d2 : od ((2 * m + 1) * k) = od k := by rw [od_mul, show od (2 * m + 1) = true from by unfold od; exact decide_eq_true (by omega)]; rfl
        rw [← d2, ← d, od_add, od_mul, show od (2 * h + 1) = true from by unfold od; exact decide_eq_true (by omega), Bool.true_and, ← od_add, d]
      rw [f]
      unfold ng ab
      by_cases c : (2 * m + 1) * k % (2 * h + 1) ≤ h
      · rw [if_pos c, decide_eq_true c]; simp
      · rw [if_neg c, decide_eq_false c]
        have g : od (2 * h + 1 - (2 * m + 1) * k % (2 * h + 1)) = !(od ((2 * m + 1) * k % (2 * h + 1))) := by
          unfold od
          generalize (2 * m + 1) * k % (2 * h + 1) = r at *
          rcases Nat.mod_two_eq_zero_or_one r with e | e
          · rw [e, show (2 * h + 1 - r) % 2 = 1 by omega]; rfl
          · rw [e, show (2 * h + 1 - r) % 2 = 0 by omega]; rfl
        rw [g]
        cases od ((2 * m + 1) * k / (2 * h + 1)) <;> cases od ((2 * m + 1) * k % (2 * h + 1)) <;> rfl
    rw [xorL_xor (fun k => xor (od ((2 * m + 1) * k / (2 * h + 1))) (ng (2 * m + 1) h k)) fun k => od (ab (2 * m + 1) h k), xorL_xor, xorL_reorder h (ab (2 * m + 1) h) od (ab_perm hc)] at this
    exact this
  have e2 : gs (2 * m + 1) h = xorL ((upTo1 h).map fun k => od ((2 * m + 1) * k / (2 * h + 1))) := by
    generalize xorL ((upTo1 h).map od) = x at e1
    generalize gs (2 * m + 1) h = y at e1 ⊢
    generalize xorL ((upTo1 h).map fun k => od ((2 * m + 1) * k / (2 * h + 1))) = z at e1 ⊢
    revert e1
    cases x <;> cases y <;> cases z <;> decide
  rw [e2]
  refine xorL_congr h _ _ fun k h1 h2 => ?_
  have hq : (2 * m + 1) * k / (2 * h + 1) ≤ m := by
    rw [← Nat.lt_succ_iff, Nat.div_lt_iff_lt_mul (by omega)]
    have := Nat.mul_le_mul_left (2 * m + 1) h2
    have e : (m + 1) * (2 * h + 1) = 2 * (m * h) + m + 2 * h + 1 := by rw [Nat.add_mul, Nat.mul_add, Nat.mul_left_comm]; omega
    have e2 : (2 * m + 1) * h = 2 * (m * h) + h := by rw [Nat.add_mul, Nat.mul_assoc]; omega
    show (2 * m + 1) * k < (m + 1) * (2 * h + 1)
    omega
  rw [← cnt m _ hq]
  refine xorL_congr m _ _ fun l _ _ => ?_
  rw [decide_eq_decide.2 (Nat.le_div_iff_mul_le (show 0 < 2 * h + 1 by omega))]
/-- The law of reciprocity. -/
theorem recip {h m : Nat} (hc : Nat.Coprime (2 * h + 1) (2 * m + 1)) : xor (gs (2 * m + 1) h) (gs (2 * h + 1) m) = (od h && od m) := by
  rw [gs_line hc, gs_line hc.symm, xorL_swap (fun l k => decide (k * (2 * m + 1) ≤ (2 * h + 1) * l)), ← xorL_xor]
  rw [xorL_congr h _ (fun _ => od m) fun k h1 h2 => ?_]
  · have : ∀ (b : Bool) (n : Nat), xorL ((upTo1 n).map fun _ => b) = (od n && b) := fun b n => by
      cases b
      · rw [xorL_false]; simp
      · rw [cnt_all]; simp
    exact this _ _
  · rw [← xorL_xor, ← cnt_all]
    refine xorL_congr m _ _ fun l h3 h4 => ?_
    have ne : l * (2 * h + 1) ≠ (2 * m + 1) * k := fun e => by
      have := Nat.Coprime.dvd_of_dvd_mul_left hc ⟨l, by rw [← e, Nat.mul_comm]⟩
      have := Nat.le_of_dvd (by omega) this
      omega
    rw [Nat.mul_comm k, Nat.mul_comm (2 * h + 1) l]
    rcases Nat.lt_or_gt_of_ne ne with c | c
    · rw [decide_eq_true (show l * (2 * h + 1) ≤ (2 * m + 1) * k by omega), decide_eq_false (show ¬ (2 * m + 1) * k ≤ l * (2 * h + 1) by omega)]; rfl
    · rw [decide_eq_false (show ¬ l * (2 * h + 1) ≤ (2 * m + 1) * k by omega), decide_eq_true (show (2 * m + 1) * k ≤ l * (2 * h + 1) by omega)]; rfl

/-! Euler: the power to h, modulo a prime 2h + 1. -/
/-- Congruence. -/
def Cn (n : Nat) (a b : Int) : Prop := ∃ k, a - b = (n : Int) * k
theorem Cn.refl (n : Nat) (a : Int) : Cn n a a := ⟨0, by omega⟩
theorem Cn.symm {n : Nat} {a b : Int} (h : Cn n a b) : Cn n b a := by obtain ⟨k, hk⟩ := h; exact ⟨-k, by rw [Int.mul_neg]; omega⟩
theorem Cn.trans {n : Nat} {a b c : Int} (h : Cn n a b) (h' : Cn n b c) : Cn n a c := by
  obtain ⟨k, hk⟩ := h; obtain ⟨j, hj⟩ := h'; exact ⟨k + j, by rw [Int.mul_add]; omega⟩
theorem Cn.mul {n : Nat} {a b c d : Int} (h : Cn n a b) (h' : Cn n c d) : Cn n (a * c) (b * d) := by
  obtain ⟨k, hk⟩ := h; obtain ⟨j, hj⟩ := h'
  exact ⟨k * c + b * j, by grind⟩
theorem Cn.prod {n : Nat} {α : Type} (f g : α → Int) : ∀ l : List α, (∀ x ∈ l, Cn n (f x) (g x)) → Cn n (prodL (l.map f)) (prodL (l.map g))
  | [], _ => Cn.refl n _
  | x :: l, h => (h x (List.mem_cons_self ..)).mul (Cn.prod f g l fun y hy => h y (List.mem_cons_of_mem _ hy))
/-- A sign as a number. -/
def sg (b : Bool) : Int := if b then -1 else 1
theorem sg_xor (a b : Bool) : sg (xor a b) = sg a * sg b := by cases a <;> cases b <;> rfl
theorem prod_sg {α : Type} (f : α → Bool) : ∀ l : List α, prodL (l.map fun k => sg (f k)) = sg (xorL (l.map f))
  | [] => rfl
  | x :: l => by simp only [List.map_cons, prodL, xorL, prod_sg f l, sg_xor]
theorem ab_cong {a h k : Nat} : Cn (2 * h + 1) ((a : Int) * k) (sg (ng a h k) * (ab a h k : Int)) := by
  have e := Nat.div_add_mod (a * k) (2 * h + 1)
  have l := Nat.mod_lt (a * k) (show 2 * h + 1 > 0 by omega)
  have e2 : (a : Int) * k = ((2 * h + 1 : Nat) : Int) * ((a * k / (2 * h + 1) : Nat) : Int) + ((a * k % (2 * h + 1) : Nat) : Int) := by
    rw [← Int.natCast_mul, ← Int.natCast_mul, ← Int.natCast_add, e]
  rw [e2]
  unfold ng ab
  generalize a * k / (2 * h + 1) = q at *
  generalize a * k % (2 * h + 1) = r at *
  by_cases c : r ≤ h
  · rw [if_pos c, decide_eq_true c]
    refine ⟨q, ?_⟩
    simp only [sg, Bool.not_true, Bool.false_eq_true, if_false]
    omega
  · rw [if_neg c, decide_eq_false c]
    refine ⟨q + 1, ?_⟩
    simp only [sg, Bool.not_false, if_true, Int.mul_add]
    omega
/-- Gauss's lemma. -/
theorem gauss {a h : Nat} (hc : Nat.Coprime (2 * h + 1) a) : Cn (2 * h + 1) ((a : Int) ^ h * prodL ((upTo1 h).map fun k : Nat => (k : Int))) (sg (gs a h) * prodL ((upTo1 h).map fun k : Nat => (k : Int))) := by
  have e1 : (a : Int) ^ h * prodL ((upTo1 h).map fun k : Nat => (k : Int)) = prodL ((upTo1 h).map fun k : Nat => (a : Int) * (k : Int)) := by
    rw [prodL_mul (fun _ => (a : Int)) fun k : Nat => (k : Int), prodL_const, len_upTo1]
  have e2 : prodL ((upTo1 h).map fun k => sg (ng a h k) * (ab a h k : Int)) = sg (gs a h) * prodL ((upTo1 h).map fun k : Nat => (k : Int)) := by
    rw [prodL_mul (fun k => sg (ng a h k)) fun k => (ab a h k : Int), prod_sg, prodL_reorder h (ab a h) (fun k : Nat => (k : Int)) (ab_perm hc)]
    rfl
  rw [e1, ← e2]
  exact Cn.prod _ _ _ fun _ _ => ab_cong
theorem cancel_fac {n : Nat} (hp : ∀ a b : Nat, n ∣ a * b → n ∣ a ∨ n ∣ b) {x y : Int} : ∀ l : List Nat, (∀ k ∈ l, 1 ≤ k ∧ k < n) → Cn n (x * prodL (l.map fun k : Nat => (k : Int))) (y * prodL (l.map fun k : Nat => (k : Int))) → Cn n x y
  | [], _, h => by simpa [prodL] using h
  | k :: l, hl, h => by
    refine cancel_fac hp l (fun j hj => hl j (List.mem_cons_of_mem _ hj)) ?_
    obtain ⟨q, hq⟩ := h
    simp only [List.map_cons, prodL] at hq
    generalize prodL (l.map fun k : Nat => (k : Int)) = z at *
    have hd : (n : Int) ∣ (k : Int) * (x * z - y * z) := ⟨q, by rw [← hq]; grind⟩
    have hd2 : n ∣ k * (x * z - y * z).natAbs := by
      have := Int.natAbs_dvd_natAbs.2 hd
      rwa [Int.natAbs_mul] at this
    have hk := hl k (List.mem_cons_self ..)
    rcases hp _ _ hd2 with h1 | h1
    · have := Nat.le_of_dvd (by omega) h1
      omega
    · exact Int.natAbs_dvd_natAbs.1 (show (n : Int).natAbs ∣ (x * z - y * z).natAbs from h1)
/-- Euler's criterion. -/
theorem euler {a h : Nat} (hp : ∀ a b : Nat, 2 * h + 1 ∣ a * b → 2 * h + 1 ∣ a ∨ 2 * h + 1 ∣ b) (hc : Nat.Coprime (2 * h + 1) a) : Cn (2 * h + 1) ((a : Int) ^ h) (sg (gs a h)) :=
  cancel_fac hp (upTo1 h) (fun k hk => by rw [mem_upTo1] at hk; omega) (gauss hc)
theorem eq_add_of_sub {x y z : Int} (h : x - y = z) : x = y + z := by omega
theorem euler_mod {a h : Nat} (hh : 1 ≤ h) (hp : ∀ a b : Nat, 2 * h + 1 ∣ a * b → 2 * h + 1 ∣ a ∨ 2 * h + 1 ∣ b) (hc : Nat.Coprime (2 * h + 1) a) : a ^ h % (2 * h + 1) = if gs a h then 2 * h else 1 := by
  obtain ⟨k, hk⟩ := euler hp hc
  rw [← Int.natCast_pow] at hk
  have e : ((a ^ h % (2 * h + 1) : Nat) : Int) = ((if gs a h then 2 * h else 1 : Nat) : Int) := by
    rw [Int.natCast_emod]
    generalize ((a ^ h : Nat) : Int) = x at *
    generalize gs a h = b at *
    cases b
    · simp only [sg, Bool.false_eq_true, if_false] at hk ⊢
      have e3 := eq_add_of_sub hk
      rw [e3, Int.add_mul_emod_self_left]
      show (1 : Int) % ((2 * h + 1 : Nat) : Int) = 1
      exact Int.emod_eq_of_lt (by omega) (by omega)
    · simp only [sg, if_true] at hk ⊢
      have e3 : x = ((2 * h : Nat) : Int) + ((2 * h + 1 : Nat) : Int) * (k - 1) := by
        rw [Int.mul_sub]
        generalize ((2 * h + 1 : Nat) : Int) * k = y at *
        omega
      rw [e3, Int.add_mul_emod_self_left]
      show ((2 * h : Nat) : Int) % ((2 * h + 1 : Nat) : Int) = ((2 * h : Nat) : Int)
      exact Int.emod_eq_of_lt (by omega) (by omega)
  exact Int.ofNat.inj e

/-! The prime of the group. -/
/-- Are the numbers from d on (2 ^ k of them) no divisors of the prime, beyond 1? -/
def trial (k : Nat) : Nat → Bool := Nat.rec (fun d => Nat.ble d 1 || !(Nat.beq (Nat.mod 2147483579 d) 0)) (fun k ih d => ih d && ih (d + 2 ^ k)) k
theorem trial_all : trial 16 0 = true := by decide +kernel
theorem trial_of : ∀ (k d : Nat), trial k d = true → ∀ m, d ≤ m → m < d + 2 ^ k → m ≤ 1 ∨ 2147483579 % m ≠ 0 := by
  intro k
  induction k with
  | zero =>
    intro d h m h1 h2
    have e : m = d := by omega
    subst e
    have h : (Nat.ble m 1 || !(Nat.beq (Nat.mod 2147483579 m) 0)) = true := h
    rcases Bool.or_eq_true _ _ ▸ h with h | h
    · exact .inl (Nat.le_of_ble_eq_true h)
    · refine .inr fun e => ?_
      have e : Nat.mod 2147483579 m = 0 := e
      rw [e] at h
      cases h
  | succ k ih =>
    intro d h m h1 h2
    have h : (trial k d && trial k (d + 2 ^ k)) = true := h
    rw [Bool.and_eq_true] at h
    rw [Nat.pow_succ] at h2
    rcases Nat.lt_or_ge m (d + 2 ^ k) with hm | hm
    · exact ih d h.1 m h1 hm
    · exact ih _ h.2 m hm (by omega)
/-- The prime has no divisor but 1 and itself. -/
theorem prime_div (d : Nat) (hd : d ∣ 2147483579) : d = 1 ∨ d = 2147483579 := by
  obtain ⟨e, he⟩ := hd
  have small : ∀ x, x ∣ 2147483579 → x < 65536 → x ≤ 1 := fun x hx hl => by
    rcases trial_of 16 0 trial_all x (Nat.zero_le _) (by omega) with h | h
    · exact h
    · exact absurd (Nat.mod_eq_zero_of_dvd hx) h
  have h1 : d ≠ 0 := by rintro rfl; omega
  have h2 : e ≠ 0 := by rintro rfl; omega
  rcases Nat.lt_or_ge d 65536 with h | h
  · have := small d ⟨e, he⟩ h
    omega
  · rcases Nat.lt_or_ge e 65536 with h' | h'
    · have := small e ⟨d, by rw [he, Nat.mul_comm]⟩ h'
      have e1 : e = 1 := by omega
      subst e1
      omega
    · have := Nat.mul_le_mul h h'
      omega
theorem prime_nat (a b : Nat) (h : 2147483579 ∣ a * b) : 2147483579 ∣ a ∨ 2147483579 ∣ b := by
  rcases prime_div _ (Nat.gcd_dvd_left 2147483579 a) with h1 | h1
  · exact .inr (Nat.Coprime.dvd_of_dvd_mul_left h1 h)
  · exact .inl (h1 ▸ Nat.gcd_dvd_right 2147483579 a)
theorem coprime_P (a : Nat) (h1 : 1 ≤ a) (h2 : a < 2147483579) : Nat.Coprime 2147483579 a := by
  rcases prime_div _ (Nat.gcd_dvd_left 2147483579 a) with h | h
  · exact h
  · have : 2147483579 ∣ a := h ▸ Nat.gcd_dvd_right 2147483579 a
    have := Nat.le_of_dvd (by omega) this
    omega
/-- The power modulo the prime. -/
@[irreducible] def pw (a n : Nat) : Nat := a ^ n % 2147483579
theorem pw_eq (a n : Nat) : pw a n = a ^ n % 2147483579 := by unfold pw; rfl
theorem pw_lt (a n : Nat) : pw a n < 2147483579 := by rw [pw_eq]; exact Nat.mod_lt _ (by omega)
theorem pw_zero (a : Nat) : pw a 0 = 1 := by rw [pw_eq, Nat.pow_zero]
theorem pw_one (a : Nat) (h : a < 2147483579) : pw a 1 = a := by rw [pw_eq, Nat.pow_one, Nat.mod_eq_of_lt h]
theorem pw_add (a m n : Nat) : pw a (m + n) = pw a m * pw a n % 2147483579 := by rw [pw_eq, pw_eq, pw_eq, Nat.pow_add, Nat.mul_mod]
theorem pw_mul (a m n : Nat) : pw a (m * n) = pw (pw a m) n := by rw [pw_eq, pw_eq, pw_eq, Nat.pow_mul, Nat.pow_mod]
theorem pw_base (a b n : Nat) : pw (a * b % 2147483579) n = pw a n * pw b n % 2147483579 := by rw [pw_eq, pw_eq, pw_eq, ← Nat.pow_mod, Nat.mul_pow, Nat.mul_mod]
theorem pw_mod (a n : Nat) : pw (a % 2147483579) n = pw a n := by rw [pw_eq, pw_eq, ← Nat.pow_mod]
/-- Gauss's sign modulo the prime. -/
@[irreducible] def gP (x : Nat) : Bool := gs x 1073741789
theorem gP_eq (x : Nat) : gP x = gs x 1073741789 := by unfold gP; rfl
theorem euler_P (a : Nat) (h1 : 1 ≤ a) (h2 : a < 2147483579) : pw a 1073741789 = if gP a then 2147483578 else 1 := by
  obtain ⟨q, hq⟩ : ∃ q, q = 1073741789 := ⟨_, rfl⟩
  have e : 2147483579 = 2 * q + 1 := by omega
  rw [pw_eq, gP_eq, ← hq, e, show 2147483578 = 2 * q by omega]
  exact euler_mod (by omega) (by rw [← e]; exact prime_nat) (by rw [← e]; exact coprime_P a h1 h2)
theorem pw_two_Q (a : Nat) (h1 : 1 ≤ a) (h2 : a < 2147483579) : pw a (2 * 1073741789) = 1 := by
  rw [Nat.mul_comm, pw_mul, euler_P a h1 h2, pw_eq]
  split <;> decide

end Go.Proofs.YtalphobaohffnaaDoor
