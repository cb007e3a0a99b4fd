/- The main theorem's plain facts: a path leads to the digest of the list. -/
import Derived.Test.YtcibnkdadhpjiaaDoorCg
namespace Go.Proofs.YtcibnkdadhpjiaaDoor
open Go.RowKit

theorem path_desc (n : Nat) : ∀ (l : List (List UInt8)) (i : Nat), l.length ≤ n → l.length ≤ 1000000000 → (pathH l i).length = (desc i l.length).length := by
  induction n with
  | zero => intro l i h _; rw [pathH_one l i (by omega), desc_one i _ (by omega)]; rfl
  | succ n ih =>
    intro l i h hm
    by_cases h2 : 2 ≤ l.length
    · have hb := half_bounds l.length h2 (by omega)
      rw [pathH_two l i h2 (by omega), desc_step i l.length h2 (by omega)]
      by_cases hi : i < half l.length
      · rw [if_pos hi, if_pos hi, List.length_append, List.length_cons, ih (l.take (half l.length)) i (by rw [List.length_take]; omega) (by rw [List.length_take]; omega),
          show (l.take (half l.length)).length = half l.length by rw [List.length_take]; omega]
        rfl
      · rw [if_neg hi, if_neg hi, List.length_append, List.length_cons, ih (l.drop (half l.length)) _ (by rw [List.length_drop]; omega) (by rw [List.length_drop]; omega), List.length_drop]
        rfl
    · rw [pathH_one l i (by omega), desc_one i _ (by omega)]; rfl

theorem upTo_cons (d : List UInt8) (b : Bool) (D : List Bool) (p : List (List UInt8)) (t : List UInt8) (hD : D.length = p.length) : ∀ j, j ≤ p.length → upTo d (b :: D) (p ++ [t]) j = upTo d D p j := by
  intro j
  induction j with
  | zero => intro _; rfl
  | succ j ih =>
    intro hj
    rw [upTo, upTo, ih (by omega)]
    have h1 : (b :: D).getD ((b :: D).length - 1 - j) false = D.getD (D.length - 1 - j) false := by
      rw [List.length_cons, show D.length + 1 - 1 - j = (D.length - 1 - j) + 1 by omega]
      rfl
    have h2 : (p ++ [t]).getD j [] = p.getD j [] := by
      rw [List.getD_eq_getElem?_getD, List.getD_eq_getElem?_getD, List.getElem?_append_left (by omega)]
    rw [h1, h2]
theorem upTo_snoc (d : List UInt8) (b : Bool) (D : List Bool) (p : List (List UInt8)) (t : List UInt8) (hD : D.length = p.length) : upTo d (b :: D) (p ++ [t]) (p.length + 1) = stepH b t (upTo d D p p.length) := by
  rw [upTo, upTo_cons d b D p t hD p.length (Nat.le_refl _)]
  have h1 : (b :: D).getD ((b :: D).length - 1 - p.length) false = b := by
    rw [List.length_cons, hD, show p.length + 1 - 1 - p.length = 0 by omega]
    rfl
  have h2 : (p ++ [t]).getD p.length [] = t := by
    rw [List.getD_eq_getElem?_getD, List.getElem?_append_right (Nat.le_refl _)]
    simp
  rw [h1, h2]
/-- Climbing the path of an element leads to the digest of the list. -/
theorem climb_path (n : Nat) : ∀ (l : List (List UInt8)) (i : Nat), l.length ≤ n → l.length ≤ 1000000000 → i < l.length → upTo (l.getD i []) (desc i l.length) (pathH l i) (pathH l i).length = treeH l := by
  induction n with
  | zero => intro l i h _ hi; omega
  | succ n ih =>
    intro l i h hm hi
    by_cases h2 : 2 ≤ l.length
    · have hb := half_bounds l.length h2 (by omega)
      have hp1 := path_desc _ (l.take (half l.length)) i (Nat.le_refl _) (by rw [List.length_take]; omega)
      have hp2 := path_desc _ (l.drop (half l.length)) (i - half l.length) (Nat.le_refl _) (by rw [List.length_drop]; omega)
      have ht : (l.take (half l.length)).length = half l.length := by rw [List.length_take]; omega
      rw [ht] at hp1
      rw [List.length_drop] at hp2
      rw [pathH_two l i h2 (by omega), desc_step i l.length h2 (by omega), treeH_two l h2 (by omega)]
      by_cases hk : i < half l.length
      · rw [if_pos hk, if_pos hk, List.length_append, List.length_singleton, upTo_snoc _ _ _ _ _ hp1.symm]
        have := ih (l.take (half l.length)) i (by omega) (by omega) (by omega)
        rw [ht] at this
        have hg : (l.take (half l.length)).getD i [] = l.getD i [] := by
          rw [List.getD_eq_getElem?_getD, List.getD_eq_getElem?_getD, List.getElem?_take_of_lt hk]
        rw [hg] at this
        rw [this]
        have hd : decide (half l.length ≤ i) = false := by simp; omega
        rw [hd]
        rfl
      · rw [if_neg hk, if_neg hk, List.length_append, List.length_singleton, upTo_snoc _ _ _ _ _ hp2.symm]
        have := ih (l.drop (half l.length)) (i - half l.length) (by rw [List.length_drop]; omega) (by rw [List.length_drop]; omega) (by rw [List.length_drop]; omega)
        rw [List.length_drop] at this
        have hg : (l.drop (half l.length)).getD (i - half l.length) [] = l.getD i [] := by
          rw [List.getD_eq_getElem?_getD, List.getD_eq_getElem?_getD, List.getElem?_drop, show half l.length + (i - half l.length) = i by omega]
        rw [hg] at this
        rw [this]
        have hd : decide (half l.length ≤ i) = true := by simp; omega
        rw [hd]
        rfl
    · match l, hi, h2 with
      | [d], hi, _ =>
        have : i = 0 := by simp at hi; exact hi
        subst this
        rw [pathH_one [d] 0 (by simp), treeH_one]
        rfl
      | x :: y :: r, _, h2 => exact absurd (by simp) h2
theorem desc_short : ∀ n, n < 25 → ∀ i, i < n → (desc i n).length ≤ 5 := by decide +kernel
end Go.Proofs.YtcibnkdadhpjiaaDoor
