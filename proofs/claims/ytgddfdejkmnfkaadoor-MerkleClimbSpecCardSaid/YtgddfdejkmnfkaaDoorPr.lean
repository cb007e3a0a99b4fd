/- Merkle's plain facts: a proof climbs to the root; the root is the node of the two parts' roots. -/
import Derived.Test.YtgddfdejkmnfkaaDoorMu
namespace Go.Proofs.YtgddfdejkmnfkaaDoor
open Go.RowKit

theorem pathP_get (F : List (List UInt8)) (n i k : Nat) (hl : lone n i k = false) : ∀ m, k < m → (pathP F n i m).getD (used n i k) [] = (rowL F k).getD (oth (rowI i k)) [] := by
  intro m
  induction m with
  | zero => intro h; omega
  | succ m ih =>
    intro h
    rw [pathP]
    by_cases hm : lone n i m = true
    · rw [if_pos hm]
      have : k ≠ m := fun e => by subst e; rw [hl] at hm; cases hm
      exact ih (by omega)
    · rw [if_neg hm]
      have hpl := pathP_len F n i m
      by_cases e : k = m
      · subst e
        rw [List.getD_eq_getElem?_getD, List.getElem?_append_right (by omega), hpl]
        simp
      · have h1 := used_mono n i (k + 1) m (by omega)
        rw [used, if_neg (by rw [hl]; simp)] at h1
        rw [List.getD_eq_getElem?_getD, List.getElem?_append_left (by omega), ← List.getD_eq_getElem?_getD]
        exact ih (by omega)
theorem nextM_get {l : List (List UInt8)} {j : Nat} (h : j < (l.length + 1) / 2) : (nextM l).getD j [] = joinM ((l.drop (2 * j)).take 2) := by
  unfold nextM nextTo
  rw [List.getD_eq_getElem?_getD, List.getElem?_map, List.getElem?_range h]
  rfl
theorem lone_at {n i k : Nat} (h : i < n) : lone n i k = true ↔ rowN n k % 2 = 1 ∧ rowI i k = rowN n k - 1 := by
  have hlt := rowI_lt h k
  unfold lone oth
  rw [decide_eq_true_eq]
  split <;> omega
theorem drop_two {l : List (List UInt8)} {a : Nat} (h : a + 1 < l.length) : (l.drop a).take 2 = [l.getD a [], l.getD (a + 1) []] := by
  rw [List.drop_eq_getElem_cons (by omega), List.drop_eq_getElem_cons h]
  simp only [List.take_succ_cons, List.take_zero, List.getD_eq_getElem?_getD]
  rw [List.getElem?_eq_getElem (by omega), List.getElem?_eq_getElem h]
  rfl
theorem drop_last {l : List (List UInt8)} {a : Nat} (h : a + 1 = l.length) : (l.drop a).take 2 = [l.getD a []] := by
  rw [List.drop_eq_getElem_cons (by omega), List.drop_eq_nil_of_le (by omega)]
  simp only [List.take_succ_cons, List.take_nil, List.getD_eq_getElem?_getD]
  rw [List.getElem?_eq_getElem (by omega)]
  rfl
/-- The climb meets the rows. -/
theorem clM_row (ls : List (List UInt8)) (i : Nat) (hi : i < ls.length) (m : Nat) : ∀ k, k ≤ m → clM ls.length i (ls.getD i []) (pathP (firstM ls) ls.length i m) k = (rowL (firstM ls) k).getD (rowI i k) [] := by
  intro k
  induction k with
  | zero =>
    intro _
    show sha (leafM (ls.getD i [])) = (firstM ls).getD i []
    unfold firstM
    rw [List.getD_eq_getElem?_getD, List.getD_eq_getElem?_getD, List.getElem?_map, List.getElem?_eq_getElem hi]
    rfl
  | succ k ih =>
    intro hk
    have ih := ih (by omega)
    have hlen : (rowL (firstM ls) k).length = rowN ls.length k := by rw [rowL_len, firstM_len]
    have hlt := rowI_lt hi k
    have hget := pathP_get (firstM ls) ls.length i k
    have hlo := lone_at (k := k) hi
    have hnx := nextM_get (l := rowL (firstM ls) k) (j := rowI i k / 2) (by rw [hlen]; omega)
    rw [clM, ih]
    show _ = (nextM (rowL (firstM ls) k)).getD (rowI i k / 2) []
    rw [hnx]
    generalize rowL (firstM ls) k = R at *
    generalize rowI i k = a at *
    by_cases hl : lone ls.length i k = true
    · rw [if_pos hl]
      obtain ⟨h1, h2⟩ := hlo.1 hl
      rw [show 2 * (a / 2) = a by omega, drop_last (by omega)]
      rfl
    · rw [if_neg hl]
      have hl' : lone ls.length i k = false := by simpa using hl
      rw [hget hl' m (by omega)]
      have hno : ¬ (rowN ls.length k % 2 = 1 ∧ a = rowN ls.length k - 1) := fun h => hl (hlo.2 h)
      unfold stepM oth
      by_cases hp : a % 2 = 0
      · rw [if_pos hp, if_neg (by omega), show 2 * (a / 2) = a by omega, drop_two (by omega)]
        rfl
      · rw [if_neg hp, if_pos (by omega), show 2 * (a / 2) = a - 1 by omega, drop_two (by omega), show a - 1 + 1 = a by omega]
        rfl
theorem nextM_single (x : List UInt8) : nextM [x] = [x] := by
  unfold nextM nextTo
  simp [joinM, List.range_succ]
theorem nextM_pair (x y : List UInt8) : nextM [x, y] = [sha (nodeM x y)] := by
  unfold nextM nextTo
  simp [joinM, List.range_succ]
/-- A row of one digest stays. -/
theorem nextM_one {l : List (List UInt8)} (h : l.length ≤ 1) : nextM l = l := by
  match l, h with
  | [], _ => rfl
  | [x], _ => exact nextM_single x
theorem rowL_stay {F : List (List UInt8)} {k : Nat} (h : (rowL F k).length ≤ 1) (d : Nat) : rowL F (k + d) = rowL F k := by
  induction d with
  | zero => rfl
  | succ d ih =>
    show nextM (rowL F (k + d)) = _
    rw [ih, nextM_one h]
theorem root_row (ls : List (List UInt8)) (hp : 0 < ls.length) (k : Nat) (hk : rows ls.length ≤ k) : rootM ls = (rowL (firstM ls) k).getD 0 [] := by
  unfold rootM
  rw [if_neg (fun e => by rw [e] at hp; simp at hp)]
  obtain ⟨d, rfl⟩ : ∃ d, k = rows ls.length + d := ⟨k - rows ls.length, by omega⟩
  rw [rowL_stay (by rw [rowL_len, firstM_len]; exact rowN_end _)]
theorem proof_climbs (ls : List (List UInt8)) (i : Nat) (hi : i < ls.length) (hn : ls.length ≤ 65536) : climbP ls.length i (ls.getD i []) (proveP ls i).1 = (rootM ls, 0) := by
  have hpl : isPl (ls.length : Int) (i : Int) = true := by rw [isPl_iff]; omega
  have hp : (proveP ls i).1 = pathP (firstM ls) ls.length i (rows ls.length) := by
    unfold proveP
    rw [if_neg (by rw [hpl]; simp)]
    simp
  unfold climbP
  rw [if_neg (by rw [hpl]; simp), hp, if_neg (by rw [pathP_len]; simp [pathN])]
  simp only [Int.toNat_natCast]
  rw [clM_row ls i hi _ _ (Nat.le_refl _), root_row ls (by omega) _ (Nat.le_refl _)]
  have h1 := rowI_lt hi (rows ls.length)
  have h2 := rowN_end ls.length
  rw [show rowI i (rows ls.length) = 0 by omega]
theorem prove_len (ls : List (List UInt8)) (i : Int) (hn : ls.length ≤ 65536) : (proveP ls i).1.length ≤ 16 := by
  unfold proveP
  split
  · simp
  · simp only [pathP_len]
    have := used_le ls.length i.toNat (rows ls.length)
    have := rows_16 hn
    omega
theorem nextM_app {a b : List (List UInt8)} (h : a.length % 2 = 0) : nextM (a ++ b) = nextM a ++ nextM b := by
  refine List.ext_getElem (by simp only [nextM_len, List.length_append]; omega) fun i h1 h2 => ?_
  have e : ∀ (l : List (List UInt8)) (j : Nat) (hj : j < (nextM l).length), (nextM l)[j] = joinM ((l.drop (2 * j)).take 2) := fun l j hj => by
    have := nextM_get (l := l) (j := j) (by rw [nextM_len] at hj; exact hj)
    rw [List.getD_eq_getElem?_getD, List.getElem?_eq_getElem hj] at this
    exact this
  rw [e, List.getElem_append]
  split
  · rename_i hi
    rw [e]
    rw [nextM_len] at hi
    rw [List.drop_append_of_le_length (by omega), List.take_append_of_le_length (by simp; omega)]
  · rename_i hi
    rw [e]
    rw [nextM_len] at hi
    rw [List.drop_append, List.drop_eq_nil_of_le (by omega), List.nil_append]
    congr 3
    rw [nextM_len]
    omega
theorem rowN_pow (d : Nat) : ∀ r, rowN (2 ^ (r + d)) r = 2 ^ d := by
  intro r
  induction r generalizing d with
  | zero => simp [rowN]
  | succ r ih =>
    rw [rowN, show r + 1 + d = r + (d + 1) by omega, ih (d + 1), Nat.pow_succ]
    omega
theorem rowL_app (j : Nat) (a b : List (List UInt8)) (ha : a.length = 2 ^ j) : ∀ r, r ≤ j → rowL (a ++ b) r = rowL a r ++ rowL b r := by
  intro r
  induction r with
  | zero => intro _; rfl
  | succ r ih =>
    intro hr
    show nextM (rowL (a ++ b) r) = nextM (rowL a r) ++ nextM (rowL b r)
    rw [ih (by omega), nextM_app]
    rw [rowL_len, ha, show 2 ^ j = 2 ^ (r + (j - r)) by rw [show r + (j - r) = j by omega], rowN_pow, show j - r = (j - r - 1) + 1 by omega, Nat.pow_succ]
    omega
/-- The root of two leaves or more: the node of the roots of the two parts, cut at the greatest power of two below their number. -/
theorem root_split (ls : List (List UInt8)) (j : Nat) (h1 : 2 ^ j < ls.length) (h2 : ls.length ≤ 2 * 2 ^ j) : rootM ls = sha (nodeM (rootM (ls.take (2 ^ j))) (rootM (ls.drop (2 ^ j)))) := by
  have hj := Nat.two_pow_pos j
  have la : (ls.take (2 ^ j)).length = 2 ^ j := by rw [List.length_take]; omega
  have lb : (ls.drop (2 ^ j)).length = ls.length - 2 ^ j := List.length_drop
  rw [root_row ls (by omega) (j + 1) (rows_le _ _ (by rw [Nat.pow_succ]; omega)), root_row (ls.take (2 ^ j)) (by omega) j (rows_le _ _ (by omega)), root_row (ls.drop (2 ^ j)) (by omega) j (rows_le _ _ (by omega))]
  have hF : firstM ls = firstM (ls.take (2 ^ j)) ++ firstM (ls.drop (2 ^ j)) := by
    unfold firstM
    rw [← List.map_append, List.take_append_drop]
  have hA : (rowL (firstM (ls.take (2 ^ j))) j).length = 1 := by
    have := rowN_pow 0 j
    rw [rowL_len, firstM_len, la]
    simpa using this
  have hB : (rowL (firstM (ls.drop (2 ^ j))) j).length = 1 := by
    have hq := rowN_pos (n := ls.length - 2 ^ j) (by omega) j
    have hst := rowL_stay (F := firstM (ls.drop (2 ^ j))) (k := rows (ls.length - 2 ^ j)) (by rw [rowL_len, firstM_len, lb]; exact rowN_end _) (j - rows (ls.length - 2 ^ j))
    have hle : rows (ls.length - 2 ^ j) ≤ j := rows_le _ _ (by omega)
    rw [show rows (ls.length - 2 ^ j) + (j - rows (ls.length - 2 ^ j)) = j by omega] at hst
    have he := rowN_end (ls.length - 2 ^ j)
    have hl := congrArg List.length hst
    rw [rowL_len, rowL_len, firstM_len, lb] at hl
    rw [rowL_len, firstM_len, lb]
    omega
  show (nextM (rowL (firstM ls) j)).getD 0 [] = _
  rw [hF, rowL_app j _ _ (by rw [firstM_len, la]) j (Nat.le_refl _)]
  obtain ⟨x, hx⟩ := List.length_eq_one_iff.1 hA
  obtain ⟨y, hy⟩ := List.length_eq_one_iff.1 hB
  rw [hx, hy, show [x] ++ [y] = [x, y] from rfl, nextM_pair]
  rfl
end Go.Proofs.YtgddfdejkmnfkaaDoor
