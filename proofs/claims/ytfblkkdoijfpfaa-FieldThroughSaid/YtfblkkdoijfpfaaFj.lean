/- What the contracts of At and Value mean: the polynomial through points. -/
import Derived.Test.YtfblkkdoijfpfaaFi
namespace Go.Proofs.Ytfblkkdoijfpfaa
open Go.RowKit

theorem subF_cg (a b : Int) : Cg (subF a b) (a - b) := md_cg _
theorem pr_snoc (t : Int) (i : Nat) (x : Int) : ∀ (l : List Int) (j : Nat), pr t i j (l ++ [x]) = pr t i j l * (if j + l.length = i then 1 else t - x) := by
  intro l
  induction l with
  | nil => intro j; simp [pr]
  | cons y r ih =>
    intro j
    simp only [List.cons_append, pr, ih, List.length_cons]
    rw [show j + 1 + r.length = j + (r.length + 1) by omega]
    grind
theorem abF_pr (l : List (Int × Int)) (i : Nat) (t : Int) : ∀ m, m ≤ l.length → Cg (abF l i t (cnt i m)) (pr t i 0 ((l.map Prod.fst).take m)) := by
  intro m
  induction m with
  | zero => intro _; exact .of_eq (by simp [cnt, abF, pr])
  | succ m ih =>
    intro hm
    have h := ih (by omega)
    have hml : m < (l.map Prod.fst).length := by rw [List.length_map]; omega
    rw [List.take_succ_eq_append_getElem hml, pr_snoc, List.length_take, show min m (l.map Prod.fst).length = m by omega, Nat.zero_add]
    rcases Nat.decEq m i with hne | rfl
    · rw [if_neg hne, cnt_next hne]
      simp only [abF, oth_cnt hne]
      refine (mulF_cg _ _).trans (h.mul ((subF_cg _ _).trans (.of_eq ?_)))
      rw [List.getElem_map, show (l.getD m (0, 0)) = l[m] by simp [List.getD, show m < l.length by omega]]
    · rw [if_pos rfl, cnt_skip]
      exact h.trans (.of_eq (by omega))
theorem abF_all (l : List (Int × Int)) (i : Nat) (t : Int) (hi : i < l.length) : Cg (abF l i t (l.length - 1)) (pr t i 0 (l.map Prod.fst)) := by
  have h := abF_pr l i t l.length (Nat.le_refl _)
  rwa [cnt_all hi, List.take_of_length_le (by simp)] at h
theorem invF_cg {a b : Int} (h : Cg a b) : invF a = invF b := by rw [invF_eq, invF_eq, pwF_eq, pwF_eq]; exact md_eq (h.pow _)
theorem Cg.zero_iff {a b : Int} (h : Cg a b) : Cg a 0 ↔ Cg b 0 := ⟨fun h' => h.symm.trans h', fun h' => h.trans h'⟩
theorem invV_ne {a : Int} (h : ¬ Cg a 0) : invV a = invF a := by unfold invV; rw [if_neg (fun e => h (md_zero.1 e))]
theorem term_cg (l : List (Int × Int)) (t : Int) (j : Nat) (hj : j < l.length) (hd : Diff (l.map Prod.fst)) :
    Cg (termF l t j) (l[j].2 * (pr t j 0 (l.map Prod.fst) * invF (pr l[j].1 j 0 (l.map Prod.fst)))) := by
  have hg : l.getD j (0, 0) = l[j] := by simp [List.getD, hj]
  have h1 := abF_all l j t hj
  have h2 := abF_all l j l[j].1 hj
  have h3 : ¬ Cg (pr l[j].1 j 0 (l.map Prod.fst)) 0 := pr_ne _ j _ 0 fun m hm hne => by
    have := hd.ne j m (by simpa using hj) hm (by omega)
    simpa using this
  unfold termF wtF
  rw [hg, invV_ne (fun e => h3 (h2.zero_iff.1 e)), invF_cg h2]
  exact (mulF_cg _ _).trans ((Cg.refl _).mul ((mulF_cg _ _).trans (h1.mul (Cg.refl _))))
theorem tms_snoc (all : List Int) (t : Int) (p : Int × Int) : ∀ (l : List (Int × Int)) (j : Nat), tms all t j (l ++ [p]) = tms all t j l + p.2 * (pr t (j + l.length) 0 all * invF (pr p.1 (j + l.length) 0 all)) := by
  intro l
  induction l with
  | nil => intro j; simp [tms]
  | cons y r ih =>
    intro j
    simp only [List.cons_append, tms, ih, List.length_cons]
    rw [show j + 1 + r.length = j + (r.length + 1) by omega]
    omega
theorem sum_tms (l : List (Int × Int)) (t : Int) (hd : Diff (l.map Prod.fst)) : ∀ m, m ≤ l.length → Cg (sumI ((List.range m).map (termF l t))) (tms (l.map Prod.fst) t 0 (l.take m)) := by
  intro m
  induction m with
  | zero => intro _; exact .of_eq (by simp [sumI, tms])
  | succ m ih =>
    intro hm
    rw [List.range_succ, List.map_append, sumI_app, List.take_succ_eq_append_getElem (show m < l.length by omega), tms_snoc, List.length_take, show min m l.length = m by omega, Nat.zero_add]
    exact (ih (by omega)).add ((Cg.of_eq (by simp [sumI])).trans (term_cg l t m (by omega) hd))
/-- At computes the polynomial through the points. -/
theorem atF_thr (l : List (Int × Int)) (t : Int) (hd : Diff (l.map Prod.fst)) : Cg (atF l t) (thr l t) := by
  have h := sum_tms l t hd l.length (Nat.le_refl _)
  rw [List.take_of_length_le (Nat.le_refl _)] at h
  exact (md_cg _).trans h

theorem Diff.of_pairs : ∀ {l : List Int}, (∀ i j (hi : i < l.length) (hj : j < l.length), i < j → ¬ Cg l[j] l[i]) → Diff l := by
  intro l
  induction l with
  | nil => intro _; trivial
  | cons x r ih =>
    intro h
    refine ⟨fun y hy => ?_, ih fun i j hi hj hij => ?_⟩
    · obtain ⟨k, hk, rfl⟩ := List.mem_iff_getElem.1 hy
      have := h 0 (k + 1) (by simp) (by simpa using hk) (by omega)
      simpa using this
    · have := h (i + 1) (j + 1) (by simpa using hi) (by simpa using hj) (by omega)
      simpa using this
theorem newAt_iff {xs : List Int} {k : Nat} (hk : k < xs.length) : newAt xs k = true ↔ ∀ i (hi : i < xs.length), i < k → ¬ Cg xs[k] xs[i] := by
  unfold newAt
  rw [show xs.getD k 0 = xs[k] by simp [List.getD, hk]]
  rw [Bool.not_eq_true', ← Bool.not_eq_true, List.contains_iff_mem, List.mem_map]
  constructor
  · rintro h i hi hik hc
    refine h ⟨xs[i], ?_, (md_eq hc).symm⟩
    rw [List.mem_take_iff_getElem]
    exact ⟨i, by omega, rfl⟩
  · rintro h ⟨y, hy, he⟩
    rw [List.mem_take_iff_getElem] at hy
    obtain ⟨i, hi, rfl⟩ := hy
    exact h i (by omega) (by omega) (cg_of_md he.symm)
theorem diffB_iff (xs : List Int) : diffB xs = true ↔ Diff xs := by
  unfold diffB
  rw [List.all_eq_true]
  constructor
  · intro h
    exact Diff.of_pairs fun i j hi hj hij => (newAt_iff hj).1 (h j (List.mem_range.2 hj)) i hi hij
  · intro h k hk
    have hk := List.mem_range.1 hk
    exact (newAt_iff hk).2 fun i hi hik => h.ne k i hk hi (by omega)
theorem vl_PF (c : List Int) : PF c.length (vl c) := ⟨c, Nat.le_refl _, fun _ => Cg.refl _⟩
theorem atV_good {l : List (Int × Int)} (h64 : l.length ≤ 64) (hd : Diff (l.map Prod.fst)) (t : Int) : atE l = 0 ∧ atV l t = atF l t := by
  have he : atE l = 0 := by unfold atE; rw [if_neg (by omega), if_pos ((diffB_iff _).2 hd)]
  exact ⟨he, by unfold atV; rw [if_pos he]⟩
theorem atF_range (l : List (Int × Int)) (t : Int) : md (atF l t) = atF l t := md_md _
theorem atF_eq {l : List (Int × Int)} {t y : Int} (h : Cg (atF l t) y) : atF l t = md y := by rw [← atF_range]; exact md_eq h
theorem at_own (l : List (Int × Int)) (hd : Diff (l.map Prod.fst)) (k : Nat) (hk : k < l.length) : atF l l[k].1 = md l[k].2 := atF_eq ((atF_thr l _ hd).trans (thr_at l hd k hk))
theorem at_unique (l : List (Int × Int)) (hd : Diff (l.map Prod.fst)) (f : Int → Int) (hf : PF l.length f) (hv : ∀ p ∈ l, Cg (f p.1) p.2) (t : Int) : atF l t = md (f t) := atF_eq ((atF_thr l t hd).trans (thr_unique l hd f hf hv t))
theorem at_PF (l : List (Int × Int)) (hd : Diff (l.map Prod.fst)) : PF l.length (atF l) := (thr_PF l).cg fun t => atF_thr l t hd

/-! The examples. -/
def lineL : List (Int × Int) := [(1, 3), (2, 5)]
theorem line_at : atV lineL 0 = 1 ∧ atE lineL = 0 := by
  have hd : Diff (lineL.map Prod.fst) := (diffB_iff _).1 (by decide)
  obtain ⟨h1, h2⟩ := atV_good (l := lineL) (by decide) hd 0
  refine ⟨?_, h1⟩
  rw [h2, at_unique lineL hd (vl [1, 2]) (show PF 2 (vl [1, 2]) from vl_PF [1, 2]) (fun p hp => by
    simp only [lineL, List.mem_cons, List.not_mem_nil, or_false] at hp
    rcases hp with rfl | rfl <;> exact .of_eq (by decide)) 0]
  decide
theorem nil_at : atV [] 7 = 0 ∧ atE [] = 0 := by decide
def dupL : List (Int × Int) := [(1, 5), (-1073741788, 5)]
theorem dup_at : atV dupL 0 = 0 ∧ atE dupL = 90 := by
  have h : atE dupL = 90 := by decide
  exact ⟨by unfold atV; rw [if_neg (by rw [h]; decide)], h⟩
theorem long_at {l : List (Int × Int)} (h : l.length = 65) (t : Int) : atV l t = 0 ∧ atE l = 2 := by
  have h : atE l = 2 := by unfold atE; rw [if_pos (by omega)]
  exact ⟨by unfold atV; rw [if_neg (by rw [h]; decide)], h⟩
theorem inv_ex : (invV 0 = 0 ∧ invE 0 = 90) ∧ (invV 1073741789 = 0 ∧ invE 1073741789 = 90) ∧ (invV 2 = 536870895 ∧ invE 2 = 0) := by
  refine ⟨⟨by unfold invV; rw [if_pos (by decide)], by decide⟩, ⟨by unfold invV; rw [if_pos (by decide)], by decide⟩, ?_, by decide⟩
  unfold invV
  rw [if_neg (by decide)]
  exact inv_unique 2 536870895 ⟨1, by decide⟩ (by decide) (by decide)
theorem val_ex : vlF [1, 2, 3] 10 = 321 ∧ vlF [] 7 = 0 := by decide
theorem md_ex : md (-1) = 1073741788 ∧ mulF (-1) (-1) = 1 ∧ addF 1073741788 3 = 2 := by decide
end Go.Proofs.Ytfblkkdoijfpfaa
