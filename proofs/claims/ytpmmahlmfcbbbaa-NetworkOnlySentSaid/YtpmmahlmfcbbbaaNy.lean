/- Cut, plainly: the sorted list is the list of the reference. -/
import Derived.Test.YtpmmahlmfcbbbaaNc
namespace Go.Proofs.Ytpmmahlmfcbbbaa
open Go.RowKit

def LtP (x y : Int × Int) : Prop := ltP x y = true
theorem LtP.iff {x y : Int × Int} : LtP x y ↔ x.1 < y.1 ∨ (x.1 = y.1 ∧ x.2 < y.2) := ltP_iff
theorem LtP.irrefl (x : Int × Int) : ¬ LtP x x := by rw [LtP.iff]; omega
theorem LtP.trans {x y z : Int × Int} (h : LtP x y) (k : LtP y z) : LtP x z := by rw [LtP.iff] at *; omega
theorem LtP.total (x y : Int × Int) : LtP x y ∨ x = y ∨ LtP y x := by
  rw [LtP.iff, LtP.iff]
  by_cases h : x = y
  · exact .inr (.inl h)
  · have : ¬ (x.1 = y.1 ∧ x.2 = y.2) := fun e => h (Prod.ext e.1 e.2)
    omega
theorem eq_of_lt : ∀ (l m : List (Int × Int)), l.Pairwise LtP → m.Pairwise LtP → (∀ x, x ∈ l ↔ x ∈ m) → l = m
  | [], [], _, _, _ => rfl
  | [], y :: m, _, _, h => absurd ((h y).2 (by simp)) (by simp)
  | x :: l, [], _, _, h => absurd ((h x).1 (by simp)) (by simp)
  | x :: l, y :: m, hl, hm, h => by
    rw [List.pairwise_cons] at hl hm
    have hxy : x = y := by
      rcases List.mem_cons.1 ((h x).1 (by simp)) with e | e
      · exact e
      · rcases List.mem_cons.1 ((h y).2 (by simp)) with e' | e'
        · exact e'.symm
        · exact absurd ((hl.1 y e').trans (hm.1 x e)) (LtP.irrefl x)
    subst hxy
    congr 1
    refine eq_of_lt l m hl.2 hm.2 fun z => ⟨fun hz => ?_, fun hz => ?_⟩
    · rcases List.mem_cons.1 ((h z).1 (by simp [hz])) with e | e
      · subst e; exact absurd (hl.1 z hz) (LtP.irrefl z)
      · exact e
    · rcases List.mem_cons.1 ((h z).2 (by simp [hz])) with e | e
      · subst e; exact absurd (hm.1 z hz) (LtP.irrefl z)
      · exact e
theorem apB_at {l : List (Int × Int)} (h : apB l = true) (i : Nat) (hi : i < l.length) : okP l[i] = true ∧ (0 < i → LtP (l.getD (i - 1) (0, 0)) l[i]) := by
  have h1 := List.all_eq_true.1 h i (List.mem_range.2 hi)
  rw [apAt_eq l i hi, Bool.and_eq_true, Bool.or_eq_true, decide_eq_true_eq] at h1
  exact ⟨h1.1, fun h0 => h1.2.resolve_left (by omega)⟩
theorem apB_lt {l : List (Int × Int)} (h : apB l = true) : ∀ (j i : Nat) (hj : j < l.length) (hij : i < j), LtP (l[i]'(by omega)) l[j] := by
  intro j
  induction j with
  | zero => intro i _ h; omega
  | succ j ih =>
    intro i hj hij
    have h1 := (apB_at h (j + 1) hj).2 (by omega)
    rw [Nat.add_sub_cancel, show l.getD j (0, 0) = l[j]'(by omega) by simp [List.getD, show j < l.length by omega]] at h1
    by_cases e : i = j
    · subst e; exact h1
    · exact (ih i (by omega) (by omega)).trans h1
theorem apB_pair {l : List (Int × Int)} (h : apB l = true) : l.Pairwise LtP := List.pairwise_iff_getElem.2 fun i j hi hj hij => apB_lt h j i hj hij
theorem apB_ok {l : List (Int × Int)} (h : apB l = true) (x : Int × Int) (hx : x ∈ l) : okP x = true := by
  obtain ⟨i, hi, rfl⟩ := List.getElem_of_mem hx
  exact (apB_at h i hi).1
theorem pair_apB {l : List (Int × Int)} (h : l.Pairwise LtP) (h2 : ∀ x ∈ l, okP x = true) : apB l = true := by
  unfold apB
  rw [List.all_eq_true]
  intro i hi
  have hi := List.mem_range.1 hi
  rw [apAt_eq l i hi, h2 _ (List.getElem_mem hi), Bool.true_and, Bool.or_eq_true, decide_eq_true_eq]
  by_cases h0 : i = 0
  · exact .inl h0
  · refine .inr ?_
    rw [show l.getD (i - 1) (0, 0) = l[i - 1]'(by omega) by simp [List.getD, show i - 1 < l.length by omega]]
    exact List.pairwise_iff_getElem.1 h (i - 1) i (by omega) hi (by omega)
theorem links_pair : links.Pairwise LtP := by
  have h : links.Pairwise (fun x y => ltP x y = true) := by decide +kernel
  exact h
theorem links_mem (x : Int × Int) : x ∈ links ↔ okP x = true := by
  rw [okP_iff]
  unfold links
  rw [List.mem_flatMap]
  constructor
  · rintro ⟨a, ha, hx⟩
    rw [List.mem_map] at hx
    obtain ⟨b, hb, rfl⟩ := hx
    rw [List.mem_filter] at hb
    have := List.mem_range.1 ha
    have := List.mem_range.1 hb.1
    have := of_decide_eq_true hb.2
    show (0 ≤ (a : Int) ∧ (a : Int) < 24) ∧ (0 ≤ (b : Int) ∧ (b : Int) < 24) ∧ (a : Int) < b
    omega
  · rintro ⟨h1, h2, h3⟩
    obtain ⟨a, b⟩ := x
    simp only at h1 h2 h3
    refine ⟨a.toNat, List.mem_range.2 (by omega), List.mem_map.2 ⟨b.toNat, List.mem_filter.2 ⟨List.mem_range.2 (by omega), decide_eq_true (by omega)⟩, ?_⟩⟩
    apply Prod.ext
    · show ((a.toNat : Nat) : Int) = a; omega
    · show ((b.toNat : Nat) : Int) = b; omega
theorem cutL_pair (l : List (Int × Int)) (k : Int × Int) (on : Bool) : (cutL l k on).Pairwise LtP := links_pair.filter _
theorem cutL_mem (l : List (Int × Int)) (k : Int × Int) (on : Bool) (x : Int × Int) : x ∈ cutL l k on ↔ okP x = true ∧ (if x = k then on = true else x ∈ l) := by
  unfold cutL
  rw [List.mem_filter, links_mem]
  by_cases h : x = k
  · simp [h]
  · simp [h]
theorem cutL_apB (l : List (Int × Int)) (k : Int × Int) (on : Bool) : apB (cutL l k on) = true := pair_apB (cutL_pair l k on) fun x hx => ((cutL_mem l k on x).1 hx).1
/-- What the program sorts. -/
def cutD (l : List (Int × Int)) (k : Int × Int) (on : Bool) : List (Int × Int) := (if on = true then [k] else []) ++ l.filter (fun x => decide (x ≠ k))
theorem cut_sorted {l : List (Int × Int)} {k : Int × Int} {on : Bool} (hl : apB l = true) (hk : okP k = true) {d : List (Int × Int)} (hp : d.Perm (cutD l k on)) (hs : ∀ i j (hi : i < d.length) (hj : j < d.length), i < j → ¬ LtP d[j] d[i]) : d = cutL l k on := by
  have hn : (cutD l k on).Nodup := by
    unfold cutD
    rw [List.nodup_append]
    refine ⟨by split <;> simp, (apB_pair hl).filter _ |>.imp fun {a b} h e => by subst e; exact LtP.irrefl a h, fun a ha b hb e => ?_⟩
    subst e
    split at ha
    · simp at ha; subst ha; simp at hb
    · simp at ha
  have hdn : d.Nodup := hp.nodup_iff.2 hn
  refine eq_of_lt _ _ (List.pairwise_iff_getElem.2 fun i j hi hj hij => ?_) (cutL_pair l k on) fun x => ?_
  · rcases LtP.total d[i] d[j] with h | h | h
    · exact h
    · exact absurd h (List.pairwise_iff_getElem.1 hdn i j hi hj hij)
    · exact absurd h (hs i j hi hj hij)
  · rw [hp.mem_iff, cutL_mem]
    unfold cutD
    rw [List.mem_append, List.mem_filter]
    by_cases h : x = k
    · subst h
      cases on <;> simp [hk]
    · constructor
      · rintro (h1 | h1)
        · split at h1
          · simp at h1; exact absurd h1 h
          · simp at h1
        · exact ⟨apB_ok hl x h1.1, by rw [if_neg h]; exact h1.1⟩
      · rintro ⟨-, h1⟩
        rw [if_neg h] at h1
        exact .inr ⟨h1, by simpa using h⟩
theorem okP_link {a b : Int} (h : areP a b = true) : okP (linkP a b) = true := by
  rw [areP_iff] at h
  rw [okP_iff]
  unfold linkP
  simp only
  omega
theorem cutL_len (l : List (Int × Int)) (k : Int × Int) (on : Bool) : (cutL l k on).length ≤ 576 := by
  have h1 : (cutL l k on).length ≤ links.length := List.length_filter_le _ _
  have h2 : links.length = 276 := by decide +kernel
  omega
end Go.Proofs.Ytpmmahlmfcbbbaa
