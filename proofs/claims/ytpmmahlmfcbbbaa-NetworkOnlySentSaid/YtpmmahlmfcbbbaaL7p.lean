/- Cutting, plainly: what NetworkCuts asks. -/
import Derived.Test.YtpmmahlmfcbbbaaNh
namespace Go.Proofs.Ytpmmahlmfcbbbaa
open Go.RowKit

theorem cutL_cut (l : List (Int × Int)) (k : Int × Int) (on on' : Bool) : cutL (cutL l k on) k on' = cutL l k on' :=
  eq_of_lt _ _ (cutL_pair _ _ _) (cutL_pair _ _ _) fun x => by
    rw [cutL_mem (cutL l k on), cutL_mem l k on']
    by_cases h : x = k
    · simp [h]
    · simp only [h, if_false, cutL_mem]
      exact ⟨fun h2 => ⟨h2.1, h2.2.2⟩, fun h2 => ⟨h2.1, h2.1, h2.2⟩⟩
theorem filt_len (f : Int × Int → Bool) (k : Int × Int) : ∀ ls : List (Int × Int), ls.Pairwise LtP → k ∈ ls → (ls.filter fun x => if x = k then true else f x).length = (ls.filter fun x => if x = k then false else f x).length + 1
  | [], _, h => absurd h (by simp)
  | y :: r, hp, hk => by
    rw [List.pairwise_cons] at hp
    by_cases h : y = k
    · subst h
      have hc : (r.filter fun x => if x = y then true else f x) = r.filter fun x => if x = y then false else f x := List.filter_congr fun x hx => by
        have : x ≠ y := fun e => by subst e; exact LtP.irrefl _ (hp.1 _ hx)
        simp [this]
      rw [List.filter_cons, List.filter_cons, hc]
      simp
    · have hk' : k ∈ r := by rcases List.mem_cons.1 hk with h2 | h2; exact absurd h2.symm h; exact h2
      have ih := filt_len f k r hp.2 hk'
      rw [List.filter_cons, List.filter_cons]
      simp only [h, if_false]
      split
      · simp only [List.length_cons, ih]
      · exact ih
theorem cutL_one {l : List (Int × Int)} {k : Int × Int} (hk : okP k = true) : (cutL l k true).length = (cutL l k false).length + 1 := filt_len (fun x => l.contains x) k links links_pair ((links_mem k).2 hk)
theorem link_swap (a b : Int) : linkP b a = linkP a b := by unfold linkP; rw [Int.min_comm, Int.max_comm]
theorem areP_swap {a b : Int} (h : areP a b = true) : areP b a = true := by
  have h := areP_iff.1 h
  exact areP_iff.2 ⟨h.2.1, h.1, fun e => h.2.2 e.symm⟩
theorem cut_valid {n : Nt} (h : ntB n = true) (k : Int × Int) (on : Bool) : ntB ⟨n.q, cutL n.ap k on⟩ = true := by
  obtain ⟨h1, -, h3⟩ := ntB_iff.1 h
  exact ntB_iff.2 ⟨h1, cutL_apB _ _ _, h3⟩
theorem link_eq {p q a b : Int} (h : linkP p q = linkP a b) : (p = a ∧ q = b) ∨ (p = b ∧ q = a) := by
  unfold linkP at h
  rw [Prod.mk.injEq, Int.min_def, Int.min_def, Int.max_def, Int.max_def] at h
  split at h <;> split at h <;> omega
theorem cuts_plain {n : Nt} (h : ntB n = true) {a b : Int} (hab : areP a b = true) {j : Nat} (hj : j < n.q.length) :
    ∃ p z, delivN ⟨n.q, cutL n.ap (linkP a b) true⟩ j = p ∧ delivN ⟨n.q, cutL n.ap (linkP a b) false⟩ j = z ∧
      ((p = zeroPk ∧ ((z.frm = a ∧ z.to = b) ∨ (z.frm = b ∧ z.to = a))) ∨ (p = z ∧ ¬(z.frm = a ∧ z.to = b) ∧ ¬(z.frm = b ∧ z.to = a))) := by
  have hne := (areP_iff.1 hab).2.2
  have hpk : pkB n.q[j] = true := List.all_eq_true.1 (ntB_iff.1 h).2.2 _ (List.getElem_mem hj)
  have har := (pkB_iff.1 hpk).1
  have hok := okP_link har
  have hz : ¬(zeroPk.frm = a ∧ zeroPk.to = b) ∧ ¬(zeroPk.frm = b ∧ zeroPk.to = a) := ⟨fun ⟨h1, h2⟩ => hne (h1.symm.trans h2), fun ⟨h1, h2⟩ => hne (h2.symm.trans h1)⟩
  have d1 := delivN_ok (findN_at (cut_valid h (linkP a b) true) hj) hj
  have d2 := delivN_ok (findN_at (cut_valid h (linkP a b) false) hj) hj
  unfold cutB at d1 d2
  simp only at d1 d2
  by_cases hl : linkP n.q[j].frm n.q[j].to = linkP a b
  · rw [if_pos (List.contains_iff_mem.2 ((cutL_mem _ _ _ _).2 ⟨hok, by rw [if_pos hl]⟩))] at d1
    rw [if_neg (fun e => by
      have := ((cutL_mem _ _ _ _).1 (List.contains_iff_mem.1 e)).2
      rw [if_pos hl] at this
      cases this)] at d2
    exact ⟨_, _, d1, d2, .inl ⟨rfl, link_eq hl⟩⟩
  · by_cases hm : linkP n.q[j].frm n.q[j].to ∈ n.ap
    · rw [if_pos (List.contains_iff_mem.2 ((cutL_mem _ _ _ _).2 ⟨hok, by rw [if_neg hl]; exact hm⟩))] at d1 d2
      exact ⟨_, _, d1, d2, .inr ⟨rfl, hz⟩⟩
    · have no : ∀ on, ¬ (cutL n.ap (linkP a b) on).contains (linkP n.q[j].frm n.q[j].to) = true := fun on e => by
        have := ((cutL_mem _ _ _ _).1 (List.contains_iff_mem.1 e)).2
        rw [if_neg hl] at this
        exact hm this
      rw [if_neg (no _)] at d1 d2
      refine ⟨_, _, d1, d2, .inr ⟨rfl, fun ⟨h1, h2⟩ => hl ?_, fun ⟨h1, h2⟩ => hl ?_⟩⟩
      · rw [h1, h2]
      · rw [h1, h2, link_swap]
end Go.Proofs.Ytpmmahlmfcbbbaa
