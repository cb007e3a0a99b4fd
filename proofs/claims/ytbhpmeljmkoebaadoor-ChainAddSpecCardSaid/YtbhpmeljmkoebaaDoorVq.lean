/- Plainly: the text of a link says the link; chains with one head. -/
import Derived.Test.YtbhpmeljmkoebaaDoorVl
import Derived.Test.YtbhpmeljmkoebaaDoorVj
namespace Go.Proofs.YtbhpmeljmkoebaaDoor
open Go.RowKit

theorem digs_split : ∀ (u u' : Nat) (r r' : List UInt8), K.digs u ++ r = K.digs u' ++ r' → u = u' ∧ r = r' := by
  intro u
  induction u using Nat.strongRecOn with
  | ind u ih =>
    intro u' r r' h
    rw [K.digs, K.digs.eq_def u'] at h
    by_cases h1 : u < 128
    · by_cases h2 : u' < 128
      · rw [dif_pos h1, dif_pos h2] at h
        simp only [List.cons_append, List.nil_append, List.cons.injEq] at h
        refine ⟨?_, h.2⟩
        have := congrArg UInt8.toNat h.1
        simp only [UInt8.toNat_ofNat'] at this
        omega
      · rw [dif_pos h1, dif_neg h2] at h
        simp only [List.cons_append, List.nil_append, List.cons.injEq] at h
        have := congrArg UInt8.toNat h.1
        simp only [UInt8.toNat_ofNat'] at this
        omega
    · by_cases h2 : u' < 128
      · rw [dif_neg h1, dif_pos h2] at h
        simp only [List.cons_append, List.nil_append, List.cons.injEq] at h
        have := congrArg UInt8.toNat h.1
        simp only [UInt8.toNat_ofNat'] at this
        omega
      · rw [dif_neg h1, dif_neg h2] at h
        simp only [List.cons_append, List.cons.injEq] at h
        obtain ⟨ha, hb⟩ := h
        obtain ⟨h3, h4⟩ := ih (u / 128) (by omega) (u' / 128) r r' hb
        have := congrArg UInt8.toNat ha
        simp only [UInt8.toNat_ofNat'] at this
        exact ⟨by omega, h4⟩
theorem uns_inj {n m : Int} (h : (K.uns n).toNat = (K.uns m).toNat) : n = m := by
  unfold K.uns at h
  split at h <;> split at h <;> omega
theorem txt_eq (x : Lk) : txtL x = 3 :: (K.digs 4 ++ (1 :: (K.digs (K.uns x.node).toNat ++ (1 :: (K.digs (K.uns x.no).toNat ++ (2 :: (K.digs x.prev.length ++ (x.prev ++ (2 :: (K.digs x.data.length ++ x.data)))))))))) := by
  have h1 : (⟨x.prev.toArray⟩ : ByteArray).size = x.prev.length := by show x.prev.toArray.size = _; simp
  have h2 : (⟨x.data.toArray⟩ : ByteArray).size = x.data.length := by show x.data.toArray.size = _; simp
  unfold txtL gvL
  simp only [K.enc, K.encAll, h1, h2, List.length_cons, List.length_nil]
  simp
/-- Links with one text are equal. -/
theorem txt_inj {x y : Lk} (h : txtL x = txtL y) : x = y := by
  rw [txt_eq, txt_eq] at h
  simp only [List.cons.injEq, true_and] at h
  obtain ⟨-, h⟩ := digs_split _ _ _ _ h
  simp only [List.cons.injEq, true_and] at h
  obtain ⟨n1, h⟩ := digs_split _ _ _ _ h
  simp only [List.cons.injEq, true_and] at h
  obtain ⟨n2, h⟩ := digs_split _ _ _ _ h
  simp only [List.cons.injEq, true_and] at h
  obtain ⟨l1, h⟩ := digs_split _ _ _ _ h
  obtain ⟨p, h⟩ := List.append_inj h l1
  simp only [List.cons.injEq, true_and] at h
  obtain ⟨-, d⟩ := digs_split _ _ _ _ h
  have e1 := uns_inj n1
  have e2 := uns_inj n2
  cases x; cases y
  simp only at e1 e2 p d
  rw [e1, e2, p, d]

/-- Two texts with one digest are shown by the last links of two lists. -/
def clashP (x y : Lk) : Bool := !(txtL x == txtL y) && headX x == headX y
theorem headP_take {l : List Lk} {k : Nat} (h : k < l.length) : headP (l.take (k + 1)) = headX l[k] := by
  rw [List.take_succ_eq_append_getElem h, headP_snoc]
theorem clash_no {x y : Lk} (h : clashP x y = false) (hh : headX x = headX y) : x = y := by
  unfold clashP at h
  rw [hh, beq_self_eq_true, Bool.and_true] at h
  exact txt_inj (by simpa using h)
theorem follows_prev {l : List Lk} {d : List UInt8} {x : Lk} (h : followsP l d x = true) : x.prev = d := by
  unfold followsP at h
  simp only [Bool.and_eq_true, beq_iff_eq] at h
  exact h.2.2.2.1
/-- Chains with one head, of which no links clash, are equal. -/
theorem equal_take {la lb : List Lk} (ha : chkP la = 0) (hb : chkP lb = 0) : ∀ k, k ≤ la.length → k ≤ lb.length → headP (la.take k) = headP (lb.take k) → (∀ i (h1 : i < la.length) (h2 : i < lb.length), i < k → clashP la[i] lb[i] = false) → la.take k = lb.take k := by
  intro k
  induction k with
  | zero => intros; simp
  | succ k ih =>
    intro h1 h2 hh hc
    have e : la[k] = lb[k] := by
      rw [headP_take (by omega), headP_take (by omega)] at hh
      exact clash_no (hc k (by omega) (by omega) (by omega)) hh
    have pa := chain_ok ha k (by omega)
    have pb := chain_ok hb k (by omega)
    rw [okAt_eq (by omega)] at pa pb
    have := ih (by omega) (by omega) (by rw [← follows_prev pa, ← follows_prev pb, e]) (fun i x y hi => hc i x y (by omega))
    rw [List.take_succ_eq_append_getElem (by omega), List.take_succ_eq_append_getElem (by omega), this, e]
end Go.Proofs.YtbhpmeljmkoebaaDoor
