/- What happens to a net, plainly: the plain part of NetworkOnlySent. -/
import Derived.Test.YtpmmahlmfcbbbaaL7p
namespace Go.Proofs.Ytpmmahlmfcbbbaa
open Go.RowKit

structure Mv where
  kind : Nat
  at_ : Nat
  a : Nat
  b : Nat
  data : UInt8
/-- Where a thing happens in the queue. -/
def mvAt (n : Nt) (m : Mv) : Nat := if 0 < n.q.length then m.at_ % n.q.length else 0
def mvP (m : Mv) : Pk := ⟨(m.a % 24 : Nat), (m.b % 24 : Nat), [m.data]⟩
def hapX (n : Nt) (m : Mv) : Nt × Int :=
  if m.kind % 6 = 0 then sendN n (mvP m)
  else if m.kind % 6 = 1 ∨ m.kind % 6 = 2 then loseN n (mvAt n m)
  else if m.kind % 6 = 3 then repN n (mvAt n m)
  else cutN n (m.a % 24 : Nat) (m.b % 24 : Nat) (decide (m.kind % 6 = 4))
def hapP (n : Nt) (m : Mv) : Pk := if m.kind % 6 = 1 then delivN n (mvAt n m) else zeroPk
/-- What stays: the net is valid, what is in its queue was sent, and where a link is cut, a cut happened. -/
structure NI (n : Nt) (sent : List Pk) (cuts : Nat) : Prop where
  ok : ntB n = true
  sent : ∀ p ∈ n.q, p ∈ sent
  cut : n.ap = [] ∨ 0 < cuts
theorem NI.zero : NI zeroNt [] 0 := ⟨by decide, fun p hp => absurd hp (by simp [zeroNt]), .inl rfl⟩
theorem lose_valid {n : Nt} (h : ntB n = true) (k : Nat) : ntB ⟨n.q.take k ++ n.q.drop (k + 1), n.ap⟩ = true := by
  obtain ⟨h1, h2, h3⟩ := ntB_iff.1 h
  refine ntB_iff.2 ⟨?_, h2, ?_⟩
  · simp only [List.length_append, List.length_take, List.length_drop]; omega
  · rw [List.all_eq_true] at h3 ⊢
    intro p hp
    rcases List.mem_append.1 hp with hp | hp
    · exact h3 p (List.mem_of_mem_take hp)
    · exact h3 p (List.mem_of_mem_drop hp)
theorem send_valid {n : Nt} {p : Pk} (h : ntB n = true) (hp : pkB p = true) (hl : n.q.length ≠ 4096) : ntB ⟨n.q ++ [p], n.ap⟩ = true := by
  obtain ⟨h1, h2, h3⟩ := ntB_iff.1 h
  refine ntB_iff.2 ⟨?_, h2, ?_⟩
  · simp only [List.length_append, List.length_cons, List.length_nil]; omega
  · simp only at h1 h3 ⊢
    rw [List.all_append, h3]
    simp [hp]
theorem hap_fail {n : Nt} {m : Mv} (he : (hapX n m).2 ≠ 0) : (hapX n m).1 = zeroNt := by
  unfold hapX at he ⊢
  split at he
  · unfold sendN at he ⊢
    split at he
    · rename_i h; rw [if_pos ‹_›]; simp only [h, if_true]
    · rename_i h1 h
      rw [if_pos h1, if_neg h]
      split at he
      · rename_i h2; rw [if_pos h2]
      · exact absurd rfl he
  · rename_i h0
    rw [if_neg h0]
    split at he
    · rename_i h1
      rw [if_pos h1]
      unfold loseN at he ⊢
      split at he
      · rename_i h; rw [if_pos h]
      · exact absurd rfl he
    · rename_i h1
      rw [if_neg h1]
      split at he
      · rename_i h2
        rw [if_pos h2]
        unfold repN at he ⊢
        split at he
        · rename_i h; rw [if_pos h]
        · rename_i h
          rw [if_neg h]
          split at he
          · rename_i h3; rw [if_pos h3]
          · exact absurd rfl he
      · rename_i h2
        rw [if_neg h2]
        unfold cutN at he ⊢
        split at he
        · rename_i h; rw [if_pos h]
        · rename_i h
          rw [if_neg h]
          split at he
          · rename_i h3; rw [if_pos h3]
          · exact absurd rfl he
theorem send_got {n : Nt} {p : Pk} (he : (sendN n p).2 = 0) : sendN n p = (⟨n.q ++ [p], n.ap⟩, 0) ∧ pkB p = true ∧ n.q.length ≠ 4096 := by
  unfold sendN at he ⊢
  split at he
  · exact absurd he (by decide)
  · rename_i h
    split at he
    · exact absurd he (by decide)
    · rename_i h2
      rw [if_neg h, if_neg h2]
      simp only [Bool.not_eq_false, Bool.and_eq_true] at h
      exact ⟨rfl, h.2, h2⟩
theorem hap_send {n : Nt} {sent : List Pk} {cuts : Nat} (h : NI n sent cuts) {m : Mv} (hk : m.kind % 6 = 0) (he : (hapX n m).2 = 0) : (hapX n m).1 = ⟨n.q ++ [mvP m], n.ap⟩ ∧ NI (hapX n m).1 (sent ++ [mvP m]) cuts := by
  unfold hapX at he ⊢
  rw [if_pos hk] at he ⊢
  obtain ⟨e, hp, hl⟩ := send_got he
  rw [e]
  refine ⟨rfl, send_valid h.ok hp hl, fun p hp => ?_, h.cut⟩
  rcases List.mem_append.1 hp with hp | hp
  · exact List.mem_append_left _ (h.sent p hp)
  · exact List.mem_append_right _ hp
theorem lose_got {n : Nt} {k : Nat} (he : (loseN n k).2 = 0) : loseN n k = (⟨n.q.take k ++ n.q.drop (k + 1), n.ap⟩, 0) ∧ findN n k = 0 ∧ k < n.q.length := by
  rcases findN_cases n k with ⟨h1, -, j, e, hj⟩ | ⟨h1, -⟩
  · obtain rfl : k = j := by omega
    exact ⟨loseN_ok h1, h1, hj⟩
  · rw [loseN_bad h1] at he
    exact absurd he h1
theorem NI.lose {n : Nt} {sent : List Pk} {cuts : Nat} (h : NI n sent cuts) (k : Nat) : NI ⟨n.q.take k ++ n.q.drop (k + 1), n.ap⟩ sent cuts :=
  ⟨lose_valid h.ok k, fun p hp => by
    rcases List.mem_append.1 hp with hp | hp
    · exact h.sent p (List.mem_of_mem_take hp)
    · exact h.sent p (List.mem_of_mem_drop hp), h.cut⟩
theorem hap_deliv {n : Nt} {sent : List Pk} {cuts : Nat} (h : NI n sent cuts) {m : Mv} (hk : m.kind % 6 = 1) (he : (hapX n m).2 = 0) : ((hapP n m = zeroPk ∧ 0 < cuts) ∨ hapP n m ∈ sent) ∧ NI (hapX n m).1 sent cuts := by
  unfold hapX at he ⊢
  rw [if_neg (by omega), if_pos (.inl hk)] at he ⊢
  obtain ⟨e, hf, hl⟩ := lose_got he
  rw [e]
  refine ⟨?_, h.lose _⟩
  unfold hapP
  rw [if_pos hk, delivN_ok hf hl]
  split
  · rename_i hc
    rcases h.cut with h2 | h2
    · unfold cutB at hc
      rw [h2] at hc
      exact absurd hc (by simp)
    · exact .inl ⟨rfl, h2⟩
  · exact .inr (h.sent _ (List.getElem_mem hl))
theorem hap_lose {n : Nt} {sent : List Pk} {cuts : Nat} (h : NI n sent cuts) {m : Mv} (hk : m.kind % 6 = 2) (he : (hapX n m).2 = 0) : NI (hapX n m).1 sent cuts := by
  unfold hapX at he ⊢
  rw [if_neg (by omega), if_pos (.inr hk)] at he ⊢
  obtain ⟨e, -, -⟩ := lose_got he
  rw [e]
  exact h.lose _
theorem hap_rep {n : Nt} {sent : List Pk} {cuts : Nat} (h : NI n sent cuts) {m : Mv} (hk : m.kind % 6 = 3) (he : (hapX n m).2 = 0) : NI (hapX n m).1 sent cuts := by
  unfold hapX at he ⊢
  rw [if_neg (by omega), if_neg (by omega), if_pos hk] at he ⊢
  unfold repN at he ⊢
  split at he
  · rename_i h1; exact absurd he h1
  · rename_i h1
    split at he
    · exact absurd he (by decide)
    · rename_i h2
      rw [if_neg h1, if_neg h2]
      rcases findN_cases n (mvAt n m) with ⟨-, -, j, ej, hj⟩ | ⟨h3, -⟩
      · have ea : atN n (mvAt n m) = n.q[j] := by
          unfold atN
          rw [ej, List.getD_eq_getElem?_getD]
          simp [hj]
        have hm := List.getElem_mem hj
        rw [ea]
        exact ⟨send_valid h.ok (List.all_eq_true.1 (ntB_iff.1 h.ok).2.2 _ hm) h2, fun p hp => by
          rcases List.mem_append.1 hp with hp | hp
          · exact h.sent p hp
          · rw [List.mem_singleton.1 hp]
            exact h.sent _ hm, h.cut⟩
      · exact absurd h3 h1
theorem cut_got {n : Nt} {x y : Int} {on : Bool} (he : (cutN n x y on).2 = 0) : cutN n x y on = (⟨n.q, cutL n.ap (linkP x y) on⟩, 0) := by
  unfold cutN at he ⊢
  split at he
  · exact absurd he (by decide)
  · rename_i h1
    split at he
    · exact absurd he (by decide)
    · rename_i h2
      rw [if_neg h1, if_neg h2]
theorem hap_cut {n : Nt} {sent : List Pk} {cuts : Nat} (h : NI n sent cuts) {m : Mv} (hk : m.kind % 6 = 4) (he : (hapX n m).2 = 0) : NI (hapX n m).1 sent (cuts + 1) := by
  unfold hapX at he ⊢
  rw [if_neg (by omega), if_neg (by omega), if_neg (by omega)] at he ⊢
  rw [cut_got he]
  exact ⟨cut_valid h.ok _ _, h.sent, .inr (by omega)⟩
theorem hap_heal {n : Nt} {sent : List Pk} {cuts : Nat} (h : NI n sent cuts) {m : Mv} (hk : m.kind % 6 = 5) (he : (hapX n m).2 = 0) : NI (hapX n m).1 sent cuts := by
  unfold hapX at he ⊢
  rw [if_neg (by omega), if_neg (by omega), if_neg (by omega)] at he ⊢
  rw [cut_got he, decide_eq_false (by omega)]
  refine ⟨cut_valid h.ok _ _, h.sent, ?_⟩
  rcases h.cut with h2 | h2
  · refine .inl (List.eq_nil_iff_forall_not_mem.2 fun x hx => ?_)
    have := ((cutL_mem _ _ _ _).1 hx).2
    rw [h2] at this
    split at this
    · exact absurd this (by decide)
    · exact absurd this (by simp)
  · exact .inr h2
end Go.Proofs.Ytpmmahlmfcbbbaa
