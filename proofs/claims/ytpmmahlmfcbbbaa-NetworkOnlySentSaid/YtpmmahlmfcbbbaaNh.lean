/- Storing a net into a box; what losing and repeating give, plainly. -/
import Derived.Test.YtpmmahlmfcbbbaaN8
namespace Go.Proofs.Ytpmmahlmfcbbbaa
open Go.RowKit

theorem slice_box {w : World} {g : Nat} {a a' : Option Addr} {b c b' c' : Nat} {t : TypeId} (hg : w.heap[g]? = some (.cells #[.slice a b c, .slice a' b' c'] t (0, 0))) {o : Nat} {k : IntKind} {n : Int} (h : w.cell? ⟨g, o, none⟩ = some (.int k n)) : False := by
  rw [cell_of_row w g o _ _ _ hg] at h
  match o, h with
  | 0, h => simp at h
  | 1, h => simp at h
  | o + 2, h => simp at h
theorem RBs.off {w : World} {S : Nat → Prop} {A : Option Addr} {l : List UInt8} {g : Nat} (h : RBs w S A l) (hg : ∀ o k n, w.cell? ⟨g, o, none⟩ = some (.int k n) → False) : RBs w (fun b => S b ∧ b ≠ g) A l := fun hp => by
  obtain ⟨b, off, e, hs, hc⟩ := h hp
  exact ⟨b, off, e, ⟨hs, fun e' => by subst e'; exact hg _ _ _ (hc 0 hp)⟩, hc⟩
theorem QR.off {w : World} {S : Nat → Prop} {A : Option Addr} {ps : List Pk} {g : Nat} (h : QR w S A ps) (hg : ∀ o k n, w.cell? ⟨g, o, none⟩ = some (.int k n) → False) : QR w (fun b => S b ∧ b ≠ g) A ps := fun hp => by
  obtain ⟨b, off, e, hs, hc⟩ := h hp
  refine ⟨b, off, e, ⟨hs, fun e' => ?_⟩, fun i hi => ?_⟩
  · subst e'
    obtain ⟨v, h0, -⟩ := hc 0 hp
    exact hg _ _ _ h0
  · obtain ⟨v, h0, h1, h2, ⟨A1, c1, e1, h3, h4, h5⟩, h6⟩ := hc i hi
    exact ⟨v, h0, h1, h2, ⟨A1, c1, e1, h3, h4, h5.off hg⟩, h6⟩
theorem LR.off {w : World} {S : Nat → Prop} {A : Option Addr} {ls : List (Int × Int)} {g : Nat} (h : LR w S A ls) (hg : ∀ o k n, w.cell? ⟨g, o, none⟩ = some (.int k n) → False) : LR w (fun b => S b ∧ b ≠ g) A ls := fun hp => by
  obtain ⟨b, off, e, hs, hc⟩ := h hp
  exact ⟨b, off, e, ⟨hs, fun e' => by subst e'; exact hg _ _ _ (hc 0 hp).1⟩, hc⟩
theorem NR.off {w : World} {S : Nat → Prop} {A A' : Option Addr} {c c' : Nat} {n : Nt} {g : Nat} (h : NR w S A c A' c' n) (hg : ∀ o k n, w.cell? ⟨g, o, none⟩ = some (.int k n) → False) : NR w (fun b => S b ∧ b ≠ g) A c A' c' n := ⟨h.cap, h.max, h.cap', h.max', h.q.off hg, h.ap.off hg⟩
theorem NB.store {w : World} {g : Nat} {a a' : Option Addr} {b d b' d' : Nat} (hk : w.heap[g]? = some (.cells #[.slice a b d, .slice a' b' d'] 25 (0, 0))) {A A' : Option Addr} {c c' : Nat} {n : Nt} (h : NR w (· < w.heap.size) A c A' c' n) :
    NB (w.setRow g #[.slice A n.q.length c, .slice A' n.ap.length c']) g A c A' c' n :=
  ⟨setRow_heap w g _ #[.slice A n.q.length c, .slice A' n.ap.length c'] _ _ hk, ((h.off fun o k n h => slice_box hk h).keep fun b o hb => World.cell?_of_block (setRow_other w g b _ hb.2)).mono fun b hb => by simpa using hb.1⟩

theorem ntB_of {n m : Nt} (h : ntB n = true) (hl : m.q.length ≤ 4096) (hap : m.ap = n.ap) (hq : ∀ p ∈ m.q, p ∈ n.q) : ntB m = true := by
  obtain ⟨-, h2, h3⟩ := ntB_iff.1 h
  refine ntB_iff.2 ⟨hl, by rw [hap]; exact h2, List.all_eq_true.2 fun p hp => List.all_eq_true.1 h3 p (hq p hp)⟩
theorem findN_at {n : Nt} {k : Nat} (h : ntB n = true) (hk : k < n.q.length) : findN n k = 0 := by
  unfold findN
  rw [if_neg (by rw [h]; decide), if_neg (by omega)]
/-- What is left without the one at k. -/
def lessN (n : Nt) (k : Nat) : Nt := ⟨n.q.take k ++ n.q.drop (k + 1), n.ap⟩
theorem lose_less {n : Nt} {k : Nat} (h : ntB n = true) (hk : k < n.q.length) : loseN n k = (lessN n k, 0) := loseN_ok (findN_at h hk)
theorem less_mem {n : Nt} {k : Nat} : ∀ p ∈ (lessN n k).q, p ∈ n.q := fun p hp => by
  rcases List.mem_append.1 hp with h | h
  · exact List.mem_of_mem_take h
  · exact List.mem_of_mem_drop h
theorem less_len {n : Nt} {k : Nat} (hk : k < n.q.length) : (lessN n k).q.length + 1 = n.q.length := by
  unfold lessN; simp; omega
theorem rep_more {n : Nt} {k : Nat} (h : ntB n = true) (hk : k < n.q.length) (hl : n.q.length < 4096) : repN n k = (⟨n.q ++ [n.q[k]], n.ap⟩, 0) := by
  rw [repN_ok (findN_at h hk) hk]
  unfold addN
  rw [if_neg (by omega)]
theorem more_valid {n : Nt} {k : Nat} (h : ntB n = true) (hk : k < n.q.length) (hl : n.q.length < 4096) : ntB ⟨n.q ++ [n.q[k]], n.ap⟩ = true :=
  ntB_of h (by simp; omega) rfl fun p hp => by
    rcases List.mem_append.1 hp with h | h
    · exact h
    · rw [List.mem_singleton.1 h]; exact List.getElem_mem hk
theorem lose_more {n : Nt} {k : Nat} (h : ntB n = true) (hk : k < n.q.length) (hl : n.q.length < 4096) : loseN ⟨n.q ++ [n.q[k]], n.ap⟩ k = (⟨(lessN n k).q ++ [n.q[k]], n.ap⟩, 0) := by
  rw [lose_less (more_valid h hk hl) (by simp; omega)]
  unfold lessN
  simp only [Prod.mk.injEq, Nt.mk.injEq, and_true]
  rw [List.take_append_of_le_length (by omega), List.drop_append_of_le_length (by omega), List.append_assoc]
theorem send_less {n : Nt} {k : Nat} (h : ntB n = true) (hk : k < n.q.length) : sendN (lessN n k) n.q[k] = (⟨(lessN n k).q ++ [n.q[k]], n.ap⟩, 0) := by
  have h2 : ntB (lessN n k) = true := ntB_of h (by have := less_len hk; have := (ntB_iff.1 h).1; omega) rfl less_mem
  have h3 : pkB n.q[k] = true := List.all_eq_true.1 (ntB_iff.1 h).2.2 _ (List.getElem_mem hk)
  rw [sendN_ok h2 h3]
  unfold addN
  rw [if_neg (by have := less_len hk; have := (ntB_iff.1 h).1; omega)]
  rfl
end Go.Proofs.Ytpmmahlmfcbbbaa
