/- Plain facts for CodecLists: what the list of values that can be encoded is encoded as, and its size. -/
import Derived.Test.YtnodaeklifkobaaLt
namespace Go.Proofs.Ytnodaeklifkobaa
open Go.RowKit

theorem formedAll_of {l : List GV} (h : ∀ x ∈ l, formed x = true) : formedAll l = true := by
  induction l with
  | nil => rfl
  | cons y r ih => rw [formedAll, h y (by simp), ih fun x hx => h x (by simp [hx])]; rfl
theorem depAll_mem {l : List GV} {x : GV} (h : x ∈ l) : dep x ≤ depAll l := by
  induction l with
  | nil => cases h
  | cons y r ih =>
    rw [depAll]
    rcases List.mem_cons.1 h with rfl | h
    · omega
    · have := ih h; omega
theorem formed_list (l : List GV) : formed (listG l) = formedAll l := by
  rw [listG, formed]
  simp
theorem dep_list (l : List GV) : dep (listG l) = 1 + depAll l := by
  rw [listG, dep, if_pos rfl]

/-- An element that cannot be encoded: the list cannot. -/
theorem chk_list_bad {l : List GV} {x : GV} (hx : x ∈ l) (h : chk x ≠ 0) : chk (listG l) ≠ 0 := by
  intro h0
  obtain ⟨hf, hd⟩ := chk_zero h0
  rw [formed_list] at hf
  rw [dep_list] at hd
  have h1 := formedAll_mem hf hx
  have h2 := depAll_mem hx
  refine h ?_
  unfold chk
  rw [h1, if_pos rfl, if_neg (by omega)]

/-- All elements can be encoded: the list can, or is nested too deeply. -/
theorem chk_list_good {l : List GV} (h : ∀ x ∈ l, chk x = 0) : chk (listG l) = 0 ∨ chk (listG l) = 2 := by
  have hf : formed (listG l) = true := by rw [formed_list]; exact formedAll_of fun x hx => (chk_zero (h x hx)).1
  unfold chk
  rw [hf, if_pos rfl]
  split <;> simp

theorem encB_list {l : List GV} (h : chk (listG l) = 0) : encB (listG l) = 3 :: (digs l.length ++ encAll l) := by
  unfold encB
  rw [if_pos h, listG, enc]
  rfl

theorem zeros_formed (n : Nat) : ∀ x ∈ List.replicate n (intG 0), chk x = 0 := fun x hx => by rw [List.eq_of_mem_replicate hx]; exact chk_int 0
theorem zeros_dep (n : Nat) : depAll (List.replicate n (intG 0)) = 0 := by
  induction n with
  | zero => rfl
  | succ n ih => rw [List.replicate_succ, depAll, ih, intG, dep]; rfl
theorem zeros_chk (n : Nat) : chk (listG (List.replicate n (intG 0))) = 0 := by
  have hf : formed (listG (List.replicate n (intG 0))) = true := by rw [formed_list]; exact formedAll_of fun x hx => (chk_zero (zeros_formed n x hx)).1
  unfold chk
  rw [hf, if_pos rfl, dep_list, zeros_dep]
  rfl
theorem zero_length : (enc (intG 0)).length = 2 := by rw [enc_int]; decide +kernel
theorem zeros_length (n : Nat) : (encAll (List.replicate n (intG 0))).length = 2 * n := by
  induction n with
  | zero => rfl
  | succ n ih => rw [List.replicate_succ, encAll, List.length_append, ih, zero_length]; omega
theorem zeros_size (n : Nat) : (encB (listG (List.replicate n (intG 0)))).length = 1 + (digs n).length + 2 * n := by
  rw [encB_list (zeros_chk n), List.length_replicate, List.length_cons, List.length_append, zeros_length]
  omega
theorem bigAll_zeros (n : Nat) : bigAll (List.replicate n (intG 0)) = n := by
  induction n with
  | zero => rfl
  | succ n ih => rw [List.replicate_succ, bigAll, ih, intG, big]; simp [bigAll, ByteArray.size]; omega
end Go.Proofs.Ytnodaeklifkobaa
