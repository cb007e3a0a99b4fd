/- The reference's end of the bytes is the program's: so both hashes are one. -/
import Derived.Test.YtjfoihlelkfaoaaDoorRp
import Derived.Test.YtjfoihlelkfaoaaDoorSu
namespace Go.Proofs.YtjfoihlelkfaoaaDoor
open Go.RowKit

/-- The last k bytes of the length. -/
def lenT (n : Nat) : Nat → List UInt8
  | 0 => []
  | k + 1 => lb n k :: lenT n k
theorem lenT_length (n k : Nat) : (lenT n k).length = k := by
  induction k with
  | zero => rfl
  | succ k ih => rw [lenT, List.length_cons, ih]
theorem lenB_eight (n : Nat) : lenB n 8 = lenT n 8 := by
  simp [lenB, lenT]
theorem set_mid {α : Type} (a : List α) (x y : α) (b : List α) (i : Nat) (h : i = a.length) : (a ++ x :: b).set i y = a ++ y :: b := by
  subst h
  simp
theorem padK_form (r : List UInt8) (n z : Nat) (hz : padSize r.length = r.length + 1 + z + 8) (k : Nat) (hk : k ≤ 8) : padK r n k = r ++ 128 :: (List.replicate (z + (8 - k)) 0 ++ lenT n k) := by
  induction k with
  | zero =>
    rw [padK, show padSize r.length - r.length = (z + 8) + 1 by omega, List.replicate_succ, set_mid _ _ _ _ _ rfl, lenT, List.append_nil]
  | succ k ih =>
    rw [padK, ih (by omega), show z + (8 - k) = (z + (8 - (k + 1))) + 1 by omega, List.replicate_succ', List.append_assoc, List.cons_append, List.nil_append, lenT]
    have e : r ++ 128 :: (List.replicate (z + (8 - (k + 1))) 0 ++ 0 :: lenT n k) = (r ++ 128 :: List.replicate (z + (8 - (k + 1))) 0) ++ 0 :: lenT n k := by simp
    rw [e, set_mid _ _ _ _ _ (by simp; omega)]
    simp
theorem padR_form (bs : List UInt8) : padR bs = bs.take (64 * (bs.length / 64)) ++ padK (bs.drop (64 * (bs.length / 64))) bs.length 8 := by
  have hl : (bs.drop (64 * (bs.length / 64))).length = bs.length % 64 := by rw [List.length_drop]; omega
  have hz : padSize (bs.drop (64 * (bs.length / 64))).length = (bs.drop (64 * (bs.length / 64))).length + 1 + zerosOf bs.length + 8 := by
    rw [hl]
    unfold padSize zerosOf
    split <;> omega
  rw [padK_form _ _ _ hz 8 (Nat.le_refl _)]
  unfold padR padZ
  rw [lenB_eight]
  have e := List.take_append_drop (64 * (bs.length / 64)) bs
  rw [← List.append_assoc, e]
  simp
theorem padR_length (bs : List UInt8) : (padR bs).length = 64 * (bs.length / 64 + padSize (bs.length % 64) / 64) := by
  have hl : (bs.drop (64 * (bs.length / 64))).length = bs.length % 64 := by rw [List.length_drop]; omega
  rw [padR_form, List.length_append, List.length_take, padK_length _ _ _ (by rw [hl]; exact Nat.mod_lt _ (by omega)), hl]
  unfold padSize
  split <;> omega
theorem chunk_left (P Q : List UInt8) (k : Nat) (h : 64 * k + 64 ≤ P.length) : chunk (P ++ Q) k = chunk P k := by
  unfold chunk
  rw [List.drop_append_of_le_length (by omega), List.take_append_of_le_length (by rw [List.length_drop]; omega)]
theorem chunk_right (P Q : List UInt8) (q k : Nat) (h : P.length = 64 * q) : chunk (P ++ Q) (q + k) = chunk Q k := by
  unfold chunk
  rw [show 64 * (q + k) = P.length + 64 * k by omega, ← List.drop_drop, List.drop_left]
theorem chunk_take (bs : List UInt8) (q k : Nat) (h : k < q) (hq : 64 * q ≤ bs.length) : chunk (bs.take (64 * q)) k = chunk bs k := by
  unfold chunk
  rw [List.drop_take, List.take_take, Nat.min_eq_left (by omega)]
theorem absAll_left (P Q : List UInt8) (ss : List UInt32) (k : Nat) (h : 64 * k ≤ P.length) : absAll (P ++ Q) k ss = absAll P k ss := by
  induction k with
  | zero => rfl
  | succ k ih => rw [absAll, absAll, chunk_left _ _ _ (by omega), ih (by omega)]
theorem absAll_right (P Q : List UInt8) (ss : List UInt32) (q k : Nat) (h : P.length = 64 * q) : absAll (P ++ Q) (q + k) ss = absAll Q k (absAll P q ss) := by
  induction k with
  | zero => exact absAll_left P Q ss q (by omega)
  | succ k ih =>
    rw [← Nat.add_assoc]
    show blockSt (chunk (P ++ Q) (q + k)) (absAll (P ++ Q) (q + k) ss) = blockSt (chunk Q k) (absAll Q k (absAll P q ss))
    rw [chunk_right _ _ _ _ h, ih]
theorem absAll_take (bs : List UInt8) (ss : List UInt32) (q k : Nat) (h : k ≤ q) (hq : 64 * q ≤ bs.length) : absAll (bs.take (64 * q)) k ss = absAll bs k ss := by
  induction k with
  | zero => rfl
  | succ k ih => rw [absAll, absAll, chunk_take _ _ _ (by omega) hq, ih (by omega)]
/-- The hash, as the reference reckons it. -/
theorem sha_ref (bs : List UInt8) : sha bs = obs (absAll (padR bs) ((padR bs).length / 64) S0) 32 := by
  have hq : 64 * (bs.length / 64) ≤ bs.length := by omega
  rw [padR_length, Nat.mul_div_cancel_left _ (by omega), padR_form, absAll_right _ _ _ _ _ (by rw [List.length_take]; omega), absAll_take _ _ _ _ (Nat.le_refl _) hq]
  rfl
end Go.Proofs.YtjfoihlelkfaoaaDoor
