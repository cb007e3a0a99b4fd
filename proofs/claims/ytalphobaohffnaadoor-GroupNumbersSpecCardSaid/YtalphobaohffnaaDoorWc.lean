/- The reference: the bytes with their end. -/
/- The reference's end of the bytes is the program's: so both hashes are one. -/
import Derived.Test.YtalphobaohffnaaDoorWl
import Derived.Test.YtalphobaohffnaaDoorSu
namespace Go.Proofs.YtalphobaohffnaaDoor
section
open Go.RowKit

/-- The bytes, the bit behind them and so many zeros. -/
def padZ (bs : List UInt8) (k : Nat) : List UInt8 := bs ++ 128 :: List.replicate k 0
/-- The first j of the eight bytes of the length. -/
def lenB (n : Nat) : Nat → List UInt8
  | 0 => []
  | j + 1 => lenB n j ++ [lb n (7 - j)]
/-- How many zeros. -/
def zerosOf (n : Nat) : Nat := (119 - n % 64) % 64
def padR (bs : List UInt8) : List UInt8 := padZ bs (zerosOf bs.length) ++ lenB bs.length 8
theorem padZ_length (bs : List UInt8) (k : Nat) : (padZ bs k).length = bs.length + 1 + k := by simp [padZ]; omega
theorem padZ_snoc (bs : List UInt8) (k : Nat) : padZ bs k ++ [0] = padZ bs (k + 1) := by simp [padZ, List.replicate_succ']
theorem lenB_length (n j : Nat) : (lenB n j).length = j := by
  induction j with
  | zero => rfl
  | succ j ih => rw [lenB, List.length_append, ih]; rfl

/-- One byte in a block of its own, as what is appended. -/
theorem src_one (w : World) (x : UInt8) : Src Tryd.prog 1 22 (.slice (some ⟨w.heap.size, 0, none⟩) 1 1) [x].length (BV [x]) (w.alloc (.cells #[.int .u8 (x.toNat : Int)] 5)) := by
  refine Src.ofSlice _ Tryd.underlying22 ⟨w.heap.size, 0, none⟩ 1 1 (BV [x]) rfl (fun j u hu => ?_) (BV_one [x])
  match j, hu with
  | 0, hu =>
    rw [add_none, cell_of_row _ w.heap.size 0 _ _ _ (heap_alloc_new w _)]
    simpa [BV] using hu
  | j + 1, hu => simp [BV] at hu

set_option maxRecDepth 100000 in
set_option maxHeartbeats 2000000 in
theorem rpadded_any (bs : List UInt8) (hl : bs.length ≤ 1000000) (w : World) (A : Option Addr) (c : Nat) (hr : RBs w w.heap.size A bs) (hA : A = none → bs = []) :
    Calls Tryd.prog 35 #[.slice A bs.length c] w fun e w' => ∃ v, e = .returned v ∧ OB w' w.heap.size v (padR bs) ∧ Below w.heap.size w w' := by
  have hsrc0 := fun W (hb : Below w.heap.size w W) => RBs.src (c := c) (RBs.below hr hb) hA
  have hsrc := Lib.hid hsrc0
  clear hsrc0 hr hA
  go_enter Tryd.func35, Tryd.ntmps35
  have hb1 := (Below.refl w.heap.size w).alloc (Nat.le_refl _) (.cells #[] 5)
  have ho1 : OB (w.alloc (.cells #[] 5)) w.heap.size (.slice (some ⟨w.heap.size, 0, none⟩) 0 0) [] := OB.lit w w.heap.size [] (Nat.le_refl _) (by simp)
  have hs1 := hsrc.out _ hb1
  have hz1 : w.heap.size ≤ (w.alloc (.cells #[] 5)).heap.size := by simp
  go_wp2_with (first
    | (at_builtin; refine app_src rfl _ _ rfl w.heap.size _ [] bs _ rfl ho1 rfl hs1 (by simp; omega) hz1 ?_; intro v6 w6 happ; have hb6 := hb1.trans ((happ.below ho1 hz1)); have ho6 : OB w6 w.heap.size v6 bs := happ.own; have hz6 := hb6.size; clear ho1 hs1 happ hb1)
    | (at_builtin; refine app_src rfl _ _ rfl w.heap.size v6 bs [128] _ rfl (ho6.alloc (.cells #[.int .u8 128] 5)) rfl (src_one w6 128) (by simp; omega) (by simp; omega) ?_; intro v7 w7 happ7; have hb7 := (hb6.alloc hz6 (.cells #[.int .u8 128] 5)).trans (happ7.below (ho6.alloc _) (by simp; omega)); have ho7 : OB w7 w.heap.size v7 (bs ++ [128]) := happ7.own; clear ho6 happ7 hb6))
  go_loopw [3] (fun v wr => ∃ k : Nat, k ≤ zerosOf bs.length ∧ OB wr w.heap.size v (padZ bs k) ∧ Below w.heap.size w wr) (fun v _ => 2000000 - (match v with | .slice _ n _ => n | _ => 0))
  case atStart => exact ⟨0, by omega, ho7, hb7⟩
  case round =>
    obtain ⟨k, hk, hob, hb⟩ := hrel
    have hz : zerosOf bs.length < 64 := Nat.mod_lt _ (by omega)
    obtain ⟨a3, c3, rfl⟩ : ∃ a3 c3, _ = Value.slice a3 (bs.length + 1 + k) c3 := by
      rcases hob.2 with ⟨e, h0⟩ | ⟨g, cap, cur, e, -⟩
      · rw [padZ_length] at h0; omega
      · rw [padZ_length] at e; exact ⟨_, _, e⟩
    have hml : bs.length + 1 + k ≤ 1000100 := by omega
    have hsn : OB (wr.alloc (.cells #[.int .u8 0] 5)) w.heap.size (Value.slice a3 (bs.length + 1 + k) c3) (padZ bs k) := hob.alloc _
    have hlen' := padZ_length bs k
    by_cases h56 : (bs.length + 1 + k) % 64 = 56
    · have hkz : k = zerosOf bs.length := by unfold zerosOf at hk hz ⊢; omega
      generalize hm : bs.length + 1 + k = m at *
      have hb56 : ((m : Int) % 64 != 56) = false := by simp; omega
      have hnw : IntKind.u64.wrap ((bs.length : Int) * 8) = bs.length * 8 := by rw [IntKind.wrap_u64]; omega
      clear hsn
      go_wp2_with fail
      subst hkz
      have hob2 : OB wr w.heap.size (Value.slice a3 m c3) (padZ bs (zerosOf bs.length) ++ lenB bs.length 0) := by rw [lenB, List.append_nil]; exact hob
      obtain ⟨wo, rfl⟩ : ∃ wo : World, wo = wr := ⟨_, rfl⟩
      go_loopw [3, 5] (fun v i wr => ∃ j q : Nat, j + q = 8 ∧ i = .int .i64 ((q : Int) - 1) ∧ OB wr w.heap.size v (padZ bs (zerosOf bs.length) ++ lenB bs.length j) ∧ Below w.heap.size w wr) (fun _ i _ => (intOf i + 1).toNat)
      case atStart => exact ⟨0, 8, rfl, rfl, hob2, hb⟩
      case round =>
        clear hob hob2 hb hb56
        obtain ⟨j, q, hjq, rfl, hob, hb⟩ := hrel
        by_cases hq : q = 0
        · subst hq
          have hj8 : j = 8 := by omega
          subst hj8
          rw [show (((0 : Nat) : Int) - 1) = -1 from rfl]
          go_wp2_with fail
          go_ret
          exact ⟨_, rfl, hob, hb⟩
        · obtain ⟨p, rfl⟩ : ∃ p, q = p + 1 := ⟨q - 1, by omega⟩
          rw [show (((p + 1 : Nat) : Int) - 1) = p by omega]
          have hlb : (bs.length : Int) * 8 / 2 ^ (8 * p) % 256 = ((lb bs.length p).toNat : Int) := by rw [Int.mul_comm]; exact lb_val bs.length p (by omega)
          have hsn := hob.alloc (.cells #[.int .u8 ((lb bs.length p).toNat : Int)] 5)
          have hz4 := hb.size
          have hll : (padZ bs (zerosOf bs.length) ++ lenB bs.length j).length ≤ 2000000 := by rw [List.length_append, padZ_length, lenB_length]; omega
          have g4 : ((8 : Int) * p).toNat = 8 * p := by omega
          have i3 : (0 : Int) ≤ 8 * p := by omega
          have i0 : (0 : Int) ≤ p := by omega
          have i8 : IntKind.i64.wrap (8 * (p : Int)) = 8 * p := IntWalk.i64_in _ (by omega)
          have hjj : lenB bs.length (j + 1) = lenB bs.length j ++ [lb bs.length p] := by rw [lenB, show 7 - j = p by omega]
          go_wp2_with (at_builtin; refine app_src rfl _ _ rfl w.heap.size _ _ [lb bs.length p] _ rfl hsn rfl (src_one wr (lb bs.length p)) (by simp at hll ⊢; omega) (by simp; omega) ?_; intro v7 w7 happ7)
          exact ⟨⟨j + 1, p, by omega, rfl, by rw [hjj, ← List.append_assoc]; exact happ7.own, (hb.alloc hz4 (.cells #[.int .u8 ((lb bs.length p).toNat : Int)] 5)).trans (happ7.below hsn (by simp; omega))⟩, by simp [intOf]⟩
    · have hkz : k < zerosOf bs.length := by unfold zerosOf at hk hz ⊢; omega
      generalize hm : bs.length + 1 + k = m at *
      have hb56 : ((m : Int) % 64 != 56) = true := by simp; omega
      have hz4 := hb.size
      go_wp2_with (at_builtin; refine app_src rfl _ _ rfl w.heap.size (.slice a3 m c3) (padZ bs k) [0] _ rfl hsn rfl (src_one wr 0) (by simp; omega) (by simp; omega) ?_; intro v7 w7 happ7)
      have hb9 := (hb.alloc hz4 (.cells #[.int .u8 0] 5)).trans (happ7.below hsn (by simp; omega))
      have ho9 : OB w7 w.heap.size v7 (padZ bs (k + 1)) := by rw [← padZ_snoc]; exact happ7.own
      obtain ⟨a9, c9, rfl⟩ : ∃ a9 c9, v7 = Value.slice a9 (m + 1) c9 := by
        rcases ho9.2 with ⟨e, h0⟩ | ⟨g, cap, cur, e, -⟩
        · rw [padZ_length] at h0; omega
        · rw [padZ_length, show bs.length + 1 + (k + 1) = m + 1 by omega] at e; exact ⟨_, _, e⟩
      clear happ7 hsn hb hob
      go_roundw
      case rel => exact ⟨k + 1, by omega, ho9, hb9⟩
      case measure => simp; omega
end
section
open Go.RowKit

/-- The last k bytes of the length. -/
def lenT (n : Nat) : Nat → List UInt8
  | 0 => []
  | k + 1 => lb n k :: lenT n k
theorem lenT_length (n k : Nat) : (lenT n k).length = k := by
  induction k with
  | zero => rfl
  | succ k ih => rw [lenT, List.length_cons, ih]
theorem lenB_eight (n : Nat) : lenB n 8 = lenT n 8 := by
  simp [lenB, lenT]
theorem set_mid {α : Type} (a : List α) (x y : α) (b : List α) (i : Nat) (h : i = a.length) : (a ++ x :: b).set i y = a ++ y :: b := by
  subst h
  simp
theorem padK_form (r : List UInt8) (n z : Nat) (hz : padSize r.length = r.length + 1 + z + 8) (k : Nat) (hk : k ≤ 8) : padK r n k = r ++ 128 :: (List.replicate (z + (8 - k)) 0 ++ lenT n k) := by
  induction k with
  | zero =>
    rw [padK, show padSize r.length - r.length = (z + 8) + 1 by omega, List.replicate_succ, set_mid _ _ _ _ _ rfl, lenT, List.append_nil]
  | succ k ih =>
    rw [padK, ih (by omega), show z + (8 - k) = (z + (8 - (k + 1))) + 1 by omega, List.replicate_succ', List.append_assoc, List.cons_append, List.nil_append, lenT]
    have e : r ++ 128 :: (List.replicate (z + (8 - (k + 1))) 0 ++ 0 :: lenT n k) = (r ++ 128 :: List.replicate (z + (8 - (k + 1))) 0) ++ 0 :: lenT n k := by simp
    rw [e, set_mid _ _ _ _ _ (by simp; omega)]
    simp
theorem padR_form (bs : List UInt8) : padR bs = bs.take (64 * (bs.length / 64)) ++ padK (bs.drop (64 * (bs.length / 64))) bs.length 8 := by
  have hl : (bs.drop (64 * (bs.length / 64))).length = bs.length % 64 := by rw [List.length_drop]; omega
  have hz : padSize (bs.drop (64 * (bs.length / 64))).length = (bs.drop (64 * (bs.length / 64))).length + 1 + zerosOf bs.length + 8 := by
    rw [hl]
    unfold padSize zerosOf
    split <;> omega
  rw [padK_form _ _ _ hz 8 (Nat.le_refl _)]
  unfold padR padZ
  rw [lenB_eight]
  have e := List.take_append_drop (64 * (bs.length / 64)) bs
  rw [← List.append_assoc, e]
  simp
theorem padR_length (bs : List UInt8) : (padR bs).length = 64 * (bs.length / 64 + padSize (bs.length % 64) / 64) := by
  have hl : (bs.drop (64 * (bs.length / 64))).length = bs.length % 64 := by rw [List.length_drop]; omega
  rw [padR_form, List.length_append, List.length_take, padK_length _ _ _ (by rw [hl]; exact Nat.mod_lt _ (by omega)), hl]
  unfold padSize
  split <;> omega
theorem chunk_left (P Q : List UInt8) (k : Nat) (h : 64 * k + 64 ≤ P.length) : chunk (P ++ Q) k = chunk P k := by
  unfold chunk
  rw [List.drop_append_of_le_length (by omega), List.take_append_of_le_length (by rw [List.length_drop]; omega)]
theorem chunk_right (P Q : List UInt8) (q k : Nat) (h : P.length = 64 * q) : chunk (P ++ Q) (q + k) = chunk Q k := by
  unfold chunk
  rw [show 64 * (q + k) = P.length + 64 * k by omega, ← List.drop_drop, List.drop_left]
theorem chunk_take (bs : List UInt8) (q k : Nat) (h : k < q) (hq : 64 * q ≤ bs.length) : chunk (bs.take (64 * q)) k = chunk bs k := by
  unfold chunk
  rw [List.drop_take, List.take_take, Nat.min_eq_left (by omega)]
theorem absAll_left (P Q : List UInt8) (ss : List UInt32) (k : Nat) (h : 64 * k ≤ P.length) : absAll (P ++ Q) k ss = absAll P k ss := by
  induction k with
  | zero => rfl
  | succ k ih => rw [absAll, absAll, chunk_left _ _ _ (by omega), ih (by omega)]
theorem absAll_right (P Q : List UInt8) (ss : List UInt32) (q k : Nat) (h : P.length = 64 * q) : absAll (P ++ Q) (q + k) ss = absAll Q k (absAll P q ss) := by
  induction k with
  | zero => exact absAll_left P Q ss q (by omega)
  | succ k ih =>
    rw [← Nat.add_assoc]
    show blockSt (chunk (P ++ Q) (q + k)) (absAll (P ++ Q) (q + k) ss) = blockSt (chunk Q k) (absAll Q k (absAll P q ss))
    rw [chunk_right _ _ _ _ h, ih]
theorem absAll_take (bs : List UInt8) (ss : List UInt32) (q k : Nat) (h : k ≤ q) (hq : 64 * q ≤ bs.length) : absAll (bs.take (64 * q)) k ss = absAll bs k ss := by
  induction k with
  | zero => rfl
  | succ k ih => rw [absAll, absAll, chunk_take _ _ _ (by omega) hq, ih (by omega)]
/-- The hash, as the reference reckons it. -/
theorem sha_ref (bs : List UInt8) : sha bs = obs (absAll (padR bs) ((padR bs).length / 64) S0) 32 := by
  have hq : 64 * (bs.length / 64) ≤ bs.length := by omega
  rw [padR_length, Nat.mul_div_cancel_left _ (by omega), padR_form, absAll_right _ _ _ _ _ (by rw [List.length_take]; omega), absAll_take _ _ _ _ (Nat.le_refl _) hq]
  rfl
end
end Go.Proofs.YtalphobaohffnaaDoor
