/- The reference's Path, length, Climb, Same. -/
import Derived.Test.YtjfoihlelkfaoaaDoorRcl
namespace Go.Proofs.YtjfoihlelkfaoaaDoor
open Go.RowKit

theorem rpath_all (n : Nat) : ∀ l : List (List UInt8), l.length ≤ n → l.length ≤ 1000000000 → RPathAt l := by
  induction n with
  | zero =>
    intro l h _ i w a cap hi
    omega
  | succ n ih =>
    intro l h hm
    match l, h, hm with
    | [], _, _ => exact fun i w a cap hi => by simp at hi
    | [d], _, _ => exact rpath_one d
    | x :: y :: r, h, hm =>
      have h2 : 2 ≤ (x :: y :: r).length := by simp
      have hb := half_bounds (x :: y :: r).length h2 (by omega)
      exact rpath_two _ h2 hm (ih _ (by rw [List.length_take]; omega) (by rw [List.length_take]; omega)) (ih _ (by rw [List.length_drop]; omega) (by rw [List.length_drop]; omega))

attribute [local irreducible] Calls
set_option maxRecDepth 100000 in
theorem rPath_in (l : List (List UInt8)) (hm : l.length ≤ 1000000000) (i : Nat) (hi : i < l.length) (w : World) (a : Option Addr) (cap : Nat) (hR : RD w w.heap.size l a cap) :
    Calls Tryd.prog 11 #[.slice a l.length cap, .int .i64 i] w fun e w' => ∃ v, e = .returned (.tuple #[v, .int .i64 0]) ∧ OD w' w.heap.size v (pathH l i) ∧ Below w.heap.size w w' := by
  have hP := rpath_all l.length l (Nat.le_refl _) hm i w a cap hi hR
  have hP' := Lib.hid hP
  have h1 : ¬ ((l.length : Int) ≤ i) := by omega
  have h2 : ¬ ((i : Int) < 0) := by omega
  clear hP
  go_enter Tryd.func11, Tryd.ntmps11
  go_wp2_with fail
  refine hP'.out.mono ?_
  rintro e w1 ⟨v1, rfl, ob, hb⟩
  go_wp2_with fail
  go_ret2
  exact ⟨v1, rfl, ob, hb⟩
set_option maxRecDepth 100000 in
theorem rPath_out (n : Nat) (i : Int) (hi : i < 0 ∨ n ≤ i) (w : World) (a : Option Addr) (cap : Nat) :
    Calls Tryd.prog 11 #[.slice a n cap, .int .i64 i] w fun e w' => e = .returned (.tuple #[.slice none 0 0, .int .i64 1]) ∧ w = w' := by
  go_enter Tryd.func11, Tryd.ntmps11
  rcases hi with hi | hi
  · go_wp2_with fail
    go_ret2
    exact ⟨rfl, rfl⟩
  · by_cases hi2 : i < 0
    · go_wp2_with fail
      go_ret2
      exact ⟨rfl, rfl⟩
    · go_wp2_with fail
      go_ret2
      exact ⟨rfl, rfl⟩

/-- The reference's length of a path. -/
def RLenAt (n : Nat) : Prop := ∀ (i : Nat) (w : World), i < n → Calls Tryd.prog 28 #[.int .i64 (i : Int), .int .i64 (n : Int)] w fun e w' => e = .returned (.int .i64 (((desc i n).length : Nat) : Int)) ∧ Below w.heap.size w w'
set_option maxRecDepth 100000 in
theorem rlen_one : RLenAt 1 := by
  intro i w hi
  have hd : (desc i 1).length = 0 := by rw [desc_one i 1 (Nat.le_refl _)]; rfl
  rw [hd]
  go_enter Tryd.func28, Tryd.ntmps28
  go_wp2_with fail
  go_ret
  exact ⟨rfl, Below.refl _ _⟩
set_option maxRecDepth 100000 in
theorem rlen_two (n : Nat) (h2 : 2 ≤ n) (hn : n ≤ 1099511627776) (ih1 : RLenAt (half n)) (ih2 : RLenAt (n - half n)) : RLenAt n := by
  intro i w hin
  have hbd := half_bounds n h2 (by omega)
  have hH := Lib.hid (rhalf_any n h2 hn w)
  have hds := desc_step i n h2 (by omega)
  have hp1 : ((n : Int) == 1) = false := beq_eq_false_iff_ne.2 (by omega)
  have i1 := Lib.hid ih1
  have i2 := Lib.hid ih2
  clear ih1 ih2
  by_cases hi : i < half n
  · have hi' : (i : Int) < ((half n : Nat) : Int) := by omega
    rw [if_pos hi] at hds
    have hle := desc_length (half n) i (half n) (Nat.le_refl _) (by omega)
    have hadd : IntKind.i64.wrap (1 + (((desc i (half n)).length : Nat) : Int)) = 1 + (((desc i (half n)).length : Nat) : Int) := IntWalk.i64_in _ (by omega)
    have hfin : Hid ((((desc i n).length : Nat) : Int) = 1 + (((desc i (half n)).length : Nat) : Int)) := by show _ = _; rw [hds, List.length_cons]; omega
    clear hds
    go_enter Tryd.func28, Tryd.ntmps28
    go_wp2_with fail
    refine hH.out.mono ?_
    rintro e w1 ⟨rfl, hb1⟩
    have hC := Lib.hid (i1.out i w1 hi)
    go_wp2_with fail
    refine hC.out.mono ?_
    rintro e w2 ⟨rfl, hb2⟩
    go_wp2_with fail
    rw [hfin.out]
    go_ret
    exact ⟨rfl, hb1.trans (hb2.mono hb1.size)⟩
  · have hi' : ¬ (i : Int) < ((half n : Nat) : Int) := by omega
    rw [if_neg hi] at hds
    have hle := desc_length (n - half n) (i - half n) (n - half n) (Nat.le_refl _) (by omega)
    have hadd : IntKind.i64.wrap (1 + (((desc (i - half n) (n - half n)).length : Nat) : Int)) = 1 + (((desc (i - half n) (n - half n)).length : Nat) : Int) := IntWalk.i64_in _ (by omega)
    have hs1 : IntKind.i64.wrap ((i : Int) - ((half n : Nat) : Int)) = (i : Int) - ((half n : Nat) : Int) := IntWalk.i64_in _ (by omega)
    have hs2 : IntKind.i64.wrap ((n : Int) - ((half n : Nat) : Int)) = (n : Int) - ((half n : Nat) : Int) := IntWalk.i64_in _ (by omega)
    have hfin : Hid ((((desc i n).length : Nat) : Int) = 1 + (((desc (i - half n) (n - half n)).length : Nat) : Int)) := by show _ = _; rw [hds, List.length_cons]; omega
    have e1 : ((i - half n : Nat) : Int) = (i : Int) - ((half n : Nat) : Int) := by omega
    have e2 : ((n - half n : Nat) : Int) = (n : Int) - ((half n : Nat) : Int) := by omega
    have hC := fun w1 => i2.out (i - half n) w1 (by omega)
    rw [e1, e2] at hC
    have hC := Lib.hid hC
    clear hds e1 e2
    go_enter Tryd.func28, Tryd.ntmps28
    go_wp2_with fail
    refine hH.out.mono ?_
    rintro e w1 ⟨rfl, hb1⟩
    go_wp2_with fail
    refine (hC.out _).mono ?_
    rintro e w2 ⟨rfl, hb2⟩
    go_wp2_with fail
    rw [hfin.out]
    go_ret
    exact ⟨rfl, hb1.trans (hb2.mono hb1.size)⟩
theorem rlen_all (N : Nat) : ∀ n, n ≤ N → 1 ≤ n → n ≤ 1099511627776 → RLenAt n := by
  induction N with
  | zero => intro n h h1 _; omega
  | succ N ih =>
    intro n h h1 hn
    by_cases h2 : 2 ≤ n
    · have hb := half_bounds n h2 (by omega)
      exact rlen_two n h2 hn (ih _ (by omega) (by omega) (by omega)) (ih _ (by omega) (by omega) (by omega))
    · obtain rfl : n = 1 := by omega
      exact rlen_one

set_option maxRecDepth 100000 in
set_option maxHeartbeats 2000000 in
/-- Numbers that are none of a list. -/
theorem rClimb_arg (d : List UInt8) (i n : Int) (h : n < 1 ∨ 1099511627776 < n ∨ i < 0 ∨ n ≤ i) (w : World) (v : Value) : Calls Tryd.prog 14 #[.agg (BV d).toArray, .int .i64 i, .int .i64 n, v] w fun e w' => e = .returned (.tuple #[.agg (BV zeroD).toArray, .int .i64 1]) ∧ Below w.heap.size w w' := by
  obtain ⟨hd1, hd2, hB⟩ := box_zero w d
  have hu : Tryd.prog.underlying 24 = some (.array 32 5) := by kernel_rfl
  have hi : (Tryd.prog.info? 24).map (·.size) = some 32 := by kernel_rfl
  have hd3 : ((w.alloc (.cells (BV d).toArray 24)).alloc (.cells #[.int .u8 0, .int .u8 0, .int .u8 0, .int .u8 0, .int .u8 0, .int .u8 0, .int .u8 0, .int .u8 0, .int .u8 0, .int .u8 0, .int .u8 0, .int .u8 0, .int .u8 0, .int .u8 0, .int .u8 0, .int .u8 0, .int .u8 0, .int .u8 0, .int .u8 0, .int .u8 0, .int .u8 0, .int .u8 0, .int .u8 0, .int .u8 0, .int .u8 0, .int .u8 0, .int .u8 0, .int .u8 0, .int .u8 0, .int .u8 0, .int .u8 0, .int .u8 0] 24)).heap[w.heap.size + 1]? = some (.cells (BV zeroD).toArray 24 (0, 0)) := hd2
  have hself : ((w.alloc (.cells (BV d).toArray 24)).alloc (.cells #[.int .u8 0, .int .u8 0, .int .u8 0, .int .u8 0, .int .u8 0, .int .u8 0, .int .u8 0, .int .u8 0, .int .u8 0, .int .u8 0, .int .u8 0, .int .u8 0, .int .u8 0, .int .u8 0, .int .u8 0, .int .u8 0, .int .u8 0, .int .u8 0, .int .u8 0, .int .u8 0, .int .u8 0, .int .u8 0, .int .u8 0, .int .u8 0, .int .u8 0, .int .u8 0, .int .u8 0, .int .u8 0, .int .u8 0, .int .u8 0, .int .u8 0, .int .u8 0] 24)).setRow (w.heap.size + 1) #[.int .u8 0, .int .u8 0, .int .u8 0, .int .u8 0, .int .u8 0, .int .u8 0, .int .u8 0, .int .u8 0, .int .u8 0, .int .u8 0, .int .u8 0, .int .u8 0, .int .u8 0, .int .u8 0, .int .u8 0, .int .u8 0, .int .u8 0, .int .u8 0, .int .u8 0, .int .u8 0, .int .u8 0, .int .u8 0, .int .u8 0, .int .u8 0, .int .u8 0, .int .u8 0, .int .u8 0, .int .u8 0, .int .u8 0, .int .u8 0, .int .u8 0, .int .u8 0] = _ := setRow_self _ (w.heap.size + 1) _ _ _ hd3
  have hself' := Lib.hid hself
  have hB' := Lib.hid hB
  clear hself hd1 hd2 hB
  have h' : n < 1 ∨ (¬ n < 1 ∧ 1099511627776 < n) ∨ (¬ n < 1 ∧ ¬ 1099511627776 < n ∧ i < 0) ∨ (¬ n < 1 ∧ ¬ 1099511627776 < n ∧ ¬ i < 0 ∧ n ≤ i) := by omega
  clear h
  go_enter Tryd.func14, Tryd.ntmps14
  rcases h' with h1 | ⟨h1, h2⟩ | ⟨h1, h2, h3⟩ | ⟨h1, h2, h3, h4⟩
  all_goals
    go_wp2_with (refine wpList_store_row rfl 24 _ _ rfl (w.heap.size + 1) _ rfl rfl 24 _ hd3 ?cj rfl ?ck ?_
                 case cj => rw [hi]; rfl
                 case ck => kernel_rfl)
    rw [hself'.out]
    exact bodyPost_ret (results_row_tmp rfl _ _ (w.heap.size + 1) 24 _ (0, 0) _ rfl hd3 hu rfl (by rw [hi]; rfl)) rfl ⟨rfl, hB'.out⟩

set_option maxRecDepth 100000 in
set_option maxHeartbeats 2000000 in
/-- A path of another length. -/
theorem rClimb_len (d : List UInt8) (i n : Nat) (hn : n ≤ 1099511627776) (hi0 : i < n) (m : Nat) (hm : m ≠ (desc i n).length) (w : World) (a : Option Addr) (cap : Nat) : Calls Tryd.prog 14 #[.agg (BV d).toArray, .int .i64 i, .int .i64 n, .slice a m cap] w fun e w' => e = .returned (.tuple #[.agg (BV zeroD).toArray, .int .i64 1]) ∧ Below w.heap.size w w' := by
  obtain ⟨hd1, hd2, hB⟩ := box_zero w d
  have hL := Lib.hid (rlen_all n n (Nat.le_refl _) (by omega) hn i ((w.alloc (.cells (BV d).toArray 24)).alloc (.cells #[.int .u8 0, .int .u8 0, .int .u8 0, .int .u8 0, .int .u8 0, .int .u8 0, .int .u8 0, .int .u8 0, .int .u8 0, .int .u8 0, .int .u8 0, .int .u8 0, .int .u8 0, .int .u8 0, .int .u8 0, .int .u8 0, .int .u8 0, .int .u8 0, .int .u8 0, .int .u8 0, .int .u8 0, .int .u8 0, .int .u8 0, .int .u8 0, .int .u8 0, .int .u8 0, .int .u8 0, .int .u8 0, .int .u8 0, .int .u8 0, .int .u8 0, .int .u8 0] 24)) hi0)
  generalize (desc i n).length = D at *
  have g1 : ¬ ((n : Int) < 1) := by omega
  have g2 : ¬ (1099511627776 < (n : Int)) := by omega
  have g3 : ¬ ((i : Int) < 0) := by omega
  have g4 : ¬ ((n : Int) ≤ i) := by omega
  have hne : ((m : Int) != (D : Int)) = true := by simp; omega
  have hu : Tryd.prog.underlying 24 = some (.array 32 5) := by kernel_rfl
  have hi : (Tryd.prog.info? 24).map (·.size) = some 32 := by kernel_rfl
  go_enter Tryd.func14, Tryd.ntmps14
  go_wp2_with fail
  refine hL.out.mono ?_
  rintro e w1 ⟨rfl, hb1⟩
  have hd3 : w1.heap[w.heap.size + 1]? = some (.cells (BV zeroD).toArray 24 (0, 0)) := hd2.below hb1 hd2.lt
  have hB1 := hB.trans (hb1.mono hB.size)
  have hself : w1.setRow (w.heap.size + 1) #[.int .u8 0, .int .u8 0, .int .u8 0, .int .u8 0, .int .u8 0, .int .u8 0, .int .u8 0, .int .u8 0, .int .u8 0, .int .u8 0, .int .u8 0, .int .u8 0, .int .u8 0, .int .u8 0, .int .u8 0, .int .u8 0, .int .u8 0, .int .u8 0, .int .u8 0, .int .u8 0, .int .u8 0, .int .u8 0, .int .u8 0, .int .u8 0, .int .u8 0, .int .u8 0, .int .u8 0, .int .u8 0, .int .u8 0, .int .u8 0, .int .u8 0, .int .u8 0] = w1 := setRow_self w1 (w.heap.size + 1) _ _ _ hd3
  have hself' := Lib.hid hself
  clear hb1 hd1 hd2 hB hself
  go_wp2_with (refine wpList_store_row rfl 24 _ _ rfl (w.heap.size + 1) _ rfl rfl 24 _ hd3 ?cj rfl ?ck ?_
               case cj => rw [hi]; rfl
               case ck => kernel_rfl)
  rw [hself'.out]
  exact bodyPost_ret (results_row_tmp rfl _ _ (w.heap.size + 1) 24 _ (0, 0) _ rfl hd3 hu rfl (by rw [hi]; rfl)) rfl ⟨rfl, hB1⟩

set_option maxRecDepth 100000 in
set_option maxHeartbeats 2000000 in
theorem rClimb_ok (d : List UInt8) (hd : d.length = 32) (i n : Nat) (hn : n ≤ 1099511627776) (hi0 : i < n) (p : List (List UInt8)) (hm : p.length = (desc i n).length) (w : World) (a : Option Addr) (cap : Nat) (hR : RD w w.heap.size p a cap) :
    Calls Tryd.prog 14 #[.agg (BV d).toArray, .int .i64 i, .int .i64 n, .slice a p.length cap] w fun e w' => e = .returned (.tuple #[.agg (BV (upTo d (desc i n) p p.length)).toArray, .int .i64 0]) ∧ Below w.heap.size w w' := by
  obtain ⟨hd1, hd2, hB⟩ := box_zero w d
  have hL := rlen_all n n (Nat.le_refl _) (by omega) hn i ((w.alloc (.cells (BV d).toArray 24)).alloc (.cells #[.int .u8 0, .int .u8 0, .int .u8 0, .int .u8 0, .int .u8 0, .int .u8 0, .int .u8 0, .int .u8 0, .int .u8 0, .int .u8 0, .int .u8 0, .int .u8 0, .int .u8 0, .int .u8 0, .int .u8 0, .int .u8 0, .int .u8 0, .int .u8 0, .int .u8 0, .int .u8 0, .int .u8 0, .int .u8 0, .int .u8 0, .int .u8 0, .int .u8 0, .int .u8 0, .int .u8 0, .int .u8 0, .int .u8 0, .int .u8 0, .int .u8 0, .int .u8 0] 24)) hi0
  rw [← hm] at hL
  have hL := Lib.hid hL
  have hC : Hid (∀ W, Below w.heap.size w W → Calls Tryd.prog 29 #[.agg (BV d).toArray, .int .i64 (i : Int), .int .i64 (n : Int), .slice a p.length cap] W fun e w' => e = .returned (.agg (BV (upTo d (desc i n) p p.length)).toArray) ∧ Below W.heap.size W w') := fun W hW => rclimb_all d hd n n (Nat.le_refl _) (by omega) hn i p W a cap hi0 hm (hR.below hW)
  have hul := Lib.hid (upTo_length d (desc i n) p p.length)
  generalize upTo d (desc i n) p p.length = r at *
  have g1 : ¬ ((n : Int) < 1) := by omega
  have g2 : ¬ (1099511627776 < (n : Int)) := by omega
  have g3 : ¬ ((i : Int) < 0) := by omega
  have g4 : ¬ ((n : Int) ≤ i) := by omega
  have hu : Tryd.prog.underlying 24 = some (.array 32 5) := by kernel_rfl
  have hi : (Tryd.prog.info? 24).map (·.size) = some 32 := by kernel_rfl
  have hsd : (BV d).toArray.size = 32 := by rw [List.size_toArray, BV_length, hd]
  have hsr : (BV r).toArray.size = 32 := by rw [List.size_toArray, BV_length, hul.out]
  have hsdH := Lib.hid hsd
  have hsrH := Lib.hid hsr
  clear hR hm hsd hsr
  go_enter Tryd.func14, Tryd.ntmps14
  go_wp2_with fail
  refine hL.out.mono ?_
  rintro e w1 ⟨rfl, hb1⟩
  have hd3 := hd1.below hb1 hd1.lt
  have hB1 := hB.trans (hb1.mono hB.size)
  have hz1 := hd2.below hb1 hd2.lt
  have hC1 := Lib.hid (hC.out w1 hB1)
  clear hb1 hd1 hd2 hB hL hC
  go_wp2_with (refine wpList_load_row rfl 24 _ rfl w.heap.size rfl 24 _ (0, 0) _ hd3 hu rfl ?ca ?_; case ca => rw [hi, hsdH.out])
  refine hC1.out.mono ?_
  rintro e w2 ⟨rfl, hb2⟩
  have hz2 := hz1.below hb2 hz1.lt
  have hB2 := hB1.trans (hb2.mono hB1.size)
  clear hz1 hB1 hb2 hC1
  go_wp2_with (refine wpList_store_row rfl 24 _ _ rfl (w.heap.size + 1) _ rfl rfl 24 _ hz2 ?cj ?cl ?ck ?_
               case cj => rw [hi, hsrH.out]
               case cl => rw [hsrH.out]; rfl
               case ck => exact BV_all _)
  have hrow := setRow_heap w2 (w.heap.size + 1) _ (BV r).toArray _ _ hz2
  exact bodyPost_ret (results_row_tmp rfl _ _ (w.heap.size + 1) 24 _ (0, 0) _ rfl hrow hu rfl (by rw [hi, hsrH.out])) rfl
    ⟨rfl, hB2.grown (grownBy_setRow _ _ _) hB2.size (fun k e => by injection e with e; omega)⟩
end Go.Proofs.YtjfoihlelkfaoaaDoor
