/- What proves that an element is in a list: pathTo, Path. -/
import Derived.Test.YtjfoihlelkfaoaaDoorOf
import Derived.Deep.RegionHeld3
namespace Go.Proofs.YtjfoihlelkfaoaaDoor
open Go.RowKit

def pathF : Nat → List (List UInt8) → Nat → List (List UInt8)
  | 0, _, _ => []
  | f + 1, l, i => if l.length ≤ 1 then [] else if i < half l.length then pathF f (l.take (half l.length)) i ++ [treeH (l.drop (half l.length))] else pathF f (l.drop (half l.length)) (i - half l.length) ++ [treeH (l.take (half l.length))]
/-- The path of an element. -/
def pathH (l : List (List UInt8)) (i : Nat) : List (List UInt8) := pathF l.length l i
theorem pathF_enough (f : Nat) : ∀ (g : Nat) (l : List (List UInt8)) (i : Nat), l.length ≤ f → l.length ≤ g → l.length ≤ 4611686018427387904 → pathF f l i = pathF g l i := by
  induction f with
  | zero =>
    intro g l i h _ _
    have h0 : l.length ≤ 1 := by omega
    cases g with
    | zero => rfl
    | succ g => rw [pathF, pathF, if_pos h0]
  | succ f ih =>
    intro g l i h1 h2 h3
    cases g with
    | zero => rw [pathF, pathF, if_pos (by omega)]
    | succ g =>
      rw [pathF, pathF]
      split
      · rfl
      · have hb := half_bounds l.length (by omega) (by omega)
        rw [ih g (l.take (half l.length)) i (by rw [List.length_take]; omega) (by rw [List.length_take]; omega) (by rw [List.length_take]; omega),
          ih g (l.drop (half l.length)) (i - half l.length) (by rw [List.length_drop]; omega) (by rw [List.length_drop]; omega) (by rw [List.length_drop]; omega)]
theorem pathH_one (l : List (List UInt8)) (i : Nat) (h : l.length ≤ 1) : pathH l i = [] := by
  unfold pathH
  cases hn : l.length with
  | zero => rfl
  | succ n => rw [pathF, if_pos h]
theorem pathH_two (l : List (List UInt8)) (i : Nat) (h : 2 ≤ l.length) (hm : l.length ≤ 4611686018427387904) :
    pathH l i = if i < half l.length then pathH (l.take (half l.length)) i ++ [treeH (l.drop (half l.length))] else pathH (l.drop (half l.length)) (i - half l.length) ++ [treeH (l.take (half l.length))] := by
  have hb := half_bounds l.length h (by omega)
  obtain ⟨n, hn⟩ : ∃ n, l.length = n + 1 := ⟨l.length - 1, by omega⟩
  have e : pathH l i = if i < half l.length then pathF n (l.take (half l.length)) i ++ [treeH (l.drop (half l.length))] else pathF n (l.drop (half l.length)) (i - half l.length) ++ [treeH (l.take (half l.length))] := by
    unfold pathH
    rw [hn, pathF, if_neg (by omega), ← hn]
  rw [e]
  unfold pathH
  rw [pathF_enough n (l.take (half l.length)).length _ _ (by rw [List.length_take]; omega) (Nat.le_refl _) (by rw [List.length_take]; omega),
    pathF_enough n (l.drop (half l.length)).length _ _ (by rw [List.length_drop]; omega) (Nat.le_refl _) (by rw [List.length_drop]; omega)]
theorem pathH_32 (n : Nat) : ∀ (l : List (List UInt8)) (i : Nat), l.length ≤ n → l.length ≤ 4611686018427387904 → ∀ d ∈ pathH l i, d.length = 32 := by
  induction n with
  | zero => intro l i h _ d hd; rw [pathH_one l i (by omega)] at hd; simp at hd
  | succ n ih =>
    intro l i h hm d hd
    by_cases h2 : 2 ≤ l.length
    · have hb := half_bounds l.length h2 (by omega)
      rw [pathH_two l i h2 hm] at hd
      split at hd
      · rcases List.mem_append.1 hd with hd | hd
        · exact ih _ _ (by rw [List.length_take]; omega) (by rw [List.length_take]; omega) d hd
        · rw [List.mem_singleton.1 hd]; exact treeH_length _
      · rcases List.mem_append.1 hd with hd | hd
        · exact ih _ _ (by rw [List.length_drop]; omega) (by rw [List.length_drop]; omega) d hd
        · rw [List.mem_singleton.1 hd]; exact treeH_length _
    · rw [pathH_one l i (by omega)] at hd; simp at hd
theorem pathH_length (n : Nat) : ∀ (l : List (List UInt8)) (i : Nat), l.length ≤ n → l.length ≤ 4611686018427387904 → (pathH l i).length ≤ l.length := by
  induction n with
  | zero => intro l i h _; rw [pathH_one l i (by omega)]; simp
  | succ n ih =>
    intro l i h hm
    by_cases h2 : 2 ≤ l.length
    · have hb := half_bounds l.length h2 (by omega)
      rw [pathH_two l i h2 hm]
      split
      · have := ih (l.take (half l.length)) i (by rw [List.length_take]; omega) (by rw [List.length_take]; omega)
        rw [List.length_take] at this
        rw [List.length_append, List.length_singleton]; omega
      · have := ih (l.drop (half l.length)) (i - half l.length) (by rw [List.length_drop]; omega) (by rw [List.length_drop]; omega)
        rw [List.length_drop] at this
        rw [List.length_append, List.length_singleton]; omega
    · rw [pathH_one l i (by omega)]; simp

/-- A digest in a block of its own is appended to a row of digests, at a step of a region that draws its order. -/
theorem step_list {ops : Array Oper} {o : Oper} {a : Act} {K : Act → World → Prop} {Q : Exit → Act → World → Prop} {E : Prop} {w : World} (hgd : o.guard = none) (s x : Operand)
    (ho : o.op = .call { callee := .builtin .append, args := #[s, x], argTypes := #[26, 26] })
    (B : Nat) (v : Value) (l : List (List UInt8)) (hs : a.eval s = v) (hown : OD w B v l) (g : Nat) (d : List UInt8) (hx : a.eval x = .slice (some ⟨g, 0, none⟩) 1 1) (hd : DB w g 24 d) (h32 : d.length = 32) (hlen : l.length ≤ 1000000000) (hB : B ≤ w.heap.size)
    (h : ∀ v' w', OD w' B v' (l ++ [d]) → Below B w w' → K (a.put o.dst v') w') : if Region.wanted o (yielded ops a.tmps) = true then Oper.wp Tryd.prog o a w K Q else E := by
  obtain ⟨i0, hi0, hz0, hz1, hz2⟩ := info_parts Tryd.infoD
  have hc : ∀ j u, (BV d)[j]? = some u → w.cell? ((⟨g, 0, none⟩ : Addr).add j) = some u := fun j u hu => by rw [add_none, cell_of_row w g _ _ _ _ hd]; simpa using hu
  refine step_append_lies w hgd s x 26 ho B 24 i0 _ 32 32 Tryd.underlying26 hi0 hz0 hz1 hz2 rfl (by decide) v l.length (l.flatMap BV) hs hown ⟨g, 0, none⟩ 1 1 (BV d) hx (by rw [BV_length, h32]) hc (BV_one d) (by omega) (by unfold maxLen; omega) (by omega) hB _ rfl ?_
  intro g' cap w1 h1 h2 h3 _
  refine h _ w1 ?_ ((Below.refl B w).grown h2 hB (fun k e => (World.ownsRow.lt hown k e).1))
  unfold OD
  rw [List.length_append, List.flatMap_append, List.flatMap_singleton]
  exact h1

theorem fold_zip (l : List Value) : ∀ (k : Nat) (z : Array Value), z.size = k + l.length → (l.zipIdx k).foldl (fun cs x => cs.setIfInBounds x.snd x.fst) z = (z.toList.take k ++ l).toArray := by
  induction l with
  | nil =>
    intro k z h
    apply Array.toList_inj.1
    simp only [List.zipIdx_nil, List.foldl_nil, List.append_nil]
    rw [List.take_of_length_le (by simp at h; simp [h])]
  | cons x l ih =>
    intro k z h
    rw [List.zipIdx_cons, List.foldl_cons, ih (k + 1) _ (by simp at h ⊢; omega)]
    apply Array.toList_inj.1
    simp only [Array.toList_setIfInBounds]
    have hk : k < z.toList.length := by simp at h ⊢; omega
    rw [List.take_add_one, List.take_set_of_le (Nat.le_refl _), List.getElem?_set_self hk]
    simp
/-- A slice of one digest is built: its cells. -/
theorem one_cells {d : List UInt8} (h : d.length = 32) : (BV d).zipIdx.foldl (fun cs x => cs.setIfInBounds x.snd x.fst) #[.int .u8 0, .int .u8 0, .int .u8 0, .int .u8 0, .int .u8 0, .int .u8 0, .int .u8 0, .int .u8 0, .int .u8 0, .int .u8 0, .int .u8 0, .int .u8 0, .int .u8 0, .int .u8 0, .int .u8 0, .int .u8 0, .int .u8 0, .int .u8 0, .int .u8 0, .int .u8 0, .int .u8 0, .int .u8 0, .int .u8 0, .int .u8 0, .int .u8 0, .int .u8 0, .int .u8 0, .int .u8 0, .int .u8 0, .int .u8 0, .int .u8 0, .int .u8 0] = (BV d).toArray := by
  rw [fold_zip (BV d) 0 _ (by rw [BV_length, h]; rfl)]
  rfl
/-- What pathTo does at a list. -/
def PathAt (l : List (List UInt8)) : Prop := ∀ (i : Nat) (w : World) (a : Option Addr) (cap : Nat), i < l.length → RD w w.heap.size l a cap → KT w → 0 < w.heap.size → Calls Tryd.prog 25 #[.slice a l.length cap, .int .i64 i] w fun e w' => ∃ v, e = .returned v ∧ OD w' w.heap.size v (pathH l i) ∧ Below w.heap.size w w'

attribute [local irreducible] Calls
set_option maxRecDepth 100000 in
set_option maxHeartbeats 4000000 in
theorem path_two (l : List (List UInt8)) (h2 : 2 ≤ l.length) (hm : l.length ≤ 1000000000) (ih1 : PathAt (l.take (half l.length))) (ih2 : PathAt (l.drop (half l.length))) : PathAt l := by
  intro i w a cap hil hR hK h0
  have hKH := Lib.hid hK
  have hb := half_bounds l.length h2 (by omega)
  obtain ⟨a1, hs1, hR1⟩ := hR.to (k := half l.length) (by omega)
  obtain ⟨a2, hs2, hR2⟩ := hR.from_ (k := half l.length) (by omega)
  have hlt : (l.take (half l.length)).length = half l.length := by rw [List.length_take]; omega
  have hld : (l.drop (half l.length)).length = l.length - half l.length := List.length_drop
  have hF := first_any l.length h2 (by omega)
  have hcap : l.length ≤ cap := hR.1
  have hfin := pathH_two l i h2 (by omega)
  have p1 := ih1 i
  have p2 := ih2 (i - half l.length)
  have t1 := Tree_any (l.take (half l.length)) (by omega)
  have t2 := Tree_any (l.drop (half l.length)) (by omega)
  rw [hlt] at p1 t1
  rw [hld] at p2 t2
  have hlA := treeH_length (l.take (half l.length))
  have hlB := treeH_length (l.drop (half l.length))
  have sA := DV_size hlA
  have sB := DV_size hlB
  have oA := one_cells hlA
  have oB := one_cells hlB
  have n1 := pathH_length _ (l.take (half l.length)) i (Nat.le_refl _) (by omega)
  have n2 := pathH_length _ (l.drop (half l.length)) (i - half l.length) (Nat.le_refl _) (by omega)
  rw [hlt] at n1
  rw [hld] at n2
  generalize treeH (l.take (half l.length)) = dA at t1 hfin hlA sA oA
  generalize treeH (l.drop (half l.length)) = dB at t2 hfin hlB sB oB
  generalize pathH (l.take (half l.length)) i = pA at p1 hfin n1
  generalize pathH (l.drop (half l.length)) (i - half l.length) = pB at p2 hfin n2
  generalize half l.length = k at *
  have hF' := Lib.hid hF
  have p1' := Lib.hid p1
  have p2' := Lib.hid p2
  have t1' := Lib.hid t1
  have t2' := Lib.hid t2
  have hR1' := Lib.hid hR1
  have hR2' := Lib.hid hR2
  have z1 : ((l.length : Int) == 1) = false := beq_eq_false_iff_ne.2 (by omega)
  have k0 : (0 : Int) ≤ k := by omega
  have k1 : (k : Int) ≤ l.length := by omega
  have k2 : (k : Int) ≤ cap := by omega
  have h0d : Below w.heap.size w w.drew := dN (Below.refl _ _) 1
  clear hF p1 p2 t1 t2 hR1 hR2 hK hR ih1 ih2 hlt hld
  go_enter Tryd.func25, Tryd.ntmps25
  go_wp2_with fail
  refine (hF'.out _).mono ?_
  rintro e w1 ⟨rfl, rfl⟩
  by_cases hik : i < k
  · rw [if_pos hik] at hfin
    have hfin' := Lib.hid hfin
    clear hfin
    go_wp2_with fail
    go_region_held3 (fun _ => True) (trivial)
      (first
        | (have hq := ob5; refine step_list (w := w5.alloc (.cells (BV dB).toArray 24)) (by rfl) _ _ (by rfl) w.heap.size v4 pA (by rfl) (OD.below ob5 ((Below.refl _ _).alloc (Nat.le_refl _) (.cells (BV dB).toArray 24))) w5.heap.size dB (by rfl) (heap_alloc_new w5 _) hlB (by omega) (by have := hb5.size; simp; omega) ?_; intro v6 w6 ob6 hb6; have hb7 := Below.trans (hb5.alloc hb5.size (.cells (BV dB).toArray 24)) hb6)
        | (go_at_call 8; have hq := ob4; refine (t2'.out w4 a2 (cap - k) (hR2'.out.below hb4) (hKH.out.below hb4 h0) (Nat.lt_of_lt_of_le h0 hb4.size)).mono ?_; rintro e w5 ⟨rfl, hb5'⟩; have hb5 := Below.trans hb4 (Below.mono hb5' hb4.size); have ob5 := OD.below ob4 hb5'; clear ob4)
        | (go_at_call 25; refine (p1'.out w.drew a1 cap hik (hR1'.out.below h0d) (hKH.out.below h0d h0) h0).mono ?_; rintro e w4 ⟨v4, rfl, ob4, hb4'⟩; have ob4 : OD w4 w.heap.size v4 pA := ob4; have hb4 : Below w.heap.size w w4 := Below.trans h0d hb4'))
    go_wp2_with fail
    go_ret
    exact ⟨v6, rfl, by rw [hfin'.out]; exact ob6, hb7⟩
  · rw [if_neg hik] at hfin
    have hfin' := Lib.hid hfin
    have hki : k ≤ i := by omega
    have hw : IntKind.i64.wrap ((i : Int) - k) = i - k := IntWalk.i64_in _ (by omega)
    have hnk : ¬ ((i : Int) < k) := by omega
    have p2 := p2'.out
    rw [show ((i - k : Nat) : Int) = (i : Int) - k by omega] at p2
    have p2' := Lib.hid p2
    clear hfin p2
    go_wp2_with fail
    go_region_held3 (fun _ => True) (trivial)
      (first
        | (have hq := ob5; refine step_list (w := w5.alloc (.cells (BV dA).toArray 24)) (by rfl) _ _ (by rfl) w.heap.size v4 pB (by rfl) (OD.below ob5 ((Below.refl _ _).alloc (Nat.le_refl _) (.cells (BV dA).toArray 24))) w5.heap.size dA (by rfl) (heap_alloc_new w5 _) hlA (by omega) (by have := hb5.size; simp; omega) ?_; intro v6 w6 ob6 hb6; have hb7 := Below.trans (hb5.alloc hb5.size (.cells (BV dA).toArray 24)) hb6)
        | (go_at_call 8; have hq := ob4; refine (t1'.out w4 a1 cap (hR1'.out.below hb4) (hKH.out.below hb4 h0) (Nat.lt_of_lt_of_le h0 hb4.size)).mono ?_; rintro e w5 ⟨rfl, hb5'⟩; have hb5 := Below.trans hb4 (Below.mono hb5' hb4.size); have ob5 := OD.below ob4 hb5'; clear ob4)
        | (go_at_call 25; refine (p2'.out w.drew a2 (cap - k) (by omega) (hR2'.out.below h0d) (hKH.out.below h0d h0) h0).mono ?_; rintro e w4 ⟨v4, rfl, ob4, hb4'⟩; have ob4 : OD w4 w.heap.size v4 pB := ob4; have hb4 : Below w.heap.size w w4 := Below.trans h0d hb4'))
    go_wp2_with fail
    go_ret
    exact ⟨v6, rfl, by rw [hfin'.out]; exact ob6, hb7⟩

theorem path_one (d : List UInt8) : PathAt [d] := by
  intro i w a cap hi hR hK h0
  have hi0 : i = 0 := by simp at hi; exact hi
  subst hi0
  rw [pathH_one [d] 0 (by simp)]
  go_enter Tryd.func25, Tryd.ntmps25
  go_wp2_with fail
  go_ret
  exact ⟨_, rfl, OD.nil _ _, Below.refl _ _⟩

theorem Path_all (n : Nat) : ∀ l : List (List UInt8), l.length ≤ n → l.length ≤ 1000000000 → PathAt l := by
  induction n with
  | zero =>
    intro l h _ i w a cap hi
    omega
  | succ n ih =>
    intro l h hm
    match l, h, hm with
    | [], _, _ => exact fun i w a cap hi => by simp at hi
    | [d], _, _ => exact path_one d
    | x :: y :: r, h, hm =>
      have h2 : 2 ≤ (x :: y :: r).length := by simp
      have hb := half_bounds (x :: y :: r).length h2 (by omega)
      exact path_two _ h2 hm (ih _ (by rw [List.length_take]; omega) (by rw [List.length_take]; omega)) (ih _ (by rw [List.length_drop]; omega) (by rw [List.length_drop]; omega))

set_option maxRecDepth 100000 in
/-- Path, of an index of the list. -/
theorem Path_in (l : List (List UInt8)) (hm : l.length ≤ 1000000000) (i : Nat) (hi : i < l.length) (w : World) (a : Option Addr) (cap : Nat) (hR : RD w w.heap.size l a cap) (hK : KT w) (h0 : 0 < w.heap.size) :
    Calls Tryd.prog 10 #[.slice a l.length cap, .int .i64 i] w fun e w' => ∃ v, e = .returned (.tuple #[v, .int .i64 0]) ∧ OD w' w.heap.size v (pathH l i) ∧ Below w.heap.size w w' := by
  have hP := Path_all l.length l (Nat.le_refl _) hm i w a cap hi hR hK h0
  have hP' := Lib.hid hP
  have h1 : ¬ ((l.length : Int) ≤ i) := by omega
  have h2 : ¬ ((i : Int) < 0) := by omega
  clear hP
  go_enter Tryd.func10, Tryd.ntmps10
  go_wp2_with fail
  refine hP'.out.mono ?_
  rintro e w1 ⟨v1, rfl, ob, hb⟩
  go_wp2_with fail
  go_ret2
  exact ⟨v1, rfl, ob, hb⟩
set_option maxRecDepth 100000 in
/-- Path, of an index that is not one of the list. -/
theorem Path_out (n : Nat) (i : Int) (hi : i < 0 ∨ n ≤ i) (w : World) (a : Option Addr) (cap : Nat) :
    Calls Tryd.prog 10 #[.slice a n cap, .int .i64 i] w fun e w' => e = .returned (.tuple #[.slice none 0 0, .int .i64 1]) ∧ w = w' := by
  go_enter Tryd.func10, Tryd.ntmps10
  rcases hi with hi | hi
  · go_wp2_with fail
    go_ret2
    exact ⟨rfl, rfl⟩
  · by_cases hi2 : i < 0
    · go_wp2_with fail
      go_ret2
      exact ⟨rfl, rfl⟩
    · go_wp2_with fail
      go_ret2
      exact ⟨rfl, rfl⟩
end Go.Proofs.YtjfoihlelkfaoaaDoor
