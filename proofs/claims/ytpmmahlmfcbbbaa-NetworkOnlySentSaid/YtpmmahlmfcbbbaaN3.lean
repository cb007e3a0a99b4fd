/- slices.SortFunc over links of the call's own, by the program's compare: the contract. -/
import Derived.Test.YtpmmahlmfcbbbaaN2
import Derived.Test.YtpmmahlmfcbbbaaShelf
import Derived.Lib.Walk
namespace Go.Proofs.Ytpmmahlmfcbbbaa
open Go.RowKit
open Go.Sort (flatK get_flatK size_flatK putRowK HoldsK)

set_option maxHeartbeats 800000 in
theorem insSort_none (p : Option Addr) (cap : Nat) (fv : Value) (w : World) :
    Calls Try.prog 52 #[.slice p 0 cap, .int .i64 0, .int .i64 0, fv] w fun e w' => e = .returned (.tuple #[]) ∧ w' = w := by
  go_enter Try.func52, Try.ntmps52
  go_wp2_with fail
  refine wp_loop_rounds 1 ?_
  rw [rounds_succ]
  go_wp2_with fail
  go_end0
  exact ⟨rfl, rfl⟩
set_option maxHeartbeats 800000 in
theorem pdq_none (p : Option Addr) (cap : Nat) (lim : Int) (fv : Value) (w : World) :
    Calls Try.prog 47 #[.slice p 0 cap, .int .i64 0, .int .i64 0, .int .i64 lim, fv] w fun e w' => e = .returned (.tuple #[]) ∧ w' = w := by
  have hi := Lib.hid (insSort_none p cap fv)
  go_enter Try.func47, Try.ntmps47
  go_wp2_with fail
  refine wp_loop_rounds 1 ?_
  rw [rounds_succ]
  go_wp2_with fail
  refine (hi.out _).mono ?_
  rintro e w1 ⟨rfl, rfl⟩
  go_wp2_with fail
  (try simp only [Exit.inBlock, Exit.then]); refine bodyPost_ret (results_none rfl _ _ _) rfl ?_
  exact ⟨rfl, rfl⟩
set_option maxHeartbeats 800000 in
theorem Sort_none (p : Option Addr) (cap : Nat) (fv : Value) (w : World) :
    Calls Try.prog 37 #[.slice p 0 cap, fv] w fun e w' => e = .returned (.tuple #[]) ∧ w' = w := by
  have hb := Lib.hid (fun W => Try.bits_Len 0 W (by omega) (by omega))
  have hp := Lib.hid (fun lim => pdq_none p cap lim fv)
  go_enter Try.func37, Try.ntmps37
  go_wp2_with fail
  refine (hb.out _).mono ?_
  rintro e w1 ⟨rfl, rfl⟩
  go_wp2_with fail
  refine (hp.out _ _).mono ?_
  rintro e w1 ⟨rfl, rfl⟩
  go_wp2_with fail
  go_end0
  exact ⟨rfl, rfl⟩

def encL (x : Int × Int) : List Value := [.int .i64 x.1, .int .i64 x.2]
theorem cmpP_lt (x y : Int × Int) : decide (cmpP x y < 0) = ltP x y := by
  have h := cmpP_ge x y
  cases h2 : ltP x y with
  | true => rw [h2] at h; simp at h; exact decide_eq_true h
  | false => rw [h2] at h; simp at h; exact decide_eq_false (by omega)
theorem ltOf_cmp (x y : Int × Int) : ltOf cmpP x y = ltP x y := by unfold ltOf; exact cmpP_lt x y
theorem swo_cmp : Sort.SWO (ltOf cmpP) where
  irrefl x := by rw [ltOf_cmp]; exact Bool.eq_false_iff.2 (LtP.irrefl x)
  trans x y z h1 h2 := by rw [ltOf_cmp] at *; exact LtP.trans (x := x) (y := y) (z := z) h1 h2
  ntrans x y z h1 h2 := by
    rw [ltOf_cmp] at *
    rw [Bool.eq_false_iff] at *
    intro h3
    rcases LtP.total x y with h | h | h
    · exact h1 h
    · subst h; exact h2 h3
    · exact h2 (LtP.trans (x := y) (y := x) (z := z) h h3)
theorem LV_flat (d : Array (Int × Int)) (t : Nat) (h : t < d.size * 2) : (LV d.toList)[t]? = some (flatK encL 2 d)[t]! := by
  rw [get_flatK encL 2 d t h]
  have hi : t / 2 < d.toList.length := by rw [Array.length_toList]; omega
  obtain ⟨h1, h2⟩ := LV_get d.toList (t / 2) hi
  have hd : d[t / 2]! = d.toList[t / 2] := by rw [getElem!_pos d (t / 2) (by rw [Array.length_toList] at hi; exact hi)]; simp
  rcases (show t % 2 = 0 ∨ t % 2 = 1 by omega) with m | m
  · rw [m, hd]
    rw [show t / 2 * 2 = t by omega] at h1
    rw [h1]; rfl
  · rw [m, hd]
    rw [show t / 2 * 2 + 1 = t by omega] at h2
    rw [h2]; rfl
theorem sw_heap (w : World) (g m : Nat) (os : Array Obj) (d : Array (Int × Int)) (cur : Array Value) (T : TypeId) (hg : w.heap[g]? = some (.cells cur T (0, 0))) :
    (sortWorldK encL 2 w g 0 m d os).heap[g]? = some (.cells (Sort.putCells id 0 (flatK encL 2 d) cur) T (0, 0)) := by
  have hl := (Array.getElem?_eq_some_iff.1 hg).1
  unfold sortWorldK putRowK Sort.putRow Sort.mapBlock Sort.grow Sort.ahead
  simp only [Array.getElem?_append, Array.size_modify, hl, if_true, Array.getElem?_modify, hg]
  rfl
theorem sw_other (w : World) (g m : Nat) (os : Array Obj) (d : Array (Int × Int)) (k : Nat) (hk : k ≠ g) (hl : k < w.heap.size) : (sortWorldK encL 2 w g 0 m d os).heap[k]? = w.heap[k]? := by
  unfold sortWorldK putRowK Sort.putRow Sort.mapBlock Sort.grow Sort.ahead
  simp only [Array.getElem?_append, Array.size_modify, hl, if_true, Array.getElem?_modify]
  rw [if_neg (fun e => hk e.symm)]
theorem sw_size (w : World) (g m : Nat) (os : Array Obj) (d : Array (Int × Int)) : w.heap.size ≤ (sortWorldK encL 2 w g 0 m d os).heap.size := by
  unfold sortWorldK putRowK Sort.putRow Sort.mapBlock Sort.grow Sort.ahead
  simp
/-- Sorting a row of the call's own. -/
theorem Sort_own (ls : List (Int × Int)) (hlen : ls.length ≤ 10000) (w : World) (n0 : Nat) (v : Value) (hown : w.ownsRow n0 55 2 v ls.length (LV ls)) (hn0 : n0 ≤ w.heap.size) :
    ∃ A c, v = .slice A ls.length c ∧ Calls Try.prog 37 #[v, .func (.func 38) #[] #[]] w fun e w' => e = .returned (.tuple #[]) ∧ ∃ d : List (Int × Int), d.length = ls.length ∧ d.Perm ls ∧ (∀ i j (hi : i < d.length) (hj : j < d.length), i < j → ¬ LtP d[j] d[i]) ∧
      w'.ownsRow n0 55 2 v d.length (LV d) ∧ Below n0 w w' ∧ (∀ (B : Nat) (cs : Array Value) (T : TypeId), T ≠ 55 → w.heap[B]? = some (.cells cs T (0, 0)) → w'.heap[B]? = some (.cells cs T (0, 0))) ∧ KeepsOthers w w' := by
  by_cases h0 : ls.length = 0
  · have : ls = [] := List.eq_nil_of_length_eq_zero h0
    subst this
    have hf : ∃ A c, v = .slice A 0 c := by
      rcases hown.2 with ⟨rfl, -⟩ | ⟨g, cap, cur, rfl, -⟩
      · exact ⟨_, _, rfl⟩
      · exact ⟨_, _, rfl⟩
    obtain ⟨A, c, rfl⟩ := hf
    refine ⟨A, c, rfl, (Sort_none A c _ w).mono ?_⟩
    rintro e w' ⟨rfl, rfl⟩
    exact ⟨rfl, [], rfl, List.Perm.refl _, fun i j hi => absurd hi (by simp), hown, Below.refl _ _, fun _ _ _ _ h => h, KeepsOthers.refl _⟩
  · rcases hown.2 with ⟨-, h⟩ | ⟨g, cap, cur, rfl, hg0, hg, hc, hm, hcs, ht⟩
    · exact absurd h h0
    · have hgl := (Array.getElem?_eq_some_iff.1 hg).1
      refine ⟨_, _, rfl, ?_⟩
      have hd0 : ls.toArray.size = ls.length := by simp
      have hH : HoldsK encL 2 w g 0 ls.toArray := fun j hj => by
        rw [size_flatK, hd0] at hj
        have h1 := LV_flat ls.toArray j (by rw [hd0]; exact hj)
        have h2 := World.ownsRow.cells hown (g := g) rfl j _ h1
        rw [add_none, Nat.zero_add] at h2
        rw [Nat.zero_add]
        exact ⟨h2, frozen_of_row w g j _ _ hg⟩
      have hcon := Try.slices_SortFunc 2 Try.isAgg55 Try.sizeOf55 encL (fun _ => rfl) (fun x v hv => by simp [encL] at hv; rcases hv with rfl | rfl <;> rfl) cmpP swo_cmp 38 #[] g 0 cap ls.toArray w
        (enters_of Try.func38 (by kernel_rfl) rfl) (fun m os dk hs x y => compare_any x y _) hH hgl (by rw [hd0]; omega)
      rw [hd0] at hcon
      refine hcon.mono ?_
      rintro e w' ⟨rfl, d', m, os, hp, hs, rfl⟩
      have hz : d'.size = ls.length := hp.1.trans hd0
      refine ⟨rfl, d'.toList, by rw [Array.length_toList, hz], ?_, fun i j hi hj hij h => ?_, ?_, ?_, fun B cs T hT hB => ?_, ⟨sw_size _ _ _ _ _, fun k o hk ho => ?_⟩⟩
      · have e0 : ∀ (a : Array (Int × Int)), a.extract 0 a.size = a := fun a => by simp
        have h1 : (d'.extract 0 d'.size).toList.Perm (ls.toArray.extract 0 ls.toArray.size).toList := by rw [hz, hd0]; exact hp.2.2
        rw [e0, e0] at h1
        exact h1
      · rw [Array.length_toList] at hi hj
        have h1 := hs i j (Nat.zero_le _) hij (by omega)
        rw [ltOf_cmp, getElem!_pos d' j hj, getElem!_pos d' i hi] at h1
        have h2 : ltP d'[j] d'[i] = true := h
        rw [h1] at h2
        cases h2
      · refine ⟨by rw [LV_len], .inr ⟨g, cap, _, by rw [show d'.toList.length = ls.length from Array.length_toList.trans hz], hg0, sw_heap w g m os d' cur _ hg, by rw [show d'.toList.length = ls.length from Array.length_toList.trans hz]; exact hc, hm, by unfold Sort.putCells; rw [Array.size_mapIdx, hcs], ?_⟩⟩
        apply List.ext_getElem?
        intro t
        by_cases ht2 : t < d'.size * 2
        · rw [List.getElem?_take_of_lt (by rw [Array.length_toList]; exact ht2), LV_flat d' t ht2, Array.getElem?_toList]
          unfold Sort.putCells
          rw [Array.getElem?_mapIdx, Array.getElem?_eq_getElem (by rw [hcs]; omega)]
          simp only [Option.map_some, Nat.sub_zero, size_flatK, id]
          rw [if_pos ⟨Nat.zero_le _, by omega⟩]
        · rw [List.getElem?_eq_none (by rw [List.length_take, Array.length_toList]; omega), List.getElem?_eq_none (by rw [LV_len, Array.length_toList]; omega)]
      · exact ⟨rfl, rfl, rfl, sw_size _ _ _ _ _, fun k hk => sw_other w g m os d' k (by omega) (by omega)⟩
      · exact (sw_other w g m os d' B (fun e => by subst e; rw [hg] at hB; injection hB with hB; injection hB with _ e2 _; exact hT e2.symm) (Array.getElem?_eq_some_iff.1 hB).1).trans hB
      · exact (sw_other w g m os d' k (fun e => by subst e; rw [hg] at hk; injection hk with hk; subst hk; cases ho) (Array.getElem?_eq_some_iff.1 hk).1).trans hk
end Go.Proofs.Ytpmmahlmfcbbbaa
