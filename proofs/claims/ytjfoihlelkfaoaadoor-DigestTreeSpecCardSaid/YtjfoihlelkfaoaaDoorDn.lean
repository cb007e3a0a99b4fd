/- The way down to an element: descent. -/
import Derived.Test.YtjfoihlelkfaoaaDoorTr
namespace Go.Proofs.YtjfoihlelkfaoaaDoor
open Go.RowKit

def descF : Nat → Nat → Nat → List Bool
  | 0, _, _ => []
  | f + 1, i, n => if n ≤ 1 then [] else decide (half n ≤ i) :: (if i < half n then descF f i (half n) else descF f (i - half n) (n - half n))
/-- For each step from the root down: does it lead into the second part? -/
def desc (i n : Nat) : List Bool := descF n i n
theorem descF_enough (f : Nat) : ∀ (g i n : Nat), n ≤ f → n ≤ g → n ≤ 4611686018427387904 → descF f i n = descF g i n := by
  induction f with
  | zero =>
    intro g i n h _ _
    cases g with
    | zero => rfl
    | succ g => rw [descF, descF, if_pos (by omega)]
  | succ f ih =>
    intro g i n h1 h2 h3
    cases g with
    | zero => rw [descF, descF, if_pos (by omega)]
    | succ g =>
      rw [descF, descF]
      split
      · rfl
      · have hb := half_bounds n (by omega) (by omega)
        rw [ih g i (half n) (by omega) (by omega) (by omega), ih g (i - half n) (n - half n) (by omega) (by omega) (by omega)]
theorem desc_one (i n : Nat) (h : n ≤ 1) : desc i n = [] := by
  unfold desc
  match n, h with
  | 0, _ => rfl
  | 1, _ => rfl
theorem desc_step (i n : Nat) (h : 2 ≤ n) (hm : n ≤ 4611686018427387904) : desc i n = decide (half n ≤ i) :: (if i < half n then desc i (half n) else desc (i - half n) (n - half n)) := by
  have hb := half_bounds n h (by omega)
  obtain ⟨m, rfl⟩ : ∃ m, n = m + 1 := ⟨n - 1, by omega⟩
  unfold desc
  rw [descF, if_neg (by omega), descF_enough m (half (m + 1)) i (half (m + 1)) (by omega) (by omega) (by omega), descF_enough m (m + 1 - half (m + 1)) (i - half (m + 1)) (m + 1 - half (m + 1)) (by omega) (by omega) (by omega)]
theorem desc_length (f : Nat) : ∀ i n, n ≤ f → n ≤ 4611686018427387904 → (desc i n).length ≤ n := by
  induction f with
  | zero => intro i n h _; rw [desc_one i n (by omega)]; simp
  | succ f ih =>
    intro i n h hm
    by_cases h2 : 2 ≤ n
    · have hb := half_bounds n h2 (by omega)
      rw [desc_step i n h2 hm, List.length_cons]
      split
      · have := ih i (half n) (by omega) (by omega); omega
      · have := ih (i - half n) (n - half n) (by omega) (by omega); omega
    · rw [desc_one i n (by omega)]; simp

def BB (l : List Bool) : List Value := l.map .bool
/-- A row of bools of the call's own. -/
def OBo (w : World) (B : Nat) (v : Value) (l : List Bool) : Prop := w.ownsRow B 4 1 v l.length (BB l)
theorem Tryd.infoB : (Tryd.prog.info? 4).map (fun i => (i.zero, i.size, i.bytes)) = some (some (.bool false), 1, 1) := by kernel_rfl

set_option maxRecDepth 100000 in
set_option maxHeartbeats 2000000 in
theorem descent_any (i n : Nat) (hn : n ≤ 1099511627776) (hi : i < n ∨ n = 0) (w : World) : Calls Tryd.prog 27 #[.int .i64 i, .int .i64 n] w fun e w' => ∃ v, e = .returned v ∧ OBo w' w.heap.size v (desc i n) ∧ Below w.heap.size w w' := by
  have hlen := desc_length n i n (Nat.le_refl _) (by omega)
  obtain ⟨D, hD⟩ : ∃ D, D = desc i n := ⟨_, rfl⟩
  rw [← hD] at hlen ⊢
  have hD' := Lib.hid hD
  clear hD
  go_enter Tryd.func27, Tryd.ntmps27
  go_wp2_with fail
  go_loopw [0, 1, 4, 5] (fun x y v _ wr => ∃ (i' n' : Nat) (acc : List Bool), x = .int .i64 i' ∧ y = .int .i64 n' ∧ n' ≤ 1099511627776 ∧ (i' < n' ∨ n' = 0) ∧ Hid (D = acc ++ desc i' n') ∧ OBo wr w.heap.size v acc ∧ Below w.heap.size w wr) (fun _ y _ _ _ => (intOf y).toNat)
  case atStart => exact ⟨i, n, [], rfl, rfl, hn, hi, hD'.out, World.ownsRow_nil _ _ _ 1, Below.refl _ _⟩
  case round =>
    obtain ⟨i', n', acc, rfl, rfl, hn', hi', heq, hob, hb⟩ := hrel
    by_cases h2 : 2 ≤ n'
    · have hF := first_any n' h2 (by omega) wr
      have hbd := half_bounds n' h2 (by omega)
      have hst := desc_step i' n' h2 (by omega)
      have hal : acc.length ≤ 1099511627776 := by
        have := congrArg List.length heq.out
        rw [List.length_append] at this
        omega
      generalize half n' = k at *
      have hst' := Lib.hid hst
      have hF' := Lib.hid hF
      clear hst hF
      obtain ⟨i0, hi0, hz0, hz1, hz2⟩ := info_parts Tryd.infoB
      by_cases hlt : i' < k
      · have hd : decide (k ≤ i') = false := by simp; omega
        rw [if_pos hlt, hd] at hst'
        go_wp2_with fail
        refine hF'.out.mono ?_
        rintro e w1 ⟨rfl, rfl⟩
        go_wp2_with (at_builtin; refine wpList_append_lies _ rfl _ _ 46 rfl w.heap.size 4 i0 _ 1 1 Tryd.underlying46 hi0 hz0 hz1 hz2 rfl (by decide) _ _ _ rfl (World.ownsRow.alloc hob _) ⟨wr.heap.size, 0, none⟩ 1 1 [.bool false] rfl rfl (World.news_of_block (cs := #[.bool false]) (heap_alloc_new wr _)) (by simp [Value.oneCell']) (by omega) (by unfold maxLen; omega) (by omega) (by have := hb.size; simp; omega) _ rfl ?_; intro g cz w8 hown hgrow hat hlt8)
        have hB8 := (hb.alloc hb.size (.cells #[.bool false] 4)).grown hgrow (by have := hb.size; simp; omega) (fun g' h => (World.ownsRow.lt hob g' h).1)
        have hown' : OBo w8 w.heap.size (.slice (some ⟨g, 0, none⟩) (acc.length + 1) cz) (acc ++ [false]) := by
          unfold OBo
          rw [List.length_append, List.length_singleton]
          simpa [BB] using hown
        have hB8' := Lib.hid hB8
        clear hown hgrow hat hlt8 hB8
        go_wp2_with fail
        go_roundw
        case rel => exact ⟨i', k, acc ++ [false], rfl, rfl, by omega, .inl hlt, by rw [List.append_assoc, List.singleton_append, ← hst'.out]; exact heq.out, hown', hB8'.out⟩
        case measure => simp [intOf]; omega
      · have hd : decide (k ≤ i') = true := by simp; omega
        rw [if_neg hlt, hd] at hst'
        have hlt2 : k ≤ i' := by omega
        go_wp2_with fail
        refine hF'.out.mono ?_
        rintro e w1 ⟨rfl, rfl⟩
        go_wp2_with (at_builtin; refine wpList_append_lies _ rfl _ _ 46 rfl w.heap.size 4 i0 _ 1 1 Tryd.underlying46 hi0 hz0 hz1 hz2 rfl (by decide) _ _ _ rfl (World.ownsRow.alloc hob _) ⟨wr.heap.size, 0, none⟩ 1 1 [.bool true] rfl rfl (World.news_of_block (cs := #[.bool true]) (heap_alloc_new wr _)) (by simp [Value.oneCell']) (by omega) (by unfold maxLen; omega) (by omega) (by have := hb.size; simp; omega) _ rfl ?_; intro g cz w8 hown hgrow hat hlt8)
        have hB8 := (hb.alloc hb.size (.cells #[.bool true] 4)).grown hgrow (by have := hb.size; simp; omega) (fun g' h => (World.ownsRow.lt hob g' h).1)
        have hown' : OBo w8 w.heap.size (.slice (some ⟨g, 0, none⟩) (acc.length + 1) cz) (acc ++ [true]) := by
          unfold OBo
          rw [List.length_append, List.length_singleton]
          simpa [BB] using hown
        have hB8' := Lib.hid hB8
        clear hown hgrow hat hlt8 hB8
        go_wp2_with fail
        go_roundw
        case rel => exact ⟨i' - k, n' - k, acc ++ [true], by go_num, by go_num, by omega, .inl (by omega), by rw [List.append_assoc, List.singleton_append, ← hst'.out]; exact heq.out, hown', hB8'.out⟩
        case measure => simp [intOf]; omega
    · have hD1 : D = acc := by rw [heq.out, desc_one i' n' (by omega), List.append_nil]
      subst hD1
      go_wp2_with fail
      go_ret
      exact ⟨_, rfl, hob, hb⟩
end Go.Proofs.YtjfoihlelkfaoaaDoor
