/- What Add gives, plainly; sane. -/
import Derived.Test.YtbhpmeljmkoebaaDoorVk
namespace Go.Proofs.YtbhpmeljmkoebaaDoor
open Go.RowKit

theorem okAt_append {l : List Lk} {y : Lk} {i : Nat} (h : i < l.length) : okAt (l ++ [y]) i = okAt l i := by
  rw [okAt_eq h, okAt_eq (by simp; omega), List.take_append_of_le_length (by omega), List.getElem_append_left h]
theorem okAt_last (l : List Lk) (y : Lk) : okAt (l ++ [y]) l.length = followsP l (headP l) y := by
  rw [okAt_eq (by simp)]
  simp
theorem chain_ok {l : List Lk} (h : chkP l = 0) : ∀ i, i < l.length → okAt l i = true := by
  unfold chkP at h
  split at h
  · rename_i hc
    exact fun i hi => List.all_eq_true.1 hc i (List.mem_range.2 hi)
  · omega
theorem chain_snoc {l : List Lk} {y : Lk} (h : chkP l = 0) (hy : followsP l (headP l) y = true) : chkP (l ++ [y]) = 0 := by
  refine chk_good fun i hi => ?_
  by_cases hil : i < l.length
  · rw [okAt_append hil]; exact chain_ok h i hil
  · obtain rfl : i = l.length := by simp at hi; omega
    rw [okAt_last]; exact hy
theorem chain_take {l : List Lk} (h : chkP l = 0) (k : Nat) : chkP (l.take k) = 0 := by
  refine chk_good fun i hi => ?_
  rw [List.length_take] at hi
  have := chain_ok h i (by omega)
  rw [okAt_eq (by omega)] at this
  rw [okAt_eq (by rw [List.length_take]; omega), List.take_take, List.getElem_take, Nat.min_eq_left (by omega)]
  exact this
theorem add_follows {l : List Lk} {node : Int} {d : List UInt8} (h : addOk l node d.length = true) : followsP l (headP l) ⟨node, l.length, headP l, d⟩ = true := by
  unfold addOk at h
  unfold followsP
  simp only [Bool.and_eq_true] at h ⊢
  refine ⟨h.1, h.2.1, by simp, by simp, h.2.2⟩
theorem Add_good (l : List Lk) (hl : Short l) (hm : l.length ≤ 1000) (node : Int) (hn : I64 node) (d : List UInt8) (hc : chkP l = 0) (hok : addOk l node d.length = true) (n m : Nat) (hln : l.length = n) (hdm : d.length = m) (w : World) (a A : Option Addr) (cap c : Nat)
    (hQ : QL w w.heap.size l a cap) (hR : RBs w w.heap.size A d) (hKT : KT w) (h0 : 0 < w.heap.size) :
    Calls Tryd.prog 10 #[.slice a n cap, .int .i64 node, .slice A m c] w fun e w' => (∃ a' c', e = .returned (.tuple #[.slice a' (n + 1) c', .int .i64 0]) ∧ QL w' w'.heap.size (l ++ [⟨node, l.length, headP l, d⟩]) a' c') ∧ Below w.heap.size w w' := by
  subst hln hdm
  refine (Add_any l hl hm node hn d w a A cap c hQ hR hKT h0).mono ?_
  rintro e w' ⟨⟨v, rfl, a', c', rfl, hq⟩, hb⟩
  have hL : addL l node d = l ++ [⟨node, l.length, headP l, d⟩] := by unfold addL addP; rw [if_pos ⟨hc, hok⟩]
  have hE : addE l node d.length = 0 := by unfold addE; rw [if_pos hc, if_pos hok]
  rw [hL] at hq
  refine ⟨⟨a', c', ?_, hq⟩, hb⟩
  rw [hE, hL]; simp
theorem Add_bad (l : List Lk) (hl : Short l) (hm : l.length ≤ 1000) (node : Int) (hn : I64 node) (d : List UInt8) (hc : chkP l = 0) (hok : addOk l node d.length = false) (n m : Nat) (hln : l.length = n) (hdm : d.length = m) (w : World) (a A : Option Addr) (cap c : Nat)
    (hQ : QL w w.heap.size l a cap) (hR : RBs w w.heap.size A d) (hKT : KT w) (h0 : 0 < w.heap.size) :
    Calls Tryd.prog 10 #[.slice a n cap, .int .i64 node, .slice A m c] w fun e w' => (∃ a' c', e = .returned (.tuple #[.slice a' 0 c', .int .i64 1])) ∧ Below w.heap.size w w' := by
  subst hln hdm
  refine (Add_any l hl hm node hn d w a A cap c hQ hR hKT h0).mono ?_
  rintro e w' ⟨⟨v, rfl, a', c', rfl, hq⟩, hb⟩
  have hL : addL l node d = [] := by unfold addL addP; rw [if_neg (by rw [hok]; simp)]
  have hE : addE l node d.length = 1 := by unfold addE; rw [if_pos hc, if_neg (by rw [hok]; simp)]
  refine ⟨⟨a', c', ?_⟩, hb⟩
  rw [hE, hL]; rfl

def l1 : Lk := ⟨3, 0, noneH, [120]⟩
def l2 : Lk := ⟨3, 1, headX l1, [121]⟩
def l3 : Lk := ⟨3, 1, headX l1, [122]⟩
theorem s_add1 : addOk [] 3 1 = true := rfl
theorem s_chk0 : chkP [] = 0 := rfl
theorem s_chk1 : chkP [l1] = 0 := chain_snoc (l := []) s_chk0 (add_follows (l := []) (node := 3) (d := [120]) s_add1)
theorem s_add2 : addOk [l1] 3 1 = true := rfl
theorem s_chk2 : chkP [l1, l2] = 0 := chain_snoc (l := [l1]) s_chk1 (add_follows (l := [l1]) (node := 3) (d := [121]) s_add2)
theorem s_chk3 : chkP [l1, l3] = 0 := chain_snoc (l := [l1]) s_chk1 (add_follows (l := [l1]) (node := 3) (d := [122]) s_add2)
theorem s_add4 : addOk [] 24 0 = false := rfl
theorem s_add5 : addOk [l1] 4 0 = false := rfl
theorem s_dif : sameL l2 l3 = false := by
  have : (l2.data == l3.data) = false := rfl
  simp [sameL, this]
theorem s_part1 : partV [l1, l2] [l1, l3] = #[.int .i64 1, .bool true, .int .i64 0] := by
  have hf : firstD [l1, l2] [l1, l3] 2 = some 1 := firstD_some (by omega) (fun i hi => by
    obtain rfl : i = 0 := by omega
    show (!sameL l1 l1) = false
    rw [sameL_refl]; rfl) (by
    show (!sameL l2 l3) = true
    rw [s_dif]; rfl)
  unfold partV
  rw [if_pos s_chk2, if_pos s_chk3, if_neg (by decide), show partN [l1, l2] [l1, l3] = 2 from rfl, hf]
  rfl
theorem s_part2 : partV [l1] [l1, l2] = #[.int .i64 0, .bool false, .int .i64 0] := by
  have hf : firstD [l1] [l1, l2] 1 = none := firstD_none (fun i hi => by
    obtain rfl : i = 0 := by omega
    show (!sameL l1 l1) = false
    rw [sameL_refl]; rfl)
  unfold partV
  rw [if_pos s_chk1, if_pos s_chk2, if_neg (by decide), show partN [l1] [l1, l2] = 1 from rfl, hf]
  rfl
theorem s_part3 : partV [] [l1] = #[.int .i64 0, .bool false, .int .i64 0] := by
  unfold partV
  rw [if_pos s_chk0, if_pos s_chk1, if_neg (by decide)]
  rfl
/-- The zero link with No 1. -/
def lz : Lk := ⟨0, 1, zeroD, []⟩
theorem s_bad1 : chkP [lz] = 80 := chk_bad (i := 0) (by simp) (by
  rw [okAt_eq (by simp)]
  show followsP [] (headP []) lz = false
  have : decide (lz.no = (([] : List Lk).length : Int)) = false := rfl
  unfold followsP
  rw [this]
  simp)
theorem s_bad2 : chkP [l2] = 80 := chk_bad (i := 0) (by simp) (by
  rw [okAt_eq (by simp)]
  show followsP [] (headP []) l2 = false
  have : decide (l2.no = (([] : List Lk).length : Int)) = false := rfl
  unfold followsP
  rw [this]
  simp)
theorem s_short1 : Short [l1] := fun x hx => by simp at hx; subst hx; decide
theorem s_short2 : Short [l1, l2] := fun x hx => by simp at hx; rcases hx with rfl | rfl <;> decide
theorem s_short3 : Short [l1, l3] := fun x hx => by simp at hx; rcases hx with rfl | rfl <;> decide
theorem s_shortb : Short [l2] := fun x hx => by simp at hx; subst hx; decide
theorem s_shortz : Short [lz] := fun x hx => by simp at hx; subst hx; decide
theorem s_short0 : Short [] := fun x hx => by simp at hx
theorem s_text : txtL l1 = [3, 4, 1, 6, 1, 0, 2, 32] ++ noneH ++ [2, 1, 120] := by
  have hu : (K.uns 3).toNat = 6 := rfl
  have hu0 : (K.uns 0).toNat = 0 := rfl
  have hs : (⟨noneH.toArray⟩ : ByteArray).size = 32 := by show noneH.toArray.size = 32; simp [noneH_len]
  have hs1 : (⟨#[120]⟩ : ByteArray).size = 1 := rfl
  unfold txtL gvL l1
  simp only [K.enc, K.encAll, hu, hu0, hs, hs1, List.length_cons, List.length_nil]
  simp [K.digs_small]
theorem s_tag : tagH linkB.data.toList ([3, 4, 1, 6, 1, 0, 2, 32] ++ noneH ++ [2, 1, 120]) = headX l1 := by
  rw [← s_text]; rfl
end Go.Proofs.YtbhpmeljmkoebaaDoor
