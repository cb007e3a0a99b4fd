/- The reference's Head and Check. -/
import Derived.Test.YtbhpmeljmkoebaaDoorWd
import Derived.Test.YtbhpmeljmkoebaaDoorVl
namespace Go.Proofs.YtbhpmeljmkoebaaDoor
open Go.RowKit

set_option maxRecDepth 100000 in
theorem Text_nil (w : World) (A : Option Addr) (cap : Nat) :
    Calls Tryd.prog 33 #[.slice A 0 cap] w fun e w' => e = .returned (.tuple #[.string noneB, .slice none 0 0]) ∧ Below w.heap.size w w' := by
  have hB := Below.refl w.heap.size w
  go_enter Tryd.func33, Tryd.ntmps33
  go_wp2_with fail
  go_ret2
  exact ⟨rfl, hB⟩
set_option maxRecDepth 100000 in
set_option maxHeartbeats 2000000 in
theorem rHead_any (l : List Lk) (hl : Short l) (hm : l.length ≤ 1000000000) (w : World) (a : Option Addr) (cap : Nat) (hQ : QL w w.heap.size l a cap) :
    Calls Tryd.prog 25 #[.slice a l.length cap] w fun e w' => e = .returned (.agg (BV (headP l)).toArray) ∧ Below w.heap.size w w' := by
  have hb := bel1 w (.cells #[.int .u8 0, .int .u8 0, .int .u8 0, .int .u8 0, .int .u8 0, .int .u8 0, .int .u8 0, .int .u8 0, .int .u8 0, .int .u8 0, .int .u8 0, .int .u8 0, .int .u8 0, .int .u8 0, .int .u8 0, .int .u8 0, .int .u8 0, .int .u8 0, .int .u8 0, .int .u8 0, .int .u8 0, .int .u8 0, .int .u8 0, .int .u8 0, .int .u8 0, .int .u8 0, .int .u8 0, .int .u8 0, .int .u8 0, .int .u8 0, .int .u8 0, .int .u8 0] 35)
  have hz := zero_new w
  rcases List.eq_nil_or_concat l with rfl | ⟨r, x, rfl⟩
  · have hT := Lib.hid (Text_nil (w.alloc (.cells #[.int .u8 0, .int .u8 0, .int .u8 0, .int .u8 0, .int .u8 0, .int .u8 0, .int .u8 0, .int .u8 0, .int .u8 0, .int .u8 0, .int .u8 0, .int .u8 0, .int .u8 0, .int .u8 0, .int .u8 0, .int .u8 0, .int .u8 0, .int .u8 0, .int .u8 0, .int .u8 0, .int .u8 0, .int .u8 0, .int .u8 0, .int .u8 0, .int .u8 0, .int .u8 0, .int .u8 0, .int .u8 0, .int .u8 0, .int .u8 0, .int .u8 0, .int .u8 0] 35)) a cap)
    have hs := Lib.hid (DV_size noneH_len)
    clear hQ
    rw [show headP [] = noneH from rfl, show ([] : List Lk).length = 0 from rfl]
    go_enter Tryd.func25, Tryd.ntmps25
    go_wp2_with fail
    refine hT.out.mono ?_
    rintro e w1 ⟨rfl, hb1⟩
    have hz1 : w1.heap[w.heap.size]? = some (.cells (BV zeroD).toArray 35 (0, 0)) := blk_at hz hb1
    have hB1 := hb.trans (hb1.mono hb.size)
    have hTg := Lib.hid (rTagged_any noneB (by decide +kernel) [] (by simp) w1 none 0 (fun h => absurd h (by simp)) (fun _ => rfl))
    clear hT hb hz hb1
    go_wp2_with fail
    refine hTg.out.mono ?_
    rintro e w2 ⟨rfl, hb2⟩
    have hz2 : w2.heap[w.heap.size]? = some (.cells (BV zeroD).toArray 35 (0, 0)) := blk_at hz1 hb2
    have hB2 := hB1.trans (hb2.mono hB1.size)
    rw [show tagH noneB.data.toList [] = noneH from rfl]
    clear hTg hz1 hb2 hB1
    go_wp2_with (refine wpList_store_row rfl 35 _ _ rfl w.heap.size _ rfl rfl 35 _ hz2 ?cj ?cl ?ck ?_
                 case cj => rw [Tryd.iD]; exact congrArg some hs.out.symm
                 case cl => rw [hs.out]; rfl
                 case ck => exact BV_all _)
    have hrow := setRow_heap w2 w.heap.size _ (BV noneH).toArray _ _ hz2
    exact bodyPost_ret (results_cell_row rfl _ _ w.heap.size 35 _ (0, 0) _ rfl hrow Tryd.uD rfl (by rw [Tryd.iD, hs.out])) rfl
      ⟨rfl, below_row hB2 _ (Nat.le_refl _) hB2.size⟩
  · rw [List.concat_eq_append] at hl hQ hm ⊢
    rw [headP_snoc]
    have hT := Lib.hid (Text_any (r ++ [x]) hl hm r x rfl (w.alloc (.cells #[.int .u8 0, .int .u8 0, .int .u8 0, .int .u8 0, .int .u8 0, .int .u8 0, .int .u8 0, .int .u8 0, .int .u8 0, .int .u8 0, .int .u8 0, .int .u8 0, .int .u8 0, .int .u8 0, .int .u8 0, .int .u8 0, .int .u8 0, .int .u8 0, .int .u8 0, .int .u8 0, .int .u8 0, .int .u8 0, .int .u8 0, .int .u8 0, .int .u8 0, .int .u8 0, .int .u8 0, .int .u8 0, .int .u8 0, .int .u8 0, .int .u8 0, .int .u8 0] 35)) a cap (hQ.lift hb hb.size))
    have hlen : (txtL x).length ≤ 900000 := txt_le (hQ.fine x (by simp)) (hl x (by simp))
    have hs := Lib.hid (DV_size (headX_len x))
    clear hQ hl hm
    generalize (r ++ [x]).length = N at *
    go_enter Tryd.func25, Tryd.ntmps25
    go_wp2_with fail
    refine hT.out.mono ?_
    rintro e w1 ⟨⟨v, rfl, ho⟩, hb1⟩
    obtain ⟨a1, c1, rfl, -⟩ := ho.form
    have hz1 : w1.heap[w.heap.size]? = some (.cells (BV zeroD).toArray 35 (0, 0)) := blk_at hz hb1
    have hB1 := hb.trans (hb1.mono hb.size)
    have hTg := Lib.hid (rTagged_any linkB (by decide +kernel) (txtL x) hlen w1 a1 c1 ho.reads.1 (none_of ho))
    clear hT hb hz hb1 ho hlen
    go_wp2_with fail
    refine hTg.out.mono ?_
    rintro e w2 ⟨rfl, hb2⟩
    have hz2 : w2.heap[w.heap.size]? = some (.cells (BV zeroD).toArray 35 (0, 0)) := blk_at hz1 hb2
    have hB2 := hB1.trans (hb2.mono hB1.size)
    rw [show tagH linkB.data.toList (txtL x) = headX x from rfl]
    clear hTg hz1 hb2 hB1
    go_wp2_with (refine wpList_store_row rfl 35 _ _ rfl w.heap.size _ rfl rfl 35 _ hz2 ?cj ?cl ?ck ?_
                 case cj => rw [Tryd.iD]; exact congrArg some hs.out.symm
                 case cl => rw [hs.out]; rfl
                 case ck => exact BV_all _)
    have hrow := setRow_heap w2 w.heap.size _ (BV (headX x)).toArray _ _ hz2
    exact bodyPost_ret (results_cell_row rfl _ _ w.heap.size 35 _ (0, 0) _ rfl hrow Tryd.uD rfl (by rw [Tryd.iD, hs.out])) rfl
      ⟨rfl, below_row hB2 _ (Nat.le_refl _) hB2.size⟩

/-- The parts of what the reference asks of a link. -/
theorem okAt_parts {l : List Lk} {k : Nat} (h : k < l.length) (hs : Short l) : okAt l k = (decide (0 ≤ l[k].node) && (decide (l[k].node < 24) && (l[k].node == (l[0]'(by omega)).node && (l[k].no == (k : Int) && l[k].prev == headP (l.take k))))) := by
  have hd : decide (l[k].data.length ≤ 65536) = true := decide_eq_true (hs _ (List.getElem_mem h))
  have hlen : (l.take k).length = k := by rw [List.length_take]; omega
  have hb : belongsP (l.take k) l[k].node = (l[k].node == (l[0]'(by omega)).node) := by
    cases k with
    | zero => simp [belongsP]
    | succ k =>
      cases l with
      | nil => simp at h
      | cons y r =>
        show (y.node == _) = _
        simp only [List.getElem_cons_zero]
        rw [Bool.eq_iff_iff, beq_iff_eq, beq_iff_eq]
        exact ⟨Eq.symm, Eq.symm⟩
  rw [okAt_eq h]
  unfold followsP isNodeP
  rw [hd, hb, hlen, Bool.and_true, Bool.decide_and, Bool.and_assoc]
  congr 3
end Go.Proofs.YtbhpmeljmkoebaaDoor
