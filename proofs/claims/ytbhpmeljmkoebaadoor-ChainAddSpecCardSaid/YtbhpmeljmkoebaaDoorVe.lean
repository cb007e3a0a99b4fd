/- The head of a chain; a link that follows: Head, follows. -/
import Derived.Test.YtbhpmeljmkoebaaDoorVd
namespace Go.Proofs.YtbhpmeljmkoebaaDoor
open Go.RowKit

theorem Tryd.iL : (Tryd.prog.info? 37).map (·.size) = some 35 := by kernel_rfl
theorem LW_info {x : Lk} {a : Option Addr} {c : Nat} (h : x.prev.length = 32) : (Tryd.prog.info? 37).map (·.size) = some (LW x a c).length := by rw [Tryd.iL, LW_length h]
/-- The data of a list are short. -/
def Short (l : List Lk) : Prop := ∀ x ∈ l, x.data.length ≤ 65536
theorem Short.take {l : List Lk} (h : Short l) (k : Nat) : Short (l.take k) := fun x hx => h x (List.mem_of_mem_take hx)
theorem headP_snoc (r : List Lk) (x : Lk) : headP (r ++ [x]) = headX x := by simp [headP]

set_option maxRecDepth 100000 in
set_option maxHeartbeats 2000000 in
theorem Head_any (l : List Lk) (hl : Short l) (hm : l.length ≤ 1000000000) (w : World) (a : Option Addr) (cap : Nat) (hQ : QL w w.heap.size l a cap) (hKT : KT w) (h0 : 0 < w.heap.size) :
    Calls Tryd.prog 15 #[.slice a l.length cap] w fun e w' => e = .returned (.agg (BV (headP l)).toArray) ∧ Below w.heap.size w w' := by
  have hb := bel1 w (.cells #[.int .u8 0, .int .u8 0, .int .u8 0, .int .u8 0, .int .u8 0, .int .u8 0, .int .u8 0, .int .u8 0, .int .u8 0, .int .u8 0, .int .u8 0, .int .u8 0, .int .u8 0, .int .u8 0, .int .u8 0, .int .u8 0, .int .u8 0, .int .u8 0, .int .u8 0, .int .u8 0, .int .u8 0, .int .u8 0, .int .u8 0, .int .u8 0, .int .u8 0, .int .u8 0, .int .u8 0, .int .u8 0, .int .u8 0, .int .u8 0, .int .u8 0, .int .u8 0] 35)
  have hz := zero_new w
  have hK1 := hKT.below hb h0
  have h01 := Nat.lt_of_lt_of_le h0 hb.size
  rcases List.eq_nil_or_concat l with rfl | ⟨r, x, rfl⟩
  · have hT := Lib.hid (noHead_any (w.alloc (.cells #[.int .u8 0, .int .u8 0, .int .u8 0, .int .u8 0, .int .u8 0, .int .u8 0, .int .u8 0, .int .u8 0, .int .u8 0, .int .u8 0, .int .u8 0, .int .u8 0, .int .u8 0, .int .u8 0, .int .u8 0, .int .u8 0, .int .u8 0, .int .u8 0, .int .u8 0, .int .u8 0, .int .u8 0, .int .u8 0, .int .u8 0, .int .u8 0, .int .u8 0, .int .u8 0, .int .u8 0, .int .u8 0, .int .u8 0, .int .u8 0, .int .u8 0, .int .u8 0] 35)) hK1 h01)
    have hs := Lib.hid (DV_size noneH_len)
    clear hKT hK1 hQ
    rw [show headP [] = noneH from rfl, show ([] : List Lk).length = 0 from rfl]
    go_enter Tryd.func15, Tryd.ntmps15
    go_wp2_with fail
    refine hT.out.mono ?_
    rintro e w2 ⟨rfl, hb2⟩
    have hz2 : w2.heap[w.heap.size]? = some (.cells (BV zeroD).toArray 35 (0, 0)) := blk_at hz hb2
    have hB2 := hb.trans (hb2.mono hb.size)
    clear hT hb hz hb2
    go_wp2_with (refine wpList_store_row rfl 35 _ _ rfl w.heap.size _ rfl rfl 35 _ hz2 ?cj ?cl ?ck ?_
                 case cj => rw [Tryd.iD]; exact congrArg some hs.out.symm
                 case cl => exact hs.out
                 case ck => exact BV_all _)
    have hrow := setRow_heap w2 w.heap.size _ (BV (noneH)).toArray _ _ hz2
    exact bodyPost_ret (results_cell_row rfl _ _ w.heap.size 35 _ (0, 0) _ rfl hrow Tryd.uD rfl (by rw [Tryd.iD, hs.out])) rfl
      ⟨rfl, below_row hB2 _ (Nat.le_refl _) hB2.size⟩
  · rw [List.concat_eq_append] at hl hQ hm ⊢
    rw [headP_snoc]
    obtain ⟨b, off, da, dc, rfl, hbB, hr, hD⟩ := (hQ.lift hb hb.size).at_ (i := r.length) (by simp)
    have hg : (r ++ [x])[r.length] = x := by simp
    rw [hg] at hr hD
    have hf : x.Fine := hQ.fine x (by simp)
    have hd : x.data.length ≤ 65536 := hl x (by simp)
    have hT := Lib.hid (headOf_any x hf hd (w.alloc (.cells #[.int .u8 0, .int .u8 0, .int .u8 0, .int .u8 0, .int .u8 0, .int .u8 0, .int .u8 0, .int .u8 0, .int .u8 0, .int .u8 0, .int .u8 0, .int .u8 0, .int .u8 0, .int .u8 0, .int .u8 0, .int .u8 0, .int .u8 0, .int .u8 0, .int .u8 0, .int .u8 0, .int .u8 0, .int .u8 0, .int .u8 0, .int .u8 0, .int .u8 0, .int .u8 0, .int .u8 0, .int .u8 0, .int .u8 0, .int .u8 0, .int .u8 0, .int .u8 0] 35)) da dc hD hK1 h01)
    have hs := Lib.hid (DV_size (headX_len x))
    have hlen : (r ++ [x]).length = r.length + 1 := by simp
    rw [hlen] at hm ⊢
    have hwr : IntKind.i64.wrap ((r.length + 1 : Nat) - 1 : Int) = (r.length : Int) := by rw [IntWalk.i64_in _ (by omega)]; omega
    have i0 : (0 : Int) ≤ r.length := by omega
    have i1 : (r.length : Int) < (r.length + 1 : Nat) := by omega
    have i2 : ((r.length + 1 : Nat) : Int) ≠ 0 := by omega
    have hu := Lib.hid Tryd.underlying37
    replace hr := Lib.hid hr
    have hii := Lib.hid (LW_info (a := da) (c := dc) hf.prev)
    clear hKT hK1 hQ hg hf hd hl hD hlen
    generalize r.length = N at *
    go_enter Tryd.func15, Tryd.ntmps15
    go_wp2_with (refine wpList_load_part (by rfl) 37 _ (by rfl) b (off + N * 35) (by rfl) (LW x da dc) _ hr.out hu.out rfl hii.out ?_)
    refine hT.out.mono ?_
    rintro e w2 ⟨rfl, hb2⟩
    have hz2 : w2.heap[w.heap.size]? = some (.cells (BV zeroD).toArray 35 (0, 0)) := blk_at hz hb2
    have hB2 := hb.trans (hb2.mono hb.size)
    clear hT hb hz hb2 hr
    go_wp2_with (refine wpList_store_row rfl 35 _ _ rfl w.heap.size _ rfl rfl 35 _ hz2 ?cj ?cl ?ck ?_
                 case cj => rw [Tryd.iD]; exact congrArg some hs.out.symm
                 case cl => exact hs.out
                 case ck => exact BV_all _)
    have hrow := setRow_heap w2 w.heap.size _ (BV (headX x)).toArray _ _ hz2
    exact bodyPost_ret (results_cell_row rfl _ _ w.heap.size 35 _ (0, 0) _ rfl hrow Tryd.uD rfl (by rw [Tryd.iD, hs.out])) rfl
      ⟨rfl, below_row hB2 _ (Nat.le_refl _) hB2.size⟩

def followsP (l : List Lk) (d : List UInt8) (x : Lk) : Bool := isNodeP x.node && (belongsP l x.node && (decide (x.no = (l.length : Int)) && (x.prev == d && decide (x.data.length ≤ 65536))))
/-- A digest and a link in boxes of their own. -/
structure BoxL (w : World) (d : List UInt8) (x : Lk) (a : Option Addr) (c : Nat) (V : World) : Prop where
  below : Below w.heap.size w V
  d2 : V.rangeAt w.heap.size 0 (BV d)
  x0 : V.cell? ⟨w.heap.size + 1, 0, none⟩ = some (.int .i64 x.node)
  x1 : V.cell? ⟨w.heap.size + 1, 1, none⟩ = some (.int .i64 x.no)
  x2 : V.rangeAt (w.heap.size + 1) 2 (BV x.prev)
  x3 : V.cell? ⟨w.heap.size + 1, 34, none⟩ = some (.slice a x.data.length c)
  lt : w.heap.size + 1 < V.heap.size
theorem boxL (w : World) (d : List UInt8) {x : Lk} (hx : x.prev.length = 32) (a : Option Addr) (c : Nat) :
    BoxL w d x a c ((w.alloc (.cells (BV d).toArray 35)).alloc (.cells (LW x a c).toArray 37)) := by
  have h1 := heap_alloc_new w (.cells (BV d).toArray 35)
  have h2 := heap_alloc_new (w.alloc (.cells (BV d).toArray 35)) (.cells (LW x a c).toArray 37)
  have h1' := blk_at h1 (bel1 _ (.cells (LW x a c).toArray 37))
  simp only [World.size_alloc] at h2
  obtain ⟨q0, q1, q2, q3⟩ := range_parts hx (range_of h2)
  exact ⟨((bel1 w _)).trans ((bel1 _ _).mono (by simp)), range_of h1', q0, q1, q2, q3, by simp⟩
theorem BoxL.step {w V W : World} {d : List UInt8} {x : Lk} {a : Option Addr} {c : Nat} (h : BoxL w d x a c V) (hb : Below V.heap.size V W) : BoxL w d x a c W := by
  have hl := h.lt
  exact ⟨h.below.trans (hb.mono h.below.size), fun j v hv => (hb.cell (p := ⟨w.heap.size, 0 + j, none⟩) (by show w.heap.size < _; omega)).trans (h.d2 j v hv), (hb.cell (p := ⟨w.heap.size + 1, 0, none⟩) hl).trans h.x0, (hb.cell (p := ⟨w.heap.size + 1, 1, none⟩) hl).trans h.x1,
    fun j v hv => (hb.cell (p := ⟨w.heap.size + 1, 2 + j, none⟩) hl).trans (h.x2 j v hv), (hb.cell (p := ⟨w.heap.size + 1, 34, none⟩) hl).trans h.x3, Nat.lt_of_lt_of_le hl hb.size⟩

set_option maxRecDepth 100000 in
set_option maxHeartbeats 2000000 in
theorem follows_any (l : List Lk) (d : List UInt8) (hd : d.length = 32) (x : Lk) (hx : x.prev.length = 32) (w : World) (A a : Option Addr) (cap c : Nat) (hQ : QL w w.heap.size l A cap) :
    Calls Tryd.prog 32 #[.slice A l.length cap, .agg (BV d).toArray, .agg (LW x a c).toArray] w fun e w' => e = .returned (.bool (followsP l d x)) ∧ Below w.heap.size w w' := by
  have hT := boxL w d hx a c
  have heq := fun W => eq_digest x.prev d hx hd W
  have hB : Hid (∀ W, Below w.heap.size w W → QL W W.heap.size l A cap) := fun W hW => hQ.lift hW hW.size
  have hlx := Lib.hid (show (Tryd.prog.info? 35).map (·.size) = some (BV x.prev).length by rw [Tryd.iD, BV_length, hx])
  have hly := Lib.hid (show (Tryd.prog.info? 35).map (·.size) = some (BV d).length by rw [Tryd.iD, BV_length, hd])
  obtain ⟨r, hr⟩ : ∃ r, followsP l d x = r := ⟨_, rfl⟩
  rw [hr]
  unfold followsP at hr
  clear hQ hx hd
  generalize hV : (w.alloc (.cells (BV d).toArray 35)).alloc (.cells (LW x a c).toArray 37) = V at hT
  replace hV := Lib.hid hV
  obtain ⟨-, -, x0, -, -, -, -⟩ := id hT
  replace hT := Lib.hid hT
  rcases Bool.eq_false_or_eq_true (isNodeP x.node) with c0 | c0
  case inr =>
    rw [c0, Bool.false_and] at hr
    subst hr
    have hC := Lib.hid (isNode_any x.node V)
    rw [c0] at hC
    clear c0
    go_enter Tryd.func32, Tryd.ntmps32
    go_upto_region 1 with fail
    rw [hV.out]
    clear hV
    go_wp2_with fail
    refine hC.out.mono ?_
    rintro e w3 ⟨rfl, hb3⟩
    replace hT := Lib.hid (hT.out.step hb3)
    clear hb3 x0
    go_wp2_with fail
    go_ret
    exact ⟨rfl, hT.out.below⟩
  rw [c0, Bool.true_and] at hr
  have hC0 : Hid (∀ W, Calls Tryd.prog 20 #[.int .i64 x.node] W fun e w' => e = .returned (.bool true) ∧ Below W.heap.size W w') := fun W => by have := isNode_any x.node W; rwa [c0] at this
  clear c0
  rcases Bool.eq_false_or_eq_true (belongsP l x.node) with c1 | c1
  case inr =>
    rw [c1, Bool.false_and] at hr
    subst hr
    have hC1 : Hid (∀ W, Below w.heap.size w W → Calls Tryd.prog 21 #[.slice A l.length cap, .int .i64 x.node] W fun e w' => e = .returned (.bool false) ∧ Below W.heap.size W w') := fun W hW => by have := belongs_any l x.node W _ A cap (hB.out W hW); rwa [c1] at this
    clear c1
    go_enter Tryd.func32, Tryd.ntmps32
    go_upto_region 1 with fail
    rw [hV.out]
    clear hV
    go_wp2_with fail
    refine (hC0.out _).mono ?_
    rintro e w3 ⟨rfl, hb3⟩
    replace hT := Lib.hid (hT.out.step hb3)
    clear hb3 x0
    have x0 := hT.out.x0
    go_wp2_with fail
    refine (hC1.out _ hT.out.below).mono ?_
    rintro e w4 ⟨rfl, hb4⟩
    replace hT := Lib.hid (hT.out.step hb4)
    clear hb4 x0
    go_wp2_with fail
    go_ret
    exact ⟨rfl, hT.out.below⟩
  rw [c1, Bool.true_and] at hr
  have hC1 : Hid (∀ W, Below w.heap.size w W → Calls Tryd.prog 21 #[.slice A l.length cap, .int .i64 x.node] W fun e w' => e = .returned (.bool true) ∧ Below W.heap.size W w') := fun W hW => by have := belongs_any l x.node W _ A cap (hB.out W hW); rwa [c1] at this
  clear c1
  go_enter Tryd.func32, Tryd.ntmps32
  go_upto_region 1 with fail
  rw [hV.out]
  clear hV
  go_wp2_with fail
  refine (hC0.out _).mono ?_
  rintro e w3 ⟨rfl, hb3⟩
  replace hT := Lib.hid (hT.out.step hb3)
  clear hb3 x0
  have x0 := hT.out.x0
  go_wp2_with fail
  refine (hC1.out _ hT.out.below).mono ?_
  rintro e w4 ⟨rfl, hb4⟩
  replace hT := Lib.hid (hT.out.step hb4)
  clear hb4 x0
  have x1 := hT.out.x1
  have x3 := hT.out.x3
  by_cases c2 : x.no = (l.length : Int)
  case neg =>
    rw [decide_eq_false c2, Bool.false_and] at hr
    replace hr := Lib.hid hr
    go_wp2_with fail
    go_ret
    exact ⟨by rw [← hr.out]; rfl, hT.out.below⟩
  rw [decide_eq_true c2, Bool.true_and] at hr
  have hN : Hid ((w.heap.size : Nat) = w.heap.size) := rfl
  rcases Bool.eq_false_or_eq_true (x.prev == d) with c3 | c3
  case inr =>
    rw [c3, Bool.false_and] at hr
    simp only [c3] at heq
    replace hr := Lib.hid hr
    clear c3
    go_wp2_with (first
      | (refine wpList_load_part (by rfl) 35 _ (by rfl) (w.heap.size + 1) 2 (by rfl) (BV x.prev) _ hT.out.x2 Tryd.uD rfl hlx.out ?_)
      | (refine wpList_load_part (by rfl) 35 _ (by rfl) w.heap.size 0 (by rfl) (BV d) _ hT.out.d2 Tryd.uD rfl hly.out ?_))
    go_ret
    exact ⟨by rw [← hr.out]; rfl, hT.out.below⟩
  rw [c3, Bool.true_and] at hr
  simp only [c3] at heq
  replace hr := Lib.hid hr
  clear c3
  go_wp2_with (first
    | (refine wpList_load_part (by rfl) 35 _ (by rfl) (w.heap.size + 1) 2 (by rfl) (BV x.prev) _ hT.out.x2 Tryd.uD rfl hlx.out ?_)
    | (refine wpList_load_part (by rfl) 35 _ (by rfl) w.heap.size 0 (by rfl) (BV d) _ hT.out.d2 Tryd.uD rfl hly.out ?_))
  refine (isShort_any a x.data.length c w4).mono ?_
  rintro e w5 ⟨rfl, hb5⟩
  replace hT := Lib.hid (hT.out.step hb5)
  clear hb5 x1 x3
  go_wp2_with fail
  go_ret
  exact ⟨by rw [← hr.out]; rfl, hT.out.below⟩
end Go.Proofs.YtbhpmeljmkoebaaDoor
