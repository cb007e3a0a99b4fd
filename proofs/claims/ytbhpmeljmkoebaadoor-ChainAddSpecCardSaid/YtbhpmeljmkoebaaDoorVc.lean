/- Two links are compared: same, and the reference's SameLink. -/
import Derived.Test.YtbhpmeljmkoebaaDoorVb
namespace Go.Proofs.YtbhpmeljmkoebaaDoor
open Go.RowKit

/-- Two links in boxes of their own. -/
structure TwoL (w : World) (x y : Lk) (ax ay : Option Addr) (cx cy : Nat) (V : World) : Prop where
  below : Below w.heap.size w V
  x0 : V.cell? ⟨w.heap.size, 0, none⟩ = some (.int .i64 x.node)
  x1 : V.cell? ⟨w.heap.size, 1, none⟩ = some (.int .i64 x.no)
  x2 : V.rangeAt w.heap.size 2 (BV x.prev)
  x3 : V.cell? ⟨w.heap.size, 34, none⟩ = some (.slice ax x.data.length cx)
  y0 : V.cell? ⟨w.heap.size + 1, 0, none⟩ = some (.int .i64 y.node)
  y1 : V.cell? ⟨w.heap.size + 1, 1, none⟩ = some (.int .i64 y.no)
  y2 : V.rangeAt (w.heap.size + 1) 2 (BV y.prev)
  y3 : V.cell? ⟨w.heap.size + 1, 34, none⟩ = some (.slice ay y.data.length cy)
theorem twoL (w : World) {x y : Lk} (hx : x.prev.length = 32) (hy : y.prev.length = 32) (ax ay : Option Addr) (cx cy : Nat) :
    TwoL w x y ax ay cx cy ((w.alloc (.cells (LW x ax cx).toArray 37)).alloc (.cells (LW y ay cy).toArray 37)) := by
  have h1 := heap_alloc_new w (.cells (LW x ax cx).toArray 37)
  have h2 := heap_alloc_new (w.alloc (.cells (LW x ax cx).toArray 37)) (.cells (LW y ay cy).toArray 37)
  have h1' := blk_at h1 (bel1 _ (.cells (LW y ay cy).toArray 37))
  simp only [World.size_alloc] at h2
  obtain ⟨p0, p1, p2, p3⟩ := range_parts hx (range_of h1')
  obtain ⟨q0, q1, q2, q3⟩ := range_parts hy (range_of h2)
  exact ⟨((bel1 w _)).trans ((bel1 _ _).mono (by simp)), p0, p1, p2, p3, q0, q1, q2, q3⟩

/-- What a load of a digest in the middle of a box gives. -/
theorem Tryd.uD : Tryd.prog.underlying 35 = some (.array 32 5) := by kernel_rfl
theorem Tryd.iD : (Tryd.prog.info? 35).map (·.size) = some 32 := by kernel_rfl

set_option maxRecDepth 100000 in
set_option maxHeartbeats 2000000 in
theorem same_any (x y : Lk) (hx : x.prev.length = 32) (hy : y.prev.length = 32) (w : World) (ax ay : Option Addr) (cx cy : Nat) (hdx : RBs w w.heap.size ax x.data) (hdy : RBs w w.heap.size ay y.data) :
    Calls Tryd.prog 28 #[.agg (LW x ax cx).toArray, .agg (LW y ay cy).toArray] w fun e w' => e = .returned (.bool (sameL x y)) ∧ Below w.heap.size w w' := by
  have hT := twoL w hx hy ax ay cx cy
  have heq := fun W => eq_digest x.prev y.prev hx hy W
  have hrd : Hid (∀ W, Below w.heap.size w W → RBs W W.heap.size ax x.data ∧ RBs W W.heap.size ay y.data) := fun W hW => ⟨hdx.lift hW hW.size, hdy.lift hW hW.size⟩
  have hlx := Lib.hid (show (Tryd.prog.info? 35).map (·.size) = some (BV x.prev).length by rw [Tryd.iD, BV_length, hx])
  have hly := Lib.hid (show (Tryd.prog.info? 35).map (·.size) = some (BV y.prev).length by rw [Tryd.iD, BV_length, hy])
  clear hdx hdy hx hy
  obtain ⟨r, hr⟩ : ∃ r, sameL x y = r := ⟨_, rfl⟩
  rw [hr]
  unfold sameL at hr
  generalize hV : (w.alloc (.cells (LW x ax cx).toArray 37)).alloc (.cells (LW y ay cy).toArray 37) = V at hT
  replace hV := Lib.hid hV
  obtain ⟨hb, x0, x1, x2, x3, y0, y1, y2, y3⟩ := hT
  replace hb := Lib.hid hb
  replace x2 := Lib.hid x2
  replace y2 := Lib.hid y2
  by_cases c0 : x.node = y.node
  case neg =>
    obtain rfl : r = false := by rw [← hr, show (x.node == y.node) = false by simpa using c0]; rfl
    clear hr
    go_enter Tryd.func28, Tryd.ntmps28
    go_upto_region 1 with fail
    rw [hV.out]
    clear hV
    go_wp2_with fail
    go_ret
    exact ⟨rfl, hb.out⟩
  case pos =>
    rw [show (x.node == y.node) = true by simpa using c0] at hr
    by_cases c1 : x.no = y.no
    case neg =>
      obtain rfl : r = false := by rw [← hr, show (x.no == y.no) = false by simpa using c1]; rfl
      clear hr
      go_enter Tryd.func28, Tryd.ntmps28
      go_upto_region 1 with fail
      rw [hV.out]
      clear hV
      go_wp2_with fail
      go_ret
      exact ⟨rfl, hb.out⟩
    case pos =>
      rw [show (x.no == y.no) = true by simpa using c1] at hr
      simp only [Bool.true_and] at hr
      by_cases c2 : x.prev = y.prev
      case neg =>
        have e2 : (x.prev == y.prev) = false := by simpa using c2
        simp only [e2] at heq
        obtain rfl : r = false := by rw [← hr, e2]; rfl
        clear e2 c2 hr
        go_enter Tryd.func28, Tryd.ntmps28
        go_upto_region 1 with fail
        rw [hV.out]
        clear hV
        go_wp2_with (first
          | (refine wpList_load_part (by rfl) 35 _ (by rfl) w.heap.size 2 (by rfl) (BV x.prev) _ x2.out Tryd.uD rfl hlx.out ?_)
          | (refine wpList_load_part (by rfl) 35 _ (by rfl) (w.heap.size + 1) 2 (by rfl) (BV y.prev) _ y2.out Tryd.uD rfl hly.out ?_))
        go_ret
        exact ⟨rfl, hb.out⟩
      case pos =>
        have e2 : (x.prev == y.prev) = true := by simpa using c2
        simp only [e2] at heq
        rw [e2, Bool.true_and] at hr
        replace hr := Lib.hid hr
        clear e2 c2
        go_enter Tryd.func28, Tryd.ntmps28
        go_upto_region 1 with fail
        rw [hV.out]
        clear hV
        go_wp2_with (first
          | (refine wpList_load_part (by rfl) 35 _ (by rfl) w.heap.size 2 (by rfl) (BV x.prev) _ x2.out Tryd.uD rfl hlx.out ?_)
          | (refine wpList_load_part (by rfl) 35 _ (by rfl) (w.heap.size + 1) 2 (by rfl) (BV y.prev) _ y2.out Tryd.uD rfl hly.out ?_))
        refine (bytesEqual_any x.data y.data _ ax ay cx cy _ _ (hrd.out _ hb.out).1 (hrd.out _ hb.out).2).mono ?_
        rintro e w2 ⟨rfl, hb2⟩
        replace hb2 := Lib.hid (hb.out.trans (hb2.mono hb.out.size))
        go_wp2_with fail
        go_ret
        exact ⟨by rw [hr.out]; rfl, hb2.out⟩
set_option maxRecDepth 100000 in
set_option maxHeartbeats 2000000 in
theorem SameLink_any (x y : Lk) (hx : x.prev.length = 32) (hy : y.prev.length = 32) (w : World) (ax ay : Option Addr) (cx cy : Nat) (hdx : RBs w w.heap.size ax x.data) (hdy : RBs w w.heap.size ay y.data) :
    Calls Tryd.prog 18 #[.agg (LW x ax cx).toArray, .agg (LW y ay cy).toArray] w fun e w' => e = .returned (.bool (sameL x y)) ∧ Below w.heap.size w w' := by
  have hT := twoL w hx hy ax ay cx cy
  have heq := fun W => eq_digest x.prev y.prev hx hy W
  have hrd : Hid (∀ W, Below w.heap.size w W → RBs W W.heap.size ax x.data ∧ RBs W W.heap.size ay y.data) := fun W hW => ⟨hdx.lift hW hW.size, hdy.lift hW hW.size⟩
  have hlx := Lib.hid (show (Tryd.prog.info? 35).map (·.size) = some (BV x.prev).length by rw [Tryd.iD, BV_length, hx])
  have hly := Lib.hid (show (Tryd.prog.info? 35).map (·.size) = some (BV y.prev).length by rw [Tryd.iD, BV_length, hy])
  clear hdx hdy hx hy
  obtain ⟨r, hr⟩ : ∃ r, sameL x y = r := ⟨_, rfl⟩
  rw [hr]
  unfold sameL at hr
  generalize hV : (w.alloc (.cells (LW x ax cx).toArray 37)).alloc (.cells (LW y ay cy).toArray 37) = V at hT
  replace hV := Lib.hid hV
  obtain ⟨hb, x0, x1, x2, x3, y0, y1, y2, y3⟩ := hT
  replace hb := Lib.hid hb
  replace x2 := Lib.hid x2
  replace y2 := Lib.hid y2
  by_cases c0 : x.node = y.node
  case neg =>
    obtain rfl : r = false := by rw [← hr, show (x.node == y.node) = false by simpa using c0]; rfl
    clear hr
    go_enter Tryd.func18, Tryd.ntmps18
    go_upto_region 1 with fail
    rw [hV.out]
    clear hV
    go_wp2_with fail
    go_ret
    exact ⟨rfl, hb.out⟩
  case pos =>
    rw [show (x.node == y.node) = true by simpa using c0] at hr
    by_cases c1 : x.no = y.no
    case neg =>
      obtain rfl : r = false := by rw [← hr, show (x.no == y.no) = false by simpa using c1]; rfl
      clear hr
      go_enter Tryd.func18, Tryd.ntmps18
      go_upto_region 1 with fail
      rw [hV.out]
      clear hV
      go_wp2_with fail
      go_ret
      exact ⟨rfl, hb.out⟩
    case pos =>
      rw [show (x.no == y.no) = true by simpa using c1] at hr
      simp only [Bool.true_and] at hr
      by_cases c2 : x.prev = y.prev
      case neg =>
        have e2 : (x.prev == y.prev) = false := by simpa using c2
        simp only [e2] at heq
        obtain rfl : r = false := by rw [← hr, e2]; rfl
        clear e2 c2 hr
        go_enter Tryd.func18, Tryd.ntmps18
        go_upto_region 1 with fail
        rw [hV.out]
        clear hV
        go_wp2_with (first
          | (refine wpList_load_part (by rfl) 35 _ (by rfl) w.heap.size 2 (by rfl) (BV x.prev) _ x2.out Tryd.uD rfl hlx.out ?_)
          | (refine wpList_load_part (by rfl) 35 _ (by rfl) (w.heap.size + 1) 2 (by rfl) (BV y.prev) _ y2.out Tryd.uD rfl hly.out ?_))
        go_ret
        exact ⟨rfl, hb.out⟩
      case pos =>
        have e2 : (x.prev == y.prev) = true := by simpa using c2
        simp only [e2] at heq
        rw [e2, Bool.true_and] at hr
        replace hr := Lib.hid hr
        clear e2 c2
        have hcx := conv_str (c := cx) (hrd.out V hb.out).1
        have hcy := conv_str (c := cy) (hrd.out V hb.out).2
        go_enter Tryd.func18, Tryd.ntmps18
        go_upto_region 1 with fail
        rw [hV.out]
        clear hV
        go_wp2_with (first
          | (refine wpList_load_part (by rfl) 35 _ (by rfl) w.heap.size 2 (by rfl) (BV x.prev) _ x2.out Tryd.uD rfl hlx.out ?_)
          | (refine wpList_load_part (by rfl) 35 _ (by rfl) (w.heap.size + 1) 2 (by rfl) (BV y.prev) _ y2.out Tryd.uD rfl hly.out ?_))
        go_ret
        exact ⟨by rw [← hr.out]; rfl, hb.out⟩
end Go.Proofs.YtbhpmeljmkoebaaDoor
