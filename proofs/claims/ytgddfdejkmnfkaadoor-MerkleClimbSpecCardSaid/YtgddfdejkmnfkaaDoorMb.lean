/- Texts of leaves and of two digests. -/
import Derived.Test.YtgddfdejkmnfkaaDoorMa
namespace Go.Proofs.YtgddfdejkmnfkaaDoor
open Go.RowKit

theorem two_of2 {W : World} {g b c : Nat} {x y : List UInt8} {T : TypeId} (hx : x.length = 32) (hy : y.length = 32) (hg : W.heap[g]? = some (.cells #[.slice (some ⟨b, 0, none⟩) 32 32, .slice (some ⟨c, 0, none⟩) 32 32] T (0, 0))) (hd : DB W b 30 x) (he : DB W c 30 y) :
    Two W g x y (some ⟨b, 0, none⟩) (some ⟨c, 0, none⟩) 32 32 :=
  ⟨by rw [hx]; exact cell_of_row W g 0 _ _ _ hg, by rw [hy]; exact cell_of_row W g 1 _ _ _ hg, hd.reads, he.reads, (fun h => by cases h), (fun h => by cases h)⟩
set_option maxRecDepth 100000 in
set_option maxHeartbeats 2000000 in
/-- slices.Concat of one slice of bytes. -/
theorem concat1_any (x : List UInt8) (hx : x.length ≤ 100000000) (w : World) (b : Nat) (hb : b < w.heap.size) (ax : Option Addr) (cx : Nat) (hc : w.cell? ⟨b, 0, none⟩ = some (.slice ax x.length cx)) (hr : RBs w w.heap.size ax x) (hn : ax = none → x = []) :
    Calls Tryd.prog 41 #[.slice (some ⟨b, 0, none⟩) 1 1] w fun e w' => ∃ v, e = .returned v ∧ OB w' w.heap.size v x ∧ Below w.heap.size w w' := by
  have hrh := Lib.hid hr
  have hnh := Lib.hid hn
  clear hr hn
  have hch := Lib.hid hc
  go_enter Tryd.func41, Tryd.ntmps41
  go_wp2_with fail
  go_loop [3, 5, 11] (fun n _ i => (i = .int .i64 0 ∧ n = .int .i64 0) ∨ (i = .int .i64 1 ∧ n = .int .i64 x.length)) (fun _ _ i => 1 - (intOf i).toNat)
  case atStart => exact .inl ⟨rfl, rfl⟩
  case round =>
    rcases hrel with ⟨rfl, rfl⟩ | ⟨rfl, rfl⟩
    · have hs0 : IntKind.i64.wrap ((0 : Int) + (x.length : Int)) = x.length := by rw [Int.zero_add]; exact IntWalk.i64_in _ (by omega)
      go_wp2_with fail
      go_round
      case rel => exact .inr ⟨rfl, rfl⟩
      case measure => simp [intOf]
    · clear hc
      have hg' := Lib.hid (grow_any x.length (by omega) w)
      go_wp2_with fail
      refine hg'.out.mono ?_
      rintro e w1 ⟨v1, rfl, hob, hb1⟩
      go_wp2_with fail
      go_loopw [6, 8, 27] (fun v _ i wr => ((i = .int .i64 0 ∧ OB wr w.heap.size v []) ∨ (i = .int .i64 1 ∧ OB wr w.heap.size v x)) ∧ Below w.heap.size w wr) (fun _ _ i _ => 1 - (intOf i).toNat)
      case atStart => exact ⟨.inl ⟨rfl, hob⟩, hb1⟩
      case round =>
        obtain ⟨hrel, hB⟩ := hrel
        rcases hrel with ⟨rfl, hob⟩ | ⟨rfl, hob⟩
        · have c0 := (hB.cell (p := ⟨b, 0, none⟩) hb).trans hch.out
          have hsrc := (hrh.out.below hB).src (c := cx) hnh.out
          go_wp2_with (at_builtin; refine app_src rfl _ _ rfl w.heap.size _ [] x _ rfl hob rfl hsrc (by simp; omega) hB.size ?_; intro v6 w6 happ)
          have hB6 := hB.trans (happ.below hob hB.size)
          go_roundw
          case rel => exact ⟨.inr ⟨rfl, happ.own⟩, hB6⟩
          case measure => simp [intOf]
        · go_wp2_with fail
          go_ret
          exact ⟨_, rfl, hob, hB⟩

set_option maxRecDepth 100000 in
set_option maxHeartbeats 2000000 in
theorem leafText_any (l : List UInt8) (hl : l.length ≤ 900000) (w : World) (A : Option Addr) (c : Nat) (hr : RBs w w.heap.size A l) (hA : A = none → l = []) (hK : KT w) (h0 : 0 < w.heap.size) :
    Calls Tryd.prog 42 #[.slice A l.length c] w fun e w' => ∃ v, e = .returned v ∧ OB w' w.heap.size v (leafM l) ∧ Below w.heap.size w w' := by
  have hb := bel1 w (.cells #[.slice A l.length c] 34)
  have hs : (w.alloc (.cells #[.slice A l.length c] 34)).heap.size = w.heap.size + 1 := by simp
  have hT := Lib.hid (text_any leafB (by decide +kernel) l hl (w.alloc (.cells #[.slice A l.length c] 34)) (some ⟨w.heap.size, 0, none⟩) 1 1 (fun W hW =>
    concat1_any l (by omega) W w.heap.size (by have := hW.size; omega) A c (cell_of_row W _ 0 _ _ _ (blk_at (heap_alloc_new w _) hW)) ((hr.below hb).below hW) hA) (hK.below hb h0) (by omega))
  have hsz := hb.size
  replace hb := Lib.hid hb
  clear hK hr
  go_enter Tryd.func42, Tryd.ntmps42
  go_wp2_with fail
  refine hT.out.mono ?_
  rintro e w2 ⟨v2, rfl, ho, hb2⟩
  go_wp2_with fail
  go_ret
  exact ⟨_, rfl, ho.mono hsz, hb.out.trans (hb2.mono hsz)⟩

set_option maxRecDepth 100000 in
set_option maxHeartbeats 2000000 in
theorem nodeText_any (a b : List UInt8) (ha : a.length = 32) (hb0 : b.length = 32) (w : World) (hK : KT w) (h0 : 0 < w.heap.size) :
    Calls Tryd.prog 59 #[DV a, DV b] w fun e w' => ∃ v, e = .returned v ∧ OB w' w.heap.size v (nodeM a b) ∧ Below w.heap.size w w' := by
  unfold DV
  replace ha := Lib.hid ha
  replace hb0 := Lib.hid hb0
  go_enter Tryd.func59, Tryd.ntmps59
  go_upto_region 1 with fail
  have hb1 := bel1 w (.cells (BV a).toArray 30)
  have hb2 := bel1 (w.alloc (.cells (BV a).toArray 30)) (.cells (BV b).toArray 30)
  have hd1 : DB _ w.heap.size 30 a := blk_at (heap_alloc_new w (.cells (BV a).toArray 30)) hb2
  have hd2 : DB _ (w.alloc (.cells (BV a).toArray 30)).heap.size 30 b := heap_alloc_new (w.alloc (.cells (BV a).toArray 30)) (.cells (BV b).toArray 30)
  rw [World.size_alloc] at hd2
  have hBV := hb1.trans (hb2.mono hb1.size)
  generalize (w.alloc (.cells (BV a).toArray 30)).alloc (.cells (BV b).toArray 30) = V at hd1 hd2 hBV ⊢
  have hKV := Lib.hid (hK.below hBV h0)
  have hV0 := Lib.hid (Nat.lt_of_lt_of_le h0 hBV.size)
  have hdV := Lib.hid (And.intro hd1 hd2)
  replace hBV := Lib.hid hBV
  clear hd1 hd2 hb1 hb2 hK
  refine wp_region_pre 5 0 (fun W => Below V.heap.size V W) (fun W W' => Below W.heap.size W W')
    (fun i v W => match i with
      | 0 => v = .slice (some ⟨w.heap.size, 0, none⟩) 32 32
      | 1 => v = .slice (some ⟨w.heap.size + 1, 0, none⟩) 32 32
      | 2 => ∃ g, v = .slice (some ⟨g, 0, none⟩) 2 2 ∧ W.heap[g]? = some (.cells #[.slice (some ⟨w.heap.size, 0, none⟩) 32 32, .slice (some ⟨w.heap.size + 1, 0, none⟩) 32 32] 34 (0, 0))
      | 3 => ∃ u, v = u ∧ OB W V.heap.size u (nodeM a b)
      | 4 => ∃ u, v = u ∧ OB W V.heap.size u (nodeM a b)
      | _ => True) (fun _ => false)
    (by kernel_rfl) (by kernel_rfl) (by kernel_rfl) (by kernel_rfl) (by kernel_rfl) (by kernel_rfl) (by kernel_rfl) ?_ (fun _ _ h => h.size) (dN (Below.refl _ _) 1) ?_ ?_
  · intro i v W W' hb hF
    match i, hF with
    | 0, h => exact h
    | 1, h => exact h
    | 2, ⟨g, h1, h2⟩ => exact ⟨g, h1, blk_at h2 hb⟩
    | 3, ⟨u, h1, h2⟩ => exact ⟨u, h1, h2.below hb⟩
    | 4, ⟨u, h1, h2⟩ => exact ⟨u, h1, h2.below hb⟩
    | _ + 5, _ => trivial
  · refine ⟨?_, ?_, ?_, ?_, ?_, trivial⟩
    · refine stepJ_any rfl fun ac W hAA hG hDD K hK => ?_
      have h2 := hAA.getD (t := 2) (by kernel_rfl)
      simp only [Array.getD_eq_getD_getElem?] at h2
      have hsl := run_slice_digest W w.heap.size
      rw [if_pos (by rfl)]
      exact wp_val (v := .slice (some ⟨w.heap.size, 0, none⟩) 32 32) (w' := W) (by simp [execOp, Act.eval, h2, go_sem, hsl]) (hK _ _ hG (Below.refl _ _) rfl (fun h => by cases h))
    · refine stepJ_any rfl fun ac W hAA hG hDD K hK => ?_
      have h3 := hAA.getD (t := 3) (by kernel_rfl)
      simp only [Array.getD_eq_getD_getElem?] at h3
      have hsl := run_slice_digest W (w.heap.size + 1)
      rw [if_pos (by rfl)]
      exact wp_val (v := .slice (some ⟨w.heap.size + 1, 0, none⟩) 32 32) (w' := W) (by simp [execOp, Act.eval, h3, go_sem, hsl]) (hK _ _ hG (Below.refl _ _) rfl (fun h => by cases h))
    · refine stepJ_any rfl fun ac W hAA hG hDD K hK => ?_
      have h5 := hDD.get 0 5 _ rfl rfl (by kernel_rfl)
      have h6 := hDD.get 1 6 _ rfl rfl (by kernel_rfl)
      rw [if_pos (by rfl)]
      simp only [Array.getD_eq_getD_getElem?] at h5 h6
      exact wp_val (v := .slice (some ⟨W.heap.size, 0, none⟩) 2 2) (w' := W.alloc (.cells #[.slice (some ⟨w.heap.size, 0, none⟩) 32 32, .slice (some ⟨w.heap.size + 1, 0, none⟩) 32 32] 34)) (by simp [execOp, Act.eval, h5, h6, go_sem]) (hK _ _ (hG.alloc hG.size _) (bel1 W _) ⟨_, rfl, heap_alloc_new W _⟩ (fun h => by cases h))
    · refine stepJ_any rfl fun ac W hAA hG hDD K hK => ?_
      obtain ⟨g, h7, hg⟩ := hDD.get 2 7 _ rfl rfl (by kernel_rfl)
      rw [if_pos (by rfl)]
      simp only [Array.getD_eq_getD_getElem?] at h7
      have hd1 := hdV.out.1.below hG hdV.out.1.lt
      have hd2 := hdV.out.2.below hG hdV.out.2.lt
      refine wp_call (f := 57) (args := #[.string nodeB, .slice (some ⟨g, 0, none⟩) 2 2]) (by simp [execOp, Act.eval, h7, go_sem, nodeB]) ((text_any nodeB (by decide +kernel) (a ++ b) (by rw [List.length_append, ha.out, hb0.out]; omega) W _ 2 2 (fun X hX => ?_) (hKV.out.below hG hV0.out) (Nat.lt_of_lt_of_le hV0.out hG.size)).mono fun e W9 he => ?_)
      · have htw := two_of2 (ha.out) (hb0.out) (blk_at hg hX) (hd1.below hX hd1.lt) (hd2.below hX hd2.lt)
        exact concat_any a b (by rw [ha.out, hb0.out]; omega) X g (Nat.lt_of_lt_of_le (Array.getElem?_eq_some_iff.1 hg).1 hX.size) _ _ 32 32 htw
      obtain ⟨u, rfl, ho2, hbw⟩ := he
      exact hK _ _ (hG.trans (hbw.mono hG.size)) hbw ⟨u, rfl, ho2.mono hG.size⟩ (fun h => by cases h)
    · refine stepJ_any rfl fun ac W hAA hG hDD K hK => ?_
      obtain ⟨u3, h8, ho⟩ := hDD.get 3 8 _ rfl rfl (by kernel_rfl)
      rw [if_pos (by rfl)]
      simp only [Array.getD_eq_getD_getElem?] at h8
      exact wp_val (v := u3) (w' := W) (by simp [execOp, Act.eval, h8, go_sem]) (hK _ _ hG (Below.refl _ _) ⟨u3, rfl, ho⟩ (fun h => by cases h))
  intro fu T w9 hG hF hne hltb
  have e5 : T 5 = .slice (some ⟨w.heap.size, 0, none⟩) 32 32 := hF 0 _ rfl (by omega)
  have e6 : T 6 = .slice (some ⟨w.heap.size + 1, 0, none⟩) 32 32 := hF 1 _ rfl (by omega)
  obtain ⟨g2, e7, -⟩ := hF 2 _ rfl (by omega)
  replace e7 : T 7 = _ := e7
  obtain ⟨u3, e8, hou3⟩ := hF 3 _ rfl (by omega)
  replace e8 : T 8 = _ := e8
  obtain ⟨u4, e4, hou4⟩ := hF 4 _ rfl (by omega)
  replace e4 : T 4 = _ := e4
  clear hF hne hltb
  simp only [List.take, fillT, List.setIfInBounds_toArray, List.set_cons_zero, List.set_cons_succ, e5, e6, e7, e8, e4]
  clear e5 e6 e7 e8 e4
  refine wpAny_done (by kernel_rfl) ?_ _
  go_wp2_with fail
  go_ret
  exact ⟨_, rfl, hou4.mono hBV.out.size, hBV.out.trans (hG.mono hBV.out.size)⟩
end Go.Proofs.YtgddfdejkmnfkaaDoor
