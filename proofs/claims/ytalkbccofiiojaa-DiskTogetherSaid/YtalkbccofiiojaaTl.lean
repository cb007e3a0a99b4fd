/- DiskTogether: the law. -/
import Derived.Test.YtalkbccofiiojaaQd
import Derived.Test.YtalkbccofiiojaaAc
namespace Go.Proofs.Ytalkbccofiiojaa
open Go.RowKit

structure TJ (B m n gx gy : Nat) (W0 : World) (x y : Dk) (W : World) : Prop where
  base : Below B W0 W
  mb : m < B
  bn : B ≤ n
  nw : n ≤ W.heap.size
  gxb : B ≤ gx ∧ gx < n
  gyb : B ≤ gy ∧ gy < n
  ne : gx ≠ gy
  bx : Bx W gx (Sv m n W) x
  by_ : Bx W gy (Sv m n W) y
theorem TJ.step {B m n gx gy : Nat} {W0 W W' : World} {x y : Dk} (h : TJ B m n gx gy W0 x y W) (hb : Below W.heap.size W W') : TJ B m n gx gy W0 x y W' :=
  have q := h.mb; have q2 := h.bn; have q3 := h.nw
  ⟨h.base.trans (hb.mono (by omega)), h.mb, h.bn, Nat.le_trans h.nw hb.size, h.gxb, h.gyb, h.ne, h.bx.step (by omega) h.nw hb, h.by_.step (by omega) h.nw hb⟩
/-- Behind the four stores into a box that lies elsewhere. -/
theorem Bx.other {m n g g' : Nat} {W : World} {x : Dk} {a b c e : Value} (h : Bx W g (Sv m n W) x) (hne : g ≠ g') (hm : m ≤ g') (_hn : g' < n) : Bx ((((W.setCell ⟨g', 0, none⟩ a).setCell ⟨g', 1, none⟩ b).setCell ⟨g', 2, none⟩ c).setCell ⟨g', 3, none⟩ e) g (Sv m n ((((W.setCell ⟨g', 0, none⟩ a).setCell ⟨g', 1, none⟩ b).setCell ⟨g', 2, none⟩ c).setCell ⟨g', 3, none⟩ e)) x := by
  obtain ⟨A, c1, A', c1', hk, hd⟩ := h
  refine ⟨A, c1, A', c1', ?_, (hd.keep fun b o hb => set4_other W g' _ _ _ _ b o (by unfold Sv at hb; omega)).mono fun b h => by unfold Sv at *; simpa using h⟩
  unfold KB at *
  rw [heap_setCell_other _ _ _ _ hne, heap_setCell_other _ _ _ _ hne, heap_setCell_other _ _ _ _ hne, heap_setCell_other _ _ _ _ hne]
  exact hk
theorem Bx.put {m n g : Nat} {W : World} {x x' : Dk} {A A' : Option Addr} {c c' : Nat} (h : Bx W g (Sv m n W) x) (hd : DR W (Sv m n W) A c A' c' x') (hm : m ≤ g) (_hn : g < n) : Bx ((((W.setCell ⟨g, 0, none⟩ (.slice A x'.secs.length c)).setCell ⟨g, 1, none⟩ (.slice A' x'.pend.length c')).setCell ⟨g, 2, none⟩ (.int .i64 x'.left)).setCell ⟨g, 3, none⟩ (.bool x'.stop)) g (Sv m n ((((W.setCell ⟨g, 0, none⟩ (.slice A x'.secs.length c)).setCell ⟨g, 1, none⟩ (.slice A' x'.pend.length c')).setCell ⟨g, 2, none⟩ (.int .i64 x'.left)).setCell ⟨g, 3, none⟩ (.bool x'.stop))) x' := by
  obtain ⟨A0, c0, A0', c0', hk, -⟩ := h
  exact ⟨A, c, A', c', set4_same W g hk, (hd.keep fun b o hb => set4_other W g _ _ _ _ b o (by unfold Sv at hb; omega)).mono fun b h => by unfold Sv at *; simpa using h⟩
theorem TJ.putx {B m n gx gy : Nat} {W0 W : World} {x y x' : Dk} {A A' : Option Addr} {c c' : Nat} (h : TJ B m n gx gy W0 x y W) (hd : DR W (Sv m n W) A c A' c' x') :
    TJ B m n gx gy W0 x' y ((((W.setCell ⟨gx, 0, none⟩ (.slice A x'.secs.length c)).setCell ⟨gx, 1, none⟩ (.slice A' x'.pend.length c')).setCell ⟨gx, 2, none⟩ (.int .i64 x'.left)).setCell ⟨gx, 3, none⟩ (.bool x'.stop)) := by
  have q := h.mb; have q2 := h.bn; have q3 := h.nw; have q4 := h.gxb; have q5 := h.gyb
  exact ⟨(((h.base.setCell (by exact q4.1) _).setCell (by exact q4.1) _).setCell (by exact q4.1) _).setCell (by exact q4.1) _, h.mb, h.bn, by simpa using h.nw, h.gxb, h.gyb, h.ne, h.bx.put hd (by omega) q4.2, h.by_.other (Ne.symm h.ne) (by omega) q4.2⟩
theorem TJ.puty {B m n gx gy : Nat} {W0 W : World} {x y y' : Dk} {A A' : Option Addr} {c c' : Nat} (h : TJ B m n gx gy W0 x y W) (hd : DR W (Sv m n W) A c A' c' y') :
    TJ B m n gx gy W0 x y' ((((W.setCell ⟨gy, 0, none⟩ (.slice A y'.secs.length c)).setCell ⟨gy, 1, none⟩ (.slice A' y'.pend.length c')).setCell ⟨gy, 2, none⟩ (.int .i64 y'.left)).setCell ⟨gy, 3, none⟩ (.bool y'.stop)) := by
  have q := h.mb; have q2 := h.bn; have q3 := h.nw; have q4 := h.gxb; have q5 := h.gyb
  exact ⟨(((h.base.setCell (by exact q5.1) _).setCell (by exact q5.1) _).setCell (by exact q5.1) _).setCell (by exact q5.1) _, h.mb, h.bn, by simpa using h.nw, h.gxb, h.gyb, h.ne, h.bx.other h.ne (by omega) q5.2, h.by_.put hd (by omega) q5.2⟩
theorem wrap64_u8 (c : UInt8) : wrap64 (c.toNat : Int) = (c.toNat : Int) := by
  have := c.toNat_lt
  unfold wrap64
  omega
theorem wrapI_u8 (c : UInt8) : IntKind.i64.wrap (c.toNat : Int) = (c.toNat : Int) := by
  have := c.toNat_lt
  simp only [IntKind.wrap, IntKind.bits, IntKind.signed]
  simp
  omega
theorem gap_rem {n : Nat} (c : UInt8) (hn : 1 ≤ n) : Int.tmod ((c.toNat : Int)) (n : Int) = ((c.toNat % n : Nat) : Int) := by
  rw [Int.tmod_eq_emod_of_nonneg (by omega)]
  omega

set_option maxRecDepth 100000 in
set_option maxHeartbeats 8000000 in
theorem together_any (d : Dk) (l : List Ac) (w : World) (A A' Al : Option Addr) (c c' cl : Nat) (hd : DR w (· < w.heap.size) A c A' c' d) (hll : l.length ≤ cl ∧ cl ≤ maxLen) (hrl : AR w (· < w.heap.size) Al l) :
    Calls Try.prog 8 #[.agg #[.slice A d.secs.length c, .slice A' d.pend.length c', .int .i64 d.left, .bool d.stop], .slice Al l.length cl] w fun e w' => e = .returned (.bool true) ∧ Below w.heap.size w w' := by
  have H := Lib.hid (Held.init w A A' c c' d)
  have hdh := Lib.hid hd
  have hrlh := Lib.hid hrl
  have hl63 : l.length ≤ 9223372036854775807 := by have := hll; unfold maxLen at this; omega
  clear hd hrl hll
  go_enter Try.func8, Try.ntmps8
  go_wp2_with fail
  refine (sane_any _).mono ?_
  rintro e w1 ⟨rfl, hb⟩
  have H := Lib.hid (H.out.step hb)
  clear hb
  obtain ⟨y0, y1, y2, y3⟩ := H.out.kb.cells
  go_wp2_with fail
  refine (Few_any d w1 A A' c c' (H.out.drw hdh.out)).mono ?_
  rintro e w2 ⟨⟨f, rfl⟩, hb⟩
  have H := Lib.hid (H.out.step hb)
  clear hb y0 y1 y2 y3
  cases f with
  | false =>
    go_wp2_with fail
    go_ret
    exact ⟨rfl, H.out.below⟩
  | true =>
    obtain ⟨y0, y1, y2, y3⟩ := H.out.kb.cells
    by_cases h1 : (20 : Int) < l.length
    · have e1 : decide ((20 : Int) < l.length) = true := decide_eq_true h1
      clear h1
      go_wp2_with fail
      go_ret
      exact ⟨rfl, H.out.below⟩
    have e1 : decide ((20 : Int) < l.length) = false := decide_eq_false h1
    have hl20 := Lib.hid (show l.length ≤ 20 by omega)
    clear h1
    by_cases h2 : (0 : Int) < d.pend.length
    · have h2a : 0 < d.pend.length := by omega
      have h2b : ¬ d.pend.length = 0 := by omega
      go_wp2_with fail
      go_ret
      exact ⟨rfl, H.out.below⟩
    have hp00 : d.pend.length = 0 := by omega
    have hp0 := Lib.hid hp00
    rw [hp00] at y1
    clear h2
    by_cases h3 : d.secs.length = 0
    · rw [h3] at y0
      go_wp2_with fail
      go_ret
      exact ⟨rfl, H.out.below⟩
    have h3a : ¬ (d.secs.length : Int) = 0 := by omega
    have h3b : ((d.secs.length : Int) == 0) = false := by simpa using h3
    have hch := Check_any d w2 A A' c c' w2.heap.size (Nat.le_refl _) (H.out.drw hdh.out)
    rw [hp00] at hch
    clear hp00
    rcases chk_eq d with ⟨hk, he⟩ | ⟨hk, he⟩
    rotate_left
    · rw [he] at hch
      have hch := Lib.hid hch
      go_wp2_with fail
      refine hch.out.mono ?_
      rintro e w3 ⟨rfl, hb⟩
      have H := Lib.hid (H.out.step hb)
      clear hb hch y0 y1 y2 y3
      obtain ⟨y0, y1, y2, y3⟩ := H.out.kb.cells
      go_wp2_with fail
      go_ret
      exact ⟨rfl, H.out.below⟩
    rw [he] at hch
    have hch := Lib.hid hch
    go_wp2_with fail
    refine hch.out.mono ?_
    rintro e w3 ⟨rfl, hb⟩
    have H := Lib.hid (H.out.step hb)
    clear hb hch y0 y1 y2 y3
    obtain ⟨y0, y1, y2, y3⟩ := H.out.kb.cells
    cases hs : d.stop with
    | true =>
      rw [hs] at y3
      go_wp2_with fail
      go_ret
      exact ⟨rfl, H.out.below⟩
    | false =>
    rw [hs] at y3
    rw [hp0.out, ← hp0.out] at y1
    go_wp2_with fail
    clear y0 y1 y2 y3 e1 h3a h3b
    have hk3 := H.out.kb
    unfold KB at hk3
    rw [hs] at hk3
    have hk3 := Lib.hid hk3
    have hwlt := H.out.lt
    refine wp_region_preA 5 1 (fun W => Below w3.heap.size w3 W) (fun W W' => W.heap.size ≤ W'.heap.size ∧ ∀ b, b < W.heap.size → W'.heap[b]? = W.heap[b]? ∨ (IsBox W b ∧ W'.heap[b]? = some (.cells #[.slice A d.secs.length c, .slice A' d.pend.length c', .int .i64 d.left, .bool false] 25 (0, 0))))
      (fun i a v W => match i with
        | 0 => v = .agg #[.slice A d.secs.length c, .slice A' d.pend.length c', .int .i64 d.left, .bool false]
        | 1 => v = .agg #[.slice A d.secs.length c, .slice A' d.pend.length c', .int .i64 d.left, .bool false]
        | 2 => ∃ g, v = .pointer (some ⟨g, 0, none⟩) ∧ w3.heap.size ≤ g ∧ IsBox W g
        | 3 => ∃ g, v = .pointer (some ⟨g, 0, none⟩) ∧ w3.heap.size ≤ g ∧ IsBox W g
        | 4 => ∃ g, a.tmps.getD 5 undef = .pointer (some ⟨g, 0, none⟩) ∧ W.heap[g]? = some (.cells #[.slice A d.secs.length c, .slice A' d.pend.length c', .int .i64 d.left, .bool false] 25 (0, 0))
        | _ => True) (fun i => i == 2 || i == 3)
      (by kernel_rfl) (by kernel_rfl) (by kernel_rfl) (by kernel_rfl) (by kernel_rfl) (by kernel_rfl) (by kernel_rfl) ?_ (fun _ _ h => h.1) (dN (Below.refl _ _) 1) ?_ ?_
    · intro i v a a' W W' hs hb hF
      match i, hs, hF with
      | 0, _, h => exact h
      | 1, _, h => exact h
      | 2, _, ⟨g, h1, h2, h3⟩ => exact ⟨g, h1, h2, isBox_or h3 hb.2⟩
      | 3, _, ⟨g, h1, h2, h3⟩ => exact ⟨g, h1, h2, isBox_or h3 hb.2⟩
      | 4, hs, ⟨g, h1, h2⟩ => exact ⟨g, (hs 5 (by decide +kernel)).trans h1, (hb.2 g (Array.getElem?_eq_some_iff.1 h2).1).elim (fun h => h.trans h2) (fun h => h.2)⟩
      | _ + 5, _, _ => trivial
    · refine ⟨?_, ?_, ?_, ?_, ?_, trivial⟩
      · refine stepA_any rfl fun ac W hA hG hD K hK => ?_
        have h2 := hA.getD (t := 2) (by kernel_rfl)
        simp only [Array.getD_eq_getD_getElem?] at h2
        have k0 : W.cell? ⟨w.heap.size, 0, none⟩ = some (.slice A d.secs.length c) := cell_of_row W _ 0 _ _ _ ((hG.block _ hwlt).trans hk3.out)
        have k1 : W.cell? ⟨w.heap.size, 1, none⟩ = some (.slice A' d.pend.length c') := cell_of_row W _ 1 _ _ _ ((hG.block _ hwlt).trans hk3.out)
        have k2 : W.cell? ⟨w.heap.size, 2, none⟩ = some (.int .i64 d.left) := cell_of_row W _ 2 _ _ _ ((hG.block _ hwlt).trans hk3.out)
        have k3 : W.cell? ⟨w.heap.size, 3, none⟩ = some (.bool false) := cell_of_row W _ 3 _ _ _ ((hG.block _ hwlt).trans hk3.out)
        rw [if_pos (by rfl)]
        exact wp_val (v := .agg #[.slice A d.secs.length c, .slice A' d.pend.length c', .int .i64 d.left, .bool false]) (w' := W) (by simp [execOp, Act.eval, h2, go_sem, k0, k1, k2, k3]) (hK _ _ hG ⟨Nat.le_refl _, fun _ _ => .inl rfl⟩ rfl (fun h => by cases h))
      · refine stepA_any rfl fun ac W hA hG hD K hK => ?_
        have h2 := hA.getD (t := 2) (by kernel_rfl)
        simp only [Array.getD_eq_getD_getElem?] at h2
        have k0 : W.cell? ⟨w.heap.size, 0, none⟩ = some (.slice A d.secs.length c) := cell_of_row W _ 0 _ _ _ ((hG.block _ hwlt).trans hk3.out)
        have k1 : W.cell? ⟨w.heap.size, 1, none⟩ = some (.slice A' d.pend.length c') := cell_of_row W _ 1 _ _ _ ((hG.block _ hwlt).trans hk3.out)
        have k2 : W.cell? ⟨w.heap.size, 2, none⟩ = some (.int .i64 d.left) := cell_of_row W _ 2 _ _ _ ((hG.block _ hwlt).trans hk3.out)
        have k3 : W.cell? ⟨w.heap.size, 3, none⟩ = some (.bool false) := cell_of_row W _ 3 _ _ _ ((hG.block _ hwlt).trans hk3.out)
        rw [if_pos (by rfl)]
        exact wp_val (v := .agg #[.slice A d.secs.length c, .slice A' d.pend.length c', .int .i64 d.left, .bool false]) (w' := W) (by simp [execOp, Act.eval, h2, go_sem, k0, k1, k2, k3]) (hK _ _ hG ⟨Nat.le_refl _, fun _ _ => .inl rfl⟩ rfl (fun h => by cases h))
      · refine stepA_any rfl fun ac W hA hG hD K hK => ?_
        rw [if_pos (by rfl)]
        exact wp_val (v := .pointer (some ⟨W.heap.size, 0, none⟩)) (w' := W.alloc (.cells #[.slice none 0 0, .slice none 0 0, .int .i64 0, .bool false] 25)) (by simp [execOp, go_sem]) (hK _ _ (hG.alloc hG.size _) ⟨by simp, fun b hb => .inl (Below.heap_alloc W _ b hb)⟩ ⟨_, rfl, hG.size, _, _, _, _, heap_alloc_new W _⟩ (fun _ => ⟨Nat.le_refl _, by simp [pb]⟩))
      · refine stepA_any rfl fun ac W hA hG hD K hK => ?_
        rw [if_pos (by rfl)]
        exact wp_val (v := .pointer (some ⟨W.heap.size, 0, none⟩)) (w' := W.alloc (.cells #[.slice none 0 0, .slice none 0 0, .int .i64 0, .bool false] 25)) (by simp [execOp, go_sem]) (hK _ _ (hG.alloc hG.size _) ⟨by simp, fun b hb => .inl (Below.heap_alloc W _ b hb)⟩ ⟨_, rfl, hG.size, _, _, _, _, heap_alloc_new W _⟩ (fun _ => ⟨Nat.le_refl _, by simp [pb]⟩))
      · refine stepA_store rfl rfl fun ac W hA hG hD K hK => ?_
        obtain ⟨g, h5, hg, x0, x1, x2, x3, hbx⟩ := hD.get 2 5 _ rfl rfl (by kernel_rfl)
        have h47 := hD.get 0 47 _ rfl rfl (by kernel_rfl)
        rw [if_pos (by rfl)]
        have hrow := setRow_heap W g _ #[.slice A d.secs.length c, .slice A' d.pend.length c', .int .i64 d.left, .bool false] _ _ hbx
        refine wp_store_row 25 (.tmp 5) (.tmp 47) rfl g #[.slice A d.secs.length c, .slice A' d.pend.length c', .int .i64 d.left, .bool false] h5 h47 25 _ hbx (by kernel_rfl) rfl (by simp [Value.oneCell']) ?_
        refine hK _ (below_setRow hG hg _) ⟨by rw [size_setRow]; exact Nat.le_refl _, fun b hb => ?_⟩ ⟨g, h5, hrow⟩
        by_cases hbg : b = g
        · subst hbg; exact .inr ⟨⟨_, _, _, _, hbx⟩, hrow⟩
        · exact .inl (setRow_other W g b _ hbg)
    intro fu T W hG hF hne hltb
    have e47 : T 47 = .agg #[.slice A d.secs.length c, .slice A' d.pend.length c', .int .i64 d.left, .bool false] := hF 0 _ rfl (by omega)
    have e48 : T 48 = .agg #[.slice A d.secs.length c, .slice A' d.pend.length c', .int .i64 d.left, .bool false] := hF 1 _ rfl (by omega)
    obtain ⟨gx, e5, hgx, -⟩ := hF 2 _ rfl (by omega)
    have e5 : T 5 = _ := e5
    obtain ⟨gy, e6, hgy, y0, y1, y2, y3, hby⟩ := hF 3 _ rfl (by omega)
    have e6 : T 6 = _ := e6
    have hxx := hF 4 _ rfl (by omega)
    have hxy : gx ≠ gy := by
      have := hne 2 3 _ _ 5 6 (by omega) (by omega) rfl rfl (by omega) rfl rfl rfl rfl
      rw [e5, e6] at this
      simpa [pb] using this
    clear hF hne hltb
    simp only [List.take, fillT, List.setIfInBounds_toArray, List.set_cons_zero, List.set_cons_succ, e47, e48, e5, e6] at hxx ⊢
    clear e47 e48 e5 e6
    obtain ⟨g', hg1, hbx⟩ := hxx
    obtain rfl : gx = g' := by simpa using hg1
    clear hg1
    refine wpAny_ready (rs := [5]) (by kernel_rfl) (by simp) (AllReady.cons (o := ⟨none, .store 25 (.tmp 6) (.tmp 48), _, _, _, none⟩) rfl (fun K1 hK1 => ?_) AllReady.nil)
    rw [if_pos (by rfl)]
    refine wp_store_row 25 (.tmp 6) (.tmp 48) rfl gy #[.slice A d.secs.length c, .slice A' d.pend.length c', .int .i64 d.left, .bool false] rfl rfl 25 _ hby (by kernel_rfl) rfl (by simp [Value.oneCell']) ?_
    refine hK1 _ _ ?_
    clear hK1 K1
    refine wpAny_done (by kernel_rfl) ?_ _
    simp only [Act.put]
    have kx := (setRow_other W gy gx #[.slice A d.secs.length c, .slice A' d.pend.length c', .int .i64 d.left, .bool false] hxy).trans hbx
    have ky := setRow_heap W gy _ #[.slice A d.secs.length c, .slice A' d.pend.length c', .int .i64 d.left, .bool false] _ _ hby
    have hGV := below_setRow hG hgy #[.slice A d.secs.length c, .slice A' d.pend.length c', .int .i64 d.left, .bool false]
    clear hbx hby hG
    generalize W.setRow gy #[.slice A d.secs.length c, .slice A' d.pend.length c', .int .i64 d.left, .bool false] = V at *
    have hxs : xT d l 0 = d := xT_zero hp0.out hs l
    have hru : runB d = true := runB_iff.2 ⟨hk, hs⟩
    have hnV := hGV.size
    have gyV : gy < V.heap.size := (Array.getElem?_eq_some_iff.1 ky).1
    have gxV : gx < V.heap.size := (Array.getElem?_eq_some_iff.1 kx).1
    have dV : DR V (Sv w.heap.size V.heap.size V) A c A' c' d := (hdh.out.keep (Kept.of (fun _ h => h) (H.out.below.trans (hGV.mono (by omega))))).mono fun b h => .inl h
    have J := Lib.hid (show TJ w3.heap.size w.heap.size V.heap.size gx gy w3 (xT d l 0) d V from ⟨hGV, hwlt, hnV, Nat.le_refl _, ⟨hgx, gxV⟩, ⟨hgy, gyV⟩, hxy, by rw [hxs]; exact ⟨A, c, A', c', by unfold KB; rw [hs]; exact kx, dV⟩, ⟨A, c, A', c', by unfold KB; rw [hs]; exact ky, dV⟩⟩)
    have hsec := (chkB_iff.1 hk).1
    obtain ⟨nV, hnVe⟩ : ∃ n, n = V.heap.size := ⟨_, rfl⟩
    rw [← hnVe] at J
    have hru := Lib.hid hru
    have hk0 := Lib.hid (show KB w3 w.heap.size A c A' c' d from H.out.kb)
    have hst := Lib.hid hs
    have hrl3 := Lib.hid (hrlh.out.keep (Kept.below H.out.below))
    have hB3 := Lib.hid H.out.below
    clear kx ky hGV hxs dV hk hs hgx hgy gxV gyV hnV
    go_wp2_with fail
    go_loopw [7, 8] (fun e i wr => ∃ k : Nat, k ≤ l.length ∧ i = .int .i64 k ∧ ∃ x : Dk, Hid (TJ w3.heap.size w.heap.size nV gx gy w3 x d wr) ∧ ((e = .int .i64 0 ∧ x = xT d l k ∧ (d.left = -1 ∨ (k : Int) ≤ d.left)) ∨ (e = .int .i64 40 ∧ x = endT d l ∧ 0 ≤ d.left ∧ d.left < l.length))) (fun _ i _ => l.length - (intOf i).toNat)
    case atStart => exact ⟨0, Nat.zero_le _, rfl, _, J, .inl ⟨rfl, rfl, by have := (chkB_iff.1 (runB_iff.1 hru.out).1).2.2.2.1; omega⟩⟩
    case round =>
      obtain ⟨k, hk, rfl, x, J, hx⟩ := hrel
      rcases hx with ⟨rfl, hx0, hxl⟩ | ⟨rfl, hx0, hxl⟩
      · by_cases hlt : k < l.length
        · subst hx0
          have J0 := J.out
          have hKD := J0.base.block _ hwlt
          have hb3 := J0.base
          obtain ⟨y0, y1, y2, y3⟩ := KB.cells (hKD.trans hk0.out)
          obtain ⟨bl, ol, rfl, hbl, l0, l1, l2⟩ := (hrl3.out.keep (Kept.of (fun _ h => Nat.lt_trans h hwlt) hb3)).at_ hlt
          obtain ⟨Ax, cx, Ax', cx', kx, dx⟩ := J0.bx
          obtain ⟨x0, x1, x2, x3⟩ := kx.cells
          have hz0 : ((d.secs.length : Int) == 0) = false := beq_eq_false_iff_ne.2 (by omega)
          have hz1 : ¬ (d.secs.length : Int) = 0 := by omega
          have hgap : (wrap64 (l[k].pl.toNat : Int)).tmod (d.secs.length : Int) = ((plT d.secs.length l[k] : Nat) : Int) := by
            rw [wrap64_u8]; exact gap_rem (n := d.secs.length) l[k].pl (by omega)
          have hwx := write_xT hru.out l k hxl hlt
          obtain ⟨hrz, hsz⟩ := sync_zT hru.out l k hxl hlt
          have hpI : I64 ((plT d.secs.length l[k] : Nat) : Int) := by
            have : plT d.secs.length l[k] < d.secs.length := Nat.mod_lt _ (by omega)
            have := (chkB_iff.1 (runB_iff.1 hru.out).1).2.1
            unfold I64; omega
          have hzn := Lib.hid (show (zT d l k).secs.length = d.secs.length from xT_len d l k)
          have hz8 := Lib.hid ((chkB_iff.1 (runB_iff.1 hrz).1).2.2.2.2.2.1)
          have hzp := Lib.hid (show (zT d l k).pend.length ≠ 128 by simp [zT])
          obtain ⟨p, hp⟩ : ∃ p : Int, p = ((plT d.secs.length l[k] : Nat) : Int) := ⟨_, rfl⟩
          rw [← hp] at hgap hwx hpI
          have hwx := Lib.hid hwx
          have hsz := Lib.hid hsz
          have hnw := J0.nw
          have hmn : w.heap.size ≤ nV := by have := J0.mb; have := J0.bn; omega
          have hblw : bl < wr.heap.size := Nat.lt_of_lt_of_le hbl (by have := hb3.size; omega)
          have kx := Lib.hid (show wr.heap[gx]? = _ from kx)
          have dx := Lib.hid dx
          have l2 := Lib.hid l2
          have j0 : (0 : Int) ≤ k := by omega
          have j1 : (k : Int) < l.length := by omega
          clear hKD hb3 J0 hp hrz x0 x1 x2 x3
          go_wp2_with fail
          go_quiet (fail)
          go_wp2_with fail
          clear y0 y1 y2 y3 l0 l1 hz0 hz1 hgap
          refine wp_region_preA 15 0 (fun W => Below wr.heap.size wr W) (Qr w.heap.size nV d.secs.length (zT d l k))
            (fun i a v W => match i with
              | 0 => v = .agg #[.slice Ax (xT d l k).secs.length cx, .slice Ax' (xT d l k).pend.length cx', .int .i64 (xT d l k).left, .bool (xT d l k).stop]
              | 1 => v = .int .i64 p
              | 2 => v = .slice (some ⟨bl, ol, none⟩) l.length cl
              | 3 => v = .int .i64 (k : Int)
              | 4 => v = .pointer (some ⟨bl, ol + k * 3, none⟩)
              | 5 => v = .pointer (some ⟨bl, ol + k * 3 + 2, none⟩)
              | 6 => v = .int .u8 (l[k].by_.toNat : Int)
              | 7 => ∃ g, v = .slice (some ⟨g, 0, none⟩) 1 1 ∧ DB W g [l[k].by_]
              | 8 => ∃ A1 c1 A1' c1', v = .tuple #[.agg #[.slice A1 (zT d l k).secs.length c1, .slice A1' (zT d l k).pend.length c1', .int .i64 (zT d l k).left, .bool (zT d l k).stop], .int .i64 0] ∧ DR W (Sv w.heap.size nV W) A1 c1 A1' c1' (zT d l k)
              | 9 => ∃ A1 c1 A1' c1', v = .tuple #[.agg #[.slice A1 (zT d l k).secs.length c1, .slice A1' (zT d l k).pend.length c1', .int .i64 (zT d l k).left, .bool (zT d l k).stop], .int .i64 0] ∧ DR W (Sv w.heap.size nV W) A1 c1 A1' c1' (zT d l k)
              | 10 => ∃ A1 c1 A1' c1', v = .agg #[.slice A1 (zT d l k).secs.length c1, .slice A1' (zT d l k).pend.length c1', .int .i64 (zT d l k).left, .bool (zT d l k).stop] ∧ DR W (Sv w.heap.size nV W) A1 c1 A1' c1' (zT d l k)
              | 11 => v = .int .i64 0
              | 12 => ∃ g, v = .pointer (some ⟨g, 0, none⟩) ∧ wr.heap.size ≤ g ∧ Qb d.secs.length W g
              | 13 => ∃ g, a.tmps.getD 10 undef = .pointer (some ⟨g, 0, none⟩) ∧ Bx W g (Sv w.heap.size nV W) (zT d l k)
              | 14 => v = .int .i64 0
              | _ => True) (fun _ => false)
            (by kernel_rfl) (by kernel_rfl) (by kernel_rfl) (by kernel_rfl) (by kernel_rfl) (by kernel_rfl) (by kernel_rfl) ?_ (fun _ _ h => h.1) (dN (dN (Below.refl _ _) _) 1) ?_ ?_
          · intro i v a a' W W' hs hb hF
            match i, hs, hF with
            | 0, _, h => exact h
            | 1, _, h => exact h
            | 2, _, h => exact h
            | 3, _, h => exact h
            | 4, _, h => exact h
            | 5, _, h => exact h
            | 6, _, h => exact h
            | 7, _, ⟨g, h1, h2⟩ => exact ⟨g, h1, h2.qk hb.qk⟩
            | 8, _, ⟨A1, c1, A1', c1', h1, h2⟩ => exact ⟨A1, c1, A1', c1', h1, hb.dr hzn.out hz8.out h2⟩
            | 9, _, ⟨A1, c1, A1', c1', h1, h2⟩ => exact ⟨A1, c1, A1', c1', h1, hb.dr hzn.out hz8.out h2⟩
            | 10, _, ⟨A1, c1, A1', c1', h1, h2⟩ => exact ⟨A1, c1, A1', c1', h1, hb.dr hzn.out hz8.out h2⟩
            | 11, _, h => exact h
            | 12, _, ⟨g, h1, h2, h3⟩ => exact ⟨g, h1, h2, hb.qb hzn.out hzp.out h3⟩
            | 13, hs, ⟨g, h1, h2⟩ => exact ⟨g, (hs 10 (by decide +kernel)).trans h1, hb.bx hzn.out hz8.out h2⟩
            | 14, _, h => exact h
            | _ + 15, _, _ => trivial
          · refine ⟨?_, ?_, ?_, ?_, ?_, ?_, ?_, ?_, ?_, ?_, ?_, ?_, ?_, ?_, ?_, trivial⟩
            · refine stepA_any rfl fun ac W hA hG hD K hK => ?_
              have h5 := hA.getD (t := 5) (by kernel_rfl)
              simp only [Array.getD_eq_getD_getElem?] at h5
              obtain ⟨k0, k1, k2, k3⟩ := KB.cells (show KB W gx Ax cx Ax' cx' (xT d l k) from blk_step kx.out hG)
              rw [if_pos (by rfl)]
              exact wp_val (v := .agg #[.slice Ax (xT d l k).secs.length cx, .slice Ax' (xT d l k).pend.length cx', .int .i64 (xT d l k).left, .bool (xT d l k).stop]) (w' := W) (by simp [execOp, Act.eval, h5, go_sem, k0, k1, k2, k3]) (hK _ _ hG (Qr.same _ _ _ _ _) rfl (fun h => by cases h))
            · refine stepA_any rfl fun ac W hA hG hD K hK => ?_
              have h9 := hA.getD (t := 9) (by kernel_rfl)
              simp only [Array.getD_eq_getD_getElem?] at h9
              rw [if_pos (by rfl)]
              exact wp_val (v := .int .i64 p) (w' := W) (by simp [execOp, Act.eval, h9, go_sem]) (hK _ _ hG (Qr.same _ _ _ _ _) rfl (fun h => by cases h))
            · refine stepA_any rfl fun ac W hA hG hD K hK => ?_
              have h1 := hA.getD (t := 1) (by kernel_rfl)
              simp only [Array.getD_eq_getD_getElem?] at h1
              rw [if_pos (by rfl)]
              exact wp_val (v := .slice (some ⟨bl, ol, none⟩) l.length cl) (w' := W) (by simp [execOp, Act.eval, h1, go_sem]) (hK _ _ hG (Qr.same _ _ _ _ _) rfl (fun h => by cases h))
            · refine stepA_any rfl fun ac W hA hG hD K hK => ?_
              have h8 := hA.getD (t := 8) (by kernel_rfl)
              simp only [Array.getD_eq_getD_getElem?] at h8
              rw [if_pos (by rfl)]
              exact wp_val (v := .int .i64 (k : Int)) (w' := W) (by simp [execOp, Act.eval, h8, go_sem]) (hK _ _ hG (Qr.same _ _ _ _ _) rfl (fun h => by cases h))
            · refine stepA_any rfl fun ac W hA hG hD K hK => ?_
              have h72 := hD.get 2 72 _ rfl rfl (by kernel_rfl)
              have h73 := hD.get 3 73 _ rfl rfl (by kernel_rfl)
              simp only [Array.getD_eq_getD_getElem?] at h72 h73
              rw [if_pos (by rfl)]
              exact wp_val (v := .pointer (some ⟨bl, ol + k * 3, none⟩)) (w' := W) (by simp [execOp, Act.eval, h72, h73, go_sem, j0, j1]) (hK _ _ hG (Qr.same _ _ _ _ _) rfl (fun h => by cases h))
            · refine stepA_any rfl fun ac W hA hG hD K hK => ?_
              have h74 := hD.get 4 74 _ rfl rfl (by kernel_rfl)
              simp only [Array.getD_eq_getD_getElem?] at h74
              rw [if_pos (by rfl)]
              exact wp_val (v := .pointer (some ⟨bl, ol + k * 3 + 2, none⟩)) (w' := W) (by simp [execOp, Act.eval, h74, go_sem]) (hK _ _ hG (Qr.same _ _ _ _ _) rfl (fun h => by cases h))
            · refine stepA_any rfl fun ac W hA hG hD K hK => ?_
              have h75 := hD.get 5 75 _ rfl rfl (by kernel_rfl)
              simp only [Array.getD_eq_getD_getElem?] at h75
              have c2 := (hG.cell (p := ⟨bl, ol + k * 3 + 2, none⟩) hblw).trans l2.out
              rw [if_pos (by rfl)]
              exact wp_val (v := .int .u8 (l[k].by_.toNat : Int)) (w' := W) (by simp [execOp, Act.eval, h75, go_sem, c2]) (hK _ _ hG (Qr.same _ _ _ _ _) rfl (fun h => by cases h))
            · refine stepA_any rfl fun ac W hA hG hD K hK => ?_
              have h76 := hD.get 6 76 _ rfl rfl (by kernel_rfl)
              simp only [Array.getD_eq_getD_getElem?] at h76
              rw [if_pos (by rfl)]
              exact wp_val (v := .slice (some ⟨W.heap.size, 0, none⟩) 1 1) (w' := W.alloc (.cells (BV [l[k].by_]).toArray 5)) (by simp [execOp, Act.eval, h76, go_sem, BV]) (hK _ _ (hG.alloc hG.size _) (Qr.below (bnew W _)) ⟨_, rfl, heap_alloc_new W _⟩ (fun h => by cases h))
            · refine stepA_any rfl fun ac W hA hG hD K hK => ?_
              have h70 := hD.get 0 70 _ rfl rfl (by kernel_rfl)
              have h71 := hD.get 1 71 _ rfl rfl (by kernel_rfl)
              obtain ⟨g, h77, hdb⟩ := hD.get 7 77 _ rfl rfl (by kernel_rfl)
              simp only [Array.getD_eq_getD_getElem?] at h70 h71 h77
              rw [if_pos (by rfl)]
              have hnW : nV ≤ W.heap.size := Nat.le_trans hnw hG.size
              refine wp_call (f := 19) (args := #[.agg #[.slice Ax (xT d l k).secs.length cx, .slice Ax' (xT d l k).pend.length cx', .int .i64 (xT d l k).left, .bool (xT d l k).stop], .int .i64 p, .slice (some ⟨g, 0, none⟩) 1 1]) (by simp [execOp, Act.eval, h70, h71, h77, go_sem]) ((Write_any (xT d l k) p hpI [l[k].by_] (by simp [maxLen]) W Ax Ax' (some ⟨g, 0, none⟩) cx cx' 1 (Sv w.heap.size nV W) (Sv.lt hmn hnW) ((dx.out.keep (Kept.of (Sv.lt hmn hnw) hG)).mono fun b h => Sv.up hG.size b h) hdb.reads).mono fun e W' he => ?_)
              obtain ⟨A1, c1, A1', c1', rfl, hdz, hbw⟩ := he.get hwx.out
              exact hK _ _ (hG.trans (hbw.mono hG.size)) (Qr.below hbw) ⟨A1, c1, A1', c1', rfl, hdz.mono fun b h => Sv.sn hnW hbw.size b h⟩ (fun h => by cases h)
            · refine stepA_any rfl fun ac W hA hG hD K hK => ?_
              obtain ⟨A1, c1, A1', c1', h78, hdz⟩ := hD.get 8 78 _ rfl rfl (by kernel_rfl)
              simp only [Array.getD_eq_getD_getElem?] at h78
              rw [if_pos (by rfl)]
              exact wp_val (v := .tuple #[.agg #[.slice A1 (zT d l k).secs.length c1, .slice A1' (zT d l k).pend.length c1', .int .i64 (zT d l k).left, .bool (zT d l k).stop], .int .i64 0]) (w' := W) (by simp [execOp, Act.eval, h78, go_sem]) (hK _ _ hG (Qr.same _ _ _ _ _) ⟨A1, c1, A1', c1', rfl, hdz⟩ (fun h => by cases h))
            · refine stepA_any rfl fun ac W hA hG hD K hK => ?_
              obtain ⟨A1, c1, A1', c1', h69, hdz⟩ := hD.get 9 69 _ rfl rfl (by kernel_rfl)
              simp only [Array.getD_eq_getD_getElem?] at h69
              rw [if_pos (by rfl)]
              exact wp_val (v := .agg #[.slice A1 (zT d l k).secs.length c1, .slice A1' (zT d l k).pend.length c1', .int .i64 (zT d l k).left, .bool (zT d l k).stop]) (w' := W) (by simp [execOp, Act.eval, h69, go_sem]) (hK _ _ hG (Qr.same _ _ _ _ _) ⟨A1, c1, A1', c1', rfl, hdz⟩ (fun h => by cases h))
            · refine stepA_any rfl fun ac W hA hG hD K hK => ?_
              obtain ⟨A1, c1, A1', c1', h69, hdz⟩ := hD.get 9 69 _ rfl rfl (by kernel_rfl)
              simp only [Array.getD_eq_getD_getElem?] at h69
              rw [if_pos (by rfl)]
              exact wp_val (v := .int .i64 0) (w' := W) (by simp [execOp, Act.eval, h69, go_sem]) (hK _ _ hG (Qr.same _ _ _ _ _) rfl (fun h => by cases h))
            · refine stepA_any rfl fun ac W hA hG hD K hK => ?_
              rw [if_pos (by rfl)]
              exact wp_val (v := .pointer (some ⟨W.heap.size, 0, none⟩)) (w' := W.alloc (.cells #[.slice none 0 0, .slice none 0 0, .int .i64 0, .bool false] 25)) (by simp [execOp, go_sem]) (hK _ _ (hG.alloc hG.size _) (Qr.below (bnew W _)) ⟨_, rfl, hG.size, Qb.raw W⟩ (fun h => by cases h))
            · refine stepA_store rfl rfl fun ac W hA hG hD K hK => ?_
              obtain ⟨g, h10, hg, hq⟩ := hD.get 12 10 _ rfl rfl (by kernel_rfl)
              obtain ⟨A1, c1, A1', c1', h79, hdz⟩ := hD.get 10 79 _ rfl rfl (by kernel_rfl)
              rw [if_pos (by rfl)]
              obtain ⟨p1, p2⟩ := Qr.put hq hzn.out hz8.out hdz
              obtain ⟨_, _, _, _, _, _, _, _, hbx, -⟩ := hq
              exact wp_store_row 25 (.tmp 10) (.tmp 79) rfl g #[.slice A1 (zT d l k).secs.length c1, .slice A1' (zT d l k).pend.length c1', .int .i64 (zT d l k).left, .bool (zT d l k).stop] h10 h79 25 _ hbx (by kernel_rfl) rfl (by simp [Value.oneCell']) (hK _ (below_setRow hG hg _) p1 ⟨g, h10, p2⟩)
            · refine stepA_any rfl fun ac W hA hG hD K hK => ?_
              have h80 := hD.get 11 80 _ rfl rfl (by kernel_rfl)
              simp only [Array.getD_eq_getD_getElem?] at h80
              rw [if_pos (by rfl)]
              exact wp_val (v := .int .i64 0) (w' := W) (by simp [execOp, Act.eval, h80, go_sem]) (hK _ _ hG (Qr.same _ _ _ _ _) rfl (fun h => by cases h))
          intro fu T W hG hF hne hltb
          have e70 : T 70 = .agg #[.slice Ax (xT d l k).secs.length cx, .slice Ax' (xT d l k).pend.length cx', .int .i64 (xT d l k).left, .bool (xT d l k).stop] := hF 0 _ rfl (by omega)
          have e71 : T 71 = .int .i64 p := hF 1 _ rfl (by omega)
          have e72 : T 72 = .slice (some ⟨bl, ol, none⟩) l.length cl := hF 2 _ rfl (by omega)
          have e73 : T 73 = .int .i64 (k : Int) := hF 3 _ rfl (by omega)
          have e74 : T 74 = .pointer (some ⟨bl, ol + k * 3, none⟩) := hF 4 _ rfl (by omega)
          have e75 : T 75 = .pointer (some ⟨bl, ol + k * 3 + 2, none⟩) := hF 5 _ rfl (by omega)
          have e76 : T 76 = .int .u8 (l[k].by_.toNat : Int) := hF 6 _ rfl (by omega)
          obtain ⟨g7, e77, -⟩ := hF 7 _ rfl (by omega)
          have e77 : T 77 = _ := e77
          obtain ⟨A8, c8, A8', c8', e78, -⟩ := hF 8 _ rfl (by omega)
          have e78 : T 78 = _ := e78
          obtain ⟨A9, c9, A9', c9', e69, -⟩ := hF 9 _ rfl (by omega)
          have e69 : T 69 = _ := e69
          obtain ⟨A10, c10, A10', c10', e79, -⟩ := hF 10 _ rfl (by omega)
          have e79 : T 79 = _ := e79
          have e80 : T 80 = .int .i64 0 := hF 11 _ rfl (by omega)
          obtain ⟨gz, e10, hgz, -⟩ := hF 12 _ rfl (by omega)
          have e10 : T 10 = _ := e10
          have e11 : T 11 = .int .i64 0 := hF 14 _ rfl (by omega)
          have hbz := hF 13 _ rfl (by omega)
          clear hF hne hltb
          simp only [List.take, fillT, List.setIfInBounds_toArray, List.set_cons_zero, List.set_cons_succ, e70, e71, e72, e73, e74, e75, e76, e77, e78, e69, e79, e80, e10, e11] at hbz ⊢
          clear e70 e71 e72 e73 e74 e75 e76 e77 e78 e69 e79 e80 e10 e11
          obtain ⟨g', hg1, hbz⟩ := hbz
          obtain rfl : gz = g' := by simpa using hg1
          clear hg1
          refine wpAny_done (by kernel_rfl) ?_ _
          obtain ⟨A1, c1, A1', c1', kz, dz⟩ := hbz
          have J := J.out.step hG
          have hnW := J.nw
          obtain ⟨z0, z1, z2, z3⟩ := kz.cells
          have J := Lib.hid J
          clear kz hgz hG kx dx l2
          go_wp2_with fail
          clear z0 z1 z2 z3
          refine (Sync_any (zT d l k) W A1 A1' c1 c1' (Sv w.heap.size nV W) (Sv.lt hmn hnW) dz).mono ?_
          clear dz
          intro e W2 hp
          rcases hsz.out with ⟨hxl2, hv⟩ | ⟨hxl2, hv⟩
          rotate_left
          · have hl2 := Lib.hid (show 0 ≤ d.left ∧ d.left < (l.length : Int) by omega)
            clear hxl2 hxl
            obtain ⟨A2, c2, A2', c2', rfl, hd2, hb⟩ := hp.get hv
            have hd2 := hd2.mono fun b h => Sv.sn hnW hb.size b h
            have J := J.out.step hb
            obtain ⟨Ax, cx, Ax', cx', kx, -⟩ := J.bx
            obtain ⟨x0, x1, x2, x3⟩ := kx.cells
            have xf := kx.fz
            have J2 := Lib.hid (J.putx hd2)
            clear hp hb kx hd2 J hv hsz
            go_wp2_with fail
            clear x0 x1 x2 x3 xf
            go_roundw
            case rel => exact ⟨k + 1, by omega, by go_num, _, J2, .inr ⟨rfl, rfl, hl2.out⟩⟩
            case measure => simp [intOf]; omega
          · obtain ⟨A2, c2, A2', c2', rfl, hd2, hb⟩ := hp.get hv
            have hd2 := hd2.mono fun b h => Sv.sn hnW hb.size b h
            have J := J.out.step hb
            obtain ⟨Ax, cx, Ax', cx', kx, -⟩ := J.bx
            obtain ⟨x0, x1, x2, x3⟩ := kx.cells
            have xf := kx.fz
            have J2 := Lib.hid (J.putx hd2)
            clear hp hb kx hd2 J hv hsz
            go_wp2_with fail
            clear x0 x1 x2 x3 xf
            go_roundw
            case rel => exact ⟨k + 1, by omega, by go_num, _, J2, .inl ⟨rfl, rfl, hxl2⟩⟩
            case measure => simp [intOf]; omega
        · have hle : ¬ ((k : Int) < l.length) := by omega
          have hy : Hid (syncD (yT d l l.length) = (x, 0)) := by
            have hkl : k = l.length := by omega
            subst hx0
            rw [hkl] at hxl ⊢
            rcases sync_yT hru.out l hl20.out with ⟨-, h⟩ | ⟨h1, h2, -⟩
            · exact h
            · omega
          clear hx0 hxl hlt hk
          have hy0 : yT d l 0 = d := yT_zero hp0.out hst.out l
          have J := Lib.hid (show TJ w3.heap.size w.heap.size nV gx gy w3 x (yT d l 0) wr by rw [hy0]; exact J.out)
          clear hy0
          go_wp2_with fail
          obtain ⟨w0, hw0⟩ : ∃ w0, w0 = wr := ⟨_, rfl⟩
          subst hw0
          go_loopw [12] (fun i wr => ∃ k : Nat, k ≤ l.length ∧ i = .int .i64 k ∧ Hid (TJ w3.heap.size w.heap.size nV gx gy w3 x (yT d l k) wr)) (fun i _ => l.length - (intOf i).toNat)
          case atStart => exact ⟨0, Nat.zero_le _, rfl, J⟩
          case round =>
            clear J
            obtain ⟨k, hk, rfl, J⟩ := hrel
            by_cases hlt : k < l.length
            · have J0 := J.out
              have hKD := J0.base.block _ hwlt
              have hb3 := J0.base
              have hyd := Lib.hid (KB.cells (hKD.trans hk0.out)).1
              obtain ⟨bl, ol, rfl, hbl, l0, l1, l2⟩ := (hrl3.out.keep (Kept.of (fun _ h => Nat.lt_trans h hwlt) hb3)).at_ hlt
              obtain ⟨Ay, cy, Ay', cy', ky, dy⟩ := J0.by_
              have hz2 : ¬ d.secs = [] := fun h => by rw [h] at hsec; simp at hsec
              have hgap : (l[k].pl.toNat : Int).tmod (d.secs.length : Int) = ((plT d.secs.length l[k] : Nat) : Int) := gap_rem (n := d.secs.length) l[k].pl (by omega)
              have hwx := write_yT hru.out l k hl20.out hlt
              have hrz := run_yT hru.out l (k + 1) hl20.out
              have hpI : I64 ((plT d.secs.length l[k] : Nat) : Int) := by
                have : plT d.secs.length l[k] < d.secs.length := Nat.mod_lt _ (by omega)
                have := (chkB_iff.1 (runB_iff.1 hru.out).1).2.1
                unfold I64; omega
              have hzn := Lib.hid (show (yT d l (k + 1)).secs.length = d.secs.length from rfl)
              have hz8 := Lib.hid ((chkB_iff.1 (runB_iff.1 hrz).1).2.2.2.2.2.1)
              have hzp := Lib.hid (show (yT d l (k + 1)).pend.length ≠ 128 by have := hl20.out; simp [yT]; omega)
              obtain ⟨p, hp⟩ : ∃ p : Int, p = ((plT d.secs.length l[k] : Nat) : Int) := ⟨_, rfl⟩
              rw [← hp] at hgap hwx hpI
              have hwx := Lib.hid hwx
              have hnw := J0.nw
              have hmn : w.heap.size ≤ nV := by have := J0.mb; have := J0.bn; omega
              have hblw : bl < wr.heap.size := Nat.lt_of_lt_of_le hbl (by have := hb3.size; omega)
              have hww : w.heap.size < wr.heap.size := by have := hb3.size; omega
              have ky := Lib.hid (show wr.heap[gy]? = _ from ky)
              have dy := Lib.hid dy
              have l1 := Lib.hid l1
              have l2 := Lib.hid l2
              have j0 : (0 : Int) ≤ k := by omega
              have j1 : (k : Int) < l.length := by omega
              clear hKD hb3 J0 hp hrz l0
              go_wp2_with fail
              refine wp_region_preA 24 0 (fun W => Below wr.heap.size wr W) (Qr w.heap.size nV d.secs.length (yT d l (k + 1)))
                (fun i a v W => match i with
                  | 0 => v = .agg #[.slice Ay (yT d l k).secs.length cy, .slice Ay' (yT d l k).pend.length cy', .int .i64 (yT d l k).left, .bool (yT d l k).stop]
                  | 1 => v = .slice (some ⟨bl, ol, none⟩) l.length cl
                  | 2 => v = .int .i64 (k : Int)
                  | 3 => v = .pointer (some ⟨bl, ol + k * 3, none⟩)
                  | 4 => v = .pointer (some ⟨bl, ol + k * 3 + 1, none⟩)
                  | 5 => v = .int .u8 (l[k].pl.toNat : Int)
                  | 6 => v = .int .i64 (l[k].pl.toNat : Int)
                  | 7 => v = .pointer (some ⟨w.heap.size, 0, none⟩)
                  | 8 => v = .slice A d.secs.length c
                  | 9 => v = .int .i64 (d.secs.length : Int)
                  | 10 => v = .int .i64 p
                  | 11 => v = .slice (some ⟨bl, ol, none⟩) l.length cl
                  | 12 => v = .int .i64 (k : Int)
                  | 13 => v = .pointer (some ⟨bl, ol + k * 3, none⟩)
                  | 14 => v = .pointer (some ⟨bl, ol + k * 3 + 2, none⟩)
                  | 15 => v = .int .u8 (l[k].by_.toNat : Int)
                  | 16 => ∃ g, v = .slice (some ⟨g, 0, none⟩) 1 1 ∧ DB W g [l[k].by_]
                  | 17 => ∃ A1 c1 A1' c1', v = .tuple #[.agg #[.slice A1 (yT d l (k + 1)).secs.length c1, .slice A1' (yT d l (k + 1)).pend.length c1', .int .i64 (yT d l (k + 1)).left, .bool (yT d l (k + 1)).stop], .int .i64 0] ∧ DR W (Sv w.heap.size nV W) A1 c1 A1' c1' (yT d l (k + 1))
                  | 18 => ∃ A1 c1 A1' c1', v = .tuple #[.agg #[.slice A1 (yT d l (k + 1)).secs.length c1, .slice A1' (yT d l (k + 1)).pend.length c1', .int .i64 (yT d l (k + 1)).left, .bool (yT d l (k + 1)).stop], .int .i64 0] ∧ DR W (Sv w.heap.size nV W) A1 c1 A1' c1' (yT d l (k + 1))
                  | 19 => ∃ A1 c1 A1' c1', v = .agg #[.slice A1 (yT d l (k + 1)).secs.length c1, .slice A1' (yT d l (k + 1)).pend.length c1', .int .i64 (yT d l (k + 1)).left, .bool (yT d l (k + 1)).stop] ∧ DR W (Sv w.heap.size nV W) A1 c1 A1' c1' (yT d l (k + 1))
                  | 20 => v = .int .i64 0
                  | 21 => ∃ g, v = .pointer (some ⟨g, 0, none⟩) ∧ wr.heap.size ≤ g ∧ Qb d.secs.length W g
                  | 22 => ∃ g, a.tmps.getD 13 undef = .pointer (some ⟨g, 0, none⟩) ∧ Bx W g (Sv w.heap.size nV W) (yT d l (k + 1))
                  | 23 => v = .int .i64 0
                  | _ => True) (fun _ => false)
                (by kernel_rfl) (by kernel_rfl) (by kernel_rfl) (by kernel_rfl) (by kernel_rfl) (by kernel_rfl) (by kernel_rfl) ?_ (fun _ _ h => h.1) (dN (Below.refl _ _) 1) ?_ ?_
              · intro i v a a' W W' hs hb hF
                match i, hs, hF with
                | 0, _, h => exact h
                | 1, _, h => exact h
                | 2, _, h => exact h
                | 3, _, h => exact h
                | 4, _, h => exact h
                | 5, _, h => exact h
                | 6, _, h => exact h
                | 7, _, h => exact h
                | 8, _, h => exact h
                | 9, _, h => exact h
                | 10, _, h => exact h
                | 11, _, h => exact h
                | 12, _, h => exact h
                | 13, _, h => exact h
                | 14, _, h => exact h
                | 15, _, h => exact h
                | 16, _, ⟨g, h1, h2⟩ => exact ⟨g, h1, h2.qk hb.qk⟩
                | 17, _, ⟨A1, c1, A1', c1', h1, h2⟩ => exact ⟨A1, c1, A1', c1', h1, hb.dr hzn.out hz8.out h2⟩
                | 18, _, ⟨A1, c1, A1', c1', h1, h2⟩ => exact ⟨A1, c1, A1', c1', h1, hb.dr hzn.out hz8.out h2⟩
                | 19, _, ⟨A1, c1, A1', c1', h1, h2⟩ => exact ⟨A1, c1, A1', c1', h1, hb.dr hzn.out hz8.out h2⟩
                | 20, _, h => exact h
                | 21, _, ⟨g, h1, h2, h3⟩ => exact ⟨g, h1, h2, hb.qb hzn.out hzp.out h3⟩
                | 22, hs, ⟨g, h1, h2⟩ => exact ⟨g, (hs 13 (by decide +kernel)).trans h1, hb.bx hzn.out hz8.out h2⟩
                | 23, _, h => exact h
                | _ + 24, _, _ => trivial
              · refine ⟨?_, ?_, ?_, ?_, ?_, ?_, ?_, ?_, ?_, ?_, ?_, ?_, ?_, ?_, ?_, ?_, ?_, ?_, ?_, ?_, ?_, ?_, ?_, ?_, trivial⟩
                · refine stepA_any rfl fun ac W hA hG hD K hK => ?_
                  have h6 := hA.getD (t := 6) (by kernel_rfl)
                  simp only [Array.getD_eq_getD_getElem?] at h6
                  obtain ⟨k0, k1, k2, k3⟩ := KB.cells (show KB W gy Ay cy Ay' cy' (yT d l k) from blk_step ky.out hG)
                  rw [if_pos (by rfl)]
                  exact wp_val (v := .agg #[.slice Ay (yT d l k).secs.length cy, .slice Ay' (yT d l k).pend.length cy', .int .i64 (yT d l k).left, .bool (yT d l k).stop]) (w' := W) (by simp [execOp, Act.eval, h6, go_sem, k0, k1, k2, k3]) (hK _ _ hG (Qr.same _ _ _ _ _) rfl (fun h => by cases h))
                · refine stepA_any rfl fun ac W hA hG hD K hK => ?_
                  have h1 := hA.getD (t := 1) (by kernel_rfl)
                  simp only [Array.getD_eq_getD_getElem?] at h1
                  rw [if_pos (by rfl)]
                  exact wp_val (v := .slice (some ⟨bl, ol, none⟩) l.length cl) (w' := W) (by simp [execOp, Act.eval, h1, go_sem]) (hK _ _ hG (Qr.same _ _ _ _ _) rfl (fun h => by cases h))
                · refine stepA_any rfl fun ac W hA hG hD K hK => ?_
                  have h12 := hA.getD (t := 12) (by kernel_rfl)
                  simp only [Array.getD_eq_getD_getElem?] at h12
                  rw [if_pos (by rfl)]
                  exact wp_val (v := .int .i64 (k : Int)) (w' := W) (by simp [execOp, Act.eval, h12, go_sem]) (hK _ _ hG (Qr.same _ _ _ _ _) rfl (fun h => by cases h))
                · refine stepA_any rfl fun ac W hA hG hD K hK => ?_
                  have h96 := hD.get 1 96 _ rfl rfl (by kernel_rfl)
                  have h97 := hD.get 2 97 _ rfl rfl (by kernel_rfl)
                  simp only [Array.getD_eq_getD_getElem?] at h96 h97
                  rw [if_pos (by rfl)]
                  exact wp_val (v := .pointer (some ⟨bl, ol + k * 3, none⟩)) (w' := W) (by simp [execOp, Act.eval, h96, h97, go_sem, j0, j1]) (hK _ _ hG (Qr.same _ _ _ _ _) rfl (fun h => by cases h))
                · refine stepA_any rfl fun ac W hA hG hD K hK => ?_
                  have h98 := hD.get 3 98 _ rfl rfl (by kernel_rfl)
                  simp only [Array.getD_eq_getD_getElem?] at h98
                  rw [if_pos (by rfl)]
                  exact wp_val (v := .pointer (some ⟨bl, ol + k * 3 + 1, none⟩)) (w' := W) (by simp [execOp, Act.eval, h98, go_sem]) (hK _ _ hG (Qr.same _ _ _ _ _) rfl (fun h => by cases h))
                · refine stepA_any rfl fun ac W hA hG hD K hK => ?_
                  have h99 := hD.get 4 99 _ rfl rfl (by kernel_rfl)
                  simp only [Array.getD_eq_getD_getElem?] at h99
                  have c2 := (hG.cell (p := ⟨bl, ol + k * 3 + 1, none⟩) hblw).trans l1.out
                  rw [if_pos (by rfl)]
                  exact wp_val (v := .int .u8 (l[k].pl.toNat : Int)) (w' := W) (by simp [execOp, Act.eval, h99, go_sem, c2]) (hK _ _ hG (Qr.same _ _ _ _ _) rfl (fun h => by cases h))
                · refine stepA_any rfl fun ac W hA hG hD K hK => ?_
                  have h100 := hD.get 5 100 _ rfl rfl (by kernel_rfl)
                  simp only [Array.getD_eq_getD_getElem?] at h100
                  rw [if_pos (by rfl)]
                  exact wp_val (v := .int .i64 (l[k].pl.toNat : Int)) (w' := W) (by simp [execOp, Act.eval, h100, go_sem, wrapI_u8]) (hK _ _ hG (Qr.same _ _ _ _ _) rfl (fun h => by cases h))
                · refine stepA_any rfl fun ac W hA hG hD K hK => ?_
                  have h2 := hA.getD (t := 2) (by kernel_rfl)
                  simp only [Array.getD_eq_getD_getElem?] at h2
                  rw [if_pos (by rfl)]
                  exact wp_val (v := .pointer (some ⟨w.heap.size, 0, none⟩)) (w' := W) (by simp [execOp, Act.eval, h2, go_sem]) (hK _ _ hG (Qr.same _ _ _ _ _) rfl (fun h => by cases h))
                · refine stepA_any rfl fun ac W hA hG hD K hK => ?_
                  have h102 := hD.get 7 102 _ rfl rfl (by kernel_rfl)
                  simp only [Array.getD_eq_getD_getElem?] at h102
                  have c2 := (hG.cell (p := ⟨w.heap.size, 0, none⟩) hww).trans hyd.out
                  rw [if_pos (by rfl)]
                  exact wp_val (v := .slice A d.secs.length c) (w' := W) (by simp [execOp, Act.eval, h102, go_sem, c2]) (hK _ _ hG (Qr.same _ _ _ _ _) rfl (fun h => by cases h))
                · refine stepA_any rfl fun ac W hA hG hD K hK => ?_
                  have h103 := hD.get 8 103 _ rfl rfl (by kernel_rfl)
                  simp only [Array.getD_eq_getD_getElem?] at h103
                  rw [if_pos (by rfl)]
                  exact wp_val (v := .int .i64 (d.secs.length : Int)) (w' := W) (by simp [execOp, Act.eval, h103, go_sem]) (hK _ _ hG (Qr.same _ _ _ _ _) rfl (fun h => by cases h))
                · refine stepA_any rfl fun ac W hA hG hD K hK => ?_
                  have h101 := hD.get 6 101 _ rfl rfl (by kernel_rfl)
                  have h104 := hD.get 9 104 _ rfl rfl (by kernel_rfl)
                  simp only [Array.getD_eq_getD_getElem?] at h101 h104
                  rw [if_pos (by rfl)]
                  exact wp_val (v := .int .i64 p) (w' := W) (by simp [execOp, Act.eval, h101, h104, go_sem, hz2, hgap]) (hK _ _ hG (Qr.same _ _ _ _ _) rfl (fun h => by cases h))
                · refine stepA_any rfl fun ac W hA hG hD K hK => ?_
                  have h1 := hA.getD (t := 1) (by kernel_rfl)
                  simp only [Array.getD_eq_getD_getElem?] at h1
                  rw [if_pos (by rfl)]
                  exact wp_val (v := .slice (some ⟨bl, ol, none⟩) l.length cl) (w' := W) (by simp [execOp, Act.eval, h1, go_sem]) (hK _ _ hG (Qr.same _ _ _ _ _) rfl (fun h => by cases h))
                · refine stepA_any rfl fun ac W hA hG hD K hK => ?_
                  have h12 := hA.getD (t := 12) (by kernel_rfl)
                  simp only [Array.getD_eq_getD_getElem?] at h12
                  rw [if_pos (by rfl)]
                  exact wp_val (v := .int .i64 (k : Int)) (w' := W) (by simp [execOp, Act.eval, h12, go_sem]) (hK _ _ hG (Qr.same _ _ _ _ _) rfl (fun h => by cases h))
                · refine stepA_any rfl fun ac W hA hG hD K hK => ?_
                  have h106 := hD.get 11 106 _ rfl rfl (by kernel_rfl)
                  have h107 := hD.get 12 107 _ rfl rfl (by kernel_rfl)
                  simp only [Array.getD_eq_getD_getElem?] at h106 h107
                  rw [if_pos (by rfl)]
                  exact wp_val (v := .pointer (some ⟨bl, ol + k * 3, none⟩)) (w' := W) (by simp [execOp, Act.eval, h106, h107, go_sem, j0, j1]) (hK _ _ hG (Qr.same _ _ _ _ _) rfl (fun h => by cases h))
                · refine stepA_any rfl fun ac W hA hG hD K hK => ?_
                  have h108 := hD.get 13 108 _ rfl rfl (by kernel_rfl)
                  simp only [Array.getD_eq_getD_getElem?] at h108
                  rw [if_pos (by rfl)]
                  exact wp_val (v := .pointer (some ⟨bl, ol + k * 3 + 2, none⟩)) (w' := W) (by simp [execOp, Act.eval, h108, go_sem]) (hK _ _ hG (Qr.same _ _ _ _ _) rfl (fun h => by cases h))
                · refine stepA_any rfl fun ac W hA hG hD K hK => ?_
                  have h109 := hD.get 14 109 _ rfl rfl (by kernel_rfl)
                  simp only [Array.getD_eq_getD_getElem?] at h109
                  have c2 := (hG.cell (p := ⟨bl, ol + k * 3 + 2, none⟩) hblw).trans l2.out
                  rw [if_pos (by rfl)]
                  exact wp_val (v := .int .u8 (l[k].by_.toNat : Int)) (w' := W) (by simp [execOp, Act.eval, h109, go_sem, c2]) (hK _ _ hG (Qr.same _ _ _ _ _) rfl (fun h => by cases h))
                · refine stepA_any rfl fun ac W hA hG hD K hK => ?_
                  have h110 := hD.get 15 110 _ rfl rfl (by kernel_rfl)
                  simp only [Array.getD_eq_getD_getElem?] at h110
                  rw [if_pos (by rfl)]
                  exact wp_val (v := .slice (some ⟨W.heap.size, 0, none⟩) 1 1) (w' := W.alloc (.cells (BV [l[k].by_]).toArray 5)) (by simp [execOp, Act.eval, h110, go_sem, BV]) (hK _ _ (hG.alloc hG.size _) (Qr.below (bnew W _)) ⟨_, rfl, heap_alloc_new W _⟩ (fun h => by cases h))
                · refine stepA_any rfl fun ac W hA hG hD K hK => ?_
                  have h95 := hD.get 0 95 _ rfl rfl (by kernel_rfl)
                  have h105 := hD.get 10 105 _ rfl rfl (by kernel_rfl)
                  obtain ⟨g, h111, hdb⟩ := hD.get 16 111 _ rfl rfl (by kernel_rfl)
                  simp only [Array.getD_eq_getD_getElem?] at h95 h105 h111
                  rw [if_pos (by rfl)]
                  have hnW : nV ≤ W.heap.size := Nat.le_trans hnw hG.size
                  refine wp_call (f := 19) (args := #[.agg #[.slice Ay (yT d l k).secs.length cy, .slice Ay' (yT d l k).pend.length cy', .int .i64 (yT d l k).left, .bool (yT d l k).stop], .int .i64 p, .slice (some ⟨g, 0, none⟩) 1 1]) (by simp [execOp, Act.eval, h95, h105, h111, go_sem]) ((Write_any (yT d l k) p hpI [l[k].by_] (by simp [maxLen]) W Ay Ay' (some ⟨g, 0, none⟩) cy cy' 1 (Sv w.heap.size nV W) (Sv.lt hmn hnW) ((dy.out.keep (Kept.of (Sv.lt hmn hnw) hG)).mono fun b h => Sv.up hG.size b h) hdb.reads).mono fun e W' he => ?_)
                  obtain ⟨A1, c1, A1', c1', rfl, hdz, hbw⟩ := he.get hwx.out
                  exact hK _ _ (hG.trans (hbw.mono hG.size)) (Qr.below hbw) ⟨A1, c1, A1', c1', rfl, hdz.mono fun b h => Sv.sn hnW hbw.size b h⟩ (fun h => by cases h)
                · refine stepA_any rfl fun ac W hA hG hD K hK => ?_
                  obtain ⟨A1, c1, A1', c1', h112, hdz⟩ := hD.get 17 112 _ rfl rfl (by kernel_rfl)
                  simp only [Array.getD_eq_getD_getElem?] at h112
                  rw [if_pos (by rfl)]
                  exact wp_val (v := .tuple #[.agg #[.slice A1 (yT d l (k + 1)).secs.length c1, .slice A1' (yT d l (k + 1)).pend.length c1', .int .i64 (yT d l (k + 1)).left, .bool (yT d l (k + 1)).stop], .int .i64 0]) (w' := W) (by simp [execOp, Act.eval, h112, go_sem]) (hK _ _ hG (Qr.same _ _ _ _ _) ⟨A1, c1, A1', c1', rfl, hdz⟩ (fun h => by cases h))
                · refine stepA_any rfl fun ac W hA hG hD K hK => ?_
                  obtain ⟨A1, c1, A1', c1', h94, hdz⟩ := hD.get 18 94 _ rfl rfl (by kernel_rfl)
                  simp only [Array.getD_eq_getD_getElem?] at h94
                  rw [if_pos (by rfl)]
                  exact wp_val (v := .agg #[.slice A1 (yT d l (k + 1)).secs.length c1, .slice A1' (yT d l (k + 1)).pend.length c1', .int .i64 (yT d l (k + 1)).left, .bool (yT d l (k + 1)).stop]) (w' := W) (by simp [execOp, Act.eval, h94, go_sem]) (hK _ _ hG (Qr.same _ _ _ _ _) ⟨A1, c1, A1', c1', rfl, hdz⟩ (fun h => by cases h))
                · refine stepA_any rfl fun ac W hA hG hD K hK => ?_
                  obtain ⟨A1, c1, A1', c1', h94, hdz⟩ := hD.get 18 94 _ rfl rfl (by kernel_rfl)
                  simp only [Array.getD_eq_getD_getElem?] at h94
                  rw [if_pos (by rfl)]
                  exact wp_val (v := .int .i64 0) (w' := W) (by simp [execOp, Act.eval, h94, go_sem]) (hK _ _ hG (Qr.same _ _ _ _ _) rfl (fun h => by cases h))
                · refine stepA_any rfl fun ac W hA hG hD K hK => ?_
                  rw [if_pos (by rfl)]
                  exact wp_val (v := .pointer (some ⟨W.heap.size, 0, none⟩)) (w' := W.alloc (.cells #[.slice none 0 0, .slice none 0 0, .int .i64 0, .bool false] 25)) (by simp [execOp, go_sem]) (hK _ _ (hG.alloc hG.size _) (Qr.below (bnew W _)) ⟨_, rfl, hG.size, Qb.raw W⟩ (fun h => by cases h))
                · refine stepA_store rfl rfl fun ac W hA hG hD K hK => ?_
                  obtain ⟨g, h13, hg, hq⟩ := hD.get 21 13 _ rfl rfl (by kernel_rfl)
                  obtain ⟨A1, c1, A1', c1', h113, hdz⟩ := hD.get 19 113 _ rfl rfl (by kernel_rfl)
                  rw [if_pos (by rfl)]
                  obtain ⟨p1, p2⟩ := Qr.put hq hzn.out hz8.out hdz
                  obtain ⟨_, _, _, _, _, _, _, _, hbx, -⟩ := hq
                  exact wp_store_row 25 (.tmp 13) (.tmp 113) rfl g #[.slice A1 (yT d l (k + 1)).secs.length c1, .slice A1' (yT d l (k + 1)).pend.length c1', .int .i64 (yT d l (k + 1)).left, .bool (yT d l (k + 1)).stop] h13 h113 25 _ hbx (by kernel_rfl) rfl (by simp [Value.oneCell']) (hK _ (below_setRow hG hg _) p1 ⟨g, h13, p2⟩)
                · refine stepA_any rfl fun ac W hA hG hD K hK => ?_
                  have h114 := hD.get 20 114 _ rfl rfl (by kernel_rfl)
                  simp only [Array.getD_eq_getD_getElem?] at h114
                  rw [if_pos (by rfl)]
                  exact wp_val (v := .int .i64 0) (w' := W) (by simp [execOp, Act.eval, h114, go_sem]) (hK _ _ hG (Qr.same _ _ _ _ _) rfl (fun h => by cases h))
              intro fu T W hG hF hne hltb
              have e95 : T 95 = .agg #[.slice Ay (yT d l k).secs.length cy, .slice Ay' (yT d l k).pend.length cy', .int .i64 (yT d l k).left, .bool (yT d l k).stop] := hF 0 _ rfl (by omega)
              have e96 : T 96 = .slice (some ⟨bl, ol, none⟩) l.length cl := hF 1 _ rfl (by omega)
              have e97 : T 97 = .int .i64 (k : Int) := hF 2 _ rfl (by omega)
              have e98 : T 98 = .pointer (some ⟨bl, ol + k * 3, none⟩) := hF 3 _ rfl (by omega)
              have e99 : T 99 = .pointer (some ⟨bl, ol + k * 3 + 1, none⟩) := hF 4 _ rfl (by omega)
              have e100 : T 100 = .int .u8 (l[k].pl.toNat : Int) := hF 5 _ rfl (by omega)
              have e101 : T 101 = .int .i64 (l[k].pl.toNat : Int) := hF 6 _ rfl (by omega)
              have e102 : T 102 = .pointer (some ⟨w.heap.size, 0, none⟩) := hF 7 _ rfl (by omega)
              have e103 : T 103 = .slice A d.secs.length c := hF 8 _ rfl (by omega)
              have e104 : T 104 = .int .i64 (d.secs.length : Int) := hF 9 _ rfl (by omega)
              have e105 : T 105 = .int .i64 p := hF 10 _ rfl (by omega)
              have e106 : T 106 = .slice (some ⟨bl, ol, none⟩) l.length cl := hF 11 _ rfl (by omega)
              have e107 : T 107 = .int .i64 (k : Int) := hF 12 _ rfl (by omega)
              have e108 : T 108 = .pointer (some ⟨bl, ol + k * 3, none⟩) := hF 13 _ rfl (by omega)
              have e109 : T 109 = .pointer (some ⟨bl, ol + k * 3 + 2, none⟩) := hF 14 _ rfl (by omega)
              have e110 : T 110 = .int .u8 (l[k].by_.toNat : Int) := hF 15 _ rfl (by omega)
              obtain ⟨g7, e111, -⟩ := hF 16 _ rfl (by omega)
              have e111 : T 111 = _ := e111
              obtain ⟨A17, c17, A17', c17', e112, -⟩ := hF 17 _ rfl (by omega)
              have e112 : T 112 = _ := e112
              obtain ⟨A18, c18, A18', c18', e94, -⟩ := hF 18 _ rfl (by omega)
              have e94 : T 94 = _ := e94
              obtain ⟨A19, c19, A19', c19', e113, -⟩ := hF 19 _ rfl (by omega)
              have e113 : T 113 = _ := e113
              have e114 : T 114 = .int .i64 0 := hF 20 _ rfl (by omega)
              obtain ⟨gz, e13, hgz, -⟩ := hF 21 _ rfl (by omega)
              have e13 : T 13 = _ := e13
              have e14 : T 14 = .int .i64 0 := hF 23 _ rfl (by omega)
              have hbz := hF 22 _ rfl (by omega)
              clear hF hne hltb
              simp only [List.take, fillT, List.setIfInBounds_toArray, List.set_cons_zero, List.set_cons_succ, e95, e96, e97, e98, e99, e100, e101, e102, e103, e104, e105, e106, e107, e108, e109, e110, e111, e112, e94, e113, e114, e13, e14] at hbz ⊢
              clear e95 e96 e97 e98 e99 e100 e101 e102 e103 e104 e105 e106 e107 e108 e109 e110 e111 e112 e94 e113 e114 e13 e14
              obtain ⟨g', hg1, hbz⟩ := hbz
              obtain rfl : gz = g' := by simpa using hg1
              clear hg1
              refine wpAny_done (by kernel_rfl) ?_ _
              obtain ⟨A1, c1, A1', c1', kz, dz⟩ := hbz
              have J := J.out.step hG
              have hnW := J.nw
              obtain ⟨z0, z1, z2, z3⟩ := kz.cells
              have J2 := Lib.hid (J.puty dz)
              obtain ⟨Ay, cy, Ay', cy', ky, -⟩ := J.by_
              obtain ⟨y0, y1, y2, y3⟩ := ky.cells
              have yf := ky.fz
              clear kz hgz hG dy l1 l2 J dz ky
              go_wp2_with fail
              clear z0 z1 z2 z3 y0 y1 y2 y3 yf
              go_roundw
              case rel => exact ⟨k + 1, by omega, by go_num, J2⟩
              case measure => simp [intOf]; omega
            · have hle : ¬ ((k : Int) < l.length) := by omega
              have hkl : k = l.length := by omega
              have J := J.out
              rw [hkl] at J
              obtain ⟨Ay, cy, Ay', cy', ky, dy⟩ := J.by_
              obtain ⟨y0, y1, y2, y3⟩ := ky.cells
              have hnw := J.nw
              have hmn : w.heap.size ≤ nV := by have := J.mb; have := J.bn; omega
              have J := Lib.hid J
              clear hkl hlt hk ky
              go_wp2_with fail
              clear y0 y1 y2 y3
              refine (Sync_any (yT d l l.length) wr Ay Ay' cy cy' (Sv w.heap.size nV wr) (Sv.lt hmn hnw) dy).mono ?_
              intro e W2 hp
              obtain ⟨A2, c2, A2', c2', rfl, hd2, hb⟩ := hp.get hy.out
              have hd2 := hd2.mono fun b h => Sv.sn hnw hb.size b h
              have J := J.out.step hb
              obtain ⟨Ay, cy, Ay', cy', ky, -⟩ := J.by_
              obtain ⟨y0, y1, y2, y3⟩ := ky.cells
              have yf := ky.fz
              have J2 := J.puty hd2
              clear hp hb ky hd2 J dy hy
              obtain ⟨Ax, cx, Ax', cx', kx, dx⟩ := J2.bx
              obtain ⟨x0, x1, x2, x3⟩ := kx.cells
              obtain ⟨Az, cz, Az', cz', kz, dz⟩ := J2.by_
              obtain ⟨z0, z1, z2, z3⟩ := kz.cells
              have hnw2 := J2.nw
              have hS := Same_any x _ Ax Ax' Az Az' cx cx' cz cz' (dx.mono (Sv.lt hmn hnw2)) (dz.mono (Sv.lt hmn hnw2))
              have J2 := Lib.hid J2
              have hS := Lib.hid hS
              clear kx kz dx dz hnw2
              go_wp2_with fail
              clear y0 y1 y2 y3 yf x0 x1 x2 x3 z0 z1 z2 z3
              refine hS.out.mono ?_
              rintro e W3 ⟨rfl, hb⟩
              have J3 := J2.out.step hb
              have hbf := hB3.out.trans (J3.base.mono hB3.out.size)
              clear hS hb J2 J3
              go_wp2_with fail
              go_ret
              exact ⟨rfl, hbf⟩
      · have hy : Hid (syncD (yT d l l.length) = (x, 40)) := by
          subst hx0
          rcases sync_yT hru.out l hl20.out with ⟨h, -⟩ | ⟨-, -, h⟩
          · omega
          · exact h
        clear hx0 hxl hk
        by_cases hlt : k < l.length
        · have hlt' : (k : Int) < l.length := by omega
          clear hlt
          have hy0 : yT d l 0 = d := yT_zero hp0.out hst.out l
          have J := Lib.hid (show TJ w3.heap.size w.heap.size nV gx gy w3 x (yT d l 0) wr by rw [hy0]; exact J.out)
          clear hy0
          go_wp2_with fail
          obtain ⟨w0, hw0⟩ : ∃ w0, w0 = wr := ⟨_, rfl⟩
          subst hw0
          go_loopw [12] (fun i wr => ∃ k : Nat, k ≤ l.length ∧ i = .int .i64 k ∧ Hid (TJ w3.heap.size w.heap.size nV gx gy w3 x (yT d l k) wr)) (fun i _ => l.length - (intOf i).toNat)
          case atStart => exact ⟨0, Nat.zero_le _, rfl, J⟩
          case round =>
            clear J
            obtain ⟨k, hk, rfl, J⟩ := hrel
            by_cases hlt : k < l.length
            · have J0 := J.out
              have hKD := J0.base.block _ hwlt
              have hb3 := J0.base
              have hyd := Lib.hid (KB.cells (hKD.trans hk0.out)).1
              obtain ⟨bl, ol, rfl, hbl, l0, l1, l2⟩ := (hrl3.out.keep (Kept.of (fun _ h => Nat.lt_trans h hwlt) hb3)).at_ hlt
              obtain ⟨Ay, cy, Ay', cy', ky, dy⟩ := J0.by_
              have hz2 : ¬ d.secs = [] := fun h => by rw [h] at hsec; simp at hsec
              have hgap : (l[k].pl.toNat : Int).tmod (d.secs.length : Int) = ((plT d.secs.length l[k] : Nat) : Int) := gap_rem (n := d.secs.length) l[k].pl (by omega)
              have hwx := write_yT hru.out l k hl20.out hlt
              have hrz := run_yT hru.out l (k + 1) hl20.out
              have hpI : I64 ((plT d.secs.length l[k] : Nat) : Int) := by
                have : plT d.secs.length l[k] < d.secs.length := Nat.mod_lt _ (by omega)
                have := (chkB_iff.1 (runB_iff.1 hru.out).1).2.1
                unfold I64; omega
              have hzn := Lib.hid (show (yT d l (k + 1)).secs.length = d.secs.length from rfl)
              have hz8 := Lib.hid ((chkB_iff.1 (runB_iff.1 hrz).1).2.2.2.2.2.1)
              have hzp := Lib.hid (show (yT d l (k + 1)).pend.length ≠ 128 by have := hl20.out; simp [yT]; omega)
              obtain ⟨p, hp⟩ : ∃ p : Int, p = ((plT d.secs.length l[k] : Nat) : Int) := ⟨_, rfl⟩
              rw [← hp] at hgap hwx hpI
              have hwx := Lib.hid hwx
              have hnw := J0.nw
              have hmn : w.heap.size ≤ nV := by have := J0.mb; have := J0.bn; omega
              have hblw : bl < wr.heap.size := Nat.lt_of_lt_of_le hbl (by have := hb3.size; omega)
              have hww : w.heap.size < wr.heap.size := by have := hb3.size; omega
              have ky := Lib.hid (show wr.heap[gy]? = _ from ky)
              have dy := Lib.hid dy
              have l1 := Lib.hid l1
              have l2 := Lib.hid l2
              have j0 : (0 : Int) ≤ k := by omega
              have j1 : (k : Int) < l.length := by omega
              clear hKD hb3 J0 hp hrz l0
              go_wp2_with fail
              refine wp_region_preA 24 0 (fun W => Below wr.heap.size wr W) (Qr w.heap.size nV d.secs.length (yT d l (k + 1)))
                (fun i a v W => match i with
                  | 0 => v = .agg #[.slice Ay (yT d l k).secs.length cy, .slice Ay' (yT d l k).pend.length cy', .int .i64 (yT d l k).left, .bool (yT d l k).stop]
                  | 1 => v = .slice (some ⟨bl, ol, none⟩) l.length cl
                  | 2 => v = .int .i64 (k : Int)
                  | 3 => v = .pointer (some ⟨bl, ol + k * 3, none⟩)
                  | 4 => v = .pointer (some ⟨bl, ol + k * 3 + 1, none⟩)
                  | 5 => v = .int .u8 (l[k].pl.toNat : Int)
                  | 6 => v = .int .i64 (l[k].pl.toNat : Int)
                  | 7 => v = .pointer (some ⟨w.heap.size, 0, none⟩)
                  | 8 => v = .slice A d.secs.length c
                  | 9 => v = .int .i64 (d.secs.length : Int)
                  | 10 => v = .int .i64 p
                  | 11 => v = .slice (some ⟨bl, ol, none⟩) l.length cl
                  | 12 => v = .int .i64 (k : Int)
                  | 13 => v = .pointer (some ⟨bl, ol + k * 3, none⟩)
                  | 14 => v = .pointer (some ⟨bl, ol + k * 3 + 2, none⟩)
                  | 15 => v = .int .u8 (l[k].by_.toNat : Int)
                  | 16 => ∃ g, v = .slice (some ⟨g, 0, none⟩) 1 1 ∧ DB W g [l[k].by_]
                  | 17 => ∃ A1 c1 A1' c1', v = .tuple #[.agg #[.slice A1 (yT d l (k + 1)).secs.length c1, .slice A1' (yT d l (k + 1)).pend.length c1', .int .i64 (yT d l (k + 1)).left, .bool (yT d l (k + 1)).stop], .int .i64 0] ∧ DR W (Sv w.heap.size nV W) A1 c1 A1' c1' (yT d l (k + 1))
                  | 18 => ∃ A1 c1 A1' c1', v = .tuple #[.agg #[.slice A1 (yT d l (k + 1)).secs.length c1, .slice A1' (yT d l (k + 1)).pend.length c1', .int .i64 (yT d l (k + 1)).left, .bool (yT d l (k + 1)).stop], .int .i64 0] ∧ DR W (Sv w.heap.size nV W) A1 c1 A1' c1' (yT d l (k + 1))
                  | 19 => ∃ A1 c1 A1' c1', v = .agg #[.slice A1 (yT d l (k + 1)).secs.length c1, .slice A1' (yT d l (k + 1)).pend.length c1', .int .i64 (yT d l (k + 1)).left, .bool (yT d l (k + 1)).stop] ∧ DR W (Sv w.heap.size nV W) A1 c1 A1' c1' (yT d l (k + 1))
                  | 20 => v = .int .i64 0
                  | 21 => ∃ g, v = .pointer (some ⟨g, 0, none⟩) ∧ wr.heap.size ≤ g ∧ Qb d.secs.length W g
                  | 22 => ∃ g, a.tmps.getD 13 undef = .pointer (some ⟨g, 0, none⟩) ∧ Bx W g (Sv w.heap.size nV W) (yT d l (k + 1))
                  | 23 => v = .int .i64 0
                  | _ => True) (fun _ => false)
                (by kernel_rfl) (by kernel_rfl) (by kernel_rfl) (by kernel_rfl) (by kernel_rfl) (by kernel_rfl) (by kernel_rfl) ?_ (fun _ _ h => h.1) (dN (Below.refl _ _) 1) ?_ ?_
              · intro i v a a' W W' hs hb hF
                match i, hs, hF with
                | 0, _, h => exact h
                | 1, _, h => exact h
                | 2, _, h => exact h
                | 3, _, h => exact h
                | 4, _, h => exact h
                | 5, _, h => exact h
                | 6, _, h => exact h
                | 7, _, h => exact h
                | 8, _, h => exact h
                | 9, _, h => exact h
                | 10, _, h => exact h
                | 11, _, h => exact h
                | 12, _, h => exact h
                | 13, _, h => exact h
                | 14, _, h => exact h
                | 15, _, h => exact h
                | 16, _, ⟨g, h1, h2⟩ => exact ⟨g, h1, h2.qk hb.qk⟩
                | 17, _, ⟨A1, c1, A1', c1', h1, h2⟩ => exact ⟨A1, c1, A1', c1', h1, hb.dr hzn.out hz8.out h2⟩
                | 18, _, ⟨A1, c1, A1', c1', h1, h2⟩ => exact ⟨A1, c1, A1', c1', h1, hb.dr hzn.out hz8.out h2⟩
                | 19, _, ⟨A1, c1, A1', c1', h1, h2⟩ => exact ⟨A1, c1, A1', c1', h1, hb.dr hzn.out hz8.out h2⟩
                | 20, _, h => exact h
                | 21, _, ⟨g, h1, h2, h3⟩ => exact ⟨g, h1, h2, hb.qb hzn.out hzp.out h3⟩
                | 22, hs, ⟨g, h1, h2⟩ => exact ⟨g, (hs 13 (by decide +kernel)).trans h1, hb.bx hzn.out hz8.out h2⟩
                | 23, _, h => exact h
                | _ + 24, _, _ => trivial
              · refine ⟨?_, ?_, ?_, ?_, ?_, ?_, ?_, ?_, ?_, ?_, ?_, ?_, ?_, ?_, ?_, ?_, ?_, ?_, ?_, ?_, ?_, ?_, ?_, ?_, trivial⟩
                · refine stepA_any rfl fun ac W hA hG hD K hK => ?_
                  have h6 := hA.getD (t := 6) (by kernel_rfl)
                  simp only [Array.getD_eq_getD_getElem?] at h6
                  obtain ⟨k0, k1, k2, k3⟩ := KB.cells (show KB W gy Ay cy Ay' cy' (yT d l k) from blk_step ky.out hG)
                  rw [if_pos (by rfl)]
                  exact wp_val (v := .agg #[.slice Ay (yT d l k).secs.length cy, .slice Ay' (yT d l k).pend.length cy', .int .i64 (yT d l k).left, .bool (yT d l k).stop]) (w' := W) (by simp [execOp, Act.eval, h6, go_sem, k0, k1, k2, k3]) (hK _ _ hG (Qr.same _ _ _ _ _) rfl (fun h => by cases h))
                · refine stepA_any rfl fun ac W hA hG hD K hK => ?_
                  have h1 := hA.getD (t := 1) (by kernel_rfl)
                  simp only [Array.getD_eq_getD_getElem?] at h1
                  rw [if_pos (by rfl)]
                  exact wp_val (v := .slice (some ⟨bl, ol, none⟩) l.length cl) (w' := W) (by simp [execOp, Act.eval, h1, go_sem]) (hK _ _ hG (Qr.same _ _ _ _ _) rfl (fun h => by cases h))
                · refine stepA_any rfl fun ac W hA hG hD K hK => ?_
                  have h12 := hA.getD (t := 12) (by kernel_rfl)
                  simp only [Array.getD_eq_getD_getElem?] at h12
                  rw [if_pos (by rfl)]
                  exact wp_val (v := .int .i64 (k : Int)) (w' := W) (by simp [execOp, Act.eval, h12, go_sem]) (hK _ _ hG (Qr.same _ _ _ _ _) rfl (fun h => by cases h))
                · refine stepA_any rfl fun ac W hA hG hD K hK => ?_
                  have h96 := hD.get 1 96 _ rfl rfl (by kernel_rfl)
                  have h97 := hD.get 2 97 _ rfl rfl (by kernel_rfl)
                  simp only [Array.getD_eq_getD_getElem?] at h96 h97
                  rw [if_pos (by rfl)]
                  exact wp_val (v := .pointer (some ⟨bl, ol + k * 3, none⟩)) (w' := W) (by simp [execOp, Act.eval, h96, h97, go_sem, j0, j1]) (hK _ _ hG (Qr.same _ _ _ _ _) rfl (fun h => by cases h))
                · refine stepA_any rfl fun ac W hA hG hD K hK => ?_
                  have h98 := hD.get 3 98 _ rfl rfl (by kernel_rfl)
                  simp only [Array.getD_eq_getD_getElem?] at h98
                  rw [if_pos (by rfl)]
                  exact wp_val (v := .pointer (some ⟨bl, ol + k * 3 + 1, none⟩)) (w' := W) (by simp [execOp, Act.eval, h98, go_sem]) (hK _ _ hG (Qr.same _ _ _ _ _) rfl (fun h => by cases h))
                · refine stepA_any rfl fun ac W hA hG hD K hK => ?_
                  have h99 := hD.get 4 99 _ rfl rfl (by kernel_rfl)
                  simp only [Array.getD_eq_getD_getElem?] at h99
                  have c2 := (hG.cell (p := ⟨bl, ol + k * 3 + 1, none⟩) hblw).trans l1.out
                  rw [if_pos (by rfl)]
                  exact wp_val (v := .int .u8 (l[k].pl.toNat : Int)) (w' := W) (by simp [execOp, Act.eval, h99, go_sem, c2]) (hK _ _ hG (Qr.same _ _ _ _ _) rfl (fun h => by cases h))
                · refine stepA_any rfl fun ac W hA hG hD K hK => ?_
                  have h100 := hD.get 5 100 _ rfl rfl (by kernel_rfl)
                  simp only [Array.getD_eq_getD_getElem?] at h100
                  rw [if_pos (by rfl)]
                  exact wp_val (v := .int .i64 (l[k].pl.toNat : Int)) (w' := W) (by simp [execOp, Act.eval, h100, go_sem, wrapI_u8]) (hK _ _ hG (Qr.same _ _ _ _ _) rfl (fun h => by cases h))
                · refine stepA_any rfl fun ac W hA hG hD K hK => ?_
                  have h2 := hA.getD (t := 2) (by kernel_rfl)
                  simp only [Array.getD_eq_getD_getElem?] at h2
                  rw [if_pos (by rfl)]
                  exact wp_val (v := .pointer (some ⟨w.heap.size, 0, none⟩)) (w' := W) (by simp [execOp, Act.eval, h2, go_sem]) (hK _ _ hG (Qr.same _ _ _ _ _) rfl (fun h => by cases h))
                · refine stepA_any rfl fun ac W hA hG hD K hK => ?_
                  have h102 := hD.get 7 102 _ rfl rfl (by kernel_rfl)
                  simp only [Array.getD_eq_getD_getElem?] at h102
                  have c2 := (hG.cell (p := ⟨w.heap.size, 0, none⟩) hww).trans hyd.out
                  rw [if_pos (by rfl)]
                  exact wp_val (v := .slice A d.secs.length c) (w' := W) (by simp [execOp, Act.eval, h102, go_sem, c2]) (hK _ _ hG (Qr.same _ _ _ _ _) rfl (fun h => by cases h))
                · refine stepA_any rfl fun ac W hA hG hD K hK => ?_
                  have h103 := hD.get 8 103 _ rfl rfl (by kernel_rfl)
                  simp only [Array.getD_eq_getD_getElem?] at h103
                  rw [if_pos (by rfl)]
                  exact wp_val (v := .int .i64 (d.secs.length : Int)) (w' := W) (by simp [execOp, Act.eval, h103, go_sem]) (hK _ _ hG (Qr.same _ _ _ _ _) rfl (fun h => by cases h))
                · refine stepA_any rfl fun ac W hA hG hD K hK => ?_
                  have h101 := hD.get 6 101 _ rfl rfl (by kernel_rfl)
                  have h104 := hD.get 9 104 _ rfl rfl (by kernel_rfl)
                  simp only [Array.getD_eq_getD_getElem?] at h101 h104
                  rw [if_pos (by rfl)]
                  exact wp_val (v := .int .i64 p) (w' := W) (by simp [execOp, Act.eval, h101, h104, go_sem, hz2, hgap]) (hK _ _ hG (Qr.same _ _ _ _ _) rfl (fun h => by cases h))
                · refine stepA_any rfl fun ac W hA hG hD K hK => ?_
                  have h1 := hA.getD (t := 1) (by kernel_rfl)
                  simp only [Array.getD_eq_getD_getElem?] at h1
                  rw [if_pos (by rfl)]
                  exact wp_val (v := .slice (some ⟨bl, ol, none⟩) l.length cl) (w' := W) (by simp [execOp, Act.eval, h1, go_sem]) (hK _ _ hG (Qr.same _ _ _ _ _) rfl (fun h => by cases h))
                · refine stepA_any rfl fun ac W hA hG hD K hK => ?_
                  have h12 := hA.getD (t := 12) (by kernel_rfl)
                  simp only [Array.getD_eq_getD_getElem?] at h12
                  rw [if_pos (by rfl)]
                  exact wp_val (v := .int .i64 (k : Int)) (w' := W) (by simp [execOp, Act.eval, h12, go_sem]) (hK _ _ hG (Qr.same _ _ _ _ _) rfl (fun h => by cases h))
                · refine stepA_any rfl fun ac W hA hG hD K hK => ?_
                  have h106 := hD.get 11 106 _ rfl rfl (by kernel_rfl)
                  have h107 := hD.get 12 107 _ rfl rfl (by kernel_rfl)
                  simp only [Array.getD_eq_getD_getElem?] at h106 h107
                  rw [if_pos (by rfl)]
                  exact wp_val (v := .pointer (some ⟨bl, ol + k * 3, none⟩)) (w' := W) (by simp [execOp, Act.eval, h106, h107, go_sem, j0, j1]) (hK _ _ hG (Qr.same _ _ _ _ _) rfl (fun h => by cases h))
                · refine stepA_any rfl fun ac W hA hG hD K hK => ?_
                  have h108 := hD.get 13 108 _ rfl rfl (by kernel_rfl)
                  simp only [Array.getD_eq_getD_getElem?] at h108
                  rw [if_pos (by rfl)]
                  exact wp_val (v := .pointer (some ⟨bl, ol + k * 3 + 2, none⟩)) (w' := W) (by simp [execOp, Act.eval, h108, go_sem]) (hK _ _ hG (Qr.same _ _ _ _ _) rfl (fun h => by cases h))
                · refine stepA_any rfl fun ac W hA hG hD K hK => ?_
                  have h109 := hD.get 14 109 _ rfl rfl (by kernel_rfl)
                  simp only [Array.getD_eq_getD_getElem?] at h109
                  have c2 := (hG.cell (p := ⟨bl, ol + k * 3 + 2, none⟩) hblw).trans l2.out
                  rw [if_pos (by rfl)]
                  exact wp_val (v := .int .u8 (l[k].by_.toNat : Int)) (w' := W) (by simp [execOp, Act.eval, h109, go_sem, c2]) (hK _ _ hG (Qr.same _ _ _ _ _) rfl (fun h => by cases h))
                · refine stepA_any rfl fun ac W hA hG hD K hK => ?_
                  have h110 := hD.get 15 110 _ rfl rfl (by kernel_rfl)
                  simp only [Array.getD_eq_getD_getElem?] at h110
                  rw [if_pos (by rfl)]
                  exact wp_val (v := .slice (some ⟨W.heap.size, 0, none⟩) 1 1) (w' := W.alloc (.cells (BV [l[k].by_]).toArray 5)) (by simp [execOp, Act.eval, h110, go_sem, BV]) (hK _ _ (hG.alloc hG.size _) (Qr.below (bnew W _)) ⟨_, rfl, heap_alloc_new W _⟩ (fun h => by cases h))
                · refine stepA_any rfl fun ac W hA hG hD K hK => ?_
                  have h95 := hD.get 0 95 _ rfl rfl (by kernel_rfl)
                  have h105 := hD.get 10 105 _ rfl rfl (by kernel_rfl)
                  obtain ⟨g, h111, hdb⟩ := hD.get 16 111 _ rfl rfl (by kernel_rfl)
                  simp only [Array.getD_eq_getD_getElem?] at h95 h105 h111
                  rw [if_pos (by rfl)]
                  have hnW : nV ≤ W.heap.size := Nat.le_trans hnw hG.size
                  refine wp_call (f := 19) (args := #[.agg #[.slice Ay (yT d l k).secs.length cy, .slice Ay' (yT d l k).pend.length cy', .int .i64 (yT d l k).left, .bool (yT d l k).stop], .int .i64 p, .slice (some ⟨g, 0, none⟩) 1 1]) (by simp [execOp, Act.eval, h95, h105, h111, go_sem]) ((Write_any (yT d l k) p hpI [l[k].by_] (by simp [maxLen]) W Ay Ay' (some ⟨g, 0, none⟩) cy cy' 1 (Sv w.heap.size nV W) (Sv.lt hmn hnW) ((dy.out.keep (Kept.of (Sv.lt hmn hnw) hG)).mono fun b h => Sv.up hG.size b h) hdb.reads).mono fun e W' he => ?_)
                  obtain ⟨A1, c1, A1', c1', rfl, hdz, hbw⟩ := he.get hwx.out
                  exact hK _ _ (hG.trans (hbw.mono hG.size)) (Qr.below hbw) ⟨A1, c1, A1', c1', rfl, hdz.mono fun b h => Sv.sn hnW hbw.size b h⟩ (fun h => by cases h)
                · refine stepA_any rfl fun ac W hA hG hD K hK => ?_
                  obtain ⟨A1, c1, A1', c1', h112, hdz⟩ := hD.get 17 112 _ rfl rfl (by kernel_rfl)
                  simp only [Array.getD_eq_getD_getElem?] at h112
                  rw [if_pos (by rfl)]
                  exact wp_val (v := .tuple #[.agg #[.slice A1 (yT d l (k + 1)).secs.length c1, .slice A1' (yT d l (k + 1)).pend.length c1', .int .i64 (yT d l (k + 1)).left, .bool (yT d l (k + 1)).stop], .int .i64 0]) (w' := W) (by simp [execOp, Act.eval, h112, go_sem]) (hK _ _ hG (Qr.same _ _ _ _ _) ⟨A1, c1, A1', c1', rfl, hdz⟩ (fun h => by cases h))
                · refine stepA_any rfl fun ac W hA hG hD K hK => ?_
                  obtain ⟨A1, c1, A1', c1', h94, hdz⟩ := hD.get 18 94 _ rfl rfl (by kernel_rfl)
                  simp only [Array.getD_eq_getD_getElem?] at h94
                  rw [if_pos (by rfl)]
                  exact wp_val (v := .agg #[.slice A1 (yT d l (k + 1)).secs.length c1, .slice A1' (yT d l (k + 1)).pend.length c1', .int .i64 (yT d l (k + 1)).left, .bool (yT d l (k + 1)).stop]) (w' := W) (by simp [execOp, Act.eval, h94, go_sem]) (hK _ _ hG (Qr.same _ _ _ _ _) ⟨A1, c1, A1', c1', rfl, hdz⟩ (fun h => by cases h))
                · refine stepA_any rfl fun ac W hA hG hD K hK => ?_
                  obtain ⟨A1, c1, A1', c1', h94, hdz⟩ := hD.get 18 94 _ rfl rfl (by kernel_rfl)
                  simp only [Array.getD_eq_getD_getElem?] at h94
                  rw [if_pos (by rfl)]
                  exact wp_val (v := .int .i64 0) (w' := W) (by simp [execOp, Act.eval, h94, go_sem]) (hK _ _ hG (Qr.same _ _ _ _ _) rfl (fun h => by cases h))
                · refine stepA_any rfl fun ac W hA hG hD K hK => ?_
                  rw [if_pos (by rfl)]
                  exact wp_val (v := .pointer (some ⟨W.heap.size, 0, none⟩)) (w' := W.alloc (.cells #[.slice none 0 0, .slice none 0 0, .int .i64 0, .bool false] 25)) (by simp [execOp, go_sem]) (hK _ _ (hG.alloc hG.size _) (Qr.below (bnew W _)) ⟨_, rfl, hG.size, Qb.raw W⟩ (fun h => by cases h))
                · refine stepA_store rfl rfl fun ac W hA hG hD K hK => ?_
                  obtain ⟨g, h13, hg, hq⟩ := hD.get 21 13 _ rfl rfl (by kernel_rfl)
                  obtain ⟨A1, c1, A1', c1', h113, hdz⟩ := hD.get 19 113 _ rfl rfl (by kernel_rfl)
                  rw [if_pos (by rfl)]
                  obtain ⟨p1, p2⟩ := Qr.put hq hzn.out hz8.out hdz
                  obtain ⟨_, _, _, _, _, _, _, _, hbx, -⟩ := hq
                  exact wp_store_row 25 (.tmp 13) (.tmp 113) rfl g #[.slice A1 (yT d l (k + 1)).secs.length c1, .slice A1' (yT d l (k + 1)).pend.length c1', .int .i64 (yT d l (k + 1)).left, .bool (yT d l (k + 1)).stop] h13 h113 25 _ hbx (by kernel_rfl) rfl (by simp [Value.oneCell']) (hK _ (below_setRow hG hg _) p1 ⟨g, h13, p2⟩)
                · refine stepA_any rfl fun ac W hA hG hD K hK => ?_
                  have h114 := hD.get 20 114 _ rfl rfl (by kernel_rfl)
                  simp only [Array.getD_eq_getD_getElem?] at h114
                  rw [if_pos (by rfl)]
                  exact wp_val (v := .int .i64 0) (w' := W) (by simp [execOp, Act.eval, h114, go_sem]) (hK _ _ hG (Qr.same _ _ _ _ _) rfl (fun h => by cases h))
              intro fu T W hG hF hne hltb
              have e95 : T 95 = .agg #[.slice Ay (yT d l k).secs.length cy, .slice Ay' (yT d l k).pend.length cy', .int .i64 (yT d l k).left, .bool (yT d l k).stop] := hF 0 _ rfl (by omega)
              have e96 : T 96 = .slice (some ⟨bl, ol, none⟩) l.length cl := hF 1 _ rfl (by omega)
              have e97 : T 97 = .int .i64 (k : Int) := hF 2 _ rfl (by omega)
              have e98 : T 98 = .pointer (some ⟨bl, ol + k * 3, none⟩) := hF 3 _ rfl (by omega)
              have e99 : T 99 = .pointer (some ⟨bl, ol + k * 3 + 1, none⟩) := hF 4 _ rfl (by omega)
              have e100 : T 100 = .int .u8 (l[k].pl.toNat : Int) := hF 5 _ rfl (by omega)
              have e101 : T 101 = .int .i64 (l[k].pl.toNat : Int) := hF 6 _ rfl (by omega)
              have e102 : T 102 = .pointer (some ⟨w.heap.size, 0, none⟩) := hF 7 _ rfl (by omega)
              have e103 : T 103 = .slice A d.secs.length c := hF 8 _ rfl (by omega)
              have e104 : T 104 = .int .i64 (d.secs.length : Int) := hF 9 _ rfl (by omega)
              have e105 : T 105 = .int .i64 p := hF 10 _ rfl (by omega)
              have e106 : T 106 = .slice (some ⟨bl, ol, none⟩) l.length cl := hF 11 _ rfl (by omega)
              have e107 : T 107 = .int .i64 (k : Int) := hF 12 _ rfl (by omega)
              have e108 : T 108 = .pointer (some ⟨bl, ol + k * 3, none⟩) := hF 13 _ rfl (by omega)
              have e109 : T 109 = .pointer (some ⟨bl, ol + k * 3 + 2, none⟩) := hF 14 _ rfl (by omega)
              have e110 : T 110 = .int .u8 (l[k].by_.toNat : Int) := hF 15 _ rfl (by omega)
              obtain ⟨g7, e111, -⟩ := hF 16 _ rfl (by omega)
              have e111 : T 111 = _ := e111
              obtain ⟨A17, c17, A17', c17', e112, -⟩ := hF 17 _ rfl (by omega)
              have e112 : T 112 = _ := e112
              obtain ⟨A18, c18, A18', c18', e94, -⟩ := hF 18 _ rfl (by omega)
              have e94 : T 94 = _ := e94
              obtain ⟨A19, c19, A19', c19', e113, -⟩ := hF 19 _ rfl (by omega)
              have e113 : T 113 = _ := e113
              have e114 : T 114 = .int .i64 0 := hF 20 _ rfl (by omega)
              obtain ⟨gz, e13, hgz, -⟩ := hF 21 _ rfl (by omega)
              have e13 : T 13 = _ := e13
              have e14 : T 14 = .int .i64 0 := hF 23 _ rfl (by omega)
              have hbz := hF 22 _ rfl (by omega)
              clear hF hne hltb
              simp only [List.take, fillT, List.setIfInBounds_toArray, List.set_cons_zero, List.set_cons_succ, e95, e96, e97, e98, e99, e100, e101, e102, e103, e104, e105, e106, e107, e108, e109, e110, e111, e112, e94, e113, e114, e13, e14] at hbz ⊢
              clear e95 e96 e97 e98 e99 e100 e101 e102 e103 e104 e105 e106 e107 e108 e109 e110 e111 e112 e94 e113 e114 e13 e14
              obtain ⟨g', hg1, hbz⟩ := hbz
              obtain rfl : gz = g' := by simpa using hg1
              clear hg1
              refine wpAny_done (by kernel_rfl) ?_ _
              obtain ⟨A1, c1, A1', c1', kz, dz⟩ := hbz
              have J := J.out.step hG
              have hnW := J.nw
              obtain ⟨z0, z1, z2, z3⟩ := kz.cells
              have J2 := Lib.hid (J.puty dz)
              obtain ⟨Ay, cy, Ay', cy', ky, -⟩ := J.by_
              obtain ⟨y0, y1, y2, y3⟩ := ky.cells
              have yf := ky.fz
              clear kz hgz hG dy l1 l2 J dz ky
              go_wp2_with fail
              clear z0 z1 z2 z3 y0 y1 y2 y3 yf
              go_roundw
              case rel => exact ⟨k + 1, by omega, by go_num, J2⟩
              case measure => simp [intOf]; omega
            · have hle : ¬ ((k : Int) < l.length) := by omega
              have hkl : k = l.length := by omega
              have J := J.out
              rw [hkl] at J
              obtain ⟨Ay, cy, Ay', cy', ky, dy⟩ := J.by_
              obtain ⟨y0, y1, y2, y3⟩ := ky.cells
              have hnw := J.nw
              have hmn : w.heap.size ≤ nV := by have := J.mb; have := J.bn; omega
              have J := Lib.hid J
              clear hkl hlt hk ky
              go_wp2_with fail
              clear y0 y1 y2 y3
              refine (Sync_any (yT d l l.length) wr Ay Ay' cy cy' (Sv w.heap.size nV wr) (Sv.lt hmn hnw) dy).mono ?_
              intro e W2 hp
              obtain ⟨A2, c2, A2', c2', rfl, hd2, hb⟩ := hp.get hy.out
              have hd2 := hd2.mono fun b h => Sv.sn hnw hb.size b h
              have J := J.out.step hb
              obtain ⟨Ay, cy, Ay', cy', ky, -⟩ := J.by_
              obtain ⟨y0, y1, y2, y3⟩ := ky.cells
              have yf := ky.fz
              have J2 := J.puty hd2
              clear hp hb ky hd2 J dy hy
              obtain ⟨Ax, cx, Ax', cx', kx, dx⟩ := J2.bx
              obtain ⟨x0, x1, x2, x3⟩ := kx.cells
              obtain ⟨Az, cz, Az', cz', kz, dz⟩ := J2.by_
              obtain ⟨z0, z1, z2, z3⟩ := kz.cells
              have hnw2 := J2.nw
              have hS := Same_any x _ Ax Ax' Az Az' cx cx' cz cz' (dx.mono (Sv.lt hmn hnw2)) (dz.mono (Sv.lt hmn hnw2))
              have J2 := Lib.hid J2
              have hS := Lib.hid hS
              clear kx kz dx dz hnw2
              go_wp2_with fail
              clear y0 y1 y2 y3 yf x0 x1 x2 x3 z0 z1 z2 z3
              refine hS.out.mono ?_
              rintro e W3 ⟨rfl, hb⟩
              have J3 := J2.out.step hb
              have hbf := hB3.out.trans (J3.base.mono hB3.out.size)
              clear hS hb J2 J3
              go_wp2_with fail
              go_ret
              exact ⟨rfl, hbf⟩
        · have hle : ¬ ((k : Int) < l.length) := by omega
          clear hlt
          have hy0 : yT d l 0 = d := yT_zero hp0.out hst.out l
          have J := Lib.hid (show TJ w3.heap.size w.heap.size nV gx gy w3 x (yT d l 0) wr by rw [hy0]; exact J.out)
          clear hy0
          go_wp2_with fail
          obtain ⟨w0, hw0⟩ : ∃ w0, w0 = wr := ⟨_, rfl⟩
          subst hw0
          go_loopw [12] (fun i wr => ∃ k : Nat, k ≤ l.length ∧ i = .int .i64 k ∧ Hid (TJ w3.heap.size w.heap.size nV gx gy w3 x (yT d l k) wr)) (fun i _ => l.length - (intOf i).toNat)
          case atStart => exact ⟨0, Nat.zero_le _, rfl, J⟩
          case round =>
            clear J
            obtain ⟨k, hk, rfl, J⟩ := hrel
            by_cases hlt : k < l.length
            · have J0 := J.out
              have hKD := J0.base.block _ hwlt
              have hb3 := J0.base
              have hyd := Lib.hid (KB.cells (hKD.trans hk0.out)).1
              obtain ⟨bl, ol, rfl, hbl, l0, l1, l2⟩ := (hrl3.out.keep (Kept.of (fun _ h => Nat.lt_trans h hwlt) hb3)).at_ hlt
              obtain ⟨Ay, cy, Ay', cy', ky, dy⟩ := J0.by_
              have hz2 : ¬ d.secs = [] := fun h => by rw [h] at hsec; simp at hsec
              have hgap : (l[k].pl.toNat : Int).tmod (d.secs.length : Int) = ((plT d.secs.length l[k] : Nat) : Int) := gap_rem (n := d.secs.length) l[k].pl (by omega)
              have hwx := write_yT hru.out l k hl20.out hlt
              have hrz := run_yT hru.out l (k + 1) hl20.out
              have hpI : I64 ((plT d.secs.length l[k] : Nat) : Int) := by
                have : plT d.secs.length l[k] < d.secs.length := Nat.mod_lt _ (by omega)
                have := (chkB_iff.1 (runB_iff.1 hru.out).1).2.1
                unfold I64; omega
              have hzn := Lib.hid (show (yT d l (k + 1)).secs.length = d.secs.length from rfl)
              have hz8 := Lib.hid ((chkB_iff.1 (runB_iff.1 hrz).1).2.2.2.2.2.1)
              have hzp := Lib.hid (show (yT d l (k + 1)).pend.length ≠ 128 by have := hl20.out; simp [yT]; omega)
              obtain ⟨p, hp⟩ : ∃ p : Int, p = ((plT d.secs.length l[k] : Nat) : Int) := ⟨_, rfl⟩
              rw [← hp] at hgap hwx hpI
              have hwx := Lib.hid hwx
              have hnw := J0.nw
              have hmn : w.heap.size ≤ nV := by have := J0.mb; have := J0.bn; omega
              have hblw : bl < wr.heap.size := Nat.lt_of_lt_of_le hbl (by have := hb3.size; omega)
              have hww : w.heap.size < wr.heap.size := by have := hb3.size; omega
              have ky := Lib.hid (show wr.heap[gy]? = _ from ky)
              have dy := Lib.hid dy
              have l1 := Lib.hid l1
              have l2 := Lib.hid l2
              have j0 : (0 : Int) ≤ k := by omega
              have j1 : (k : Int) < l.length := by omega
              clear hKD hb3 J0 hp hrz l0
              go_wp2_with fail
              refine wp_region_preA 24 0 (fun W => Below wr.heap.size wr W) (Qr w.heap.size nV d.secs.length (yT d l (k + 1)))
                (fun i a v W => match i with
                  | 0 => v = .agg #[.slice Ay (yT d l k).secs.length cy, .slice Ay' (yT d l k).pend.length cy', .int .i64 (yT d l k).left, .bool (yT d l k).stop]
                  | 1 => v = .slice (some ⟨bl, ol, none⟩) l.length cl
                  | 2 => v = .int .i64 (k : Int)
                  | 3 => v = .pointer (some ⟨bl, ol + k * 3, none⟩)
                  | 4 => v = .pointer (some ⟨bl, ol + k * 3 + 1, none⟩)
                  | 5 => v = .int .u8 (l[k].pl.toNat : Int)
                  | 6 => v = .int .i64 (l[k].pl.toNat : Int)
                  | 7 => v = .pointer (some ⟨w.heap.size, 0, none⟩)
                  | 8 => v = .slice A d.secs.length c
                  | 9 => v = .int .i64 (d.secs.length : Int)
                  | 10 => v = .int .i64 p
                  | 11 => v = .slice (some ⟨bl, ol, none⟩) l.length cl
                  | 12 => v = .int .i64 (k : Int)
                  | 13 => v = .pointer (some ⟨bl, ol + k * 3, none⟩)
                  | 14 => v = .pointer (some ⟨bl, ol + k * 3 + 2, none⟩)
                  | 15 => v = .int .u8 (l[k].by_.toNat : Int)
                  | 16 => ∃ g, v = .slice (some ⟨g, 0, none⟩) 1 1 ∧ DB W g [l[k].by_]
                  | 17 => ∃ A1 c1 A1' c1', v = .tuple #[.agg #[.slice A1 (yT d l (k + 1)).secs.length c1, .slice A1' (yT d l (k + 1)).pend.length c1', .int .i64 (yT d l (k + 1)).left, .bool (yT d l (k + 1)).stop], .int .i64 0] ∧ DR W (Sv w.heap.size nV W) A1 c1 A1' c1' (yT d l (k + 1))
                  | 18 => ∃ A1 c1 A1' c1', v = .tuple #[.agg #[.slice A1 (yT d l (k + 1)).secs.length c1, .slice A1' (yT d l (k + 1)).pend.length c1', .int .i64 (yT d l (k + 1)).left, .bool (yT d l (k + 1)).stop], .int .i64 0] ∧ DR W (Sv w.heap.size nV W) A1 c1 A1' c1' (yT d l (k + 1))
                  | 19 => ∃ A1 c1 A1' c1', v = .agg #[.slice A1 (yT d l (k + 1)).secs.length c1, .slice A1' (yT d l (k + 1)).pend.length c1', .int .i64 (yT d l (k + 1)).left, .bool (yT d l (k + 1)).stop] ∧ DR W (Sv w.heap.size nV W) A1 c1 A1' c1' (yT d l (k + 1))
                  | 20 => v = .int .i64 0
                  | 21 => ∃ g, v = .pointer (some ⟨g, 0, none⟩) ∧ wr.heap.size ≤ g ∧ Qb d.secs.length W g
                  | 22 => ∃ g, a.tmps.getD 13 undef = .pointer (some ⟨g, 0, none⟩) ∧ Bx W g (Sv w.heap.size nV W) (yT d l (k + 1))
                  | 23 => v = .int .i64 0
                  | _ => True) (fun _ => false)
                (by kernel_rfl) (by kernel_rfl) (by kernel_rfl) (by kernel_rfl) (by kernel_rfl) (by kernel_rfl) (by kernel_rfl) ?_ (fun _ _ h => h.1) (dN (Below.refl _ _) 1) ?_ ?_
              · intro i v a a' W W' hs hb hF
                match i, hs, hF with
                | 0, _, h => exact h
                | 1, _, h => exact h
                | 2, _, h => exact h
                | 3, _, h => exact h
                | 4, _, h => exact h
                | 5, _, h => exact h
                | 6, _, h => exact h
                | 7, _, h => exact h
                | 8, _, h => exact h
                | 9, _, h => exact h
                | 10, _, h => exact h
                | 11, _, h => exact h
                | 12, _, h => exact h
                | 13, _, h => exact h
                | 14, _, h => exact h
                | 15, _, h => exact h
                | 16, _, ⟨g, h1, h2⟩ => exact ⟨g, h1, h2.qk hb.qk⟩
                | 17, _, ⟨A1, c1, A1', c1', h1, h2⟩ => exact ⟨A1, c1, A1', c1', h1, hb.dr hzn.out hz8.out h2⟩
                | 18, _, ⟨A1, c1, A1', c1', h1, h2⟩ => exact ⟨A1, c1, A1', c1', h1, hb.dr hzn.out hz8.out h2⟩
                | 19, _, ⟨A1, c1, A1', c1', h1, h2⟩ => exact ⟨A1, c1, A1', c1', h1, hb.dr hzn.out hz8.out h2⟩
                | 20, _, h => exact h
                | 21, _, ⟨g, h1, h2, h3⟩ => exact ⟨g, h1, h2, hb.qb hzn.out hzp.out h3⟩
                | 22, hs, ⟨g, h1, h2⟩ => exact ⟨g, (hs 13 (by decide +kernel)).trans h1, hb.bx hzn.out hz8.out h2⟩
                | 23, _, h => exact h
                | _ + 24, _, _ => trivial
              · refine ⟨?_, ?_, ?_, ?_, ?_, ?_, ?_, ?_, ?_, ?_, ?_, ?_, ?_, ?_, ?_, ?_, ?_, ?_, ?_, ?_, ?_, ?_, ?_, ?_, trivial⟩
                · refine stepA_any rfl fun ac W hA hG hD K hK => ?_
                  have h6 := hA.getD (t := 6) (by kernel_rfl)
                  simp only [Array.getD_eq_getD_getElem?] at h6
                  obtain ⟨k0, k1, k2, k3⟩ := KB.cells (show KB W gy Ay cy Ay' cy' (yT d l k) from blk_step ky.out hG)
                  rw [if_pos (by rfl)]
                  exact wp_val (v := .agg #[.slice Ay (yT d l k).secs.length cy, .slice Ay' (yT d l k).pend.length cy', .int .i64 (yT d l k).left, .bool (yT d l k).stop]) (w' := W) (by simp [execOp, Act.eval, h6, go_sem, k0, k1, k2, k3]) (hK _ _ hG (Qr.same _ _ _ _ _) rfl (fun h => by cases h))
                · refine stepA_any rfl fun ac W hA hG hD K hK => ?_
                  have h1 := hA.getD (t := 1) (by kernel_rfl)
                  simp only [Array.getD_eq_getD_getElem?] at h1
                  rw [if_pos (by rfl)]
                  exact wp_val (v := .slice (some ⟨bl, ol, none⟩) l.length cl) (w' := W) (by simp [execOp, Act.eval, h1, go_sem]) (hK _ _ hG (Qr.same _ _ _ _ _) rfl (fun h => by cases h))
                · refine stepA_any rfl fun ac W hA hG hD K hK => ?_
                  have h12 := hA.getD (t := 12) (by kernel_rfl)
                  simp only [Array.getD_eq_getD_getElem?] at h12
                  rw [if_pos (by rfl)]
                  exact wp_val (v := .int .i64 (k : Int)) (w' := W) (by simp [execOp, Act.eval, h12, go_sem]) (hK _ _ hG (Qr.same _ _ _ _ _) rfl (fun h => by cases h))
                · refine stepA_any rfl fun ac W hA hG hD K hK => ?_
                  have h96 := hD.get 1 96 _ rfl rfl (by kernel_rfl)
                  have h97 := hD.get 2 97 _ rfl rfl (by kernel_rfl)
                  simp only [Array.getD_eq_getD_getElem?] at h96 h97
                  rw [if_pos (by rfl)]
                  exact wp_val (v := .pointer (some ⟨bl, ol + k * 3, none⟩)) (w' := W) (by simp [execOp, Act.eval, h96, h97, go_sem, j0, j1]) (hK _ _ hG (Qr.same _ _ _ _ _) rfl (fun h => by cases h))
                · refine stepA_any rfl fun ac W hA hG hD K hK => ?_
                  have h98 := hD.get 3 98 _ rfl rfl (by kernel_rfl)
                  simp only [Array.getD_eq_getD_getElem?] at h98
                  rw [if_pos (by rfl)]
                  exact wp_val (v := .pointer (some ⟨bl, ol + k * 3 + 1, none⟩)) (w' := W) (by simp [execOp, Act.eval, h98, go_sem]) (hK _ _ hG (Qr.same _ _ _ _ _) rfl (fun h => by cases h))
                · refine stepA_any rfl fun ac W hA hG hD K hK => ?_
                  have h99 := hD.get 4 99 _ rfl rfl (by kernel_rfl)
                  simp only [Array.getD_eq_getD_getElem?] at h99
                  have c2 := (hG.cell (p := ⟨bl, ol + k * 3 + 1, none⟩) hblw).trans l1.out
                  rw [if_pos (by rfl)]
                  exact wp_val (v := .int .u8 (l[k].pl.toNat : Int)) (w' := W) (by simp [execOp, Act.eval, h99, go_sem, c2]) (hK _ _ hG (Qr.same _ _ _ _ _) rfl (fun h => by cases h))
                · refine stepA_any rfl fun ac W hA hG hD K hK => ?_
                  have h100 := hD.get 5 100 _ rfl rfl (by kernel_rfl)
                  simp only [Array.getD_eq_getD_getElem?] at h100
                  rw [if_pos (by rfl)]
                  exact wp_val (v := .int .i64 (l[k].pl.toNat : Int)) (w' := W) (by simp [execOp, Act.eval, h100, go_sem, wrapI_u8]) (hK _ _ hG (Qr.same _ _ _ _ _) rfl (fun h => by cases h))
                · refine stepA_any rfl fun ac W hA hG hD K hK => ?_
                  have h2 := hA.getD (t := 2) (by kernel_rfl)
                  simp only [Array.getD_eq_getD_getElem?] at h2
                  rw [if_pos (by rfl)]
                  exact wp_val (v := .pointer (some ⟨w.heap.size, 0, none⟩)) (w' := W) (by simp [execOp, Act.eval, h2, go_sem]) (hK _ _ hG (Qr.same _ _ _ _ _) rfl (fun h => by cases h))
                · refine stepA_any rfl fun ac W hA hG hD K hK => ?_
                  have h102 := hD.get 7 102 _ rfl rfl (by kernel_rfl)
                  simp only [Array.getD_eq_getD_getElem?] at h102
                  have c2 := (hG.cell (p := ⟨w.heap.size, 0, none⟩) hww).trans hyd.out
                  rw [if_pos (by rfl)]
                  exact wp_val (v := .slice A d.secs.length c) (w' := W) (by simp [execOp, Act.eval, h102, go_sem, c2]) (hK _ _ hG (Qr.same _ _ _ _ _) rfl (fun h => by cases h))
                · refine stepA_any rfl fun ac W hA hG hD K hK => ?_
                  have h103 := hD.get 8 103 _ rfl rfl (by kernel_rfl)
                  simp only [Array.getD_eq_getD_getElem?] at h103
                  rw [if_pos (by rfl)]
                  exact wp_val (v := .int .i64 (d.secs.length : Int)) (w' := W) (by simp [execOp, Act.eval, h103, go_sem]) (hK _ _ hG (Qr.same _ _ _ _ _) rfl (fun h => by cases h))
                · refine stepA_any rfl fun ac W hA hG hD K hK => ?_
                  have h101 := hD.get 6 101 _ rfl rfl (by kernel_rfl)
                  have h104 := hD.get 9 104 _ rfl rfl (by kernel_rfl)
                  simp only [Array.getD_eq_getD_getElem?] at h101 h104
                  rw [if_pos (by rfl)]
                  exact wp_val (v := .int .i64 p) (w' := W) (by simp [execOp, Act.eval, h101, h104, go_sem, hz2, hgap]) (hK _ _ hG (Qr.same _ _ _ _ _) rfl (fun h => by cases h))
                · refine stepA_any rfl fun ac W hA hG hD K hK => ?_
                  have h1 := hA.getD (t := 1) (by kernel_rfl)
                  simp only [Array.getD_eq_getD_getElem?] at h1
                  rw [if_pos (by rfl)]
                  exact wp_val (v := .slice (some ⟨bl, ol, none⟩) l.length cl) (w' := W) (by simp [execOp, Act.eval, h1, go_sem]) (hK _ _ hG (Qr.same _ _ _ _ _) rfl (fun h => by cases h))
                · refine stepA_any rfl fun ac W hA hG hD K hK => ?_
                  have h12 := hA.getD (t := 12) (by kernel_rfl)
                  simp only [Array.getD_eq_getD_getElem?] at h12
                  rw [if_pos (by rfl)]
                  exact wp_val (v := .int .i64 (k : Int)) (w' := W) (by simp [execOp, Act.eval, h12, go_sem]) (hK _ _ hG (Qr.same _ _ _ _ _) rfl (fun h => by cases h))
                · refine stepA_any rfl fun ac W hA hG hD K hK => ?_
                  have h106 := hD.get 11 106 _ rfl rfl (by kernel_rfl)
                  have h107 := hD.get 12 107 _ rfl rfl (by kernel_rfl)
                  simp only [Array.getD_eq_getD_getElem?] at h106 h107
                  rw [if_pos (by rfl)]
                  exact wp_val (v := .pointer (some ⟨bl, ol + k * 3, none⟩)) (w' := W) (by simp [execOp, Act.eval, h106, h107, go_sem, j0, j1]) (hK _ _ hG (Qr.same _ _ _ _ _) rfl (fun h => by cases h))
                · refine stepA_any rfl fun ac W hA hG hD K hK => ?_
                  have h108 := hD.get 13 108 _ rfl rfl (by kernel_rfl)
                  simp only [Array.getD_eq_getD_getElem?] at h108
                  rw [if_pos (by rfl)]
                  exact wp_val (v := .pointer (some ⟨bl, ol + k * 3 + 2, none⟩)) (w' := W) (by simp [execOp, Act.eval, h108, go_sem]) (hK _ _ hG (Qr.same _ _ _ _ _) rfl (fun h => by cases h))
                · refine stepA_any rfl fun ac W hA hG hD K hK => ?_
                  have h109 := hD.get 14 109 _ rfl rfl (by kernel_rfl)
                  simp only [Array.getD_eq_getD_getElem?] at h109
                  have c2 := (hG.cell (p := ⟨bl, ol + k * 3 + 2, none⟩) hblw).trans l2.out
                  rw [if_pos (by rfl)]
                  exact wp_val (v := .int .u8 (l[k].by_.toNat : Int)) (w' := W) (by simp [execOp, Act.eval, h109, go_sem, c2]) (hK _ _ hG (Qr.same _ _ _ _ _) rfl (fun h => by cases h))
                · refine stepA_any rfl fun ac W hA hG hD K hK => ?_
                  have h110 := hD.get 15 110 _ rfl rfl (by kernel_rfl)
                  simp only [Array.getD_eq_getD_getElem?] at h110
                  rw [if_pos (by rfl)]
                  exact wp_val (v := .slice (some ⟨W.heap.size, 0, none⟩) 1 1) (w' := W.alloc (.cells (BV [l[k].by_]).toArray 5)) (by simp [execOp, Act.eval, h110, go_sem, BV]) (hK _ _ (hG.alloc hG.size _) (Qr.below (bnew W _)) ⟨_, rfl, heap_alloc_new W _⟩ (fun h => by cases h))
                · refine stepA_any rfl fun ac W hA hG hD K hK => ?_
                  have h95 := hD.get 0 95 _ rfl rfl (by kernel_rfl)
                  have h105 := hD.get 10 105 _ rfl rfl (by kernel_rfl)
                  obtain ⟨g, h111, hdb⟩ := hD.get 16 111 _ rfl rfl (by kernel_rfl)
                  simp only [Array.getD_eq_getD_getElem?] at h95 h105 h111
                  rw [if_pos (by rfl)]
                  have hnW : nV ≤ W.heap.size := Nat.le_trans hnw hG.size
                  refine wp_call (f := 19) (args := #[.agg #[.slice Ay (yT d l k).secs.length cy, .slice Ay' (yT d l k).pend.length cy', .int .i64 (yT d l k).left, .bool (yT d l k).stop], .int .i64 p, .slice (some ⟨g, 0, none⟩) 1 1]) (by simp [execOp, Act.eval, h95, h105, h111, go_sem]) ((Write_any (yT d l k) p hpI [l[k].by_] (by simp [maxLen]) W Ay Ay' (some ⟨g, 0, none⟩) cy cy' 1 (Sv w.heap.size nV W) (Sv.lt hmn hnW) ((dy.out.keep (Kept.of (Sv.lt hmn hnw) hG)).mono fun b h => Sv.up hG.size b h) hdb.reads).mono fun e W' he => ?_)
                  obtain ⟨A1, c1, A1', c1', rfl, hdz, hbw⟩ := he.get hwx.out
                  exact hK _ _ (hG.trans (hbw.mono hG.size)) (Qr.below hbw) ⟨A1, c1, A1', c1', rfl, hdz.mono fun b h => Sv.sn hnW hbw.size b h⟩ (fun h => by cases h)
                · refine stepA_any rfl fun ac W hA hG hD K hK => ?_
                  obtain ⟨A1, c1, A1', c1', h112, hdz⟩ := hD.get 17 112 _ rfl rfl (by kernel_rfl)
                  simp only [Array.getD_eq_getD_getElem?] at h112
                  rw [if_pos (by rfl)]
                  exact wp_val (v := .tuple #[.agg #[.slice A1 (yT d l (k + 1)).secs.length c1, .slice A1' (yT d l (k + 1)).pend.length c1', .int .i64 (yT d l (k + 1)).left, .bool (yT d l (k + 1)).stop], .int .i64 0]) (w' := W) (by simp [execOp, Act.eval, h112, go_sem]) (hK _ _ hG (Qr.same _ _ _ _ _) ⟨A1, c1, A1', c1', rfl, hdz⟩ (fun h => by cases h))
                · refine stepA_any rfl fun ac W hA hG hD K hK => ?_
                  obtain ⟨A1, c1, A1', c1', h94, hdz⟩ := hD.get 18 94 _ rfl rfl (by kernel_rfl)
                  simp only [Array.getD_eq_getD_getElem?] at h94
                  rw [if_pos (by rfl)]
                  exact wp_val (v := .agg #[.slice A1 (yT d l (k + 1)).secs.length c1, .slice A1' (yT d l (k + 1)).pend.length c1', .int .i64 (yT d l (k + 1)).left, .bool (yT d l (k + 1)).stop]) (w' := W) (by simp [execOp, Act.eval, h94, go_sem]) (hK _ _ hG (Qr.same _ _ _ _ _) ⟨A1, c1, A1', c1', rfl, hdz⟩ (fun h => by cases h))
                · refine stepA_any rfl fun ac W hA hG hD K hK => ?_
                  obtain ⟨A1, c1, A1', c1', h94, hdz⟩ := hD.get 18 94 _ rfl rfl (by kernel_rfl)
                  simp only [Array.getD_eq_getD_getElem?] at h94
                  rw [if_pos (by rfl)]
                  exact wp_val (v := .int .i64 0) (w' := W) (by simp [execOp, Act.eval, h94, go_sem]) (hK _ _ hG (Qr.same _ _ _ _ _) rfl (fun h => by cases h))
                · refine stepA_any rfl fun ac W hA hG hD K hK => ?_
                  rw [if_pos (by rfl)]
                  exact wp_val (v := .pointer (some ⟨W.heap.size, 0, none⟩)) (w' := W.alloc (.cells #[.slice none 0 0, .slice none 0 0, .int .i64 0, .bool false] 25)) (by simp [execOp, go_sem]) (hK _ _ (hG.alloc hG.size _) (Qr.below (bnew W _)) ⟨_, rfl, hG.size, Qb.raw W⟩ (fun h => by cases h))
                · refine stepA_store rfl rfl fun ac W hA hG hD K hK => ?_
                  obtain ⟨g, h13, hg, hq⟩ := hD.get 21 13 _ rfl rfl (by kernel_rfl)
                  obtain ⟨A1, c1, A1', c1', h113, hdz⟩ := hD.get 19 113 _ rfl rfl (by kernel_rfl)
                  rw [if_pos (by rfl)]
                  obtain ⟨p1, p2⟩ := Qr.put hq hzn.out hz8.out hdz
                  obtain ⟨_, _, _, _, _, _, _, _, hbx, -⟩ := hq
                  exact wp_store_row 25 (.tmp 13) (.tmp 113) rfl g #[.slice A1 (yT d l (k + 1)).secs.length c1, .slice A1' (yT d l (k + 1)).pend.length c1', .int .i64 (yT d l (k + 1)).left, .bool (yT d l (k + 1)).stop] h13 h113 25 _ hbx (by kernel_rfl) rfl (by simp [Value.oneCell']) (hK _ (below_setRow hG hg _) p1 ⟨g, h13, p2⟩)
                · refine stepA_any rfl fun ac W hA hG hD K hK => ?_
                  have h114 := hD.get 20 114 _ rfl rfl (by kernel_rfl)
                  simp only [Array.getD_eq_getD_getElem?] at h114
                  rw [if_pos (by rfl)]
                  exact wp_val (v := .int .i64 0) (w' := W) (by simp [execOp, Act.eval, h114, go_sem]) (hK _ _ hG (Qr.same _ _ _ _ _) rfl (fun h => by cases h))
              intro fu T W hG hF hne hltb
              have e95 : T 95 = .agg #[.slice Ay (yT d l k).secs.length cy, .slice Ay' (yT d l k).pend.length cy', .int .i64 (yT d l k).left, .bool (yT d l k).stop] := hF 0 _ rfl (by omega)
              have e96 : T 96 = .slice (some ⟨bl, ol, none⟩) l.length cl := hF 1 _ rfl (by omega)
              have e97 : T 97 = .int .i64 (k : Int) := hF 2 _ rfl (by omega)
              have e98 : T 98 = .pointer (some ⟨bl, ol + k * 3, none⟩) := hF 3 _ rfl (by omega)
              have e99 : T 99 = .pointer (some ⟨bl, ol + k * 3 + 1, none⟩) := hF 4 _ rfl (by omega)
              have e100 : T 100 = .int .u8 (l[k].pl.toNat : Int) := hF 5 _ rfl (by omega)
              have e101 : T 101 = .int .i64 (l[k].pl.toNat : Int) := hF 6 _ rfl (by omega)
              have e102 : T 102 = .pointer (some ⟨w.heap.size, 0, none⟩) := hF 7 _ rfl (by omega)
              have e103 : T 103 = .slice A d.secs.length c := hF 8 _ rfl (by omega)
              have e104 : T 104 = .int .i64 (d.secs.length : Int) := hF 9 _ rfl (by omega)
              have e105 : T 105 = .int .i64 p := hF 10 _ rfl (by omega)
              have e106 : T 106 = .slice (some ⟨bl, ol, none⟩) l.length cl := hF 11 _ rfl (by omega)
              have e107 : T 107 = .int .i64 (k : Int) := hF 12 _ rfl (by omega)
              have e108 : T 108 = .pointer (some ⟨bl, ol + k * 3, none⟩) := hF 13 _ rfl (by omega)
              have e109 : T 109 = .pointer (some ⟨bl, ol + k * 3 + 2, none⟩) := hF 14 _ rfl (by omega)
              have e110 : T 110 = .int .u8 (l[k].by_.toNat : Int) := hF 15 _ rfl (by omega)
              obtain ⟨g7, e111, -⟩ := hF 16 _ rfl (by omega)
              have e111 : T 111 = _ := e111
              obtain ⟨A17, c17, A17', c17', e112, -⟩ := hF 17 _ rfl (by omega)
              have e112 : T 112 = _ := e112
              obtain ⟨A18, c18, A18', c18', e94, -⟩ := hF 18 _ rfl (by omega)
              have e94 : T 94 = _ := e94
              obtain ⟨A19, c19, A19', c19', e113, -⟩ := hF 19 _ rfl (by omega)
              have e113 : T 113 = _ := e113
              have e114 : T 114 = .int .i64 0 := hF 20 _ rfl (by omega)
              obtain ⟨gz, e13, hgz, -⟩ := hF 21 _ rfl (by omega)
              have e13 : T 13 = _ := e13
              have e14 : T 14 = .int .i64 0 := hF 23 _ rfl (by omega)
              have hbz := hF 22 _ rfl (by omega)
              clear hF hne hltb
              simp only [List.take, fillT, List.setIfInBounds_toArray, List.set_cons_zero, List.set_cons_succ, e95, e96, e97, e98, e99, e100, e101, e102, e103, e104, e105, e106, e107, e108, e109, e110, e111, e112, e94, e113, e114, e13, e14] at hbz ⊢
              clear e95 e96 e97 e98 e99 e100 e101 e102 e103 e104 e105 e106 e107 e108 e109 e110 e111 e112 e94 e113 e114 e13 e14
              obtain ⟨g', hg1, hbz⟩ := hbz
              obtain rfl : gz = g' := by simpa using hg1
              clear hg1
              refine wpAny_done (by kernel_rfl) ?_ _
              obtain ⟨A1, c1, A1', c1', kz, dz⟩ := hbz
              have J := J.out.step hG
              have hnW := J.nw
              obtain ⟨z0, z1, z2, z3⟩ := kz.cells
              have J2 := Lib.hid (J.puty dz)
              obtain ⟨Ay, cy, Ay', cy', ky, -⟩ := J.by_
              obtain ⟨y0, y1, y2, y3⟩ := ky.cells
              have yf := ky.fz
              clear kz hgz hG dy l1 l2 J dz ky
              go_wp2_with fail
              clear z0 z1 z2 z3 y0 y1 y2 y3 yf
              go_roundw
              case rel => exact ⟨k + 1, by omega, by go_num, J2⟩
              case measure => simp [intOf]; omega
            · have hle : ¬ ((k : Int) < l.length) := by omega
              have hkl : k = l.length := by omega
              have J := J.out
              rw [hkl] at J
              obtain ⟨Ay, cy, Ay', cy', ky, dy⟩ := J.by_
              obtain ⟨y0, y1, y2, y3⟩ := ky.cells
              have hnw := J.nw
              have hmn : w.heap.size ≤ nV := by have := J.mb; have := J.bn; omega
              have J := Lib.hid J
              clear hkl hlt hk ky
              go_wp2_with fail
              clear y0 y1 y2 y3
              refine (Sync_any (yT d l l.length) wr Ay Ay' cy cy' (Sv w.heap.size nV wr) (Sv.lt hmn hnw) dy).mono ?_
              intro e W2 hp
              obtain ⟨A2, c2, A2', c2', rfl, hd2, hb⟩ := hp.get hy.out
              have hd2 := hd2.mono fun b h => Sv.sn hnw hb.size b h
              have J := J.out.step hb
              obtain ⟨Ay, cy, Ay', cy', ky, -⟩ := J.by_
              obtain ⟨y0, y1, y2, y3⟩ := ky.cells
              have yf := ky.fz
              have J2 := J.puty hd2
              clear hp hb ky hd2 J dy hy
              obtain ⟨Ax, cx, Ax', cx', kx, dx⟩ := J2.bx
              obtain ⟨x0, x1, x2, x3⟩ := kx.cells
              obtain ⟨Az, cz, Az', cz', kz, dz⟩ := J2.by_
              obtain ⟨z0, z1, z2, z3⟩ := kz.cells
              have hnw2 := J2.nw
              have hS := Same_any x _ Ax Ax' Az Az' cx cx' cz cz' (dx.mono (Sv.lt hmn hnw2)) (dz.mono (Sv.lt hmn hnw2))
              have J2 := Lib.hid J2
              have hS := Lib.hid hS
              clear kx kz dx dz hnw2
              go_wp2_with fail
              clear y0 y1 y2 y3 yf x0 x1 x2 x3 z0 z1 z2 z3
              refine hS.out.mono ?_
              rintro e W3 ⟨rfl, hb⟩
              have J3 := J2.out.step hb
              have hbf := hB3.out.trans (J3.base.mono hB3.out.size)
              clear hS hb J2 J3
              go_wp2_with fail
              go_ret
              exact ⟨rfl, hbf⟩
end Go.Proofs.Ytalkbccofiiojaa
