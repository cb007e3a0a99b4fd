/- The reference's New: the contract. -/
import Derived.Test.YtalkbccofiiojaaNx
import Derived.Test.YtalkbccofiiojaaRv
namespace Go.Proofs.Ytalkbccofiiojaa
open Go.RowKit

theorem append_secs (w : World) (B : Nat) (ty : TypeId) (v : Value) (n : Nat) (xs : List Value) (hown : w.ownsRow B 35 1 v n xs) (A : Option Addr) (m c : Nat) (news : List Value) (hl : news.length = m)
    (hA : 0 < news.length → ∃ ad, A = some ad ∧ ∀ j u, news[j]? = some u → w.cell? (ad.add j) = some u) (h1 : ∀ u ∈ news, u.oneCell' = true) (hlen : n + m ≤ 1000000) (hB : B ≤ w.heap.size) :
    ∃ v' w', (Builtin.append_ #[22, 22] ty #[v, .slice A m c]).run Try.prog w = .ok v' w' ∧ w'.ownsRow B 35 1 v' (n + m) (xs ++ news) ∧ Below B w w' ∧ w.grownBy w' v.ownBlock := by
  obtain ⟨i0, hi0, hz0, hz1, hz2⟩ := info_parts Try.infoB
  obtain ⟨v', w', hr, ho, hg, -⟩ := run_append_src_row (P := Try.prog) w B 22 22 ty 35 i0 _ 1 24 Try.underlying22 hi0 hz0 hz1 hz2 rfl v n xs hown (.slice A m c) m news (Src.ofRow Try.underlying22 w A m c news (by omega) (by decide) hA h1) (by omega) (by omega) hB
  exact ⟨v', w', hr, ho, (Below.refl B w).grown hg hB fun k hk => (World.ownsRow.lt hown k hk).1, hg⟩
theorem row_formS {w : World} {B n : Nat} {v : Value} {xs : List Value} (h : w.ownsRow B 35 1 v n xs) : ∃ A c, v = .slice A n c ∧ n ≤ c ∧ c ≤ maxLen := by
  rcases h.2 with ⟨rfl, rfl⟩ | ⟨g, cap, cur, rfl, -, -, hc, hm, -⟩
  · exact ⟨_, _, rfl, Nat.le_refl _, Nat.zero_le _⟩
  · exact ⟨_, _, rfl, hc, hm⟩
theorem own_ne {w : World} {B n g : Nat} {v : Value} {xs : List Value} {bs : List UInt8} (ho : w.ownsRow B 35 1 v n xs) (hd : DB w g bs) : v.ownBlock ≠ some g := by
  rcases ho.2 with ⟨rfl, -⟩ | ⟨g', cap, cur, rfl, -, hg, -⟩
  · intro e; simp [Value.ownBlock] at e
  · intro e
    simp only [Value.ownBlock, Option.some.injEq] at e
    subst e
    unfold DB at hd
    rw [hg] at hd
    injection hd with hd
    injection hd with _ hd _
    exact absurd hd (by decide)
/-- Sectors of zeros in a row of the call's own. -/
def NI (B k : Nat) (v : Value) (wr : World) : Prop := ∃ xs, wr.ownsRow B 35 1 v k xs ∧ ∀ i, i < k → ∃ g, xs[i]? = some (.slice (some ⟨g, 0, none⟩) 128 128) ∧ DB wr g zero128 ∧ B ≤ g
theorem NI.sr {B k : Nat} {v : Value} {wr : World} (h : NI B k v wr) : ∃ A c, v = .slice A k c ∧ k ≤ c ∧ c ≤ maxLen ∧ SR wr (fun b => B ≤ b ∧ b < wr.heap.size) A (List.replicate k zero128) := by
  obtain ⟨xs, ho, hx⟩ := h
  rcases ho.2 with ⟨rfl, rfl⟩ | ⟨g', cap, cur, rfl, hB, hg, hc, hm, -⟩
  · exact ⟨_, _, rfl, Nat.le_refl _, Nat.zero_le _, fun h => absurd h (by simp)⟩
  · refine ⟨_, _, rfl, hc, hm, fun _ => ⟨g', 0, rfl, ⟨hB, (Array.getElem?_eq_some_iff.1 hg).1⟩, fun i hi => ?_⟩⟩
    rw [List.length_replicate] at hi
    obtain ⟨g, h1, h2, h3⟩ := hx i hi
    have h4 := World.ownsRow.cells ho (g := g') rfl i _ h1
    rw [add_none] at h4
    refine ⟨_, h4, some ⟨g, 0, none⟩, 128, ?_, ?_, by unfold maxLen; omega, ?_⟩
    · rw [List.getElem_replicate]; rfl
    · rw [List.getElem_replicate]; exact Nat.le_refl _
    · rw [List.getElem_replicate]; exact h2.readsIn ⟨h3, h2.lt⟩
theorem NI.step {B k : Nat} {v : Value} {w w' : World} (h : NI B k v w) (hb : Below w.heap.size w w') : NI B k v w' := by
  obtain ⟨xs, ho, hx⟩ := h
  exact ⟨xs, row_keep ho hb, fun i hi => by obtain ⟨g, h1, h2, h3⟩ := hx i hi; exact ⟨g, h1, h2.below hb h2.lt, h3⟩⟩
theorem NI.app {B k g : Nat} {A : Option Addr} {c : Nat} {w : World} (h : NI B k (.slice A k c) w) (hk : k + 1 ≤ 1000000) (hB : B ≤ w.heap.size) (hd : DB w g zero128) (hg : B ≤ g) (g2 : Nat) (h2 : w.heap[g2]? = some (.cells #[.slice (some ⟨g, 0, none⟩) 128 128] 35 (0, 0))) (ty : TypeId) :
    ∃ v' w', (Builtin.append_ #[22, 22] ty #[.slice A k c, .slice (some ⟨g2, 0, none⟩) 1 1]).run Try.prog w = .ok v' w' ∧ NI B (k + 1) v' w' ∧ Below B w w' := by
  obtain ⟨xs, ho, hx⟩ := h
  obtain ⟨v', w', hr, ho', hb, hg'⟩ := append_secs w B ty _ k xs ho (some ⟨g2, 0, none⟩) 1 1 [.slice (some ⟨g, 0, none⟩) 128 128] rfl (fun _ => ⟨_, rfl, fun j u hu => by
    rw [add_none, Nat.zero_add, cell_of_row w g2 j _ _ _ h2]; simpa using hu⟩) (by simp [Value.oneCell']) hk hB
  have keep : ∀ {b : Nat}, DB w b zero128 → DB w' b zero128 := fun {b} h => by
    have := hg'.block b h.lt (fun e => own_ne ho h e.symm)
    exact this.trans h
  have hl : xs.length = k := by simpa using ho.1
  refine ⟨v', w', hr, ⟨_, ho', fun i hi => ?_⟩, hb⟩
  by_cases hlt : i < k
  · obtain ⟨b, h1, h2, h3⟩ := hx i hlt
    exact ⟨b, by rw [List.getElem?_append_left (by omega)]; exact h1, keep h2, h3⟩
  · have : i = k := by omega
    subst this
    exact ⟨g, by rw [List.getElem?_append_right (by omega), hl]; simp, keep hd, hg⟩

/-- Behind a store into a box that lies before. -/
theorem NI.cell1 {B k x : Nat} {v : Value} {w : World} (h : NI B k v w) (o : Nat) (u : Value) (hx : x < B) : NI B k v (w.setCell ⟨x, o, none⟩ u) := by
  obtain ⟨xs, ho, hx'⟩ := h
  have hb : ∀ b, B ≤ b → (w.setCell ⟨x, o, none⟩ u).heap[b]? = w.heap[b]? := fun b hbb => heap_setCell_other w ⟨x, o, none⟩ b u (by show b ≠ x; omega)
  refine ⟨xs, ?_, fun i hi => ?_⟩
  · refine ⟨ho.1, ?_⟩
    rcases ho.2 with ⟨h1, h2⟩ | ⟨g, cap, cur, h1, hB, hg, h3, h4, h5, h6⟩
    · exact .inl ⟨h1, h2⟩
    · exact .inr ⟨g, cap, cur, h1, hB, (hb g hB).trans hg, h3, h4, h5, h6⟩
  · obtain ⟨g, h1, h2, h3⟩ := hx' i hi
    exact ⟨g, h1, (hb g h3).trans h2, h3⟩

set_option maxRecDepth 100000 in
set_option maxHeartbeats 4000000 in
theorem rNew_any (n : Int) (w : World) : Calls Try.prog 13 #[.int .i64 n] w (DkPost (fun _ => False) (newD n) w) := by
  have hB := Lib.hid (bnew w (.cells #[.slice none 0 0, .slice none 0 0, .int .i64 0, .bool false] 25))
  rcases new_range (n := n) with (h | ⟨h0, h⟩) | ⟨h0, h1⟩
  · have hv := Lib.hid (show newD n = (zeroDk, 1) by unfold newD; rw [if_pos (by omega)])
    go_enter Try.func13, Try.ntmps13
    go_wp2_with fail
    exact bodyPost_ret (v := .tuple #[.agg #[.slice none 0 0, .slice none 0 0, .int .i64 0, .bool false], .int .i64 1]) (by simp [results, Try.results13, go_sem]) rfl (DkPost.fail hv.out hB.out rfl)
  · have hv := Lib.hid (show newD n = (zeroDk, 1) by unfold newD; rw [if_pos (by omega)])
    go_enter Try.func13, Try.ntmps13
    go_wp2_with fail
    exact bodyPost_ret (v := .tuple #[.agg #[.slice none 0 0, .slice none 0 0, .int .i64 0, .bool false], .int .i64 1]) (by simp [results, Try.results13, go_sem]) rfl (DkPost.fail hv.out hB.out rfl)
  · obtain ⟨m, rfl⟩ : ∃ m : Nat, n = m := ⟨n.toNat, by omega⟩
    have hv := Lib.hid (show newD (m : Int) = (⟨List.replicate m zero128, [], -1, false⟩, 0) by unfold newD; rw [if_neg (by omega)]; simp)
    go_enter Try.func13, Try.ntmps13
    go_wp2_with fail
    go_loopw [5] (fun i wr => ∃ k : Nat, k ≤ m ∧ i = .int .i64 k ∧ ∃ v, Hid (NI (w.heap.size + 2) k v wr) ∧ Hid (wr.heap[w.heap.size + 1]? = some (.cells #[v, .slice none 0 0, .int .i64 (-1), .bool false] 25 (0, 0))) ∧ Hid (wr.heap[w.heap.size]? = some (.cells #[.slice none 0 0, .slice none 0 0, .int .i64 0, .bool false] 25 (0, 0))) ∧ Below w.heap.size w wr) (fun i _ => m - (intOf i).toNat)
    case atStart =>
      refine ⟨0, Nat.zero_le _, rfl, .slice none 0 0, ⟨[], ⟨rfl, .inl ⟨rfl, rfl⟩⟩, fun i hi => absurd hi (by omega)⟩, ?_, ?_, ((Below.refl _ w).alloc (Nat.le_refl _) _).alloc (by simp) _⟩
      · show _ = _
        have h9 := heap_alloc_new (w.alloc (.cells #[.slice none 0 0, .slice none 0 0, .int .i64 0, .bool false] 25)) (.cells #[.slice none 0 0, .slice none 0 0, .int .i64 (-1), .bool false] 25)
        rw [World.size_alloc] at h9
        exact h9
      · exact (Below.heap_alloc _ _ _ (by simp)).trans (heap_alloc_new w _)
    case round =>
      obtain ⟨k, hk, rfl, v, hn, hbx, hrs, hb⟩ := hrel
      have hb' := Lib.hid hb
      have hdl : w.heap.size + 1 < wr.heap.size := (Array.getElem?_eq_some_iff.1 hbx.out).1
      obtain ⟨xs0, hxs0, -⟩ := hn.out
      obtain ⟨A, c, rfl, -, -⟩ := row_formS hxs0
      clear hxs0 xs0 hb
      by_cases hlt : k < m
      · have j1 : (k : Int) < m := by omega
        have hm6 : k + 1 ≤ 1000000 := by omega
        go_wp2_with fail
        refine wp_region_pre 4 3 (fun W => Below wr.heap.size wr W) (fun W W' => Below W.heap.size W W')
          (fun i v W => match i with
            | 0 => v = .pointer (some ⟨w.heap.size + 1, 0, none⟩)
            | 1 => v = .slice A k c
            | 2 => ∃ g, v = .slice (some ⟨g, 0, none⟩) 128 128 ∧ wr.heap.size ≤ g ∧ DB W g zero128
            | 3 => ∃ g2 g, v = .slice (some ⟨g2, 0, none⟩) 1 1 ∧ wr.heap.size ≤ g ∧ DB W g zero128 ∧ W.heap[g2]? = some (.cells #[.slice (some ⟨g, 0, none⟩) 128 128] 35 (0, 0))
            | _ => True) (fun _ => false)
          (by kernel_rfl) (by kernel_rfl) (by kernel_rfl) (by kernel_rfl) (by kernel_rfl) (by kernel_rfl) (by kernel_rfl) ?_ (fun _ _ h => h.size) (dN (Below.refl _ _) 1) ?_ ?_
        · intro i v W W' hb hF
          match i, hF with
          | 0, h => exact h
          | 1, h => exact h
          | 2, ⟨g, h1, h2, h3⟩ => exact ⟨g, h1, h2, h3.below hb h3.lt⟩
          | 3, ⟨g2, g, h1, h2, h3, h4⟩ => exact ⟨g2, g, h1, h2, h3.below hb h3.lt, blk_step h4 hb⟩
          | _ + 4, _ => trivial
        · refine ⟨?_, ?_, ?_, ?_, trivial⟩
          · refine stepJ_val' (fun _ _ => Below.refl _ _) rfl rfl rfl fun ac W hA hG hD => ⟨_, ?_, rfl⟩
            have h4 := hA.getD (t := 4) (by kernel_rfl)
            simp only [Array.getD_eq_getD_getElem?] at h4
            simp [execOp, Act.eval, h4, go_sem]
          · refine stepJ_val' (fun _ _ => Below.refl _ _) rfl rfl rfl fun ac W hA hG hD => ⟨_, ?_, rfl⟩
            have h19 := hD.get 0 19 _ rfl rfl (by kernel_rfl)
            simp only [Array.getD_eq_getD_getElem?] at h19
            have c0 : W.cell? ⟨w.heap.size + 1, 0, none⟩ = some (.slice A k c) := cell_of_row W _ 0 _ _ _ ((hG.block _ hdl).trans hbx.out)
            simp [execOp, Act.eval, h19, go_sem, c0]
          · refine stepJ_any rfl fun ac W hA hG hD K hK => ?_
            have hm := make128 W
            rw [if_pos (by rfl)]
            exact wp_val (v := .slice (some ⟨W.heap.size, 0, none⟩) 128 128) (w' := W.alloc (.cells (BV zero128).toArray 5)) (by simp [execOp, Act.eval, go_sem, hm]) (hK _ _ (hG.alloc hG.size _) (bnew W _) ⟨_, rfl, hG.size, heap_alloc_new W _⟩ (fun h => by cases h))
          · refine stepJ_any rfl fun ac W hA hG hD K hK => ?_
            obtain ⟨g, h21, hge, ho⟩ := hD.get 2 21 _ rfl rfl (by kernel_rfl)
            simp only [Array.getD_eq_getD_getElem?] at h21
            rw [if_pos (by rfl)]
            exact wp_val (v := .slice (some ⟨W.heap.size, 0, none⟩) 1 1) (w' := W.alloc (.cells #[.slice (some ⟨g, 0, none⟩) 128 128] 35)) (by simp [execOp, Act.eval, h21, go_sem]) (hK _ _ (hG.alloc hG.size _) (bnew W _) ⟨_, g, rfl, hge, ho.below (bnew W _) ho.lt, heap_alloc_new W _⟩ (fun h => by cases h))
        · intro fu T W hG hF hne hltb
          have e19 : T 19 = .pointer (some ⟨w.heap.size + 1, 0, none⟩) := hF 0 _ rfl (by omega)
          have e20 : T 20 = .slice A k c := hF 1 _ rfl (by omega)
          obtain ⟨g1, e21, -, -⟩ := hF 2 _ rfl (by omega)
          have e21 : T 21 = _ := e21
          obtain ⟨g2, g, e22, hge, hdg, hg2⟩ := hF 3 _ rfl (by omega)
          have e22 : T 22 = _ := e22
          clear hF hne hltb
          simp only [List.take, fillT, List.setIfInBounds_toArray, List.set_cons_zero, List.set_cons_succ, e19, e20, e21, e22]
          clear e19 e20 e21 e22
          have hsz := hG.size
          have hnW := hn.out.step hG
          obtain ⟨v', W2, hr2, hn2, hb2⟩ := hnW.app hm6 (by omega) hdg (by omega) g2 hg2 22
          have hn3 := hn2
          obtain ⟨xs9, hxs9, -⟩ := hn3
          obtain ⟨A9, c9, rfl, -, -⟩ := row_formS hxs9
          clear hxs9 xs9
          have hk2 := (hb2.block _ (by omega)).trans ((hG.block _ hdl).trans hbx.out)
          have hr3 := (hb2.block _ (by omega)).trans ((hG.block _ (by omega)).trans hrs.out)
          have HB2 := hb'.out.trans ((hG.mono (by omega)).trans (hb2.mono (by omega)))
          clear hnW hdg hg2 hbx hrs hn hge
          refine wpAny_ready (rs := [4]) (by kernel_rfl) (by simp) (AllReady.cons (o := ⟨some 23, .call { callee := .builtin .append, args := #[.tmp 20, .tmp 22], argTypes := #[22, 22] }, 22, _, _, none⟩) rfl (fun K1 hK1 => ?_) AllReady.nil)
          rw [if_pos (by rfl)]
          refine Lib.wp_append_run W (.tmp 20) (.tmp 22) 22 22 rfl _ _ rfl rfl _ _ hr2 (hK1 _ _ ?_)
          clear hK1 K1 hr2
          simp only [Act.put, List.setIfInBounds_toArray, List.set_cons_zero, List.set_cons_succ]
          refine wpAny_ready (rs := [5]) (by kernel_rfl) (by simp) (AllReady.cons (o := ⟨some 24, .fieldAddr 25 (.tmp 4) 0, 0, _, _, none⟩) rfl (fun K1 hK1 => ?_) AllReady.nil)
          rw [if_pos (by rfl)]
          refine wp_val (v := .pointer (some ⟨w.heap.size + 1, 0, none⟩)) (w' := W2) (by simp [execOp, Act.eval, go_sem]) (hK1 _ _ ?_)
          clear hK1 K1
          simp only [Act.put, List.setIfInBounds_toArray, List.set_cons_zero, List.set_cons_succ]
          refine wpAny_ready (rs := [6]) (by kernel_rfl) (by simp) (AllReady.cons (o := ⟨none, .store 22 (.tmp 24) (.tmp 23), _, _, _, none⟩) rfl (fun K1 hK1 => ?_) AllReady.nil)
          rw [if_pos (by rfl)]
          refine wp_store_one 22 _ _ rfl (w.heap.size + 1) 0 rfl (.slice A9 (k + 1) c9) rfl rfl rfl Try.sizeOf22 _ (cell_of_row W2 _ 0 _ _ _ hk2) (frozen_of_row W2 _ 0 _ _ hk2) ?_
          refine hK1 _ _ ?_
          clear hK1 K1
          refine wpAny_done (by kernel_rfl) ?_ _
          simp only [Act.put]
          have k9 := (heap_setCell_same W2 (w.heap.size + 1) 0 _ _ (.slice A9 (k + 1) c9) hk2).trans rfl
          have r9 := (heap_setCell_other W2 ⟨w.heap.size + 1, 0, none⟩ w.heap.size (.slice A9 (k + 1) c9) (by show w.heap.size ≠ w.heap.size + 1; omega)).trans hr3
          have B9 := Lib.hid (HB2.setCell (p := ⟨w.heap.size + 1, 0, none⟩) (by simp) (.slice A9 (k + 1) c9))
          have n9 := Lib.hid (hn2.cell1 (x := w.heap.size + 1) 0 (.slice A9 (k + 1) c9) (Nat.lt_succ_self _))
          clear hn2 hk2 hr3 HB2
          generalize W2.setCell ⟨w.heap.size + 1, 0, none⟩ (.slice A9 (k + 1) c9) = w9 at *
          have k9 := Lib.hid k9
          have r9 := Lib.hid r9
          go_wp2_with fail
          go_roundw
          case rel => exact ⟨k + 1, by omega, by go_num, _, n9, k9, r9, B9.out⟩
          case measure => simp [intOf]; omega
      · have hle : ¬ ((k : Int) < m) := by omega
        obtain rfl : k = m := by omega
        have y0 : wr.cell? ⟨w.heap.size + 1, 0, none⟩ = some (.slice A k c) := cell_of_row wr _ 0 _ _ _ hbx.out
        have y1 : wr.cell? ⟨w.heap.size + 1, 1, none⟩ = some (.slice none 0 0) := cell_of_row wr _ 1 _ _ _ hbx.out
        have y2 : wr.cell? ⟨w.heap.size + 1, 2, none⟩ = some (.int .i64 (-1)) := cell_of_row wr _ 2 _ _ _ hbx.out
        have y3 : wr.cell? ⟨w.heap.size + 1, 3, none⟩ = some (.bool false) := cell_of_row wr _ 3 _ _ _ hbx.out
        have x0 : wr.cell? ⟨w.heap.size, 0, none⟩ = some (.slice none 0 0) := cell_of_row wr _ 0 _ _ _ hrs.out
        have x1 : wr.cell? ⟨w.heap.size, 1, none⟩ = some (.slice none 0 0) := cell_of_row wr _ 1 _ _ _ hrs.out
        have x2 : wr.cell? ⟨w.heap.size, 2, none⟩ = some (.int .i64 0) := cell_of_row wr _ 2 _ _ _ hrs.out
        have x3 : wr.cell? ⟨w.heap.size, 3, none⟩ = some (.bool false) := cell_of_row wr _ 3 _ _ _ hrs.out
        have xf := fun i => frozen_of_row wr w.heap.size i _ _ hrs.out
        obtain ⟨A0, c0, e0, q1, q2, q3⟩ := hn.out.sr
        injection e0 with e0 _ e1
        subst e0 e1
        have q3 := Lib.hid q3
        clear hbx hrs hn
        go_wp2_with fail
        refine bodyPost_ret (v := .tuple #[.agg #[.slice A k c, .slice none 0 0, .int .i64 (-1), .bool false], .int .i64 0]) (by simp [results, Try.results13, go_sem, x0, x1, x2, x3]) rfl ?_
        refine DkPost.of hv.out ((((hb'.out.setCell (Nat.le_refl _) _).setCell (Nat.le_refl _) _).setCell (Nat.le_refl _) _).setCell (Nat.le_refl _) _) A c none 0 (by rw [List.length_replicate]; rfl) ⟨by rw [List.length_replicate]; exact q1, q2, Nat.le_refl _, Nat.zero_le _, (q3.out.keep fun b o hb => set4_other wr w.heap.size _ _ _ _ b o (by omega)).mono fun b hb => .inr ⟨by omega, by simpa using hb.2⟩, fun h => absurd h (Nat.lt_irrefl 0), by unfold I64; simp⟩
end Go.Proofs.Ytalkbccofiiojaa
