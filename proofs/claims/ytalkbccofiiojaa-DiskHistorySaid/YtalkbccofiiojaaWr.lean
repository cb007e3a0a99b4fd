/- Write: the contract. -/
import Derived.Test.YtalkbccofiiojaaCo
import Derived.Test.YtalkbccofiiojaaSy
namespace Go.Proofs.Ytalkbccofiiojaa
open Go.RowKit

theorem blk_step {w w' : World} {g : Nat} {o : Obj} (h : w.heap[g]? = some o) (hb : Below w.heap.size w w') : w'.heap[g]? = some o := (hb.block g (Array.getElem?_eq_some_iff.1 h).1).trans h

theorem PR.vals {w : World} {S : Nat → Prop} {A : Option Addr} {ps : List Wr} (h : PR w S A ps) :
    ∃ xs : List Value, xs.length = ps.length * 2 ∧ (∀ i (h : i < ps.length), xs[i * 2]? = some (.int .i64 ps[i].pl) ∧ (∃ v, xs[i * 2 + 1]? = some v ∧ Row w S v ps[i].data) ∧ I64 ps[i].pl) ∧ (0 < xs.length → ∃ ad, A = some ad ∧ ∀ j v, xs[j]? = some v → w.cell? (ad.add j) = some v) ∧ ∀ v ∈ xs, v.oneCell' = true := by
  by_cases hp : 0 < ps.length
  case neg =>
    have : ps = [] := List.eq_nil_of_length_eq_zero (by omega)
    subst this
    exact ⟨[], rfl, fun i hi => absurd hi (by simp), fun h => absurd h (by simp), fun v hv => by simp at hv⟩
  obtain ⟨b, off, e, hs, hc⟩ := h hp
  have hx : ∀ k : Fin ps.length, ∃ v, w.cell? ⟨b, off + k.1 * 2, none⟩ = some (.int .i64 ps[k.1].pl) ∧ w.cell? ⟨b, off + k.1 * 2 + 1, none⟩ = some v ∧ Row w S v ps[k.1].data ∧ I64 ps[k.1].pl := fun k => hc k.1 k.2
  have hy : ∀ j : Fin (ps.length * 2), ∃ v, w.cell? ⟨b, off + j.1, none⟩ = some v ∧ v.oneCell' = true := fun j => by
    obtain ⟨v, h0, h1, ⟨A1, c1, rfl, -⟩, -⟩ := hc (j.1 / 2) (by have := j.2; omega)
    by_cases hj : j.1 % 2 = 0
    · exact ⟨_, by rw [show off + j.1 = off + j.1 / 2 * 2 by omega]; exact h0, rfl⟩
    · exact ⟨_, by rw [show off + j.1 = off + j.1 / 2 * 2 + 1 by omega]; exact h1, rfl⟩
  have hg : ∀ j (hj : j < ps.length * 2), (List.ofFn fun k => Classical.choose (hy k))[j]? = w.cell? ⟨b, off + j, none⟩ := fun j hj => by
    rw [List.getElem?_ofFn, dif_pos hj]
    exact (Classical.choose_spec (hy ⟨j, hj⟩)).1.symm
  refine ⟨List.ofFn fun k => Classical.choose (hy k), by simp, fun i hi => ?_, fun _ => ⟨_, e, fun j v hv => ?_⟩, fun v hv => ?_⟩
  · obtain ⟨v, h0, h1, h2, h3⟩ := hc i hi
    exact ⟨(hg _ (by omega)).trans h0, ⟨v, (hg _ (by omega)).trans h1, h2⟩, h3⟩
  · have hj : j < ps.length * 2 := by
      have := (List.getElem?_eq_some_iff.1 hv).1
      simpa using this
    rw [add_none, ← hg j hj]
    exact hv
  · rw [List.mem_ofFn] at hv
    obtain ⟨k, rfl⟩ := hv
    exact (Classical.choose_spec (hy k)).2

/-- A row of the call's own, as writes. -/
theorem PR.ofRow {w : World} {B : Nat} {v : Value} {ps : List Wr} {xs : List Value} (S : Nat → Prop) (h : w.ownsRow B 54 2 v ps.length xs) (hS : ∀ g, B ≤ g → g < w.heap.size → S g)
    (hx : ∀ i (h : i < ps.length), xs[i * 2]? = some (.int .i64 ps[i].pl) ∧ (∃ u, xs[i * 2 + 1]? = some u ∧ Row w S u ps[i].data) ∧ I64 ps[i].pl) : ∃ A c, v = .slice A ps.length c ∧ ps.length ≤ c ∧ c ≤ maxLen ∧ PR w S A ps := by
  rcases h.2 with ⟨rfl, h0⟩ | ⟨g, cap, cur, rfl, hb, hg, hc, hm, -, ht⟩
  · exact ⟨none, 0, by rw [h0], by omega, Nat.zero_le _, fun h => absurd h (by omega)⟩
  · refine ⟨_, cap, rfl, hc, hm, fun hp => ?_⟩
    refine ⟨g, 0, rfl, hS g hb (Array.getElem?_eq_some_iff.1 hg).1, fun i hi => ?_⟩
    obtain ⟨h0, ⟨u, h1, h2⟩, h3⟩ := hx i hi
    have k : ∀ j x, xs[j]? = some x → w.cell? ((⟨g, 0, none⟩ : Addr).add j) = some x := fun j x hj => World.ownsRow.cells h (g := g) rfl j x hj
    simp only [add_none] at k
    exact ⟨u, k _ _ h0, by have := k _ _ h1; rwa [← Nat.add_assoc] at this, h2, h3⟩

/-- The pending writes and another one. -/
theorem concat_write {d : Dk} {a : Int} {b : List UInt8} {w w2 W : World} {A' : Option Addr} {c' G g2 g : Nat} {S : Nat → Prop} (hp4 : d.pend.length ≤ 4096) (hS : ∀ b, S b → b < w.heap.size) (hpr : PR w S A' d.pend) (hI : I64 a) (hs2 : w.heap.size < w2.heap.size) (hbw : Below w.heap.size w W) (hG : w2.heap.size ≤ W.heap.size)
    (hge : w2.heap.size ≤ g) (ho : DB W g (pad b)) (hx : W.heap[g2]? = some (.cells #[.int .i64 a, .slice (some ⟨g, 0, none⟩) 128 128] 54 (0, 0))) (hy : W.heap[G]? = some (.cells #[.slice A' d.pend.length c', .slice (some ⟨g2, 0, none⟩) 1 1] 23 (0, 0))) :
    Calls Try.prog 32 #[.slice (some ⟨G, 0, none⟩) 2 2] W fun e W' => ∃ A1 c1, e = .returned (.slice A1 (d.pend.length + 1) c1) ∧ d.pend.length + 1 ≤ c1 ∧ c1 ≤ maxLen ∧ PR W' (fun b => (S b ∨ w2.heap.size ≤ b) ∧ b < W'.heap.size) A1 (d.pend ++ [⟨a, pad b⟩]) ∧ Below W.heap.size W W' := by
  obtain ⟨xs, hl, hv, hc, h1⟩ := (hpr.keep (Kept.of hS hbw)).vals
  have hys : ∀ j u, ([.int .i64 a, .slice (some ⟨g, 0, none⟩) 128 128] : List Value)[j]? = some u → W.cell? ((⟨g2, 0, none⟩ : Addr).add j) = some u := fun j u hu => by
    rw [add_none, Nat.zero_add, cell_of_row W g2 j _ _ _ hx]; simpa using hu
  refine (Concat_any d.pend.length hp4 W G g2 A' c' xs [.int .i64 a, .slice (some ⟨g, 0, none⟩) 128 128] hl rfl ((cell_of_row W G 0 _ _ _ hy).trans rfl) ((cell_of_row W G 1 _ _ _ hy).trans rfl) hc hys h1 (by simp [Value.oneCell'])).mono ?_
  rintro e W' ⟨v, rfl, hown, hb⟩
  have hown' : W'.ownsRow W.heap.size 54 2 v (d.pend ++ ([⟨a, pad b⟩] : List Wr)).length (xs ++ [.int .i64 a, .slice (some ⟨g, 0, none⟩) 128 128]) := by rw [List.length_append]; exact hown
  have hs : ∀ {u : Value} {m : List UInt8}, Row W S u m → Row W' (fun b => (S b ∨ w2.heap.size ≤ b) ∧ b < W'.heap.size) u m := fun hr =>
    (hr.keep (Kept.of hS (hb.mono hbw.size))).mono fun b hlt => ⟨.inl hlt, by have := hb.size; have := hbw.size; have := hS b hlt; omega⟩
  obtain ⟨A1, c1, rfl, q1, q2, q3⟩ := PR.ofRow (fun b => (S b ∨ w2.heap.size ≤ b) ∧ b < W'.heap.size) hown' (fun g hg hlt => ⟨.inr (by omega), hlt⟩) (fun i hi => by
    rw [List.length_append] at hi
    by_cases hlt : i < d.pend.length
    · obtain ⟨e0, ⟨u, e1, e2⟩, e3⟩ := hv i hlt
      rw [List.getElem_append_left hlt, List.getElem?_append_left (by omega), List.getElem?_append_left (by omega)]
      exact ⟨e0, ⟨u, e1, hs e2⟩, e3⟩
    · have hie : i = d.pend.length := by simp at hi; omega
      subst hie
      rw [List.getElem?_append_right (by omega), List.getElem?_append_right (by omega)]
      have e0 : (d.pend ++ ([⟨a, pad b⟩] : List Wr))[d.pend.length]'(by simp) = ⟨a, pad b⟩ := by simp
      rw [e0, hl, Nat.sub_self, Nat.add_sub_cancel_left]
      exact ⟨rfl, ⟨_, rfl, some ⟨g, 0, none⟩, 128, by rw [pad_length], by rw [pad_length]; omega, by unfold maxLen; omega, (ho.below hb ho.lt).readsIn ⟨.inr hge, by have := hb.size; have := ho.lt; omega⟩⟩, hI⟩)
  rw [List.length_append] at q1
  exact ⟨A1, c1, by rw [List.length_append]; rfl, q1, q2, q3, hb⟩

theorem box4_fz {w wr : World} {x0 x1 x2 x3 : Value} {t : TypeId} {o : Obj} (hb : Below (w.heap.size + 2) ((w.alloc (.cells #[x0, x1, x2, x3] t)).alloc o) wr) (i : Nat) : wr.frozen? ⟨w.heap.size, i, none⟩ = false := by
  refine frozen_of_row wr _ i #[x0, x1, x2, x3] t ?_
  rw [hb.block _ (by omega), Below.heap_alloc _ _ _ (by simp)]
  exact heap_alloc_new w _

set_option maxRecDepth 100000 in
set_option maxHeartbeats 4000000 in
theorem Write_any (d : Dk) (a : Int) (hI : I64 a) (b : List UInt8) (hbl : b.length ≤ maxLen) (w : World) (A A' Ab : Option Addr) (c c' cb : Nat) (S : Nat → Prop) (hS : ∀ b, S b → b < w.heap.size) (hd : DR w S A c A' c' d) (hrb : RBs w (· < w.heap.size) Ab b) :
    Calls Try.prog 19 #[.agg #[.slice A d.secs.length c, .slice A' d.pend.length c', .int .i64 d.left, .bool d.stop], .int .i64 a, .slice Ab b.length cb] w (DkPost S (writeD d a b) w) := by
  have hB := Lib.hid (((Below.refl _ w).alloc (Nat.le_refl _) (.cells #[.slice A d.secs.length c, .slice A' d.pend.length c', .int .i64 d.left, .bool d.stop] 25)).alloc (by simp) (.cells #[.slice none 0 0, .slice none 0 0, .int .i64 0, .bool false] 25))
  have hC := Lib.hid (runs_any d _ A A' c c' w.heap.size (by simp; omega) ((hd.mono hS).keep (Kept.below hB.out)))
  have hdh := Lib.hid hd
  have hrb' := Lib.hid hrb
  unfold maxLen at hbl
  clear hd hrb
  go_enter Try.func19, Try.ntmps19
  go_wp2_with fail
  refine hC.out.mono ?_
  rintro e w1 ⟨rfl, hb1⟩
  simp only [World.size_alloc] at hb1
  have hz := hb1.size
  simp only [World.size_alloc] at hz
  have hB1 := Lib.hid (hB.out.trans (hb1.mono (by omega)))
  have hC1 := Lib.hid hb1
  cases hr : runB d with
  | false =>
    obtain ⟨z0, z1⟩ := bcell hb1
    have hv := Lib.hid (show writeD d a b = (zeroDk, 40) by unfold writeD; rw [hr]; rfl)
    clear hr hb1
    go_wp2_with fail
    exact bodyPost_ret (v := .tuple #[.agg #[.slice none 0 0, .slice none 0 0, .int .i64 0, .bool false], .int .i64 40]) (by simp [results, Try.results19, go_sem, z0]) rfl (DkPost.fail hv.out ((((hB1.out.setCell (by simp) _).setCell (by simp) _).setCell (by simp) _).setCell (by simp) _) rfl)
  | true =>
    obtain ⟨y0, y1, y2, y3⟩ := box4_2 hb1
    have hp4 := (chkB_iff.1 (runB_iff.1 hr).1).2.2.1
    have hr' := Lib.hid hr
    clear hr hb1
    go_wp2_with fail
    refine (has_any d a w1 A A' c c').mono ?_
    rintro e w2 ⟨rfl, hb2⟩
    have hz2 := hb2.size
    have hC2 := Lib.hid (hC1.out.trans (hb2.mono (by omega)))
    have hB2 := Lib.hid (hB1.out.trans (hb2.mono (by omega)))
    clear y0 y1 y2 y3 hb2
    cases hh : hasB d a with
    | false =>
      obtain ⟨z0, z1⟩ := bcell hC2.out
      have hv := Lib.hid (show writeD d a b = (zeroDk, 40) by unfold writeD; rw [hr'.out, hh]; rfl)
      clear hh
      go_wp2_with fail
      exact bodyPost_ret (v := .tuple #[.agg #[.slice none 0 0, .slice none 0 0, .int .i64 0, .bool false], .int .i64 40]) (by simp [results, Try.results19, go_sem, z0]) rfl (DkPost.fail hv.out ((((hB2.out.setCell (by simp) _).setCell (by simp) _).setCell (by simp) _).setCell (by simp) _) rfl)
    | true =>
      have hh' := Lib.hid hh
      clear hh
      by_cases hb128 : 128 < b.length
      · obtain ⟨z0, z1⟩ := bcell hC2.out
        have hv := Lib.hid (show writeD d a b = (zeroDk, 1) by unfold writeD; rw [hr'.out, hh'.out, if_neg (by decide), if_pos hb128])
        have hq : (128 : Int) < b.length := by omega
        go_wp2_with fail
        exact bodyPost_ret (v := .tuple #[.agg #[.slice none 0 0, .slice none 0 0, .int .i64 0, .bool false], .int .i64 1]) (by simp [results, Try.results19, go_sem, z0]) rfl (DkPost.fail hv.out ((((hB2.out.setCell (by simp) _).setCell (by simp) _).setCell (by simp) _).setCell (by simp) _) rfl)
      · have hq : ¬ (128 : Int) < b.length := by omega
        by_cases hfull : d.pend.length = 4096
        · obtain ⟨z0, z1⟩ := bcell hC2.out
          obtain ⟨y0, y1, y2, y3⟩ := box4_2 hC2.out
          have hv := Lib.hid (show writeD d a b = (zeroDk, 2) by unfold writeD; rw [hr'.out, hh'.out, if_neg (by decide), if_neg hb128, if_pos hfull])
          have hq2 : ((d.pend.length : Int) == 4096) = true := by rw [hfull]; rfl
          clear hfull
          go_wp2_with fail
          exact bodyPost_ret (v := .tuple #[.agg #[.slice none 0 0, .slice none 0 0, .int .i64 0, .bool false], .int .i64 2]) (by simp [results, Try.results19, go_sem, z0]) rfl (DkPost.fail hv.out ((((hB2.out.setCell (by simp) _).setCell (by simp) _).setCell (by simp) _).setCell (by simp) _) rfl)
        · have hv := Lib.hid (show writeD d a b = (⟨d.secs, d.pend ++ [⟨a, pad b⟩], d.left, d.stop⟩, 0) by unfold writeD; rw [hr'.out, hh'.out, if_neg (by decide), if_neg hb128, if_neg hfull])
          have hq2 : ((d.pend.length : Int) == 4096) = false := by simp only [beq_eq_false_iff_ne, ne_eq]; omega
          have hk := Lib.hid (box4_2 hC2.out)
          have hkf := Lib.hid (box4_fz hC2.out)
          have hx2 : Hid (w2.heap[w.heap.size + 1]? = some (.cells #[.slice none 0 0, .slice none 0 0, .int .i64 0, .bool false] 25 (0, 0))) := by
            show _ = _
            rw [hC2.out.block _ (by omega)]
            have := heap_alloc_new (w.alloc (.cells #[.slice A d.secs.length c, .slice A' d.pend.length c', .int .i64 d.left, .bool d.stop] 25)) (.cells #[.slice none 0 0, .slice none 0 0, .int .i64 0, .bool false] 25)
            simpa only [World.size_alloc] using this
          have hpw := Lib.hid hdh.out.pend
          have hs2 : w.heap.size < w2.heap.size := by omega
          have hS' : Hid (∀ W, Below w2.heap.size w2 W → Calls Try.prog 29 #[.slice Ab b.length cb] W fun e W' => e = .returned (.slice (some ⟨W.heap.size, 0, none⟩) 128 128) ∧ DB W' W.heap.size (pad b) ∧ Below W.heap.size W W') := fun W hW => by
            have hbW := hB2.out.trans (hW.mono hB2.out.size)
            exact sector_any b W Ab cb (· < w.heap.size) (fun g hg => Nat.lt_of_lt_of_le hg hbW.size) (hrb'.out.keep (Kept.below hbW))
          obtain ⟨y0, y1, y2, y3⟩ := hk.out
          clear hfull hb128
          go_wp2_with fail
          clear y0 y1 y2 y3
          refine wp_region_pre 10 1 (fun W => Below w2.heap.size w2 W) (fun W W' => Below W.heap.size W W')
            (fun i v W => match i with
              | 0 => v = .pointer (some ⟨w.heap.size, 1, none⟩)
              | 1 => v = .slice A' d.pend.length c'
              | 2 => v = .int .i64 a
              | 3 => v = .slice Ab b.length cb
              | 4 => ∃ g, v = .slice (some ⟨g, 0, none⟩) 128 128 ∧ w2.heap.size ≤ g ∧ DB W g (pad b)
              | 5 => ∃ g, v = .agg #[.int .i64 a, .slice (some ⟨g, 0, none⟩) 128 128] ∧ w2.heap.size ≤ g ∧ DB W g (pad b)
              | 6 => ∃ g2 g, v = .slice (some ⟨g2, 0, none⟩) 1 1 ∧ w2.heap.size ≤ g ∧ DB W g (pad b) ∧ W.heap[g2]? = some (.cells #[.int .i64 a, .slice (some ⟨g, 0, none⟩) 128 128] 54 (0, 0))
              | 7 => ∃ G g2 g, v = .slice (some ⟨G, 0, none⟩) 2 2 ∧ w2.heap.size ≤ g ∧ DB W g (pad b) ∧ W.heap[g2]? = some (.cells #[.int .i64 a, .slice (some ⟨g, 0, none⟩) 128 128] 54 (0, 0)) ∧ W.heap[G]? = some (.cells #[.slice A' d.pend.length c', .slice (some ⟨g2, 0, none⟩) 1 1] 23 (0, 0))
              | 8 => ∃ A1 c1, v = .slice A1 (d.pend.length + 1) c1 ∧ d.pend.length + 1 ≤ c1 ∧ c1 ≤ maxLen ∧ PR W (fun b => (S b ∨ w2.heap.size ≤ b) ∧ b < W.heap.size) A1 (d.pend ++ [⟨a, pad b⟩])
              | 9 => v = .pointer (some ⟨w.heap.size, 1, none⟩)
              | _ => True) (fun _ => false)
            (by kernel_rfl) (by kernel_rfl) (by kernel_rfl) (by kernel_rfl) (by kernel_rfl) (by kernel_rfl) (by kernel_rfl) ?_ (fun _ _ h => h.size) (dN (Below.refl _ _) 1) ?_ ?_
          · intro i v W W' hb hF
            match i, hF with
            | 0, h => exact h
            | 1, h => exact h
            | 2, h => exact h
            | 3, h => exact h
            | 4, ⟨g, h1, h2, h3⟩ => exact ⟨g, h1, h2, h3.below hb h3.lt⟩
            | 5, ⟨g, h1, h2, h3⟩ => exact ⟨g, h1, h2, h3.below hb h3.lt⟩
            | 6, ⟨g2, g, h1, h2, h3, h4⟩ => exact ⟨g2, g, h1, h2, h3.below hb h3.lt, blk_step h4 hb⟩
            | 7, ⟨G, g2, g, h1, h2, h3, h4, h5⟩ => exact ⟨G, g2, g, h1, h2, h3.below hb h3.lt, blk_step h4 hb, blk_step h5 hb⟩
            | 8, ⟨A1, c1, h1, h2, h3, h4⟩ => exact ⟨A1, c1, h1, h2, h3, (h4.keep fun b o hS => hb.cell (p := ⟨b, o, none⟩) hS.2).mono fun b hS => ⟨hS.1, Nat.lt_of_lt_of_le hS.2 hb.size⟩⟩
            | 9, h => exact h
            | _ + 10, _ => trivial
          · refine ⟨?_, ?_, ?_, ?_, ?_, ?_, ?_, ?_, ?_, ?_, trivial⟩
            · refine stepJ_val' (fun _ _ => Below.refl _ _) rfl rfl rfl fun ac W hA hG hD => ⟨_, ?_, rfl⟩
              have h3 := hA.getD (t := 3) (by kernel_rfl)
              simp only [Array.getD_eq_getD_getElem?] at h3
              simp [execOp, Act.eval, h3, go_sem]
            · refine stepJ_val' (fun _ _ => Below.refl _ _) rfl rfl rfl fun ac W hA hG hD => ⟨_, ?_, rfl⟩
              have h27 := hD.get 0 27 _ rfl rfl (by kernel_rfl)
              simp only [Array.getD_eq_getD_getElem?] at h27
              have c1 := (hG.cell (p := ⟨w.heap.size, 1, none⟩) hs2).trans hk.out.2.1
              simp [execOp, Act.eval, h27, go_sem, c1]
            · refine stepJ_val' (fun _ _ => Below.refl _ _) rfl rfl rfl fun ac W hA hG hD => ⟨_, ?_, rfl⟩
              have h1 := hA.getD (t := 1) (by kernel_rfl)
              simp only [Array.getD_eq_getD_getElem?] at h1
              simp [execOp, Act.eval, h1, go_sem]
            · refine stepJ_val' (fun _ _ => Below.refl _ _) rfl rfl rfl fun ac W hA hG hD => ⟨_, ?_, rfl⟩
              have h2 := hA.getD (t := 2) (by kernel_rfl)
              simp only [Array.getD_eq_getD_getElem?] at h2
              simp [execOp, Act.eval, h2, go_sem]
            · refine stepJ_any rfl fun ac W hA hG hD K hK => ?_
              have h30 := hD.get 3 30 _ rfl rfl (by kernel_rfl)
              simp only [Array.getD_eq_getD_getElem?] at h30
              rw [if_pos (by rfl)]
              refine wp_call (f := 29) (args := #[.slice Ab b.length cb]) (by simp [execOp, Act.eval, h30, go_sem]) ((hS'.out W hG).mono fun e W' he => ?_)
              obtain ⟨rfl, ho, hbw⟩ := he
              exact hK _ _ (hG.trans (hbw.mono hG.size)) hbw ⟨_, rfl, hG.size, ho⟩ (fun h => by cases h)
            · refine stepJ_val' (fun _ _ => Below.refl _ _) rfl rfl rfl fun ac W hA hG hD => ?_
              have h29 := hD.get 2 29 _ rfl rfl (by kernel_rfl)
              obtain ⟨g, h31, hge, ho⟩ := hD.get 4 31 _ rfl rfl (by kernel_rfl)
              simp only [Array.getD_eq_getD_getElem?] at h29 h31
              refine ⟨_, ?_, g, rfl, hge, ho⟩
              simp [execOp, Act.eval, h29, h31, go_sem]
            · refine stepJ_any rfl fun ac W hA hG hD K hK => ?_
              obtain ⟨g, h32, hge, ho⟩ := hD.get 5 32 _ rfl rfl (by kernel_rfl)
              simp only [Array.getD_eq_getD_getElem?] at h32
              rw [if_pos (by rfl)]
              refine wp_val (v := .slice (some ⟨W.heap.size, 0, none⟩) 1 1) (w' := W.alloc (.cells #[.int .i64 a, .slice (some ⟨g, 0, none⟩) 128 128] 54)) (by simp [execOp, Act.eval, h32, go_sem]) (hK _ _ (hG.alloc hG.size _) (bnew W _) ⟨_, g, rfl, hge, ho.below (bnew W _) ho.lt, heap_alloc_new W _⟩ (fun h => by cases h))
            · refine stepJ_any rfl fun ac W hA hG hD K hK => ?_
              have h28 := hD.get 1 28 _ rfl rfl (by kernel_rfl)
              obtain ⟨g2, g, h33, hge, ho, hx⟩ := hD.get 6 33 _ rfl rfl (by kernel_rfl)
              simp only [Array.getD_eq_getD_getElem?] at h28 h33
              rw [if_pos (by rfl)]
              refine wp_val (v := .slice (some ⟨W.heap.size, 0, none⟩) 2 2) (w' := W.alloc (.cells #[.slice A' d.pend.length c', .slice (some ⟨g2, 0, none⟩) 1 1] 23)) (by simp [execOp, Act.eval, h28, h33, go_sem]) (hK _ _ (hG.alloc hG.size _) (bnew W _) ⟨_, g2, g, rfl, hge, ho.below (bnew W _) ho.lt, blk_step hx (bnew W _), heap_alloc_new W _⟩ (fun h => by cases h))
            · refine stepJ_any rfl fun ac W hA hG hD K hK => ?_
              obtain ⟨G, g2, g, h34, hge, ho, hx, hy⟩ := hD.get 7 34 _ rfl rfl (by kernel_rfl)
              simp only [Array.getD_eq_getD_getElem?] at h34
              rw [if_pos (by rfl)]
              refine wp_call (f := 32) (args := #[.slice (some ⟨G, 0, none⟩) 2 2]) (by simp [execOp, Act.eval, h34, go_sem]) ((concat_write hp4 hS hpw.out hI hs2 (hB2.out.trans (hG.mono hB2.out.size)) hG.size hge ho hx hy).mono fun e W' he => ?_)
              obtain ⟨A1, c1, rfl, h1, h2, h3, hbw⟩ := he
              exact hK _ _ (hG.trans (hbw.mono hG.size)) hbw ⟨A1, c1, rfl, h1, h2, h3⟩ (fun h => by cases h)
            · refine stepJ_val' (fun _ _ => Below.refl _ _) rfl rfl rfl fun ac W hA hG hD => ⟨_, ?_, rfl⟩
              have h3 := hA.getD (t := 3) (by kernel_rfl)
              simp only [Array.getD_eq_getD_getElem?] at h3
              simp [execOp, Act.eval, h3, go_sem]
          · intro fu T W hG hF hne hltb
            have e27 : T 27 = .pointer (some ⟨w.heap.size, 1, none⟩) := hF 0 _ rfl (by omega)
            have e28 : T 28 = .slice A' d.pend.length c' := hF 1 _ rfl (by omega)
            have e29 : T 29 = .int .i64 a := hF 2 _ rfl (by omega)
            have e30 : T 30 = .slice Ab b.length cb := hF 3 _ rfl (by omega)
            obtain ⟨z1, e31, -, -⟩ := hF 4 _ rfl (by omega)
            have e31 : T 31 = _ := e31
            obtain ⟨z2, e32, -, -⟩ := hF 5 _ rfl (by omega)
            have e32 : T 32 = _ := e32
            obtain ⟨z3, z4, e33, -, -, -⟩ := hF 6 _ rfl (by omega)
            have e33 : T 33 = _ := e33
            obtain ⟨z5, z6, z7, e34, -, -, -, -⟩ := hF 7 _ rfl (by omega)
            have e34 : T 34 = _ := e34
            obtain ⟨A1, c1, e35, hc1, hm1, hp1⟩ := hF 8 _ rfl (by omega)
            have e35 : T 35 = _ := e35
            have e36 : T 36 = .pointer (some ⟨w.heap.size, 1, none⟩) := hF 9 _ rfl (by omega)
            clear hF hne hltb
            simp only [List.take, fillT, List.setIfInBounds_toArray, List.set_cons_zero, List.set_cons_succ, e27, e28, e29, e30, e31, e32, e33, e34, e35, e36]
            clear e27 e28 e29 e30 e31 e32 e33 e34 e35 e36
            have hkW : Hid (W.cell? ⟨w.heap.size, 0, none⟩ = some (.slice A d.secs.length c) ∧ W.cell? ⟨w.heap.size, 1, none⟩ = some (.slice A' d.pend.length c') ∧ W.cell? ⟨w.heap.size, 2, none⟩ = some (.int .i64 d.left) ∧ W.cell? ⟨w.heap.size, 3, none⟩ = some (.bool d.stop)) :=
              ⟨(hG.cell (p := ⟨w.heap.size, 0, none⟩) hs2).trans hk.out.1, (hG.cell (p := ⟨w.heap.size, 1, none⟩) hs2).trans hk.out.2.1, (hG.cell (p := ⟨w.heap.size, 2, none⟩) hs2).trans hk.out.2.2.1, (hG.cell (p := ⟨w.heap.size, 3, none⟩) hs2).trans hk.out.2.2.2⟩
            have hfW := (hG.frozen (p := ⟨w.heap.size, 1, none⟩) hs2).trans (hkf.out 1)
            have hx2W := (hG.block (w.heap.size + 1) (by omega)).trans hx2.out
            refine wpAny_ready (rs := [10]) (by kernel_rfl) (by simp) (AllReady.cons (o := ⟨none, .store 23 (.tmp 36) (.tmp 35), _, _, _, none⟩) rfl (fun K1 hK1 => ?_) AllReady.nil)
            rw [if_pos (by rfl)]
            refine wp_store_one 23 _ _ rfl w.heap.size 1 rfl (.slice A1 (d.pend.length + 1) c1) rfl rfl rfl Try.sizeOf23 _ hkW.out.2.1 hfW ?_
            refine hK1 _ _ ?_
            clear hK1 K1
            refine wpAny_done (by kernel_rfl) ?_ _
            simp only [Act.put]
            have hp9 := Lib.hid ((hp1.keep fun b o hS' => World.cell?_of_block (heap_setCell_other W ⟨w.heap.size, 1, none⟩ b (.slice A1 (d.pend.length + 1) c1) (hS'.1.elim (fun h => Nat.ne_of_lt (hS b h)) (fun h => by show b ≠ w.heap.size; omega)))).mono (S' := fun b => (S b ∨ w2.heap.size ≤ b) ∧ b < (W.setCell ⟨w.heap.size, 1, none⟩ (.slice A1 (d.pend.length + 1) c1)).heap.size) fun b hS => ⟨hS.1, by simpa using hS.2⟩)
            have B9 := Lib.hid ((hB2.out.trans (hG.mono hB2.out.size)).setCell (p := ⟨w.heap.size, 1, none⟩) (Nat.le_refl _) (.slice A1 (d.pend.length + 1) c1))
            have y0 := (World.cell?_setCell_other W ⟨w.heap.size, 1, none⟩ ⟨w.heap.size, 0, none⟩ (.slice A1 (d.pend.length + 1) c1) (by simp)).trans hkW.out.1
            have y1 := World.cell?_setCell_same' W ⟨w.heap.size, 1, none⟩ (.slice A1 (d.pend.length + 1) c1) (by rw [hkW.out.2.1]; rfl)
            have y2 := (World.cell?_setCell_other W ⟨w.heap.size, 1, none⟩ ⟨w.heap.size, 2, none⟩ (.slice A1 (d.pend.length + 1) c1) (by simp)).trans hkW.out.2.2.1
            have y3 := (World.cell?_setCell_other W ⟨w.heap.size, 1, none⟩ ⟨w.heap.size, 3, none⟩ (.slice A1 (d.pend.length + 1) c1) (by simp)).trans hkW.out.2.2.2
            have x9 := (heap_setCell_other W ⟨w.heap.size, 1, none⟩ (w.heap.size + 1) (.slice A1 (d.pend.length + 1) c1) (by show w.heap.size + 1 ≠ w.heap.size; omega)).trans hx2W
            have z9 : w2.heap.size ≤ (W.setCell ⟨w.heap.size, 1, none⟩ (.slice A1 (d.pend.length + 1) c1)).heap.size := by have := hG.size; simpa using this
            clear hkW hfW hx2W hp1 hG
            generalize W.setCell ⟨w.heap.size, 1, none⟩ (.slice A1 (d.pend.length + 1) c1) = w9 at *
            have r0 := cell_of_row w9 _ 0 _ _ _ x9
            have r1 := cell_of_row w9 _ 1 _ _ _ x9
            have r2 := cell_of_row w9 _ 2 _ _ _ x9
            have r3 := cell_of_row w9 _ 3 _ _ _ x9
            simp only [List.getElem?_toArray, List.getElem?_cons_zero, List.getElem?_cons_succ] at r0 r1 r2 r3
            have rf := fun i => frozen_of_row w9 _ i _ _ x9
            clear x9
            go_wp2_with fail
            refine bodyPost_ret (v := .tuple #[.agg #[.slice A d.secs.length c, .slice A1 (d.pend.length + 1) c1, .int .i64 d.left, .bool d.stop], .int .i64 0]) (by simp [results, Try.results19, go_sem, r0, r1, r2, r3]) rfl ?_
            have hcl := Below.refl w9.heap.size w9
            have HB : Below w.heap.size w ((((w9.setCell ⟨w.heap.size + 1, 0, none⟩ (.slice A d.secs.length c)).setCell ⟨w.heap.size + 1, 1, none⟩ (.slice A1 (d.pend.length + 1) c1)).setCell ⟨w.heap.size + 1, 2, none⟩ (.int .i64 d.left)).setCell ⟨w.heap.size + 1, 3, none⟩ (.bool d.stop)) := (((B9.out.setCell (by simp) _).setCell (by simp) _).setCell (by simp) _).setCell (by simp) _
            refine DkPost.of hv.out HB A c A1 c1 (by rw [List.length_append]; rfl) ⟨hdh.out.cap, hdh.out.max, by rw [List.length_append]; exact hc1, hm1, (hdh.out.upw hS HB).secs, ?_, hdh.out.left⟩
            refine (hp9.out.keep (w' := _) fun b o hb => set4_other w9 (w.heap.size + 1) _ _ _ _ b o (hb.1.elim (fun h => by have := hS b h; omega) (fun h => by omega))).mono fun b hb => hb.1.elim .inl fun h => .inr ⟨by omega, by simpa using hb.2⟩
end Go.Proofs.Ytalkbccofiiojaa
