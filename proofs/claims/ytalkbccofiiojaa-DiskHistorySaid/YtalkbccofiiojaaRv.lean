/- The reference's Write: the contract. -/
import Derived.Test.YtalkbccofiiojaaWr
namespace Go.Proofs.Ytalkbccofiiojaa
open Go.RowKit

theorem Try.infoU8 : (Try.prog.info? 5).map (fun i => (i.zero, i.size, i.bytes)) = some (some (.int .u8 0), 1, 1) := by kernel_rfl
theorem append_bytes (w : World) (B : Nat) (ty : TypeId) (v : Value) (n : Nat) (xs : List Value) (hown : w.ownsRow B 5 1 v n xs) (A : Option Addr) (m c : Nat) (news : List Value) (hl : news.length = m)
    (hA : 0 < news.length → ∃ ad, A = some ad ∧ ∀ j u, news[j]? = some u → w.cell? (ad.add j) = some u) (h1 : ∀ u ∈ news, u.oneCell' = true) (hlen : n + m ≤ 1000000) (hB : B ≤ w.heap.size) :
    ∃ v' w', (Builtin.append_ #[35, 35] ty #[v, .slice A m c]).run Try.prog w = .ok v' w' ∧ w'.ownsRow B 5 1 v' (n + m) (xs ++ news) ∧ Below B w w' := by
  obtain ⟨i0, hi0, hz0, hz1, hz2⟩ := info_parts Try.infoU8
  obtain ⟨v', w', hr, ho, hg, -⟩ := run_append_src_row (P := Try.prog) w B 35 35 ty 5 i0 _ 1 1 Try.underlying35 hi0 hz0 hz1 hz2 rfl v n xs hown (.slice A m c) m news (Src.ofRow Try.underlying35 w A m c news (by omega) (by decide) hA h1) (by omega) (by omega) hB
  exact ⟨v', w', hr, ho, (Below.refl B w).grown hg hB fun k hk => (World.ownsRow.lt hown k hk).1⟩
theorem row_formB {w : World} {B n : Nat} {v : Value} {xs : List Value} (h : w.ownsRow B 5 1 v n xs) : ∃ A c, v = .slice A n c := by
  rcases h.2 with ⟨rfl, rfl⟩ | ⟨g, cap, cur, rfl, -⟩
  · exact ⟨_, _, rfl⟩
  · exact ⟨_, _, rfl⟩
theorem own_empty {w : World} {t : TypeId} {B g k : Nat} (h : w.heap[g]? = some (.cells #[] t (0, 0))) (hB : B ≤ g) : w.ownsRow B t k (.slice (some ⟨g, 0, none⟩) 0 0) 0 [] :=
  ⟨by simp, .inr ⟨g, 0, #[], rfl, hB, h, Nat.le_refl _, Nat.zero_le _, by simp, by simp⟩⟩
theorem row_keep {w w' : World} {B n k : Nat} {t : TypeId} {v : Value} {xs : List Value} (h : w.ownsRow B t k v n xs) (hb : Below w.heap.size w w') : w'.ownsRow B t k v n xs :=
  World.ownsRow.kept (row := none) h ⟨hb.os, hb.tape, hb.output, hb.size, fun k hk _ => hb.block k hk⟩ (by cases v.ownBlock <;> simp)
/-- A row of the call's own, as bytes. -/
theorem RBs.ofRow {w : World} {B : Nat} {v : Value} {l : List UInt8} (h : w.ownsRow B 5 1 v l.length (BV l)) : ∃ A c, v = .slice A l.length c ∧ l.length ≤ c ∧ c ≤ maxLen ∧ RBs w (fun g => B ≤ g ∧ g < w.heap.size) A l := by
  rcases h.2 with ⟨rfl, h0⟩ | ⟨g, cap, cur, rfl, hb, hg, hc, hm, -, ht⟩
  · exact ⟨none, 0, by rw [h0], by omega, Nat.zero_le _, fun h => absurd h (by omega)⟩
  · refine ⟨_, cap, rfl, hc, hm, fun hp => ⟨g, 0, rfl, ⟨hb, (Array.getElem?_eq_some_iff.1 hg).1⟩, fun j hj => ?_⟩⟩
    have := World.ownsRow.cells h (g := g) rfl j _ (BV_get l j hj)
    rwa [add_none] at this
def lenV : Value → Nat
  | .slice _ n _ => n
  | _ => 0
theorem pad_grow (b : List UInt8) (k : Nat) : b ++ List.replicate k 0 ++ [0] = b ++ List.replicate (k + 1) 0 := by
  rw [List.append_assoc, ← List.replicate_succ']
theorem pad_done {b : List UInt8} {k : Nat} (h : b.length + k = 128) : b ++ List.replicate k 0 = pad b := by
  unfold pad
  rw [List.take_of_length_le (by omega), show 128 - b.length = k by omega]

set_option maxRecDepth 100000 in
set_option maxHeartbeats 20000000 in
theorem rWrite_any (d : Dk) (a : Int) (hI : I64 a) (b : List UInt8) (hbl : b.length ≤ maxLen) (w : World) (A A' Ab : Option Addr) (c c' cb : Nat) (S : Nat → Prop) (hS : ∀ b, S b → b < w.heap.size) (hd : DR w S A c A' c' d) (hrb : RBs w (· < w.heap.size) Ab b) :
    Calls Try.prog 20 #[.agg #[.slice A d.secs.length c, .slice A' d.pend.length c', .int .i64 d.left, .bool d.stop], .int .i64 a, .slice Ab b.length cb] w (DkPost S (writeD d a b) w) := by
  have hB := Lib.hid (((Below.refl _ w).alloc (Nat.le_refl _) (.cells #[.slice A d.secs.length c, .slice A' d.pend.length c', .int .i64 d.left, .bool d.stop] 25)).alloc (by simp) (.cells #[.slice none 0 0, .slice none 0 0, .int .i64 0, .bool false] 25))
  have hC := Lib.hid (rCheck_any d _ A A' c c' w.heap.size (by simp; omega) ((hd.mono hS).keep (Kept.below hB.out)))
  have hdh := Lib.hid hd
  have hrb' := Lib.hid hrb
  unfold maxLen at hbl
  clear hd hrb
  go_enter Try.func20, Try.ntmps20
  go_wp2_with fail
  refine hC.out.mono ?_
  rintro e w1 ⟨rfl, hb1⟩
  simp only [World.size_alloc] at hb1
  obtain ⟨z0, z1⟩ := bcell hb1
  obtain ⟨y0, y1, y2, y3⟩ := box4_2 hb1
  have kfz := box4_fz hb1
  have hkb0 := Lib.hid (show w1.heap[w.heap.size]? = some (.cells #[.slice A d.secs.length c, .slice A' d.pend.length c', .int .i64 d.left, .bool d.stop] 25 (0, 0)) from (hb1.block _ (by omega)).trans ((Below.heap_alloc _ _ _ (by simp)).trans (heap_alloc_new w _)))
  have hx2 := Lib.hid (show w1.heap[w.heap.size + 1]? = some (.cells #[.slice none 0 0, .slice none 0 0, .int .i64 0, .bool false] 25 (0, 0)) from (hb1.block _ (by omega)).trans (by have := heap_alloc_new (w.alloc (.cells #[.slice A d.secs.length c, .slice A' d.pend.length c', .int .i64 d.left, .bool d.stop] 25)) (.cells #[.slice none 0 0, .slice none 0 0, .int .i64 0, .bool false] 25); rwa [World.size_alloc] at this))
  have hz := hb1.size
  simp only [World.size_alloc] at hz
  have hB1 := Lib.hid (hB.out.trans (hb1.mono (by omega)))
  have hbl' : (b.length : Int) ≤ 9223372036854775807 := by omega
  clear hb1
  rcases chk_eq d with ⟨h1, h2⟩ | ⟨h1, h2⟩
  · rw [h2]
    have h1' := Lib.hid h1
    have hp4 := (chkB_iff.1 h1).2.2.1
    clear h1 h2
    cases hs : d.stop with
    | true =>
      have hr := Lib.hid (show runB d = false by unfold runB; rw [hs]; simp)
      rw [hs] at y3
      have hv := Lib.hid (show writeD d a b = (zeroDk, 40) by unfold writeD; rw [hr.out]; rfl)
      
      go_wp2_with fail
      exact bodyPost_ret (v := .tuple #[.agg #[.slice none 0 0, .slice none 0 0, .int .i64 0, .bool false], .int .i64 40]) (by simp [results, Try.results20, go_sem, z0]) rfl (DkPost.fail hv.out ((((hB1.out.setCell (by simp) _).setCell (by simp) _).setCell (by simp) _).setCell (by simp) _) rfl)
    | false =>
      have hr := Lib.hid (show runB d = true by unfold runB; rw [hs, h1'.out]; rfl)
      rw [hs] at y3
      have hs' := Lib.hid hs
      cases hh : hasB d a with
      | false =>
        have hv := Lib.hid (show writeD d a b = (zeroDk, 40) by unfold writeD; rw [hh, Bool.and_false]; rfl)
        rcases has_no hh with h0 | ⟨h0, hN⟩
        all_goals
          clear hh
          go_wp2_with fail
          exact bodyPost_ret (v := .tuple #[.agg #[.slice none 0 0, .slice none 0 0, .int .i64 0, .bool false], .int .i64 40]) (by simp [results, Try.results20, go_sem, z0]) rfl (DkPost.fail hv.out ((((hB1.out.setCell (by simp) _).setCell (by simp) _).setCell (by simp) _).setCell (by simp) _) rfl)
      | true =>
        obtain ⟨a0, a1⟩ := hasB_iff.1 hh
        have g0 : ¬ a < 0 := by omega
        have g1 : ¬ (d.secs.length : Int) ≤ a := by omega
        have hgo := Lib.hid (show (runB d && hasB d a) = true by rw [hr.out, hh]; rfl)
        clear hh
        by_cases h128 : (128 : Int) < b.length
        · have hv := Lib.hid (show writeD d a b = (zeroDk, 1) by unfold writeD; rw [hgo.out, if_neg (by decide), if_pos (by omega)])
          go_wp2_with fail
          exact bodyPost_ret (v := .tuple #[.agg #[.slice none 0 0, .slice none 0 0, .int .i64 0, .bool false], .int .i64 1]) (by simp [results, Try.results20, go_sem, z0]) rfl (DkPost.fail hv.out ((((hB1.out.setCell (by simp) _).setCell (by simp) _).setCell (by simp) _).setCell (by simp) _) rfl)
        by_cases h4096 : d.pend.length = 4096
        · have hv := Lib.hid (show writeD d a b = (zeroDk, 2) by unfold writeD; rw [hgo.out, if_neg (by decide), if_neg (by omega), if_pos h4096])
          rw [h4096] at y1
          go_wp2_with fail
          exact bodyPost_ret (v := .tuple #[.agg #[.slice none 0 0, .slice none 0 0, .int .i64 0, .bool false], .int .i64 2]) (by simp [results, Try.results20, go_sem, z0]) rfl (DkPost.fail hv.out ((((hB1.out.setCell (by simp) _).setCell (by simp) _).setCell (by simp) _).setCell (by simp) _) rfl)
        have hv := Lib.hid (show writeD d a b = (⟨d.secs, d.pend ++ [⟨a, pad b⟩], d.left, false⟩, 0) by unfold writeD; rw [hgo.out, if_neg (by decide), if_neg (by omega), if_neg h4096, hs'.out])
        have hpl : ((d.pend.length : Int) == 4096) = false := by simp; omega
        have hbn : b.length ≤ 128 := by omega
        have hkb := Lib.hid (show w1.heap[w.heap.size]? = some (.cells #[.slice A d.secs.length c, .slice A' d.pend.length c', .int .i64 d.left, .bool false] 25 (0, 0)) by rw [← hs'.out]; exact hkb0.out)
        obtain ⟨v1, w2, hr1, ho1, hb2⟩ := append_bytes (w1.alloc (.cells #[] 5)) (w.heap.size + 2) 35 _ 0 [] (own_empty (heap_alloc_new w1 _) (by omega)) Ab b.length cb (BV b) (BV_length b) (fun h => (hrb'.out.keep (Kept.below (hB1.out.alloc hB1.out.size (.cells #[] 5)))).src (by rwa [BV_length] at h)) (BV_one b) (by omega) (by simp; omega)
        rw [Nat.zero_add, List.nil_append] at ho1
        obtain ⟨A1, c1, rfl⟩ := row_formB ho1
        have hbw := Lib.hid (((Below.refl (w.heap.size + 2) w1).alloc (by omega) (.cells #[] 5)).trans hb2)
        have hr1' := Lib.hid hr1
        have ho1' := Lib.hid ho1
        clear hr1 ho1 hb2 hkb0
        go_wp2_with (at_builtin; refine Lib.wpList_append_run _ rfl _ _ _ _ rfl _ _ rfl rfl _ _ hr1'.out ?_)
        clear y0 y1 y2 y3 z0 z1 kfz
        go_loopw [8] (fun v wr => ∃ k : Nat, b.length + k ≤ 128 ∧ Hid (wr.ownsRow (w.heap.size + 2) 5 1 v (b.length + k) (BV (b ++ List.replicate k 0))) ∧ Below (w.heap.size + 2) w1 wr) (fun v _ => 128 - lenV v)
        case atStart => exact ⟨0, by omega, by rw [List.replicate_zero, List.append_nil]; exact ho1', hbw.out⟩
        case round =>
          obtain ⟨k, hk, ho, hb⟩ := hrel
          obtain ⟨Av, cv, rfl⟩ := row_formB ho.out
          have hbz := hb.size
          have hbh := Lib.hid hb
          by_cases hlt : b.length + k < 128
          · obtain ⟨v2, w3, hr2, ho2, hb3⟩ := append_bytes (wr.alloc (.cells #[.int .u8 0] 5)) (w.heap.size + 2) 35 _ (b.length + k) _ (row_keep ho.out (bnew wr _)) (some ⟨wr.heap.size, 0, none⟩) 1 1 [.int .u8 0] rfl (fun _ => ⟨_, rfl, fun j u hu => by
              rw [add_none, Nat.zero_add, cell_of_row _ wr.heap.size j _ _ _ (heap_alloc_new wr _)]; simpa using hu⟩) (by simp [Value.oneCell']) (by omega) (by simp; omega)
            have hn : BV (b ++ List.replicate k 0) ++ [.int .u8 0] = BV (b ++ List.replicate (k + 1) 0) := by
              rw [← pad_grow, BV_append (b ++ List.replicate k 0)]; rfl
            rw [hn] at ho2
            obtain ⟨A2, c2, rfl⟩ := row_formB ho2
            have hb3 := Lib.hid ((hbh.out.alloc (by omega) (.cells #[.int .u8 0] 5)).trans hb3)
            have ho2' := Lib.hid ho2
            have hr2' := Lib.hid hr2
            have hlz : ((b.length : Int) + k) < 128 := by omega
            clear hn ho2 hr2 hb
            go_wp2_with (at_builtin; refine Lib.wpList_append_run _ rfl _ _ _ _ rfl _ _ rfl rfl _ _ hr2'.out ?_)
            go_roundw
            case rel => exact ⟨k + 1, by omega, ho2', hb3.out⟩
            case measure => simp [lenV]; omega
          · have hk8 : b.length + k = 128 := by omega
            have hle : ¬ (((b.length + k : Nat) : Int) < 128) := by omega
            rw [pad_done hk8] at ho
            have ho8 := ho.out
            rw [hk8, ← pad_length b] at ho8
            obtain ⟨A2, c2, e2, q1, q2, q3⟩ := RBs.ofRow ho8
            rw [pad_length] at e2 q1
            rw [hk8] at ho ⊢
            injection e2 with e2 _ e3
            subst e2 e3
            have W0 := Lib.hid (hB1.out.trans (hbh.out.mono (by omega)))
            obtain ⟨xs, hxl, hxv, hxc, hx1⟩ := (hdh.out.pend.keep (Kept.of hS (W0.out.alloc W0.out.size (.cells #[] 54)))).vals
            obtain ⟨v3, w4, hr4, ho4, hb4⟩ := append_writes (wr.alloc (.cells #[] 54)) wr.heap.size 23 _ 0 [] (own_empty (heap_alloc_new wr _) (Nat.le_refl _)) A' d.pend.length c' xs hxl hxc hx1 (by omega) (by simp)
            rw [Nat.zero_add, List.nil_append] at ho4
            obtain ⟨A4, c4, rfl⟩ := row_form ho4
            have hb4' := (bnew wr (.cells #[] 54)).trans hb4
            obtain ⟨v5, w5, hr5, ho5, hb5⟩ := append_writes (w4.alloc (.cells #[.int .i64 a, .slice Av 128 cv] 54)) wr.heap.size 23 _ d.pend.length xs (row_keep ho4 (bnew w4 _)) (some ⟨w4.heap.size, 0, none⟩) 1 1 [.int .i64 a, .slice Av 128 cv] rfl (fun _ => ⟨_, rfl, fun j u hu => by
              rw [add_none, Nat.zero_add, cell_of_row _ w4.heap.size j _ _ _ (heap_alloc_new w4 _)]; simpa using hu⟩) (by simp [Value.oneCell']) (by omega) (by have := hb4'.size; simp; omega)
            obtain ⟨A5, c5, rfl⟩ := row_form ho5
            have h5 := (hb4'.alloc hb4'.size (.cells #[.int .i64 a, .slice Av 128 cv] 54)).trans hb5
            have hx5 := (Below.refl _ (wr.alloc (.cells #[] 54))).trans (hb4.trans (((Below.refl _ w4).alloc hb4'.size (.cells #[.int .i64 a, .slice Av 128 cv] 54)).trans hb5))
            have hz5 := h5.size
            have W5 := Lib.hid (W0.out.trans (h5.mono W0.out.size))
            have own5 : w5.ownsRow wr.heap.size 54 2 (.slice A5 (d.pend.length + 1) c5) (d.pend ++ ([⟨a, pad b⟩] : List Wr)).length (xs ++ [.int .i64 a, .slice Av 128 cv]) := by rw [List.length_append]; exact ho5
            have hs5 : ∀ {u : Value} {m : List UInt8}, Row (wr.alloc (.cells #[] 54)) S u m → Row w5 (fun b => S b ∨ (w.heap.size + 2 ≤ b ∧ b < w5.heap.size)) u m := fun hr =>
              (hr.keep (Kept.of (fun b h => by have := hS b h; omega) hx5)).mono fun b hlt => .inl hlt
            obtain ⟨A6, c6, e6, p1, p2, p3⟩ := PR.ofRow (fun b => S b ∨ (w.heap.size + 2 ≤ b ∧ b < w5.heap.size)) own5 (fun g hg hlt => .inr ⟨by omega, hlt⟩) (fun i hi => by
              rw [List.length_append] at hi
              by_cases hlt : i < d.pend.length
              · obtain ⟨e0, ⟨u, e1, e2⟩, e3⟩ := hxv i hlt
                rw [List.getElem_append_left hlt, List.getElem?_append_left (by omega), List.getElem?_append_left (by omega)]
                exact ⟨e0, ⟨u, e1, hs5 e2⟩, e3⟩
              · have hie : i = d.pend.length := by simp at hi; omega
                subst hie
                rw [List.getElem?_append_right (by omega), List.getElem?_append_right (by omega)]
                have e0 : (d.pend ++ ([⟨a, pad b⟩] : List Wr))[d.pend.length]'(by simp) = ⟨a, pad b⟩ := by simp
                rw [e0, hxl, Nat.sub_self, Nat.add_sub_cancel_left]
                exact ⟨rfl, ⟨_, rfl, Av, cv, by rw [pad_length], by rw [pad_length]; exact q1, q2, (q3.keep (Kept.of (fun b h => h.2) h5)).mono fun b h => .inr ⟨h.1, by omega⟩⟩, hI⟩)
            rw [List.length_append] at p1
            injection e6 with e6 _ e7
            subst e6 e7
            have hk5 := (h5.block _ (by omega)).trans ((hbh.out.block _ (by omega)).trans hkb.out)
            have hx5 := (h5.block _ (by omega)).trans ((hbh.out.block _ (by omega)).trans hx2.out)
            have hk0 := (hbh.out.block _ (by omega)).trans hkb.out
            have u1 : wr.cell? ⟨w.heap.size, 1, none⟩ = some (.slice A' d.pend.length c') := cell_of_row wr _ 1 _ _ _ hk0
            have hsz : w.heap.size < wr.heap.size := by omega
            have y0 : w5.cell? ⟨w.heap.size, 0, none⟩ = some (.slice A d.secs.length c) := cell_of_row w5 _ 0 _ _ _ hk5
            have y1 : w5.cell? ⟨w.heap.size, 1, none⟩ = some (.slice A' d.pend.length c') := cell_of_row w5 _ 1 _ _ _ hk5
            have y2 : w5.cell? ⟨w.heap.size, 2, none⟩ = some (.int .i64 d.left) := cell_of_row w5 _ 2 _ _ _ hk5
            have y3 : w5.cell? ⟨w.heap.size, 3, none⟩ = some (.bool false) := cell_of_row w5 _ 3 _ _ _ hk5
            have yf := fun i => frozen_of_row w5 _ i _ _ hk5
            have r0 : w5.cell? ⟨w.heap.size + 1, 0, none⟩ = some (.slice none 0 0) := cell_of_row w5 _ 0 _ _ _ hx5
            have r1 : w5.cell? ⟨w.heap.size + 1, 1, none⟩ = some (.slice none 0 0) := cell_of_row w5 _ 1 _ _ _ hx5
            have r2 : w5.cell? ⟨w.heap.size + 1, 2, none⟩ = some (.int .i64 0) := cell_of_row w5 _ 2 _ _ _ hx5
            have r3 : w5.cell? ⟨w.heap.size + 1, 3, none⟩ = some (.bool false) := cell_of_row w5 _ 3 _ _ _ hx5
            have rf := fun i => frozen_of_row w5 _ i _ _ hx5
            have hx5' := Lib.hid hx5
            have hk5' := Lib.hid hk5
            have pp1 := p1
            have pp2 := p2
            have hr4' := Lib.hid hr4
            have hr5' := Lib.hid hr5
            have p3' := Lib.hid p3
            clear hr4 hr5 ho4 ho5 own5 hs5 hb4 hb5 h5 hk5 hx5 hk0 hxv hxc hx1 hxl p3 q3 ho8 hlt hb hb4'
            go_wp2_with (at_builtin; first | (have q := hr4'; clear hr4'; refine Lib.wpList_append_run _ rfl _ _ _ _ rfl _ _ rfl rfl _ _ q.out ?_) | (have q := hr5'; clear hr5'; refine Lib.wpList_append_run _ rfl _ _ _ _ rfl _ _ rfl rfl _ _ q.out ?_))
            simp only [Act.put, List.setIfInBounds_toArray, List.set_cons_zero, List.set_cons_succ]
            go_wp2_with fail
            refine wp_store_one 23 _ _ rfl w.heap.size 1 rfl (.slice A5 (d.pend.length + 1) c5) rfl rfl rfl Try.sizeOf23 _ y1 (yf 1) ?_
            have v0 := (World.cell?_setCell_other w5 ⟨w.heap.size, 1, none⟩ ⟨w.heap.size, 0, none⟩ (.slice A5 (d.pend.length + 1) c5) (by simp)).trans y0
            have v1 := World.cell?_setCell_same' w5 ⟨w.heap.size, 1, none⟩ (.slice A5 (d.pend.length + 1) c5) (by rw [y1]; rfl)
            have v2 := (World.cell?_setCell_other w5 ⟨w.heap.size, 1, none⟩ ⟨w.heap.size, 2, none⟩ (.slice A5 (d.pend.length + 1) c5) (by simp)).trans y2
            have v3 := (World.cell?_setCell_other w5 ⟨w.heap.size, 1, none⟩ ⟨w.heap.size, 3, none⟩ (.slice A5 (d.pend.length + 1) c5) (by simp)).trans y3
            have k9 := (heap_setCell_same w5 w.heap.size 1 _ _ (.slice A5 (d.pend.length + 1) c5) hk5'.out).trans rfl
            have x9 := (heap_setCell_other w5 ⟨w.heap.size, 1, none⟩ (w.heap.size + 1) (.slice A5 (d.pend.length + 1) c5) (by show w.heap.size + 1 ≠ w.heap.size; omega)).trans hx5'.out
            have B9 := Lib.hid (W5.out.setCell (p := ⟨w.heap.size, 1, none⟩) (Nat.le_refl _) (.slice A5 (d.pend.length + 1) c5))
            have hp9 := Lib.hid ((p3'.out.keep (w' := w5.setCell ⟨w.heap.size, 1, none⟩ (.slice A5 (d.pend.length + 1) c5)) fun b o hb => World.cell?_of_block (heap_setCell_other w5 ⟨w.heap.size, 1, none⟩ b (.slice A5 (d.pend.length + 1) c5) (hb.elim (fun h => Nat.ne_of_lt (hS b h)) (fun h => by show b ≠ w.heap.size; omega)))).mono (S' := fun b => S b ∨ (w.heap.size + 2 ≤ b ∧ b < (w5.setCell ⟨w.heap.size, 1, none⟩ (.slice A5 (d.pend.length + 1) c5)).heap.size)) fun b hb => hb.elim .inl fun h => .inr ⟨h.1, by simpa using h.2⟩)
            clear y0 y1 y2 y3 yf r0 r1 r2 r3 rf u1
            generalize w5.setCell ⟨w.heap.size, 1, none⟩ (.slice A5 (d.pend.length + 1) c5) = w9 at *
            simp only [Act.put]
            go_wp2_with fail
            refine wp_load_row 25 _ rfl w.heap.size rfl 25 #[.slice A d.secs.length c, (.slice A5 (d.pend.length + 1) c5), .int .i64 d.left, .bool false] (0, 0) _ k9 Try.underlying25 rfl (by kernel_rfl) ?_
            simp only [Act.put, List.setIfInBounds_toArray, List.set_cons_zero, List.set_cons_succ]
            go_wp2_with fail
            refine wp_store_row 25 _ _ rfl (w.heap.size + 1) #[.slice A d.secs.length c, (.slice A5 (d.pend.length + 1) c5), .int .i64 d.left, .bool false] rfl rfl 25 _ x9 (by kernel_rfl) rfl (by simp [Value.oneCell']) ?_
            have k10 := setRow_heap w9 (w.heap.size + 1) _ #[.slice A d.secs.length c, (.slice A5 (d.pend.length + 1) c5), .int .i64 d.left, .bool false] _ (0, 0) x9
            have HB := Lib.hid (B9.out.grown (grownBy_setRow w9 (w.heap.size + 1) #[.slice A d.secs.length c, (.slice A5 (d.pend.length + 1) c5), .int .i64 d.left, .bool false]) B9.out.size fun k hk => by injection hk; omega)
            have hpA := Lib.hid ((hp9.out.keep (w' := w9.setRow (w.heap.size + 1) #[.slice A d.secs.length c, (.slice A5 (d.pend.length + 1) c5), .int .i64 d.left, .bool false]) fun b o hb => World.cell?_of_block (setRow_other w9 (w.heap.size + 1) b _ (hb.elim (fun h => by have := hS b h; show b ≠ w.heap.size + 1; omega) (fun h => by show b ≠ w.heap.size + 1; omega)))).mono (S' := Sn S w (w9.setRow (w.heap.size + 1) #[.slice A d.secs.length c, (.slice A5 (d.pend.length + 1) c5), .int .i64 d.left, .bool false])) fun b hb => hb.elim .inl fun h => .inr ⟨by omega, by simpa using h.2⟩)
            clear x9 k9
            generalize w9.setRow (w.heap.size + 1) #[.slice A d.secs.length c, (.slice A5 (d.pend.length + 1) c5), .int .i64 d.left, .bool false] = w10 at *
            have q0 : w10.cell? ⟨w.heap.size + 1, 0, none⟩ = some (.slice A d.secs.length c) := cell_of_row w10 _ 0 _ _ _ k10
            have q1 : w10.cell? ⟨w.heap.size + 1, 1, none⟩ = some (.slice A5 (d.pend.length + 1) c5) := cell_of_row w10 _ 1 _ _ _ k10
            have q2 : w10.cell? ⟨w.heap.size + 1, 2, none⟩ = some (.int .i64 d.left) := cell_of_row w10 _ 2 _ _ _ k10
            have q3 : w10.cell? ⟨w.heap.size + 1, 3, none⟩ = some (.bool false) := cell_of_row w10 _ 3 _ _ _ k10
            simp only [Act.put]
            go_wp2_with fail
            refine bodyPost_ret (v := .tuple #[.agg #[.slice A d.secs.length c, (.slice A5 (d.pend.length + 1) c5), .int .i64 d.left, .bool false], .int .i64 0]) (by simp [results, Try.results20, go_sem, q0, q1, q2, q3]) rfl ?_
            exact DkPost.of hv.out HB.out A c A5 c5 (by rw [List.length_append]; rfl) ⟨hdh.out.cap, hdh.out.max, by rw [List.length_append]; exact pp1, pp2, (hdh.out.upw hS HB.out).secs, hpA.out, hdh.out.left⟩
  · rw [h2]
    have hr := Lib.hid (show runB d = false by unfold runB; rw [h1]; rfl)
    have hv := Lib.hid (show writeD d a b = (zeroDk, 40) by unfold writeD; rw [hr.out]; rfl)
    clear h1 h2
    go_wp2_with fail
    exact bodyPost_ret (v := .tuple #[.agg #[.slice none 0 0, .slice none 0 0, .int .i64 0, .bool false], .int .i64 40]) (by simp [results, Try.results20, go_sem, z0]) rfl (DkPost.fail hv.out ((((hB1.out.setCell (by simp) _).setCell (by simp) _).setCell (by simp) _).setCell (by simp) _) rfl)
end Go.Proofs.Ytalkbccofiiojaa
