/- The reference's Sync: the contract. -/
import Derived.Test.YtalkbccofiiojaaOt
import Derived.Test.YtalkbccofiiojaaFs
namespace Go.Proofs.Ytalkbccofiiojaa
open Go.RowKit

theorem sy_drT {w wr W' : World} {S T : Nat → Prop} {g c1 : Nat} {ls : List (List UInt8)} {l : Int} {st : Bool} (ot : OT wr T g ls) (hT : ∀ b, T b → S b ∨ (w.heap.size ≤ b ∧ b < wr.heap.size)) (hg : w.heap.size ≤ g) (hk : ∀ b o, T b ∨ b = g → W'.cell? ⟨b, o, none⟩ = wr.cell? ⟨b, o, none⟩) (hz : wr.heap.size ≤ W'.heap.size)
    (hc : ls.length ≤ c1) (hm : c1 ≤ maxLen) (hl : I64 l) : DR W' (Sn S w W') (some ⟨g, 0, none⟩) c1 none 0 ⟨ls, [], l, st⟩ :=
  ⟨hc, hm, Nat.le_refl _, Nat.zero_le _, (ot.sr.keep fun b o hb => hk b o hb).mono fun b hb => hb.elim (fun h => (hT b h).imp id fun h => ⟨h.1, by omega⟩) fun h => .inr ⟨by omega, by have := ot.lt; omega⟩, fun h => absurd h (Nat.lt_irrefl 0), hl⟩
theorem sy_dr {w wr W' : World} {S : Nat → Prop} {g c1 : Nat} {ls : List (List UInt8)} {l : Int} {st : Bool} (hS : ∀ b, S b → b < w.heap.size) (ot : OT wr S g ls) (hg : w.heap.size ≤ g) (hk : ∀ b o, b < w.heap.size ∨ b = g → W'.cell? ⟨b, o, none⟩ = wr.cell? ⟨b, o, none⟩) (hz : wr.heap.size ≤ W'.heap.size)
    (hc : ls.length ≤ c1) (hm : c1 ≤ maxLen) (hl : I64 l) : DR W' (Sn S w W') (some ⟨g, 0, none⟩) c1 none 0 ⟨ls, [], l, st⟩ :=
  ⟨hc, hm, Nat.le_refl _, Nat.zero_le _, (ot.sr.keep fun b o hb => hk b o (hb.imp (hS b) id)).mono fun b hb => hb.elim .inl fun h => .inr ⟨by omega, by have := ot.lt; omega⟩, fun h => absurd h (Nat.lt_irrefl 0), hl⟩

set_option maxRecDepth 100000 in
set_option maxHeartbeats 8000000 in
theorem rSync_any (d : Dk) (w : World) (A A' : Option Addr) (c c' : Nat) (S : Nat → Prop) (hS : ∀ b, S b → b < w.heap.size) (hd : DR w S A c A' c' d) :
    Calls Try.prog 24 #[.agg #[.slice A d.secs.length c, .slice A' d.pend.length c', .int .i64 d.left, .bool d.stop]] w (DkPost S (syncD d) w) := by
  have hB := Lib.hid (((Below.refl _ w).alloc (Nat.le_refl _) (.cells #[.slice A d.secs.length c, .slice A' d.pend.length c', .int .i64 d.left, .bool d.stop] 25)).alloc (by simp) (.cells #[.slice none 0 0, .slice none 0 0, .int .i64 0, .bool false] 25))
  have hC := rCheck_any d _ A A' c c' w.heap.size (by simp; omega) ((hd.mono hS).keep (Kept.below hB.out))
  have hdh := Lib.hid hd
  clear hd
  rcases chk_eq d with ⟨hk, he⟩ | ⟨hk, he⟩
  rotate_left
  · have hv := Lib.hid (show syncD d = (zeroDk, 40) by unfold syncD runB; rw [hk]; rfl)
    rw [he] at hC
    have hC := Lib.hid hC
    go_enter Try.func24, Try.ntmps24
    go_wp2_with fail
    refine hC.out.mono ?_
    rintro e w1 ⟨rfl, hb1⟩
    simp only [World.size_alloc] at hb1
    obtain ⟨z0, z1⟩ := bcell hb1
    have hB1 := Lib.hid (hB.out.trans (hb1.mono (by omega)))
    go_wp2_with fail
    exact bodyPost_ret (v := .tuple #[.agg #[.slice none 0 0, .slice none 0 0, .int .i64 0, .bool false], .int .i64 40]) (by simp [results, Try.results24, go_sem, z0]) rfl (DkPost.fail hv.out ((((hB1.out.setCell (by simp) _).setCell (by simp) _).setCell (by simp) _).setCell (by simp) _) rfl)
  rw [he] at hC
  have hC := Lib.hid hC
  cases hs : d.stop with
  | true =>
    have hv := Lib.hid (show syncD d = (zeroDk, 40) by unfold syncD runB; rw [hk, hs]; rfl)
    rw [hs] at hC
    go_enter Try.func24, Try.ntmps24
    go_wp2_with fail
    refine hC.out.mono ?_
    rintro e w1 ⟨rfl, hb1⟩
    simp only [World.size_alloc] at hb1
    obtain ⟨z0, z1⟩ := bcell hb1
    obtain ⟨y0, y1, y2, y3⟩ := box4_2 hb1
    rw [hs] at hB
    have hB1 := Lib.hid (hB.out.trans (hb1.mono (by omega)))
    go_wp2_with fail
    exact bodyPost_ret (v := .tuple #[.agg #[.slice none 0 0, .slice none 0 0, .int .i64 0, .bool false], .int .i64 40]) (by simp [results, Try.results24, go_sem, z0]) rfl (DkPost.fail hv.out ((((hB1.out.setCell (by simp) _).setCell (by simp) _).setCell (by simp) _).setCell (by simp) _) rfl)
  | false =>
    have hrun := Lib.hid (show runB d = true from runB_iff.2 ⟨hk, hs⟩)
    rw [hs] at hC hB
    go_enter Try.func24, Try.ntmps24
    go_wp2_with fail
    refine hC.out.mono ?_
    rintro e w1 ⟨rfl, hb1⟩
    simp only [World.size_alloc] at hb1
    obtain ⟨z0, z1⟩ := bcell hb1
    obtain ⟨y0, y1, y2, y3⟩ := box4_2 hb1
    have hz := hb1.size
    simp only [World.size_alloc] at hz
    have hB1 := Lib.hid (hB.out.trans (hb1.mono (by omega)))
    clear hC
    have hl1 := (chkB_iff.1 hk).2.2.2.1
    rcases Int.lt_or_le d.left 0 with h0 | h0
    · have hM : perfN d = d.pend.length := by unfold perfN; rw [if_pos (by omega)]
      have e0 : decide ((0 : Int) ≤ d.left) = false := decide_eq_false (by omega)
      have h0' : ¬ (0 : Int) ≤ d.left := by omega
      have hp4 := (chkB_iff.1 hk).2.2.1
      have hs1 := (chkB_iff.1 hk).1
      have hs4 := (chkB_iff.1 hk).2.1
      have hkd := Lib.hid (show w1.heap[w.heap.size]? = some (.cells #[.slice A d.secs.length c, .slice A' d.pend.length c', .int .i64 d.left, .bool false] 25 (0, 0)) from by
        rw [hb1.block _ (by omega), Below.heap_alloc _ _ _ (by simp)]; exact heap_alloc_new w _)
      have hkr := Lib.hid (show w1.heap[w.heap.size + 1]? = some (.cells #[.slice none 0 0, .slice none 0 0, .int .i64 0, .bool false] 25 (0, 0)) from by
        have h9 := heap_alloc_new (w.alloc (.cells #[.slice A d.secs.length c, .slice A' d.pend.length c', .int .i64 d.left, .bool false] 25)) (.cells #[.slice none 0 0, .slice none 0 0, .int .i64 0, .bool false] 25)
        rw [World.size_alloc] at h9
        exact (hb1.block _ (by omega)).trans h9)
      clear hb1 z0 z1
      go_wp2_with fail
      clear y0 y1 y2 y3
      have hsr := Lib.hid hdh.out.secs
      refine wp_region_pre 8 1 (fun W => Below w1.heap.size w1 W) (fun W W' => Below W.heap.size W W')
        (fun i v W => match i with
          | 0 => ∃ g, v = .slice (some ⟨g, 0, none⟩) 0 0
          | 1 => v = .pointer (some ⟨w.heap.size, 0, none⟩)
          | 2 => v = .slice A d.secs.length c
          | 3 => ∃ g c1, v = .slice (some ⟨g, 0, none⟩) d.secs.length c1 ∧ d.secs.length ≤ c1 ∧ c1 ≤ maxLen ∧ w1.heap.size ≤ g ∧ OT W S g d.secs
          | 4 => v = .pointer (some ⟨w.heap.size, 2, none⟩)
          | 5 => v = .int .i64 d.left
          | 6 => ∃ g c1, v = .agg #[.slice (some ⟨g, 0, none⟩) d.secs.length c1, .slice none 0 0, .int .i64 d.left, .bool false] ∧ d.secs.length ≤ c1 ∧ c1 ≤ maxLen ∧ w1.heap.size ≤ g ∧ OT W S g d.secs
          | 7 => ∃ g, v = .pointer (some ⟨g, 0, none⟩) ∧ w1.heap.size ≤ g ∧ W.heap[g]? = some (.cells #[.slice none 0 0, .slice none 0 0, .int .i64 0, .bool false] 25 (0, 0))
          | _ => True) (fun _ => false)
        (by kernel_rfl) (by kernel_rfl) (by kernel_rfl) (by kernel_rfl) (by kernel_rfl) (by kernel_rfl) (by kernel_rfl) ?_ (fun _ _ h => h.size) (dN (Below.refl _ _) 1) ?_ ?_
      · intro i v W W' hb hF
        match i, hF with
        | 0, h => exact h
        | 1, h => exact h
        | 2, h => exact h
        | 3, ⟨g, c1, h1, h2, h3, h4, h5⟩ => exact ⟨g, c1, h1, h2, h3, h4, h5.keep (hb.block g h5.lt) (Kept.of (fun b h => by have := hS b h; have := h5.lt; omega) hb)⟩
        | 4, h => exact h
        | 5, h => exact h
        | 6, ⟨g, c1, h1, h2, h3, h4, h5⟩ => exact ⟨g, c1, h1, h2, h3, h4, h5.keep (hb.block g h5.lt) (Kept.of (fun b h => by have := hS b h; have := h5.lt; omega) hb)⟩
        | 7, ⟨g, h1, h2, h3⟩ => exact ⟨g, h1, h2, blk_step h3 hb⟩
        | _ + 8, _ => trivial
      · refine ⟨?_, ?_, ?_, ?_, ?_, ?_, ?_, ?_, trivial⟩
        · refine stepJ_any rfl fun ac W hA hG hD K hK => ?_
          rw [if_pos (by rfl)]
          exact wp_val (v := .slice (some ⟨W.heap.size, 0, none⟩) 0 0) (w' := W.alloc (.cells #[] 35)) (by simp [execOp, Act.eval, go_sem]) (hK _ _ (hG.alloc hG.size _) (bnew W _) ⟨_, rfl⟩ (fun h => by cases h))
        · refine stepJ_val' (fun _ _ => Below.refl _ _) rfl rfl rfl fun ac W hA hG hD => ⟨_, ?_, rfl⟩
          have h1 := hA.getD (t := 1) (by kernel_rfl)
          simp only [Array.getD_eq_getD_getElem?] at h1
          simp [execOp, Act.eval, h1, go_sem]
        · refine stepJ_val' (fun _ _ => Below.refl _ _) rfl rfl rfl fun ac W hA hG hD => ⟨_, ?_, rfl⟩
          have h33 := hD.get 1 33 _ rfl rfl (by kernel_rfl)
          simp only [Array.getD_eq_getD_getElem?] at h33
          have k0 : W.cell? ⟨w.heap.size, 0, none⟩ = some (.slice A d.secs.length c) := cell_of_row W _ 0 _ _ _ ((hG.block _ (by omega)).trans hkd.out)
          simp [execOp, Act.eval, h33, go_sem, k0]
        · refine stepJ_any rfl fun ac W hA hG hD K hK => ?_
          obtain ⟨g0, h32⟩ := hD.get 0 32 _ rfl rfl (by kernel_rfl)
          have h34 := hD.get 2 34 _ rfl rfl (by kernel_rfl)
          rw [if_pos (by rfl)]
          have hgs := hG.size
          obtain ⟨c1, w', hr, q1, q2, q3, hbw⟩ := copy_secs (hsr.out.keep (Kept.of hS (hB1.out.trans (hG.mono hB1.out.size)))) (by omega) hs4 (fun b h => by have := hS b h; omega) g0 22
          exact Lib.wp_append_run W (.tmp 32) (.tmp 34) 22 22 rfl _ _ h32 h34 _ w' hr (hK _ _ (hG.trans (hbw.mono hG.size)) hbw ⟨_, c1, rfl, q1, q2, hgs, q3⟩ (fun h => by cases h))
        · refine stepJ_val' (fun _ _ => Below.refl _ _) rfl rfl rfl fun ac W hA hG hD => ⟨_, ?_, rfl⟩
          have h1 := hA.getD (t := 1) (by kernel_rfl)
          simp only [Array.getD_eq_getD_getElem?] at h1
          simp [execOp, Act.eval, h1, go_sem]
        · refine stepJ_val' (fun _ _ => Below.refl _ _) rfl rfl rfl fun ac W hA hG hD => ⟨_, ?_, rfl⟩
          have h36 := hD.get 4 36 _ rfl rfl (by kernel_rfl)
          simp only [Array.getD_eq_getD_getElem?] at h36
          have k2 : W.cell? ⟨w.heap.size, 2, none⟩ = some (.int .i64 d.left) := cell_of_row W _ 2 _ _ _ ((hG.block _ (by omega)).trans hkd.out)
          simp [execOp, Act.eval, h36, go_sem, k2]
        · refine stepJ_any rfl fun ac W hA hG hD K hK => ?_
          obtain ⟨g, c1, h35, q1, q2, q3, q4⟩ := hD.get 3 35 _ rfl rfl (by kernel_rfl)
          have h37 := hD.get 5 37 _ rfl rfl (by kernel_rfl)
          simp only [Array.getD_eq_getD_getElem?] at h35 h37
          rw [if_pos (by rfl)]
          exact wp_val (v := .agg #[.slice (some ⟨g, 0, none⟩) d.secs.length c1, .slice none 0 0, .int .i64 d.left, .bool false]) (w' := W) (by simp [execOp, Act.eval, h35, h37, go_sem]) (hK _ _ hG (Below.refl _ _) ⟨g, c1, rfl, q1, q2, q3, q4⟩ (fun h => by cases h))
        · refine stepJ_any rfl fun ac W hA hG hD K hK => ?_
          rw [if_pos (by rfl)]
          exact wp_val (v := .pointer (some ⟨W.heap.size, 0, none⟩)) (w' := W.alloc (.cells #[.slice none 0 0, .slice none 0 0, .int .i64 0, .bool false] 25)) (by simp [execOp, go_sem]) (hK _ _ (hG.alloc hG.size _) (bnew W _) ⟨_, rfl, hG.size, heap_alloc_new W _⟩ (fun h => by cases h))
      intro fu T W hG hF hne hltb
      obtain ⟨g0, e32⟩ := hF 0 _ rfl (by omega)
      have e32 : T 32 = _ := e32
      have e33 : T 33 = .pointer (some ⟨w.heap.size, 0, none⟩) := hF 1 _ rfl (by omega)
      have e34 : T 34 = .slice A d.secs.length c := hF 2 _ rfl (by omega)
      obtain ⟨g3, c3, e35, -⟩ := hF 3 _ rfl (by omega)
      have e35 : T 35 = _ := e35
      have e36 : T 36 = .pointer (some ⟨w.heap.size, 2, none⟩) := hF 4 _ rfl (by omega)
      have e37 : T 37 = .int .i64 d.left := hF 5 _ rfl (by omega)
      obtain ⟨g, c1, e38, hc1, hm1, hg1, hot⟩ := hF 6 _ rfl (by omega)
      have e38 : T 38 = _ := e38
      obtain ⟨gx, e6, hgx, hbx⟩ := hF 7 _ rfl (by omega)
      have e6 : T 6 = _ := e6
      clear hF hne hltb
      simp only [List.take, fillT, List.setIfInBounds_toArray, List.set_cons_zero, List.set_cons_succ, e32, e33, e34, e35, e36, e37, e38, e6]
      clear e32 e33 e34 e35 e36 e37 e38 e6
      have hxg : g ≠ gx := by
        rintro rfl
        obtain ⟨cs, h1, -⟩ := hot
        rw [h1] at hbx
        injection hbx with hbx
        injection hbx with _ hbx _
        exact absurd hbx (by decide)
      have hkd2 := (hG.block _ (by omega)).trans hkd.out
      have hkr2 := (hG.block _ (by omega)).trans hkr.out
      have hgl := hot.lt
      have hgxl : gx < W.heap.size := (Array.getElem?_eq_some_iff.1 hbx).1
      refine wpAny_ready (rs := [8]) (by kernel_rfl) (by simp) (AllReady.cons (o := ⟨none, .store 25 (.tmp 6) (.tmp 38), _, _, _, none⟩) rfl (fun K1 hK1 => ?_) AllReady.nil)
      rw [if_pos (by rfl)]
      refine wp_store_row 25 (.tmp 6) (.tmp 38) rfl gx #[.slice (some ⟨g, 0, none⟩) d.secs.length c1, .slice none 0 0, .int .i64 d.left, .bool false] rfl rfl 25 _ hbx (by kernel_rfl) rfl (by simp [Value.oneCell']) ?_
      refine hK1 _ _ ?_
      clear hK1 K1
      refine wpAny_done (by kernel_rfl) ?_ _
      simp only [Act.put]
      have kx := Lib.hid (setRow_heap W gx _ #[.slice (some ⟨g, 0, none⟩) d.secs.length c1, .slice none 0 0, .int .i64 d.left, .bool false] _ _ hbx)
      have kd := Lib.hid ((setRow_other W gx w.heap.size #[.slice (some ⟨g, 0, none⟩) d.secs.length c1, .slice none 0 0, .int .i64 d.left, .bool false] (by omega)).trans hkd2)
      have kr := Lib.hid ((setRow_other W gx (w.heap.size + 1) #[.slice (some ⟨g, 0, none⟩) d.secs.length c1, .slice none 0 0, .int .i64 d.left, .bool false] (by omega)).trans hkr2)
      have ot := Lib.hid (hot.keep (w' := W.setRow gx #[.slice (some ⟨g, 0, none⟩) d.secs.length c1, .slice none 0 0, .int .i64 d.left, .bool false]) (setRow_other W gx g #[.slice (some ⟨g, 0, none⟩) d.secs.length c1, .slice none 0 0, .int .i64 d.left, .bool false] hxg) (fun b o hb => World.cell?_of_block (setRow_other W gx b #[.slice (some ⟨g, 0, none⟩) d.secs.length c1, .slice none 0 0, .int .i64 d.left, .bool false] (by have := hS b hb; omega))))
      have HB := Lib.hid (hB1.out.trans ((below_setRow hG hgx #[.slice (some ⟨g, 0, none⟩) d.secs.length c1, .slice none 0 0, .int .i64 d.left, .bool false]).mono hB1.out.size))
      have hgV : g < (W.setRow gx #[.slice (some ⟨g, 0, none⟩) d.secs.length c1, .slice none 0 0, .int .i64 d.left, .bool false]).heap.size := by rw [size_setRow]; exact hgl
      have hgxV : gx < (W.setRow gx #[.slice (some ⟨g, 0, none⟩) d.secs.length c1, .slice none 0 0, .int .i64 d.left, .bool false]).heap.size := by rw [size_setRow]; exact hgxl
      clear hbx hot hkd2 hkr2 hG hgl hgxl
      generalize W.setRow gx #[.slice (some ⟨g, 0, none⟩) d.secs.length c1, .slice none 0 0, .int .i64 d.left, .bool false] = V at *
      go_wp2_with fail
      go_loopw [7] (fun i wr => ∃ k : Nat, k ≤ perfN d ∧ i = .int .i64 k ∧ Hid (OT wr S g (applyW d.secs (d.pend.take k))) ∧ Hid (wr.heap[gx]? = some (.cells #[.slice (some ⟨g, 0, none⟩) d.secs.length c1, .slice none 0 0, .int .i64 d.left, .bool false] 25 (0, 0))) ∧ Hid (wr.heap[w.heap.size]? = some (.cells #[.slice A d.secs.length c, .slice A' d.pend.length c', .int .i64 d.left, .bool false] 25 (0, 0))) ∧ Hid (wr.heap[w.heap.size + 1]? = some (.cells #[.slice none 0 0, .slice none 0 0, .int .i64 0, .bool false] 25 (0, 0))) ∧ Below w.heap.size w wr) (fun i _ => perfN d - (intOf i).toNat)
      case atStart => exact ⟨0, Nat.zero_le _, rfl, ot, kx, kd, kr, HB.out⟩
      case round =>
        clear ot kx kd kr HB
        obtain ⟨k, hkM, rfl, ot, kx, kd, kr, hb⟩ := hrel
        have hb' := Lib.hid hb
        clear hb
        by_cases hlt : k < perfN d
        · have hkp : k < d.pend.length := Nat.lt_of_lt_of_le hlt (perfN_le d)
          have j1 : (k : Int) < d.pend.length := by omega
          have j0 : (0 : Int) ≤ k := by omega
          have j2 : (k : Int) < d.pend.length := by omega
          obtain ⟨⟨p0, p1⟩, p2⟩ := (chkB_iff.1 hk).2.2.2.2.2.2 _ (List.getElem_mem hkp)
          obtain ⟨bp, op, Ak, ck, hbp, hbs, l0, l1, l2, l3, l4, -⟩ := (hdh.out.pend.keep (Kept.of hS hb'.out)).at_ hkp
          obtain ⟨q, hq⟩ : ∃ q : Nat, d.pend[k].pl = q := ⟨d.pend[k].pl.toNat, by omega⟩
          have hset := applyW_take d.secs d.pend k hkp
          rw [hq] at l0 p0 p1 hset
          rw [Int.toNat_natCast] at hset
          rw [p2] at l1 l2
          have hrow : Row wr S (.slice Ak 128 ck) d.pend[k].data := ⟨Ak, ck, by rw [p2], by rw [p2]; exact l2, l3, l4⟩
          have hrow := Lib.hid hrow
          have l0 := Lib.hid l0
          have l1 := Lib.hid l1
          have hset := Lib.hid hset
          have hq2 : q < (applyW d.secs (d.pend.take k)).length := by rw [applyW_length]; omega
          clear l2 l3 l4 hq p2
          have hbps := hS bp hbs
          have hgxr : gx < wr.heap.size := (Array.getElem?_eq_some_iff.1 kx.out).1
          have hgr : g < wr.heap.size := ot.out.lt
          have hwr : w.heap.size < wr.heap.size := (Array.getElem?_eq_some_iff.1 kd.out).1
          have hwr1 : w.heap.size + 1 < wr.heap.size := (Array.getElem?_eq_some_iff.1 kr.out).1
          have hbpr : bp < wr.heap.size := by omega
          clear hbs
          go_wp2_with fail
          refine wp_region_pre 15 1 (fun W => Below wr.heap.size wr W) (fun W W' => Below W.heap.size W W')
            (fun i v W => match i with
              | 0 => v = .pointer (some ⟨gx, 0, none⟩)
              | 1 => v = .slice (some ⟨g, 0, none⟩) d.secs.length c1
              | 2 => v = .pointer (some ⟨w.heap.size, 1, none⟩)
              | 3 => v = .slice A' d.pend.length c'
              | 4 => v = .int .i64 (k : Int)
              | 5 => v = .pointer (some ⟨bp, op + k * 2, none⟩)
              | 6 => v = .pointer (some ⟨bp, op + k * 2, none⟩)
              | 7 => v = .int .i64 (q : Int)
              | 8 => v = .pointer (some ⟨w.heap.size, 1, none⟩)
              | 9 => v = .slice A' d.pend.length c'
              | 10 => v = .int .i64 (k : Int)
              | 11 => v = .pointer (some ⟨bp, op + k * 2, none⟩)
              | 12 => v = .pointer (some ⟨bp, op + k * 2 + 1, none⟩)
              | 13 => v = .slice Ak 128 ck
              | 14 => v = .pointer (some ⟨g, q, none⟩)
              | _ => True) (fun _ => false)
            (by kernel_rfl) (by kernel_rfl) (by kernel_rfl) (by kernel_rfl) (by kernel_rfl) (by kernel_rfl) (by kernel_rfl) ?_ (fun _ _ h => h.size) (dN (Below.refl _ _) 1) ?_ ?_
          · intro i v W W' _ hF
            match i, hF with
            | 0, h => exact h
            | 1, h => exact h
            | 2, h => exact h
            | 3, h => exact h
            | 4, h => exact h
            | 5, h => exact h
            | 6, h => exact h
            | 7, h => exact h
            | 8, h => exact h
            | 9, h => exact h
            | 10, h => exact h
            | 11, h => exact h
            | 12, h => exact h
            | 13, h => exact h
            | 14, h => exact h
            | _ + 15, _ => trivial
          · refine ⟨?_, ?_, ?_, ?_, ?_, ?_, ?_, ?_, ?_, ?_, ?_, ?_, ?_, ?_, ?_, trivial⟩
            · refine stepJ_val' (fun _ _ => Below.refl _ _) rfl rfl rfl fun ac W hA hG hD => ⟨_, ?_, rfl⟩
              have h6 := hA.getD (t := 6) (by kernel_rfl)
              simp only [Array.getD_eq_getD_getElem?] at h6
              simp [execOp, Act.eval, h6, go_sem]
            · refine stepJ_val' (fun _ _ => Below.refl _ _) rfl rfl rfl fun ac W hA hG hD => ⟨_, ?_, rfl⟩
              have h44 := hD.get 0 44 _ rfl rfl (by kernel_rfl)
              simp only [Array.getD_eq_getD_getElem?] at h44
              have c0 : W.cell? ⟨gx, 0, none⟩ = some (.slice (some ⟨g, 0, none⟩) d.secs.length c1) := cell_of_row W _ 0 _ _ _ ((hG.block _ hgxr).trans kx.out)
              simp [execOp, Act.eval, h44, go_sem, c0]
            · refine stepJ_val' (fun _ _ => Below.refl _ _) rfl rfl rfl fun ac W hA hG hD => ⟨_, ?_, rfl⟩
              have h1 := hA.getD (t := 1) (by kernel_rfl)
              simp only [Array.getD_eq_getD_getElem?] at h1
              simp [execOp, Act.eval, h1, go_sem]
            · refine stepJ_val' (fun _ _ => Below.refl _ _) rfl rfl rfl fun ac W hA hG hD => ⟨_, ?_, rfl⟩
              have h46 := hD.get 2 46 _ rfl rfl (by kernel_rfl)
              simp only [Array.getD_eq_getD_getElem?] at h46
              have c0 : W.cell? ⟨w.heap.size, 1, none⟩ = some (.slice A' d.pend.length c') := cell_of_row W _ 1 _ _ _ ((hG.block _ hwr).trans kd.out)
              simp [execOp, Act.eval, h46, go_sem, c0]
            · refine stepJ_val' (fun _ _ => Below.refl _ _) rfl rfl rfl fun ac W hA hG hD => ⟨_, ?_, rfl⟩
              have h7 := hA.getD (t := 7) (by kernel_rfl)
              simp only [Array.getD_eq_getD_getElem?] at h7
              simp [execOp, Act.eval, h7, go_sem]
            · refine stepJ_val' (fun _ _ => Below.refl _ _) rfl rfl rfl fun ac W hA hG hD => ⟨_, ?_, rfl⟩
              have h47 := hD.get 3 47 _ rfl rfl (by kernel_rfl)
              have h48 := hD.get 4 48 _ rfl rfl (by kernel_rfl)
              simp only [Array.getD_eq_getD_getElem?] at h47 h48
              simp [execOp, Act.eval, h47, h48, go_sem, j0, j2, hbp]
            · refine stepJ_val' (fun _ _ => Below.refl _ _) rfl rfl rfl fun ac W hA hG hD => ⟨_, ?_, rfl⟩
              have h49 := hD.get 5 49 _ rfl rfl (by kernel_rfl)
              simp only [Array.getD_eq_getD_getElem?] at h49
              simp [execOp, Act.eval, h49, go_sem]
            · refine stepJ_val' (fun _ _ => Below.refl _ _) rfl rfl rfl fun ac W hA hG hD => ⟨_, ?_, rfl⟩
              have h50 := hD.get 6 50 _ rfl rfl (by kernel_rfl)
              simp only [Array.getD_eq_getD_getElem?] at h50
              have c0 := (hG.cell (p := ⟨bp, op + k * 2, none⟩) hbpr).trans l0.out
              simp [execOp, Act.eval, h50, go_sem, c0]
            · refine stepJ_val' (fun _ _ => Below.refl _ _) rfl rfl rfl fun ac W hA hG hD => ⟨_, ?_, rfl⟩
              have h1 := hA.getD (t := 1) (by kernel_rfl)
              simp only [Array.getD_eq_getD_getElem?] at h1
              simp [execOp, Act.eval, h1, go_sem]
            · refine stepJ_val' (fun _ _ => Below.refl _ _) rfl rfl rfl fun ac W hA hG hD => ⟨_, ?_, rfl⟩
              have h52 := hD.get 8 52 _ rfl rfl (by kernel_rfl)
              simp only [Array.getD_eq_getD_getElem?] at h52
              have c0 : W.cell? ⟨w.heap.size, 1, none⟩ = some (.slice A' d.pend.length c') := cell_of_row W _ 1 _ _ _ ((hG.block _ hwr).trans kd.out)
              simp [execOp, Act.eval, h52, go_sem, c0]
            · refine stepJ_val' (fun _ _ => Below.refl _ _) rfl rfl rfl fun ac W hA hG hD => ⟨_, ?_, rfl⟩
              have h7 := hA.getD (t := 7) (by kernel_rfl)
              simp only [Array.getD_eq_getD_getElem?] at h7
              simp [execOp, Act.eval, h7, go_sem]
            · refine stepJ_val' (fun _ _ => Below.refl _ _) rfl rfl rfl fun ac W hA hG hD => ⟨_, ?_, rfl⟩
              have h53 := hD.get 9 53 _ rfl rfl (by kernel_rfl)
              have h54 := hD.get 10 54 _ rfl rfl (by kernel_rfl)
              simp only [Array.getD_eq_getD_getElem?] at h53 h54
              simp [execOp, Act.eval, h53, h54, go_sem, j0, j2, hbp]
            · refine stepJ_val' (fun _ _ => Below.refl _ _) rfl rfl rfl fun ac W hA hG hD => ⟨_, ?_, rfl⟩
              have h55 := hD.get 11 55 _ rfl rfl (by kernel_rfl)
              simp only [Array.getD_eq_getD_getElem?] at h55
              simp [execOp, Act.eval, h55, go_sem]
            · refine stepJ_val' (fun _ _ => Below.refl _ _) rfl rfl rfl fun ac W hA hG hD => ⟨_, ?_, rfl⟩
              have h56 := hD.get 12 56 _ rfl rfl (by kernel_rfl)
              simp only [Array.getD_eq_getD_getElem?] at h56
              have c0 := (hG.cell (p := ⟨bp, op + k * 2 + 1, none⟩) hbpr).trans l1.out
              simp [execOp, Act.eval, h56, go_sem, c0]
            · refine stepJ_val' (fun _ _ => Below.refl _ _) rfl rfl rfl fun ac W hA hG hD => ⟨_, ?_, rfl⟩
              have h45 := hD.get 1 45 _ rfl rfl (by kernel_rfl)
              have h51 := hD.get 7 51 _ rfl rfl (by kernel_rfl)
              simp only [Array.getD_eq_getD_getElem?] at h45 h51
              simp [execOp, Act.eval, h45, h51, go_sem, p0, p1]
          · intro fu T W hG hF hne hltb
            have e44 : T 44 = .pointer (some ⟨gx, 0, none⟩) := hF 0 _ rfl (by omega)
            have e45 : T 45 = .slice (some ⟨g, 0, none⟩) d.secs.length c1 := hF 1 _ rfl (by omega)
            have e46 : T 46 = .pointer (some ⟨w.heap.size, 1, none⟩) := hF 2 _ rfl (by omega)
            have e47 : T 47 = .slice A' d.pend.length c' := hF 3 _ rfl (by omega)
            have e48 : T 48 = .int .i64 (k : Int) := hF 4 _ rfl (by omega)
            have e49 : T 49 = .pointer (some ⟨bp, op + k * 2, none⟩) := hF 5 _ rfl (by omega)
            have e50 : T 50 = .pointer (some ⟨bp, op + k * 2, none⟩) := hF 6 _ rfl (by omega)
            have e51 : T 51 = .int .i64 (q : Int) := hF 7 _ rfl (by omega)
            have e52 : T 52 = .pointer (some ⟨w.heap.size, 1, none⟩) := hF 8 _ rfl (by omega)
            have e53 : T 53 = .slice A' d.pend.length c' := hF 9 _ rfl (by omega)
            have e54 : T 54 = .int .i64 (k : Int) := hF 10 _ rfl (by omega)
            have e55 : T 55 = .pointer (some ⟨bp, op + k * 2, none⟩) := hF 11 _ rfl (by omega)
            have e56 : T 56 = .pointer (some ⟨bp, op + k * 2 + 1, none⟩) := hF 12 _ rfl (by omega)
            have e57 : T 57 = .slice Ak 128 ck := hF 13 _ rfl (by omega)
            have e58 : T 58 = .pointer (some ⟨g, q, none⟩) := hF 14 _ rfl (by omega)
            clear hF hne hltb
            simp only [List.take, fillT, List.setIfInBounds_toArray, List.set_cons_zero, List.set_cons_succ, e44, e45, e46, e47, e48, e49, e50, e51, e52, e53, e54, e55, e56, e57, e58]
            clear e44 e45 e46 e47 e48 e49 e50 e51 e52 e53 e54 e55 e56 e57 e58
            refine wpAny_ready (rs := [15]) (by kernel_rfl) (by simp) (AllReady.cons (o := ⟨none, .store 35 (.tmp 58) (.tmp 57), _, _, _, none⟩) rfl (fun K1 hK1 => ?_) AllReady.nil)
            rw [if_pos (by rfl)]
            have oW := ot.out.step (fun b h => by have := hS b h; omega) hG
            obtain ⟨A0, c0, hold, -⟩ := oW.cell hq2
            refine wp_store_one 35 _ _ rfl g q rfl (.slice Ak 128 ck) rfl rfl rfl Try.sizeOf35 _ hold (oW.frozen q) ?_
            refine hK1 _ _ ?_
            clear hK1 K1
            refine wpAny_done (by kernel_rfl) ?_ _
            simp only [Act.put]
            have hTg : ¬ S g := fun h => by have := hS g h; omega
            have o9 := oW.set hTg (i := q) (hrow.out.keep (Kept.of (fun b h => by have := hS b h; omega) hG))
            rw [← hset.out] at o9
            have o9 := Lib.hid o9
            have kx9 := Lib.hid ((heap_setCell_other W ⟨g, q, none⟩ gx (.slice Ak 128 ck) (by show gx ≠ g; exact Ne.symm hxg)).trans ((hG.block _ hgxr).trans kx.out))
            have kd9 := Lib.hid ((heap_setCell_other W ⟨g, q, none⟩ w.heap.size (.slice Ak 128 ck) (by show w.heap.size ≠ g; omega)).trans ((hG.block _ hwr).trans kd.out))
            have kr9 := Lib.hid ((heap_setCell_other W ⟨g, q, none⟩ (w.heap.size + 1) (.slice Ak 128 ck) (by show w.heap.size + 1 ≠ g; omega)).trans ((hG.block _ hwr1).trans kr.out))
            have B9 := Lib.hid ((hb'.out.trans (hG.mono hb'.out.size)).setCell (p := ⟨g, q, none⟩) (by show w.heap.size ≤ g; omega) (.slice Ak 128 ck))
            clear oW hold hG ot kx kd kr hrow hset
            generalize W.setCell ⟨g, q, none⟩ (.slice Ak 128 ck) = w9 at *
            go_wp2_with fail
            go_roundw
            case rel => exact ⟨k + 1, by omega, by go_num, o9, kx9, kd9, kr9, B9.out⟩
            case measure => simp [intOf]; omega
        · have hkM' : k = perfN d := by omega
          have hle : ¬ ((k : Int) < d.pend.length) := by omega
          subst hkM'
          clear hlt hkM
          have hgr : g < wr.heap.size := ot.out.lt
          have x0 : wr.cell? ⟨gx, 0, none⟩ = some (.slice (some ⟨g, 0, none⟩) d.secs.length c1) := cell_of_row wr _ 0 _ _ _ kx.out
          have x1 : wr.cell? ⟨gx, 1, none⟩ = some (.slice none 0 0) := cell_of_row wr _ 1 _ _ _ kx.out
          have x2 : wr.cell? ⟨gx, 2, none⟩ = some (.int .i64 d.left) := cell_of_row wr _ 2 _ _ _ kx.out
          have x3 : wr.cell? ⟨gx, 3, none⟩ = some (.bool false) := cell_of_row wr _ 3 _ _ _ kx.out
          have xf := fun i => frozen_of_row wr gx i _ _ kx.out
          have r0 : wr.cell? ⟨w.heap.size + 1, 0, none⟩ = some (.slice none 0 0) := cell_of_row wr _ 0 _ _ _ kr.out
          have r1 : wr.cell? ⟨w.heap.size + 1, 1, none⟩ = some (.slice none 0 0) := cell_of_row wr _ 1 _ _ _ kr.out
          have r2 : wr.cell? ⟨w.heap.size + 1, 2, none⟩ = some (.int .i64 0) := cell_of_row wr _ 2 _ _ _ kr.out
          have r3 : wr.cell? ⟨w.heap.size + 1, 3, none⟩ = some (.bool false) := cell_of_row wr _ 3 _ _ _ kr.out
          have rf := fun i => frozen_of_row wr (w.heap.size + 1) i _ _ kr.out
          rw [hM, List.take_of_length_le (Nat.le_refl _)] at ot
          have hv := Lib.hid (show syncD d = (⟨applyW d.secs d.pend, [], d.left, false⟩, 0) by
            unfold syncD; rw [hrun.out, if_neg (by decide), hM, if_pos rfl]
            have : lessD d.left d.pend.length = d.left := by unfold lessD; split <;> omega
            rw [this])
          have hle' : ¬ ((d.pend.length : Int) < d.pend.length) := by omega
          rw [hM]
          go_wp2_with fail
          refine bodyPost_ret (v := .tuple #[.agg #[.slice (some ⟨g, 0, none⟩) d.secs.length c1, .slice none 0 0, .int .i64 d.left, .bool false], .int .i64 0]) (by simp [results, Try.results24, go_sem, r0, r1, r2, r3]) rfl ?_
          exact DkPost.of hv.out ((((hb'.out.setCell (by simp) _).setCell (by simp) _).setCell (by simp) _).setCell (by simp) _) (some ⟨g, 0, none⟩) c1 none 0 (by rw [applyW_length]; rfl) (sy_dr hS ot.out (by omega) (fun b o hb => set4_other wr (w.heap.size + 1) _ _ _ _ b o (by omega)) (by simp) (by rw [applyW_length]; exact hc1) hm1 hdh.out.left)
    · have e0 : decide ((0 : Int) ≤ d.left) = true := decide_eq_true h0
      rcases Int.lt_or_le d.left d.pend.length with h1 | h1
      · have e1 : decide (d.left < (d.pend.length : Int)) = true := decide_eq_true h1
        have hM : (perfN d : Int) = d.left := by unfold perfN; rw [if_neg (by omega)]; omega
        have hp4 := (chkB_iff.1 hk).2.2.1
        have hs1 := (chkB_iff.1 hk).1
        have hs4 := (chkB_iff.1 hk).2.1
        have hkd := Lib.hid (show w1.heap[w.heap.size]? = some (.cells #[.slice A d.secs.length c, .slice A' d.pend.length c', .int .i64 d.left, .bool false] 25 (0, 0)) from by
          rw [hb1.block _ (by omega), Below.heap_alloc _ _ _ (by simp)]; exact heap_alloc_new w _)
        have hkr := Lib.hid (show w1.heap[w.heap.size + 1]? = some (.cells #[.slice none 0 0, .slice none 0 0, .int .i64 0, .bool false] 25 (0, 0)) from by
          have h9 := heap_alloc_new (w.alloc (.cells #[.slice A d.secs.length c, .slice A' d.pend.length c', .int .i64 d.left, .bool false] 25)) (.cells #[.slice none 0 0, .slice none 0 0, .int .i64 0, .bool false] 25)
          rw [World.size_alloc] at h9
          exact (hb1.block _ (by omega)).trans h9)
        clear hb1 z0 z1
        go_wp2_with fail
        clear y0 y1 y2 y3
        have hsr := Lib.hid hdh.out.secs
        refine wp_region_pre 8 1 (fun W => Below w1.heap.size w1 W) (fun W W' => Below W.heap.size W W')
          (fun i v W => match i with
            | 0 => ∃ g, v = .slice (some ⟨g, 0, none⟩) 0 0
            | 1 => v = .pointer (some ⟨w.heap.size, 0, none⟩)
            | 2 => v = .slice A d.secs.length c
            | 3 => ∃ g c1, v = .slice (some ⟨g, 0, none⟩) d.secs.length c1 ∧ d.secs.length ≤ c1 ∧ c1 ≤ maxLen ∧ w1.heap.size ≤ g ∧ OT W S g d.secs
            | 4 => v = .pointer (some ⟨w.heap.size, 2, none⟩)
            | 5 => v = .int .i64 d.left
            | 6 => ∃ g c1, v = .agg #[.slice (some ⟨g, 0, none⟩) d.secs.length c1, .slice none 0 0, .int .i64 d.left, .bool false] ∧ d.secs.length ≤ c1 ∧ c1 ≤ maxLen ∧ w1.heap.size ≤ g ∧ OT W S g d.secs
            | 7 => ∃ g, v = .pointer (some ⟨g, 0, none⟩) ∧ w1.heap.size ≤ g ∧ W.heap[g]? = some (.cells #[.slice none 0 0, .slice none 0 0, .int .i64 0, .bool false] 25 (0, 0))
            | _ => True) (fun _ => false)
          (by kernel_rfl) (by kernel_rfl) (by kernel_rfl) (by kernel_rfl) (by kernel_rfl) (by kernel_rfl) (by kernel_rfl) ?_ (fun _ _ h => h.size) (dN (Below.refl _ _) 1) ?_ ?_
        · intro i v W W' hb hF
          match i, hF with
          | 0, h => exact h
          | 1, h => exact h
          | 2, h => exact h
          | 3, ⟨g, c1, h1, h2, h3, h4, h5⟩ => exact ⟨g, c1, h1, h2, h3, h4, h5.keep (hb.block g h5.lt) (Kept.of (fun b h => by have := hS b h; have := h5.lt; omega) hb)⟩
          | 4, h => exact h
          | 5, h => exact h
          | 6, ⟨g, c1, h1, h2, h3, h4, h5⟩ => exact ⟨g, c1, h1, h2, h3, h4, h5.keep (hb.block g h5.lt) (Kept.of (fun b h => by have := hS b h; have := h5.lt; omega) hb)⟩
          | 7, ⟨g, h1, h2, h3⟩ => exact ⟨g, h1, h2, blk_step h3 hb⟩
          | _ + 8, _ => trivial
        · refine ⟨?_, ?_, ?_, ?_, ?_, ?_, ?_, ?_, trivial⟩
          · refine stepJ_any rfl fun ac W hA hG hD K hK => ?_
            rw [if_pos (by rfl)]
            exact wp_val (v := .slice (some ⟨W.heap.size, 0, none⟩) 0 0) (w' := W.alloc (.cells #[] 35)) (by simp [execOp, Act.eval, go_sem]) (hK _ _ (hG.alloc hG.size _) (bnew W _) ⟨_, rfl⟩ (fun h => by cases h))
          · refine stepJ_val' (fun _ _ => Below.refl _ _) rfl rfl rfl fun ac W hA hG hD => ⟨_, ?_, rfl⟩
            have h1 := hA.getD (t := 1) (by kernel_rfl)
            simp only [Array.getD_eq_getD_getElem?] at h1
            simp [execOp, Act.eval, h1, go_sem]
          · refine stepJ_val' (fun _ _ => Below.refl _ _) rfl rfl rfl fun ac W hA hG hD => ⟨_, ?_, rfl⟩
            have h33 := hD.get 1 33 _ rfl rfl (by kernel_rfl)
            simp only [Array.getD_eq_getD_getElem?] at h33
            have k0 : W.cell? ⟨w.heap.size, 0, none⟩ = some (.slice A d.secs.length c) := cell_of_row W _ 0 _ _ _ ((hG.block _ (by omega)).trans hkd.out)
            simp [execOp, Act.eval, h33, go_sem, k0]
          · refine stepJ_any rfl fun ac W hA hG hD K hK => ?_
            obtain ⟨g0, h32⟩ := hD.get 0 32 _ rfl rfl (by kernel_rfl)
            have h34 := hD.get 2 34 _ rfl rfl (by kernel_rfl)
            rw [if_pos (by rfl)]
            have hgs := hG.size
            obtain ⟨c1, w', hr, q1, q2, q3, hbw⟩ := copy_secs (hsr.out.keep (Kept.of hS (hB1.out.trans (hG.mono hB1.out.size)))) (by omega) hs4 (fun b h => by have := hS b h; omega) g0 22
            exact Lib.wp_append_run W (.tmp 32) (.tmp 34) 22 22 rfl _ _ h32 h34 _ w' hr (hK _ _ (hG.trans (hbw.mono hG.size)) hbw ⟨_, c1, rfl, q1, q2, hgs, q3⟩ (fun h => by cases h))
          · refine stepJ_val' (fun _ _ => Below.refl _ _) rfl rfl rfl fun ac W hA hG hD => ⟨_, ?_, rfl⟩
            have h1 := hA.getD (t := 1) (by kernel_rfl)
            simp only [Array.getD_eq_getD_getElem?] at h1
            simp [execOp, Act.eval, h1, go_sem]
          · refine stepJ_val' (fun _ _ => Below.refl _ _) rfl rfl rfl fun ac W hA hG hD => ⟨_, ?_, rfl⟩
            have h36 := hD.get 4 36 _ rfl rfl (by kernel_rfl)
            simp only [Array.getD_eq_getD_getElem?] at h36
            have k2 : W.cell? ⟨w.heap.size, 2, none⟩ = some (.int .i64 d.left) := cell_of_row W _ 2 _ _ _ ((hG.block _ (by omega)).trans hkd.out)
            simp [execOp, Act.eval, h36, go_sem, k2]
          · refine stepJ_any rfl fun ac W hA hG hD K hK => ?_
            obtain ⟨g, c1, h35, q1, q2, q3, q4⟩ := hD.get 3 35 _ rfl rfl (by kernel_rfl)
            have h37 := hD.get 5 37 _ rfl rfl (by kernel_rfl)
            simp only [Array.getD_eq_getD_getElem?] at h35 h37
            rw [if_pos (by rfl)]
            exact wp_val (v := .agg #[.slice (some ⟨g, 0, none⟩) d.secs.length c1, .slice none 0 0, .int .i64 d.left, .bool false]) (w' := W) (by simp [execOp, Act.eval, h35, h37, go_sem]) (hK _ _ hG (Below.refl _ _) ⟨g, c1, rfl, q1, q2, q3, q4⟩ (fun h => by cases h))
          · refine stepJ_any rfl fun ac W hA hG hD K hK => ?_
            rw [if_pos (by rfl)]
            exact wp_val (v := .pointer (some ⟨W.heap.size, 0, none⟩)) (w' := W.alloc (.cells #[.slice none 0 0, .slice none 0 0, .int .i64 0, .bool false] 25)) (by simp [execOp, go_sem]) (hK _ _ (hG.alloc hG.size _) (bnew W _) ⟨_, rfl, hG.size, heap_alloc_new W _⟩ (fun h => by cases h))
        intro fu T W hG hF hne hltb
        obtain ⟨g0, e32⟩ := hF 0 _ rfl (by omega)
        have e32 : T 32 = _ := e32
        have e33 : T 33 = .pointer (some ⟨w.heap.size, 0, none⟩) := hF 1 _ rfl (by omega)
        have e34 : T 34 = .slice A d.secs.length c := hF 2 _ rfl (by omega)
        obtain ⟨g3, c3, e35, -⟩ := hF 3 _ rfl (by omega)
        have e35 : T 35 = _ := e35
        have e36 : T 36 = .pointer (some ⟨w.heap.size, 2, none⟩) := hF 4 _ rfl (by omega)
        have e37 : T 37 = .int .i64 d.left := hF 5 _ rfl (by omega)
        obtain ⟨g, c1, e38, hc1, hm1, hg1, hot⟩ := hF 6 _ rfl (by omega)
        have e38 : T 38 = _ := e38
        obtain ⟨gx, e6, hgx, hbx⟩ := hF 7 _ rfl (by omega)
        have e6 : T 6 = _ := e6
        clear hF hne hltb
        simp only [List.take, fillT, List.setIfInBounds_toArray, List.set_cons_zero, List.set_cons_succ, e32, e33, e34, e35, e36, e37, e38, e6]
        clear e32 e33 e34 e35 e36 e37 e38 e6
        have hxg : g ≠ gx := by
          rintro rfl
          obtain ⟨cs, h1, -⟩ := hot
          rw [h1] at hbx
          injection hbx with hbx
          injection hbx with _ hbx _
          exact absurd hbx (by decide)
        have hkd2 := (hG.block _ (by omega)).trans hkd.out
        have hkr2 := (hG.block _ (by omega)).trans hkr.out
        have hgl := hot.lt
        have hgxl : gx < W.heap.size := (Array.getElem?_eq_some_iff.1 hbx).1
        refine wpAny_ready (rs := [8]) (by kernel_rfl) (by simp) (AllReady.cons (o := ⟨none, .store 25 (.tmp 6) (.tmp 38), _, _, _, none⟩) rfl (fun K1 hK1 => ?_) AllReady.nil)
        rw [if_pos (by rfl)]
        refine wp_store_row 25 (.tmp 6) (.tmp 38) rfl gx #[.slice (some ⟨g, 0, none⟩) d.secs.length c1, .slice none 0 0, .int .i64 d.left, .bool false] rfl rfl 25 _ hbx (by kernel_rfl) rfl (by simp [Value.oneCell']) ?_
        refine hK1 _ _ ?_
        clear hK1 K1
        refine wpAny_done (by kernel_rfl) ?_ _
        simp only [Act.put]
        have kx := Lib.hid (setRow_heap W gx _ #[.slice (some ⟨g, 0, none⟩) d.secs.length c1, .slice none 0 0, .int .i64 d.left, .bool false] _ _ hbx)
        have kd := Lib.hid ((setRow_other W gx w.heap.size #[.slice (some ⟨g, 0, none⟩) d.secs.length c1, .slice none 0 0, .int .i64 d.left, .bool false] (by omega)).trans hkd2)
        have kr := Lib.hid ((setRow_other W gx (w.heap.size + 1) #[.slice (some ⟨g, 0, none⟩) d.secs.length c1, .slice none 0 0, .int .i64 d.left, .bool false] (by omega)).trans hkr2)
        have ot := Lib.hid (hot.keep (w' := W.setRow gx #[.slice (some ⟨g, 0, none⟩) d.secs.length c1, .slice none 0 0, .int .i64 d.left, .bool false]) (setRow_other W gx g #[.slice (some ⟨g, 0, none⟩) d.secs.length c1, .slice none 0 0, .int .i64 d.left, .bool false] hxg) (fun b o hb => World.cell?_of_block (setRow_other W gx b #[.slice (some ⟨g, 0, none⟩) d.secs.length c1, .slice none 0 0, .int .i64 d.left, .bool false] (by have := hS b hb; omega))))
        have HB := Lib.hid (hB1.out.trans ((below_setRow hG hgx #[.slice (some ⟨g, 0, none⟩) d.secs.length c1, .slice none 0 0, .int .i64 d.left, .bool false]).mono hB1.out.size))
        have hgV : g < (W.setRow gx #[.slice (some ⟨g, 0, none⟩) d.secs.length c1, .slice none 0 0, .int .i64 d.left, .bool false]).heap.size := by rw [size_setRow]; exact hgl
        have hgxV : gx < (W.setRow gx #[.slice (some ⟨g, 0, none⟩) d.secs.length c1, .slice none 0 0, .int .i64 d.left, .bool false]).heap.size := by rw [size_setRow]; exact hgxl
        clear hbx hot hkd2 hkr2 hG hgl hgxl
        generalize W.setRow gx #[.slice (some ⟨g, 0, none⟩) d.secs.length c1, .slice none 0 0, .int .i64 d.left, .bool false] = V at *
        go_wp2_with fail
        go_loopw [7] (fun i wr => ∃ k : Nat, k ≤ perfN d ∧ i = .int .i64 k ∧ Hid (OT wr S g (applyW d.secs (d.pend.take k))) ∧ Hid (wr.heap[gx]? = some (.cells #[.slice (some ⟨g, 0, none⟩) d.secs.length c1, .slice none 0 0, .int .i64 d.left, .bool false] 25 (0, 0))) ∧ Hid (wr.heap[w.heap.size]? = some (.cells #[.slice A d.secs.length c, .slice A' d.pend.length c', .int .i64 d.left, .bool false] 25 (0, 0))) ∧ Hid (wr.heap[w.heap.size + 1]? = some (.cells #[.slice none 0 0, .slice none 0 0, .int .i64 0, .bool false] 25 (0, 0))) ∧ Below w.heap.size w wr) (fun i _ => perfN d - (intOf i).toNat)
        case atStart => exact ⟨0, Nat.zero_le _, rfl, ot, kx, kd, kr, HB.out⟩
        case round =>
          clear ot kx kd kr HB
          obtain ⟨k, hkM, rfl, ot, kx, kd, kr, hb⟩ := hrel
          have hb' := Lib.hid hb
          clear hb
          by_cases hlt : k < perfN d
          · have hkp : k < d.pend.length := Nat.lt_of_lt_of_le hlt (perfN_le d)
            have j1 : (k : Int) < d.left := by omega
            have j0 : (0 : Int) ≤ k := by omega
            have j2 : (k : Int) < d.pend.length := by omega
            obtain ⟨⟨p0, p1⟩, p2⟩ := (chkB_iff.1 hk).2.2.2.2.2.2 _ (List.getElem_mem hkp)
            obtain ⟨bp, op, Ak, ck, hbp, hbs, l0, l1, l2, l3, l4, -⟩ := (hdh.out.pend.keep (Kept.of hS hb'.out)).at_ hkp
            obtain ⟨q, hq⟩ : ∃ q : Nat, d.pend[k].pl = q := ⟨d.pend[k].pl.toNat, by omega⟩
            have hset := applyW_take d.secs d.pend k hkp
            rw [hq] at l0 p0 p1 hset
            rw [Int.toNat_natCast] at hset
            rw [p2] at l1 l2
            have hrow : Row wr S (.slice Ak 128 ck) d.pend[k].data := ⟨Ak, ck, by rw [p2], by rw [p2]; exact l2, l3, l4⟩
            have hrow := Lib.hid hrow
            have l0 := Lib.hid l0
            have l1 := Lib.hid l1
            have hset := Lib.hid hset
            have hq2 : q < (applyW d.secs (d.pend.take k)).length := by rw [applyW_length]; omega
            clear l2 l3 l4 hq p2
            have hbps := hS bp hbs
            have hgxr : gx < wr.heap.size := (Array.getElem?_eq_some_iff.1 kx.out).1
            have hgr : g < wr.heap.size := ot.out.lt
            have hwr : w.heap.size < wr.heap.size := (Array.getElem?_eq_some_iff.1 kd.out).1
            have hwr1 : w.heap.size + 1 < wr.heap.size := (Array.getElem?_eq_some_iff.1 kr.out).1
            have hbpr : bp < wr.heap.size := by omega
            clear hbs
            go_wp2_with fail
            refine wp_region_pre 15 1 (fun W => Below wr.heap.size wr W) (fun W W' => Below W.heap.size W W')
              (fun i v W => match i with
                | 0 => v = .pointer (some ⟨gx, 0, none⟩)
                | 1 => v = .slice (some ⟨g, 0, none⟩) d.secs.length c1
                | 2 => v = .pointer (some ⟨w.heap.size, 1, none⟩)
                | 3 => v = .slice A' d.pend.length c'
                | 4 => v = .int .i64 (k : Int)
                | 5 => v = .pointer (some ⟨bp, op + k * 2, none⟩)
                | 6 => v = .pointer (some ⟨bp, op + k * 2, none⟩)
                | 7 => v = .int .i64 (q : Int)
                | 8 => v = .pointer (some ⟨w.heap.size, 1, none⟩)
                | 9 => v = .slice A' d.pend.length c'
                | 10 => v = .int .i64 (k : Int)
                | 11 => v = .pointer (some ⟨bp, op + k * 2, none⟩)
                | 12 => v = .pointer (some ⟨bp, op + k * 2 + 1, none⟩)
                | 13 => v = .slice Ak 128 ck
                | 14 => v = .pointer (some ⟨g, q, none⟩)
                | _ => True) (fun _ => false)
              (by kernel_rfl) (by kernel_rfl) (by kernel_rfl) (by kernel_rfl) (by kernel_rfl) (by kernel_rfl) (by kernel_rfl) ?_ (fun _ _ h => h.size) (dN (Below.refl _ _) 1) ?_ ?_
            · intro i v W W' _ hF
              match i, hF with
              | 0, h => exact h
              | 1, h => exact h
              | 2, h => exact h
              | 3, h => exact h
              | 4, h => exact h
              | 5, h => exact h
              | 6, h => exact h
              | 7, h => exact h
              | 8, h => exact h
              | 9, h => exact h
              | 10, h => exact h
              | 11, h => exact h
              | 12, h => exact h
              | 13, h => exact h
              | 14, h => exact h
              | _ + 15, _ => trivial
            · refine ⟨?_, ?_, ?_, ?_, ?_, ?_, ?_, ?_, ?_, ?_, ?_, ?_, ?_, ?_, ?_, trivial⟩
              · refine stepJ_val' (fun _ _ => Below.refl _ _) rfl rfl rfl fun ac W hA hG hD => ⟨_, ?_, rfl⟩
                have h6 := hA.getD (t := 6) (by kernel_rfl)
                simp only [Array.getD_eq_getD_getElem?] at h6
                simp [execOp, Act.eval, h6, go_sem]
              · refine stepJ_val' (fun _ _ => Below.refl _ _) rfl rfl rfl fun ac W hA hG hD => ⟨_, ?_, rfl⟩
                have h44 := hD.get 0 44 _ rfl rfl (by kernel_rfl)
                simp only [Array.getD_eq_getD_getElem?] at h44
                have c0 : W.cell? ⟨gx, 0, none⟩ = some (.slice (some ⟨g, 0, none⟩) d.secs.length c1) := cell_of_row W _ 0 _ _ _ ((hG.block _ hgxr).trans kx.out)
                simp [execOp, Act.eval, h44, go_sem, c0]
              · refine stepJ_val' (fun _ _ => Below.refl _ _) rfl rfl rfl fun ac W hA hG hD => ⟨_, ?_, rfl⟩
                have h1 := hA.getD (t := 1) (by kernel_rfl)
                simp only [Array.getD_eq_getD_getElem?] at h1
                simp [execOp, Act.eval, h1, go_sem]
              · refine stepJ_val' (fun _ _ => Below.refl _ _) rfl rfl rfl fun ac W hA hG hD => ⟨_, ?_, rfl⟩
                have h46 := hD.get 2 46 _ rfl rfl (by kernel_rfl)
                simp only [Array.getD_eq_getD_getElem?] at h46
                have c0 : W.cell? ⟨w.heap.size, 1, none⟩ = some (.slice A' d.pend.length c') := cell_of_row W _ 1 _ _ _ ((hG.block _ hwr).trans kd.out)
                simp [execOp, Act.eval, h46, go_sem, c0]
              · refine stepJ_val' (fun _ _ => Below.refl _ _) rfl rfl rfl fun ac W hA hG hD => ⟨_, ?_, rfl⟩
                have h7 := hA.getD (t := 7) (by kernel_rfl)
                simp only [Array.getD_eq_getD_getElem?] at h7
                simp [execOp, Act.eval, h7, go_sem]
              · refine stepJ_val' (fun _ _ => Below.refl _ _) rfl rfl rfl fun ac W hA hG hD => ⟨_, ?_, rfl⟩
                have h47 := hD.get 3 47 _ rfl rfl (by kernel_rfl)
                have h48 := hD.get 4 48 _ rfl rfl (by kernel_rfl)
                simp only [Array.getD_eq_getD_getElem?] at h47 h48
                simp [execOp, Act.eval, h47, h48, go_sem, j0, j2, hbp]
              · refine stepJ_val' (fun _ _ => Below.refl _ _) rfl rfl rfl fun ac W hA hG hD => ⟨_, ?_, rfl⟩
                have h49 := hD.get 5 49 _ rfl rfl (by kernel_rfl)
                simp only [Array.getD_eq_getD_getElem?] at h49
                simp [execOp, Act.eval, h49, go_sem]
              · refine stepJ_val' (fun _ _ => Below.refl _ _) rfl rfl rfl fun ac W hA hG hD => ⟨_, ?_, rfl⟩
                have h50 := hD.get 6 50 _ rfl rfl (by kernel_rfl)
                simp only [Array.getD_eq_getD_getElem?] at h50
                have c0 := (hG.cell (p := ⟨bp, op + k * 2, none⟩) hbpr).trans l0.out
                simp [execOp, Act.eval, h50, go_sem, c0]
              · refine stepJ_val' (fun _ _ => Below.refl _ _) rfl rfl rfl fun ac W hA hG hD => ⟨_, ?_, rfl⟩
                have h1 := hA.getD (t := 1) (by kernel_rfl)
                simp only [Array.getD_eq_getD_getElem?] at h1
                simp [execOp, Act.eval, h1, go_sem]
              · refine stepJ_val' (fun _ _ => Below.refl _ _) rfl rfl rfl fun ac W hA hG hD => ⟨_, ?_, rfl⟩
                have h52 := hD.get 8 52 _ rfl rfl (by kernel_rfl)
                simp only [Array.getD_eq_getD_getElem?] at h52
                have c0 : W.cell? ⟨w.heap.size, 1, none⟩ = some (.slice A' d.pend.length c') := cell_of_row W _ 1 _ _ _ ((hG.block _ hwr).trans kd.out)
                simp [execOp, Act.eval, h52, go_sem, c0]
              · refine stepJ_val' (fun _ _ => Below.refl _ _) rfl rfl rfl fun ac W hA hG hD => ⟨_, ?_, rfl⟩
                have h7 := hA.getD (t := 7) (by kernel_rfl)
                simp only [Array.getD_eq_getD_getElem?] at h7
                simp [execOp, Act.eval, h7, go_sem]
              · refine stepJ_val' (fun _ _ => Below.refl _ _) rfl rfl rfl fun ac W hA hG hD => ⟨_, ?_, rfl⟩
                have h53 := hD.get 9 53 _ rfl rfl (by kernel_rfl)
                have h54 := hD.get 10 54 _ rfl rfl (by kernel_rfl)
                simp only [Array.getD_eq_getD_getElem?] at h53 h54
                simp [execOp, Act.eval, h53, h54, go_sem, j0, j2, hbp]
              · refine stepJ_val' (fun _ _ => Below.refl _ _) rfl rfl rfl fun ac W hA hG hD => ⟨_, ?_, rfl⟩
                have h55 := hD.get 11 55 _ rfl rfl (by kernel_rfl)
                simp only [Array.getD_eq_getD_getElem?] at h55
                simp [execOp, Act.eval, h55, go_sem]
              · refine stepJ_val' (fun _ _ => Below.refl _ _) rfl rfl rfl fun ac W hA hG hD => ⟨_, ?_, rfl⟩
                have h56 := hD.get 12 56 _ rfl rfl (by kernel_rfl)
                simp only [Array.getD_eq_getD_getElem?] at h56
                have c0 := (hG.cell (p := ⟨bp, op + k * 2 + 1, none⟩) hbpr).trans l1.out
                simp [execOp, Act.eval, h56, go_sem, c0]
              · refine stepJ_val' (fun _ _ => Below.refl _ _) rfl rfl rfl fun ac W hA hG hD => ⟨_, ?_, rfl⟩
                have h45 := hD.get 1 45 _ rfl rfl (by kernel_rfl)
                have h51 := hD.get 7 51 _ rfl rfl (by kernel_rfl)
                simp only [Array.getD_eq_getD_getElem?] at h45 h51
                simp [execOp, Act.eval, h45, h51, go_sem, p0, p1]
            · intro fu T W hG hF hne hltb
              have e44 : T 44 = .pointer (some ⟨gx, 0, none⟩) := hF 0 _ rfl (by omega)
              have e45 : T 45 = .slice (some ⟨g, 0, none⟩) d.secs.length c1 := hF 1 _ rfl (by omega)
              have e46 : T 46 = .pointer (some ⟨w.heap.size, 1, none⟩) := hF 2 _ rfl (by omega)
              have e47 : T 47 = .slice A' d.pend.length c' := hF 3 _ rfl (by omega)
              have e48 : T 48 = .int .i64 (k : Int) := hF 4 _ rfl (by omega)
              have e49 : T 49 = .pointer (some ⟨bp, op + k * 2, none⟩) := hF 5 _ rfl (by omega)
              have e50 : T 50 = .pointer (some ⟨bp, op + k * 2, none⟩) := hF 6 _ rfl (by omega)
              have e51 : T 51 = .int .i64 (q : Int) := hF 7 _ rfl (by omega)
              have e52 : T 52 = .pointer (some ⟨w.heap.size, 1, none⟩) := hF 8 _ rfl (by omega)
              have e53 : T 53 = .slice A' d.pend.length c' := hF 9 _ rfl (by omega)
              have e54 : T 54 = .int .i64 (k : Int) := hF 10 _ rfl (by omega)
              have e55 : T 55 = .pointer (some ⟨bp, op + k * 2, none⟩) := hF 11 _ rfl (by omega)
              have e56 : T 56 = .pointer (some ⟨bp, op + k * 2 + 1, none⟩) := hF 12 _ rfl (by omega)
              have e57 : T 57 = .slice Ak 128 ck := hF 13 _ rfl (by omega)
              have e58 : T 58 = .pointer (some ⟨g, q, none⟩) := hF 14 _ rfl (by omega)
              clear hF hne hltb
              simp only [List.take, fillT, List.setIfInBounds_toArray, List.set_cons_zero, List.set_cons_succ, e44, e45, e46, e47, e48, e49, e50, e51, e52, e53, e54, e55, e56, e57, e58]
              clear e44 e45 e46 e47 e48 e49 e50 e51 e52 e53 e54 e55 e56 e57 e58
              refine wpAny_ready (rs := [15]) (by kernel_rfl) (by simp) (AllReady.cons (o := ⟨none, .store 35 (.tmp 58) (.tmp 57), _, _, _, none⟩) rfl (fun K1 hK1 => ?_) AllReady.nil)
              rw [if_pos (by rfl)]
              have oW := ot.out.step (fun b h => by have := hS b h; omega) hG
              obtain ⟨A0, c0, hold, -⟩ := oW.cell hq2
              refine wp_store_one 35 _ _ rfl g q rfl (.slice Ak 128 ck) rfl rfl rfl Try.sizeOf35 _ hold (oW.frozen q) ?_
              refine hK1 _ _ ?_
              clear hK1 K1
              refine wpAny_done (by kernel_rfl) ?_ _
              simp only [Act.put]
              have hTg : ¬ S g := fun h => by have := hS g h; omega
              have o9 := oW.set hTg (i := q) (hrow.out.keep (Kept.of (fun b h => by have := hS b h; omega) hG))
              rw [← hset.out] at o9
              have o9 := Lib.hid o9
              have kx9 := Lib.hid ((heap_setCell_other W ⟨g, q, none⟩ gx (.slice Ak 128 ck) (by show gx ≠ g; exact Ne.symm hxg)).trans ((hG.block _ hgxr).trans kx.out))
              have kd9 := Lib.hid ((heap_setCell_other W ⟨g, q, none⟩ w.heap.size (.slice Ak 128 ck) (by show w.heap.size ≠ g; omega)).trans ((hG.block _ hwr).trans kd.out))
              have kr9 := Lib.hid ((heap_setCell_other W ⟨g, q, none⟩ (w.heap.size + 1) (.slice Ak 128 ck) (by show w.heap.size + 1 ≠ g; omega)).trans ((hG.block _ hwr1).trans kr.out))
              have B9 := Lib.hid ((hb'.out.trans (hG.mono hb'.out.size)).setCell (p := ⟨g, q, none⟩) (by show w.heap.size ≤ g; omega) (.slice Ak 128 ck))
              clear oW hold hG ot kx kd kr hrow hset
              generalize W.setCell ⟨g, q, none⟩ (.slice Ak 128 ck) = w9 at *
              go_wp2_with fail
              go_roundw
              case rel => exact ⟨k + 1, by omega, by go_num, o9, kx9, kd9, kr9, B9.out⟩
              case measure => simp [intOf]; omega
          · have hkM' : k = perfN d := by omega
            have hle : ¬ ((k : Int) < d.left) := by omega
            subst hkM'
            clear hlt hkM
            have hgr : g < wr.heap.size := ot.out.lt
            have hv := Lib.hid (show syncD d = (⟨tornS (applyW d.secs (d.pend.take (perfN d))) (d.pend.getD (perfN d) ⟨0, []⟩), [], 0, true⟩, 40) by
              unfold syncD; rw [hrun.out, if_neg (by decide), if_neg (by omega)])
            have hMl : d.left = ((perfN d : Nat) : Int) := hM.symm
            have hMp : perfN d < d.pend.length := by omega
            obtain ⟨M, hMe⟩ : ∃ M, M = perfN d := ⟨_, rfl⟩
            rw [← hMe] at hv hMl hMp ot
            rw [hMl] at kx kd e0 e1 hle
            rw [← hMe, hMl]
            clear hMe
            have j0 : (0 : Int) ≤ M := by omega
            have j1 : (M : Int) < d.pend.length := by omega
            obtain ⟨⟨p0, p1⟩, p2⟩ := (chkB_iff.1 hk).2.2.2.2.2.2 _ (List.getElem_mem hMp)
            obtain ⟨bp, op, Ak, ck, hbp, hbs, l0, l1, l2, l3, l4, -⟩ := (hdh.out.pend.keep (Kept.of hS hb'.out)).at_ hMp
            obtain ⟨q, hq⟩ : ∃ q : Nat, d.pend[M].pl = q := ⟨d.pend[M].pl.toNat, by omega⟩
            have hgd : d.pend.getD M ⟨0, []⟩ = d.pend[M] := by simp [List.getD, hMp]
            rw [hgd] at hv
            rw [hq] at l0 p0 p1
            rw [p2] at l1 l2
            have y0 : wr.cell? ⟨w.heap.size, 0, none⟩ = some (.slice A d.secs.length c) := cell_of_row wr _ 0 _ _ _ kd.out
            have y1 : wr.cell? ⟨w.heap.size, 1, none⟩ = some (.slice A' d.pend.length c') := cell_of_row wr _ 1 _ _ _ kd.out
            obtain ⟨lsM, hlsl, h128, ot, hv⟩ : ∃ lsM : List (List UInt8), lsM.length = d.secs.length ∧ (∀ s ∈ lsM, s.length = 128) ∧ OT wr S g lsM ∧ syncD d = (⟨lsM.set q (d.pend[M].data.take 64 ++ (lsM.getD q []).drop 64), [], 0, true⟩, 40) := by
              refine ⟨applyW d.secs (d.pend.take M), applyW_length _ _, applyW_128 _ _ (chkB_iff.1 hk).2.2.2.2.2.1 (fun x hx => ((chkB_iff.1 hk).2.2.2.2.2.2 x (List.mem_of_mem_take hx)).2), ot.out, ?_⟩
              rw [hv.out]; unfold tornS; rw [hq, Int.toNat_natCast]
            have hq2 : q < lsM.length := by omega
            have hgs : lsM.getD q [] = lsM[q] := by simp [List.getD, hq2]
            rw [hgs] at hv
            have h128 : lsM[q].length = 128 := h128 _ (List.getElem_mem hq2)
            obtain ⟨As, cs, s0, s1, s2, s3⟩ := ot.cell hq2
            have hv := Lib.hid hv
            have ot := Lib.hid ot
            clear hq hgs hgd
            have hX : (d.pend[M].data.take 64).length = 64 := by rw [List.length_take, p2]; rfl
            have hY : (lsM[q].drop 64).length = 64 := by rw [List.length_drop, h128]
            obtain ⟨bs, os, rfl, hss, s4⟩ := s3 (by omega)
            rw [h128] at s0 s1
            have s5 : RBs wr S (some ⟨bs, os + 64, none⟩) (lsM[q].drop 64) := fun _ => ⟨bs, os + 64, rfl, hss, fun j hj => by
              rw [Nat.add_assoc]; rw [s4 (64 + j) (by rw [List.length_drop] at hj; omega), List.getElem_drop]⟩
            have l5 := l4.take 64
            have hbss := hS bs hss
            have c64 : ¬ (ck : Int) < 64 := by omega
            have ck0 : ¬ ck = 0 := by omega
            have cs64 : ¬ cs = 64 := by omega
            have hgxr : gx < wr.heap.size := (Array.getElem?_eq_some_iff.1 kx.out).1
            obtain ⟨X, hXe⟩ : ∃ X, X = d.pend[M].data.take 64 := ⟨_, rfl⟩
            obtain ⟨Y, hYe⟩ : ∃ Y, Y = lsM[q].drop 64 := ⟨_, rfl⟩
            simp only [← hXe] at hX l5 hv
            simp only [← hYe] at hY s5 hv
            have s0 := Lib.hid s0
            have l5 := Lib.hid l5
            have s5 := Lib.hid s5
            clear hXe hYe s3 s4 l4 hss hbs h128
            go_wp2_with fail
            clear y0 y1 l0 l1
            have bw := bnew wr (.cells #[.int .i64 (q : Int), .slice Ak 128 ck] 54)
            have kw := heap_alloc_new wr (.cells #[.int .i64 (q : Int), .slice Ak 128 ck] 54)
            have hz0 : (wr.alloc (.cells #[.int .i64 (q : Int), .slice Ak 128 ck] 54)).heap.size = wr.heap.size + 1 := by simp
            have ot := Lib.hid (ot.out.step (fun b h => by have := hS b h; omega) bw)
            have kx := Lib.hid ((bw.block _ hgxr).trans kx.out)
            have kr := Lib.hid ((bw.block _ (Array.getElem?_eq_some_iff.1 kr.out).1).trans kr.out)
            have s0 := Lib.hid ((bw.cell (p := ⟨g, q, none⟩) hgr).trans s0.out)
            have l5 := Lib.hid (l5.out.keep (Kept.of (fun b h => by have := hS b h; omega) bw))
            have s5 := Lib.hid (s5.out.keep (Kept.of (fun b h => by have := hS b h; omega) bw))
            have HB0 := Lib.hid (hb'.out.trans (bw.mono hb'.out.size))
            obtain ⟨wb, hwb⟩ : ∃ wb, wb = wr.heap.size := ⟨_, rfl⟩
            have W0e := hz0
            clear bw
            generalize wr.alloc (.cells #[.int .i64 (q : Int), .slice Ak 128 ck] 54) = W0 at *
            have kw := Lib.hid kw
            clear hz0
            refine wp_region_pre 17 2 (fun W => Below W0.heap.size W0 W) (SparedR W0.heap.size 5 1 64 64 (BV X) (BV Y))
              (fun i v W => match i with
                | 0 => v = .pointer (some ⟨gx, 0, none⟩)
                | 1 => v = .slice (some ⟨g, 0, none⟩) d.secs.length c1
                | 2 => v = .pointer (some ⟨wr.heap.size, 0, none⟩)
                | 3 => v = .int .i64 (q : Int)
                | 4 => ∃ g, v = .slice (some ⟨g, 0, none⟩) 0 0
                | 5 => v = .pointer (some ⟨wr.heap.size, 1, none⟩)
                | 6 => v = .slice Ak 128 ck
                | 7 => v = .slice Ak 64 ck
                | 8 => W.ownsRow W0.heap.size 5 1 v 64 (BV X)
                | 9 => v = .pointer (some ⟨gx, 0, none⟩)
                | 10 => v = .slice (some ⟨g, 0, none⟩) d.secs.length c1
                | 11 => v = .pointer (some ⟨wr.heap.size, 0, none⟩)
                | 12 => v = .int .i64 (q : Int)
                | 13 => v = .pointer (some ⟨g, q, none⟩)
                | 14 => v = .slice (some ⟨bs, os, none⟩) 128 cs
                | 15 => v = .slice (some ⟨bs, os + 64, none⟩) 64 (cs - 64)
                | 16 => W.ownsRow W0.heap.size 5 1 v 128 (BV X ++ BV Y)
                | _ => True) (fun _ => false)
              (by kernel_rfl) (by kernel_rfl) (by kernel_rfl) (by kernel_rfl) (by kernel_rfl) (by kernel_rfl) (by kernel_rfl) ?_ (fun _ _ h => h.size) (dN (Below.refl _ _) 1) ?_ ?_
            · intro i v W W' hb hF
              match i, hF with
              | 0, h => exact h
              | 1, h => exact h
              | 2, h => exact h
              | 3, h => exact h
              | 4, h => exact h
              | 5, h => exact h
              | 6, h => exact h
              | 7, h => exact h
              | 8, h => exact hb.one _ h
              | 9, h => exact h
              | 10, h => exact h
              | 11, h => exact h
              | 12, h => exact h
              | 13, h => exact h
              | 14, h => exact h
              | 15, h => exact h
              | 16, h => exact hb.two _ h
              | _ + 17, _ => trivial
            · refine ⟨?_, ?_, ?_, ?_, ?_, ?_, ?_, ?_, ?_, ?_, ?_, ?_, ?_, ?_, ?_, ?_, ?_, trivial⟩
              · refine stepJ_val' (fun _ h => SparedR.of (Below.refl _ _) h.size) rfl rfl rfl fun ac W hA hG hD => ⟨_, ?_, rfl⟩
                have h6 := hA.getD (t := 6) (by kernel_rfl)
                simp only [Array.getD_eq_getD_getElem?] at h6
                simp [execOp, Act.eval, h6, go_sem]
              · refine stepJ_val' (fun _ h => SparedR.of (Below.refl _ _) h.size) rfl rfl rfl fun ac W hA hG hD => ⟨_, ?_, rfl⟩
                have h65 := hD.get 0 65 _ rfl rfl (by kernel_rfl)
                simp only [Array.getD_eq_getD_getElem?] at h65
                have c0 : W.cell? ⟨gx, 0, none⟩ = some (.slice (some ⟨g, 0, none⟩) d.secs.length c1) := cell_of_row W _ 0 _ _ _ ((hG.block _ (by omega)).trans kx.out)
                simp [execOp, Act.eval, h65, go_sem, c0]
              · refine stepJ_val' (fun _ h => SparedR.of (Below.refl _ _) h.size) rfl rfl rfl fun ac W hA hG hD => ⟨_, ?_, rfl⟩
                have h8 := hA.getD (t := 8) (by kernel_rfl)
                simp only [Array.getD_eq_getD_getElem?] at h8
                simp [execOp, Act.eval, h8, go_sem]
              · refine stepJ_val' (fun _ h => SparedR.of (Below.refl _ _) h.size) rfl rfl rfl fun ac W hA hG hD => ⟨_, ?_, rfl⟩
                have h67 := hD.get 2 67 _ rfl rfl (by kernel_rfl)
                simp only [Array.getD_eq_getD_getElem?] at h67
                have c0 : W.cell? ⟨wr.heap.size, 0, none⟩ = some (.int .i64 (q : Int)) := cell_of_row W _ 0 _ _ _ ((hG.block _ (by omega)).trans kw.out)
                simp [execOp, Act.eval, h67, go_sem, c0]
              · refine stepJ_any rfl fun ac W hA hG hD K hK => ?_
                rw [if_pos (by rfl)]
                exact wp_val (v := .slice (some ⟨W.heap.size, 0, none⟩) 0 0) (w' := W.alloc (.cells #[] 5)) (by simp [execOp, Act.eval, go_sem]) (hK _ _ (hG.alloc hG.size _) (SparedR.of (bnew W _) hG.size) ⟨_, rfl⟩ (fun h => by cases h))
              · refine stepJ_val' (fun _ h => SparedR.of (Below.refl _ _) h.size) rfl rfl rfl fun ac W hA hG hD => ⟨_, ?_, rfl⟩
                have h8 := hA.getD (t := 8) (by kernel_rfl)
                simp only [Array.getD_eq_getD_getElem?] at h8
                simp [execOp, Act.eval, h8, go_sem]
              · refine stepJ_val' (fun _ h => SparedR.of (Below.refl _ _) h.size) rfl rfl rfl fun ac W hA hG hD => ⟨_, ?_, rfl⟩
                have h70 := hD.get 5 70 _ rfl rfl (by kernel_rfl)
                simp only [Array.getD_eq_getD_getElem?] at h70
                have c0 : W.cell? ⟨wr.heap.size, 1, none⟩ = some (.slice Ak 128 ck) := cell_of_row W _ 1 _ _ _ ((hG.block _ (by omega)).trans kw.out)
                simp [execOp, Act.eval, h70, go_sem, c0]
              · refine stepJ_val' (fun _ h => SparedR.of (Below.refl _ _) h.size) rfl rfl rfl fun ac W hA hG hD => ⟨_, ?_, rfl⟩
                have h71 := hD.get 6 71 _ rfl rfl (by kernel_rfl)
                simp only [Array.getD_eq_getD_getElem?] at h71
                simp [execOp, Act.eval, h71, go_sem, l2, c64, ck0]
              · refine stepJ_any rfl fun ac W hA hG hD K hK => ?_
                obtain ⟨g69, h69⟩ := hD.get 4 69 _ rfl rfl (by kernel_rfl)
                have h72 := hD.get 7 72 _ rfl rfl (by kernel_rfl)
                rw [if_pos (by rfl)]
                obtain ⟨t0, hi0, hz0, hz1, hz2⟩ := info_parts Try.infoU8
                obtain ⟨c', w', hr, ho, hbw⟩ := run_append_fresh (P := Try.prog) W W0.heap.size 35 35 35 5 t0 _ Try.underlying35 hi0 hz0 1 1 hz1 hz2 (by omega) rfl g69 (.slice Ak 64 ck) 64 (BV X) (Src.ofRow Try.underlying35 W Ak 64 ck (BV X) (by rw [BV_length, hX]) (by decide) (fun h => (l5.out.keep (Kept.of (fun b h => by have := hS b h; omega) hG)).src (by rwa [BV_length] at h)) (BV_one X)) (by omega) (by omega) hG.size
                exact Lib.wp_append_run W (.tmp 69) (.tmp 72) 35 35 rfl _ _ h69 h72 _ w' hr (hK _ _ (hG.trans (hbw.mono hG.size)) (SparedR.of hbw hG.size) ho (fun h => by cases h))
              · refine stepJ_val' (fun _ h => SparedR.of (Below.refl _ _) h.size) rfl rfl rfl fun ac W hA hG hD => ⟨_, ?_, rfl⟩
                have h6 := hA.getD (t := 6) (by kernel_rfl)
                simp only [Array.getD_eq_getD_getElem?] at h6
                simp [execOp, Act.eval, h6, go_sem]
              · refine stepJ_val' (fun _ h => SparedR.of (Below.refl _ _) h.size) rfl rfl rfl fun ac W hA hG hD => ⟨_, ?_, rfl⟩
                have h74 := hD.get 9 74 _ rfl rfl (by kernel_rfl)
                simp only [Array.getD_eq_getD_getElem?] at h74
                have c0 : W.cell? ⟨gx, 0, none⟩ = some (.slice (some ⟨g, 0, none⟩) d.secs.length c1) := cell_of_row W _ 0 _ _ _ ((hG.block _ (by omega)).trans kx.out)
                simp [execOp, Act.eval, h74, go_sem, c0]
              · refine stepJ_val' (fun _ h => SparedR.of (Below.refl _ _) h.size) rfl rfl rfl fun ac W hA hG hD => ⟨_, ?_, rfl⟩
                have h8 := hA.getD (t := 8) (by kernel_rfl)
                simp only [Array.getD_eq_getD_getElem?] at h8
                simp [execOp, Act.eval, h8, go_sem]
              · refine stepJ_val' (fun _ h => SparedR.of (Below.refl _ _) h.size) rfl rfl rfl fun ac W hA hG hD => ⟨_, ?_, rfl⟩
                have h76 := hD.get 11 76 _ rfl rfl (by kernel_rfl)
                simp only [Array.getD_eq_getD_getElem?] at h76
                have c0 : W.cell? ⟨wr.heap.size, 0, none⟩ = some (.int .i64 (q : Int)) := cell_of_row W _ 0 _ _ _ ((hG.block _ (by omega)).trans kw.out)
                simp [execOp, Act.eval, h76, go_sem, c0]
              · refine stepJ_val' (fun _ h => SparedR.of (Below.refl _ _) h.size) rfl rfl rfl fun ac W hA hG hD => ⟨_, ?_, rfl⟩
                have h75 := hD.get 10 75 _ rfl rfl (by kernel_rfl)
                have h77 := hD.get 12 77 _ rfl rfl (by kernel_rfl)
                simp only [Array.getD_eq_getD_getElem?] at h75 h77
                simp [execOp, Act.eval, h75, h77, go_sem, p0, p1]
              · refine stepJ_val' (fun _ h => SparedR.of (Below.refl _ _) h.size) rfl rfl rfl fun ac W hA hG hD => ⟨_, ?_, rfl⟩
                have h78 := hD.get 13 78 _ rfl rfl (by kernel_rfl)
                simp only [Array.getD_eq_getD_getElem?] at h78
                have c0 := (hG.cell (p := ⟨g, q, none⟩) (by show g < _; omega)).trans s0.out
                simp [execOp, Act.eval, h78, go_sem, c0]
              · refine stepJ_val' (fun _ h => SparedR.of (Below.refl _ _) h.size) rfl rfl rfl fun ac W hA hG hD => ⟨_, ?_, rfl⟩
                have h79 := hD.get 14 79 _ rfl rfl (by kernel_rfl)
                simp only [Array.getD_eq_getD_getElem?] at h79
                simp [execOp, Act.eval, h79, go_sem, s1, cs64]
              · refine stepJ_any rfl fun ac W hA hG hD K hK => ?_
                have ho73 := hD.get 8 73 _ rfl rfl (by kernel_rfl)
                have h80 := hD.get 15 80 _ rfl rfl (by kernel_rfl)
                rw [if_pos (by rfl)]
                obtain ⟨t0, hi0, hz0, hz1, hz2⟩ := info_parts Try.infoU8
                obtain ⟨v', w', hr, ho, hsp⟩ := run_append_spare (P := Try.prog) W W0.heap.size 35 35 35 5 t0 _ Try.underlying35 hi0 hz0 1 1 hz1 hz2 (by omega) rfl _ 64 (BV X) ho73 (.slice (some ⟨bs, os + 64, none⟩) 64 (cs - 64)) 64 (BV Y) (Src.ofRow Try.underlying35 W _ 64 (cs - 64) (BV Y) (by rw [BV_length, hY]) (by decide) (fun h => (s5.out.keep (Kept.of (fun b h => by have := hS b h; omega) hG)).src (by rwa [BV_length] at h)) (BV_one Y)) (by omega) hG.size
                exact Lib.wp_append_run W (.tmp 73) (.tmp 80) 35 35 rfl _ _ rfl h80 v' w' hr (hK _ _ (hG.trans hsp.below) hsp ho (fun h => by cases h))
            · intro fu T W hG hF hne hltb
              have e65 : T 65 = .pointer (some ⟨gx, 0, none⟩) := hF 0 _ rfl (by omega)
              have e66 : T 66 = .slice (some ⟨g, 0, none⟩) d.secs.length c1 := hF 1 _ rfl (by omega)
              have e67 : T 67 = .pointer (some ⟨wr.heap.size, 0, none⟩) := hF 2 _ rfl (by omega)
              have e68 : T 68 = .int .i64 (q : Int) := hF 3 _ rfl (by omega)
              obtain ⟨g69, e69⟩ := hF 4 _ rfl (by omega)
              have e69 : T 69 = _ := e69
              have e70 : T 70 = .pointer (some ⟨wr.heap.size, 1, none⟩) := hF 5 _ rfl (by omega)
              have e71 : T 71 = .slice Ak 128 ck := hF 6 _ rfl (by omega)
              have e72 : T 72 = .slice Ak 64 ck := hF 7 _ rfl (by omega)
              have e74 : T 74 = .pointer (some ⟨gx, 0, none⟩) := hF 9 _ rfl (by omega)
              have e75 : T 75 = .slice (some ⟨g, 0, none⟩) d.secs.length c1 := hF 10 _ rfl (by omega)
              have e76 : T 76 = .pointer (some ⟨wr.heap.size, 0, none⟩) := hF 11 _ rfl (by omega)
              have e77 : T 77 = .int .i64 (q : Int) := hF 12 _ rfl (by omega)
              have e78 : T 78 = .pointer (some ⟨g, q, none⟩) := hF 13 _ rfl (by omega)
              have e79 : T 79 = .slice (some ⟨bs, os, none⟩) 128 cs := hF 14 _ rfl (by omega)
              have e80 : T 80 = .slice (some ⟨bs, os + 64, none⟩) 64 (cs - 64) := hF 15 _ rfl (by omega)
              have o81 : W.ownsRow W0.heap.size 5 1 (T 81) 128 (BV X ++ BV Y) := hF 16 _ rfl (by omega)
              obtain ⟨A8, c8, e81, q1, q2, q3⟩ := RBs.ofRow (l := X ++ Y) (by rw [List.length_append, hX, hY, BV_append]; exact o81)
              have hXY : (X ++ Y).length = 128 := by rw [List.length_append, hX, hY]
              rw [hXY] at e81 q1
              clear hF hne hltb
              simp only [List.take, fillT, List.setIfInBounds_toArray, List.set_cons_zero, List.set_cons_succ, e65, e66, e67, e68, e69, e70, e71, e72, e74, e75, e76, e77, e78, e79, e80, e81]
              clear e65 e66 e67 e68 e69 e70 e71 e72 e74 e75 e76 e77 e78 e79 e80 e81
              refine wpAny_ready (rs := [17]) (by kernel_rfl) (by simp) (AllReady.cons (o := ⟨some 82, .indexAddr 22 (.tmp 66) (.tmp 68), 0, _, _, none⟩) rfl (fun K1 hK1 => ?_) AllReady.nil)
              rw [if_pos (by rfl)]
              refine wp_val (v := .pointer (some ⟨g, q, none⟩)) (w' := W) (by simp [execOp, Act.eval, go_sem, p0, p1]) (hK1 _ _ ?_)
              clear hK1 K1
              simp only [Act.put, List.setIfInBounds_toArray, List.set_cons_zero, List.set_cons_succ]
              refine wpAny_ready (rs := [18]) (by kernel_rfl) (by simp) (AllReady.cons (o := ⟨none, .store 35 (.tmp 82) (.tmp 81), _, _, _, none⟩) rfl (fun K1 hK1 => ?_) AllReady.nil)
              rw [if_pos (by rfl)]
              have hgW := hG.size
              have oW := (ot.out.step (fun b h => by have := hS b h; omega) (hG.mono (Nat.le_refl _))).mono (T' := fun b => S b ∨ (W0.heap.size ≤ b ∧ b < W.heap.size)) fun _ h => .inl h
              obtain ⟨A0, c0, hold, -⟩ := oW.cell hq2
              refine wp_store_one 35 _ _ rfl g q rfl (.slice A8 128 c8) rfl rfl rfl Try.sizeOf35 _ hold (oW.frozen q) ?_
              refine hK1 _ _ ?_
              clear hK1 K1
              refine wpAny_done (by kernel_rfl) ?_ _
              simp only [Act.put]
              have hTg : ¬ (S g ∨ (W0.heap.size ≤ g ∧ g < W.heap.size)) := fun h => by
                rcases h with h | h
                · have := hS g h; omega
                · omega
              have o9 := oW.set hTg (i := q) (l := X ++ Y) ⟨A8, c8, by rw [hXY], by rw [hXY]; exact q1, q2, q3.mono fun _ h => .inr h⟩
              have o9 := Lib.hid o9
              have kx9 := (heap_setCell_other W ⟨g, q, none⟩ gx (.slice A8 128 c8) (by show gx ≠ g; exact Ne.symm hxg)).trans ((hG.block _ (by omega)).trans kx.out)
              have kr9 := (heap_setCell_other W ⟨g, q, none⟩ (w.heap.size + 1) (.slice A8 128 c8) (by show w.heap.size + 1 ≠ g; omega)).trans ((hG.block _ (by omega)).trans kr.out)
              have B9 := Lib.hid ((HB0.out.trans (hG.mono HB0.out.size)).setCell (p := ⟨g, q, none⟩) (by show w.heap.size ≤ g; omega) (.slice A8 128 c8))
              have hz9 : (W.setCell ⟨g, q, none⟩ (.slice A8 128 c8)).heap.size = W.heap.size := by simp
              obtain ⟨nW, hnW⟩ : ∃ n, n = W.heap.size := ⟨_, rfl⟩
              rw [← hnW] at o9 hz9 hgW
              clear oW hold hG ot kx kr q3 hnW
              generalize W.setCell ⟨g, q, none⟩ (.slice A8 128 c8) = w9 at *
              have x0 : w9.cell? ⟨gx, 0, none⟩ = some (.slice (some ⟨g, 0, none⟩) d.secs.length c1) := cell_of_row w9 _ 0 _ _ _ kx9
              have x1 : w9.cell? ⟨gx, 1, none⟩ = some (.slice none 0 0) := cell_of_row w9 _ 1 _ _ _ kx9
              have x2 : w9.cell? ⟨gx, 2, none⟩ = some (.int .i64 (M : Int)) := cell_of_row w9 _ 2 _ _ _ kx9
              have x3 : w9.cell? ⟨gx, 3, none⟩ = some (.bool false) := cell_of_row w9 _ 3 _ _ _ kx9
              have xf := fun i => frozen_of_row w9 gx i _ _ kx9
              have r0 : w9.cell? ⟨w.heap.size + 1, 0, none⟩ = some (.slice none 0 0) := cell_of_row w9 _ 0 _ _ _ kr9
              have r1 : w9.cell? ⟨w.heap.size + 1, 1, none⟩ = some (.slice none 0 0) := cell_of_row w9 _ 1 _ _ _ kr9
              have r2 : w9.cell? ⟨w.heap.size + 1, 2, none⟩ = some (.int .i64 0) := cell_of_row w9 _ 2 _ _ _ kr9
              have r3 : w9.cell? ⟨w.heap.size + 1, 3, none⟩ = some (.bool false) := cell_of_row w9 _ 3 _ _ _ kr9
              have rf := fun i => frozen_of_row w9 (w.heap.size + 1) i _ _ kr9
              have hne9 : ¬ gx = w.heap.size + 1 := by omega
              have hne8 : ¬ w.heap.size + 1 = gx := by omega
              have hbn : ∀ b, ((S b ∨ (W0.heap.size ≤ b ∧ b < nW)) ∨ b = g) → b ≠ w.heap.size + 1 ∧ b ≠ gx := fun b hb => by
                rcases hb with (h | h) | h
                · have := hS b h
                  omega
                · omega
                · omega
              clear kx9 kr9
              go_wp2_with fail
              refine bodyPost_ret (v := .tuple #[.agg #[.slice (some ⟨g, 0, none⟩) d.secs.length c1, .slice none 0 0, .int .i64 0, .bool true], .int .i64 40]) (by simp [results, Try.results24, go_sem, r0, r1, r2, r3, hne8, hne9]) rfl ?_
              exact DkPost.of hv.out ((((((B9.out.setCell (by show w.heap.size ≤ gx; omega) _).setCell (by show w.heap.size ≤ gx; omega) _).setCell (by simp) _).setCell (by simp) _).setCell (by simp) _).setCell (by simp) _) (some ⟨g, 0, none⟩) c1 none 0 (by rw [List.length_set, hlsl]; rfl) (sy_drT o9.out (fun b h => h.imp id fun h => ⟨by omega, by omega⟩) (by omega) (fun b o hb => (set4_other _ (w.heap.size + 1) _ _ _ _ b o (hbn b hb).1).trans ((World.cell?_of_block (heap_setCell_other _ ⟨gx, 3, none⟩ b _ (by exact (hbn b hb).2))).trans (World.cell?_of_block (heap_setCell_other w9 ⟨gx, 2, none⟩ b _ (by exact (hbn b hb).2))))) (by simp) (by rw [List.length_set, hlsl]; exact hc1) hm1 (by unfold I64; omega))
      · have e1 : decide (d.left < (d.pend.length : Int)) = false := decide_eq_false (by omega)
        have h1' : ¬ d.left < (d.pend.length : Int) := by omega
        have hM : perfN d = d.pend.length := by unfold perfN; rw [if_neg (by omega)]; omega
        have hp4 := (chkB_iff.1 hk).2.2.1
        have hs1 := (chkB_iff.1 hk).1
        have hs4 := (chkB_iff.1 hk).2.1
        have hkd := Lib.hid (show w1.heap[w.heap.size]? = some (.cells #[.slice A d.secs.length c, .slice A' d.pend.length c', .int .i64 d.left, .bool false] 25 (0, 0)) from by
          rw [hb1.block _ (by omega), Below.heap_alloc _ _ _ (by simp)]; exact heap_alloc_new w _)
        have hkr := Lib.hid (show w1.heap[w.heap.size + 1]? = some (.cells #[.slice none 0 0, .slice none 0 0, .int .i64 0, .bool false] 25 (0, 0)) from by
          have h9 := heap_alloc_new (w.alloc (.cells #[.slice A d.secs.length c, .slice A' d.pend.length c', .int .i64 d.left, .bool false] 25)) (.cells #[.slice none 0 0, .slice none 0 0, .int .i64 0, .bool false] 25)
          rw [World.size_alloc] at h9
          exact (hb1.block _ (by omega)).trans h9)
        clear hb1 z0 z1
        go_wp2_with fail
        clear y0 y1 y2 y3
        have hsr := Lib.hid hdh.out.secs
        refine wp_region_pre 8 1 (fun W => Below w1.heap.size w1 W) (fun W W' => Below W.heap.size W W')
          (fun i v W => match i with
            | 0 => ∃ g, v = .slice (some ⟨g, 0, none⟩) 0 0
            | 1 => v = .pointer (some ⟨w.heap.size, 0, none⟩)
            | 2 => v = .slice A d.secs.length c
            | 3 => ∃ g c1, v = .slice (some ⟨g, 0, none⟩) d.secs.length c1 ∧ d.secs.length ≤ c1 ∧ c1 ≤ maxLen ∧ w1.heap.size ≤ g ∧ OT W S g d.secs
            | 4 => v = .pointer (some ⟨w.heap.size, 2, none⟩)
            | 5 => v = .int .i64 d.left
            | 6 => ∃ g c1, v = .agg #[.slice (some ⟨g, 0, none⟩) d.secs.length c1, .slice none 0 0, .int .i64 d.left, .bool false] ∧ d.secs.length ≤ c1 ∧ c1 ≤ maxLen ∧ w1.heap.size ≤ g ∧ OT W S g d.secs
            | 7 => ∃ g, v = .pointer (some ⟨g, 0, none⟩) ∧ w1.heap.size ≤ g ∧ W.heap[g]? = some (.cells #[.slice none 0 0, .slice none 0 0, .int .i64 0, .bool false] 25 (0, 0))
            | _ => True) (fun _ => false)
          (by kernel_rfl) (by kernel_rfl) (by kernel_rfl) (by kernel_rfl) (by kernel_rfl) (by kernel_rfl) (by kernel_rfl) ?_ (fun _ _ h => h.size) (dN (Below.refl _ _) 1) ?_ ?_
        · intro i v W W' hb hF
          match i, hF with
          | 0, h => exact h
          | 1, h => exact h
          | 2, h => exact h
          | 3, ⟨g, c1, h1, h2, h3, h4, h5⟩ => exact ⟨g, c1, h1, h2, h3, h4, h5.keep (hb.block g h5.lt) (Kept.of (fun b h => by have := hS b h; have := h5.lt; omega) hb)⟩
          | 4, h => exact h
          | 5, h => exact h
          | 6, ⟨g, c1, h1, h2, h3, h4, h5⟩ => exact ⟨g, c1, h1, h2, h3, h4, h5.keep (hb.block g h5.lt) (Kept.of (fun b h => by have := hS b h; have := h5.lt; omega) hb)⟩
          | 7, ⟨g, h1, h2, h3⟩ => exact ⟨g, h1, h2, blk_step h3 hb⟩
          | _ + 8, _ => trivial
        · refine ⟨?_, ?_, ?_, ?_, ?_, ?_, ?_, ?_, trivial⟩
          · refine stepJ_any rfl fun ac W hA hG hD K hK => ?_
            rw [if_pos (by rfl)]
            exact wp_val (v := .slice (some ⟨W.heap.size, 0, none⟩) 0 0) (w' := W.alloc (.cells #[] 35)) (by simp [execOp, Act.eval, go_sem]) (hK _ _ (hG.alloc hG.size _) (bnew W _) ⟨_, rfl⟩ (fun h => by cases h))
          · refine stepJ_val' (fun _ _ => Below.refl _ _) rfl rfl rfl fun ac W hA hG hD => ⟨_, ?_, rfl⟩
            have h1 := hA.getD (t := 1) (by kernel_rfl)
            simp only [Array.getD_eq_getD_getElem?] at h1
            simp [execOp, Act.eval, h1, go_sem]
          · refine stepJ_val' (fun _ _ => Below.refl _ _) rfl rfl rfl fun ac W hA hG hD => ⟨_, ?_, rfl⟩
            have h33 := hD.get 1 33 _ rfl rfl (by kernel_rfl)
            simp only [Array.getD_eq_getD_getElem?] at h33
            have k0 : W.cell? ⟨w.heap.size, 0, none⟩ = some (.slice A d.secs.length c) := cell_of_row W _ 0 _ _ _ ((hG.block _ (by omega)).trans hkd.out)
            simp [execOp, Act.eval, h33, go_sem, k0]
          · refine stepJ_any rfl fun ac W hA hG hD K hK => ?_
            obtain ⟨g0, h32⟩ := hD.get 0 32 _ rfl rfl (by kernel_rfl)
            have h34 := hD.get 2 34 _ rfl rfl (by kernel_rfl)
            rw [if_pos (by rfl)]
            have hgs := hG.size
            obtain ⟨c1, w', hr, q1, q2, q3, hbw⟩ := copy_secs (hsr.out.keep (Kept.of hS (hB1.out.trans (hG.mono hB1.out.size)))) (by omega) hs4 (fun b h => by have := hS b h; omega) g0 22
            exact Lib.wp_append_run W (.tmp 32) (.tmp 34) 22 22 rfl _ _ h32 h34 _ w' hr (hK _ _ (hG.trans (hbw.mono hG.size)) hbw ⟨_, c1, rfl, q1, q2, hgs, q3⟩ (fun h => by cases h))
          · refine stepJ_val' (fun _ _ => Below.refl _ _) rfl rfl rfl fun ac W hA hG hD => ⟨_, ?_, rfl⟩
            have h1 := hA.getD (t := 1) (by kernel_rfl)
            simp only [Array.getD_eq_getD_getElem?] at h1
            simp [execOp, Act.eval, h1, go_sem]
          · refine stepJ_val' (fun _ _ => Below.refl _ _) rfl rfl rfl fun ac W hA hG hD => ⟨_, ?_, rfl⟩
            have h36 := hD.get 4 36 _ rfl rfl (by kernel_rfl)
            simp only [Array.getD_eq_getD_getElem?] at h36
            have k2 : W.cell? ⟨w.heap.size, 2, none⟩ = some (.int .i64 d.left) := cell_of_row W _ 2 _ _ _ ((hG.block _ (by omega)).trans hkd.out)
            simp [execOp, Act.eval, h36, go_sem, k2]
          · refine stepJ_any rfl fun ac W hA hG hD K hK => ?_
            obtain ⟨g, c1, h35, q1, q2, q3, q4⟩ := hD.get 3 35 _ rfl rfl (by kernel_rfl)
            have h37 := hD.get 5 37 _ rfl rfl (by kernel_rfl)
            simp only [Array.getD_eq_getD_getElem?] at h35 h37
            rw [if_pos (by rfl)]
            exact wp_val (v := .agg #[.slice (some ⟨g, 0, none⟩) d.secs.length c1, .slice none 0 0, .int .i64 d.left, .bool false]) (w' := W) (by simp [execOp, Act.eval, h35, h37, go_sem]) (hK _ _ hG (Below.refl _ _) ⟨g, c1, rfl, q1, q2, q3, q4⟩ (fun h => by cases h))
          · refine stepJ_any rfl fun ac W hA hG hD K hK => ?_
            rw [if_pos (by rfl)]
            exact wp_val (v := .pointer (some ⟨W.heap.size, 0, none⟩)) (w' := W.alloc (.cells #[.slice none 0 0, .slice none 0 0, .int .i64 0, .bool false] 25)) (by simp [execOp, go_sem]) (hK _ _ (hG.alloc hG.size _) (bnew W _) ⟨_, rfl, hG.size, heap_alloc_new W _⟩ (fun h => by cases h))
        intro fu T W hG hF hne hltb
        obtain ⟨g0, e32⟩ := hF 0 _ rfl (by omega)
        have e32 : T 32 = _ := e32
        have e33 : T 33 = .pointer (some ⟨w.heap.size, 0, none⟩) := hF 1 _ rfl (by omega)
        have e34 : T 34 = .slice A d.secs.length c := hF 2 _ rfl (by omega)
        obtain ⟨g3, c3, e35, -⟩ := hF 3 _ rfl (by omega)
        have e35 : T 35 = _ := e35
        have e36 : T 36 = .pointer (some ⟨w.heap.size, 2, none⟩) := hF 4 _ rfl (by omega)
        have e37 : T 37 = .int .i64 d.left := hF 5 _ rfl (by omega)
        obtain ⟨g, c1, e38, hc1, hm1, hg1, hot⟩ := hF 6 _ rfl (by omega)
        have e38 : T 38 = _ := e38
        obtain ⟨gx, e6, hgx, hbx⟩ := hF 7 _ rfl (by omega)
        have e6 : T 6 = _ := e6
        clear hF hne hltb
        simp only [List.take, fillT, List.setIfInBounds_toArray, List.set_cons_zero, List.set_cons_succ, e32, e33, e34, e35, e36, e37, e38, e6]
        clear e32 e33 e34 e35 e36 e37 e38 e6
        have hxg : g ≠ gx := by
          rintro rfl
          obtain ⟨cs, h1, -⟩ := hot
          rw [h1] at hbx
          injection hbx with hbx
          injection hbx with _ hbx _
          exact absurd hbx (by decide)
        have hkd2 := (hG.block _ (by omega)).trans hkd.out
        have hkr2 := (hG.block _ (by omega)).trans hkr.out
        have hgl := hot.lt
        have hgxl : gx < W.heap.size := (Array.getElem?_eq_some_iff.1 hbx).1
        refine wpAny_ready (rs := [8]) (by kernel_rfl) (by simp) (AllReady.cons (o := ⟨none, .store 25 (.tmp 6) (.tmp 38), _, _, _, none⟩) rfl (fun K1 hK1 => ?_) AllReady.nil)
        rw [if_pos (by rfl)]
        refine wp_store_row 25 (.tmp 6) (.tmp 38) rfl gx #[.slice (some ⟨g, 0, none⟩) d.secs.length c1, .slice none 0 0, .int .i64 d.left, .bool false] rfl rfl 25 _ hbx (by kernel_rfl) rfl (by simp [Value.oneCell']) ?_
        refine hK1 _ _ ?_
        clear hK1 K1
        refine wpAny_done (by kernel_rfl) ?_ _
        simp only [Act.put]
        have kx := Lib.hid (setRow_heap W gx _ #[.slice (some ⟨g, 0, none⟩) d.secs.length c1, .slice none 0 0, .int .i64 d.left, .bool false] _ _ hbx)
        have kd := Lib.hid ((setRow_other W gx w.heap.size #[.slice (some ⟨g, 0, none⟩) d.secs.length c1, .slice none 0 0, .int .i64 d.left, .bool false] (by omega)).trans hkd2)
        have kr := Lib.hid ((setRow_other W gx (w.heap.size + 1) #[.slice (some ⟨g, 0, none⟩) d.secs.length c1, .slice none 0 0, .int .i64 d.left, .bool false] (by omega)).trans hkr2)
        have ot := Lib.hid (hot.keep (w' := W.setRow gx #[.slice (some ⟨g, 0, none⟩) d.secs.length c1, .slice none 0 0, .int .i64 d.left, .bool false]) (setRow_other W gx g #[.slice (some ⟨g, 0, none⟩) d.secs.length c1, .slice none 0 0, .int .i64 d.left, .bool false] hxg) (fun b o hb => World.cell?_of_block (setRow_other W gx b #[.slice (some ⟨g, 0, none⟩) d.secs.length c1, .slice none 0 0, .int .i64 d.left, .bool false] (by have := hS b hb; omega))))
        have HB := Lib.hid (hB1.out.trans ((below_setRow hG hgx #[.slice (some ⟨g, 0, none⟩) d.secs.length c1, .slice none 0 0, .int .i64 d.left, .bool false]).mono hB1.out.size))
        have hgV : g < (W.setRow gx #[.slice (some ⟨g, 0, none⟩) d.secs.length c1, .slice none 0 0, .int .i64 d.left, .bool false]).heap.size := by rw [size_setRow]; exact hgl
        have hgxV : gx < (W.setRow gx #[.slice (some ⟨g, 0, none⟩) d.secs.length c1, .slice none 0 0, .int .i64 d.left, .bool false]).heap.size := by rw [size_setRow]; exact hgxl
        clear hbx hot hkd2 hkr2 hG hgl hgxl
        generalize W.setRow gx #[.slice (some ⟨g, 0, none⟩) d.secs.length c1, .slice none 0 0, .int .i64 d.left, .bool false] = V at *
        go_wp2_with fail
        go_loopw [7] (fun i wr => ∃ k : Nat, k ≤ perfN d ∧ i = .int .i64 k ∧ Hid (OT wr S g (applyW d.secs (d.pend.take k))) ∧ Hid (wr.heap[gx]? = some (.cells #[.slice (some ⟨g, 0, none⟩) d.secs.length c1, .slice none 0 0, .int .i64 d.left, .bool false] 25 (0, 0))) ∧ Hid (wr.heap[w.heap.size]? = some (.cells #[.slice A d.secs.length c, .slice A' d.pend.length c', .int .i64 d.left, .bool false] 25 (0, 0))) ∧ Hid (wr.heap[w.heap.size + 1]? = some (.cells #[.slice none 0 0, .slice none 0 0, .int .i64 0, .bool false] 25 (0, 0))) ∧ Below w.heap.size w wr) (fun i _ => perfN d - (intOf i).toNat)
        case atStart => exact ⟨0, Nat.zero_le _, rfl, ot, kx, kd, kr, HB.out⟩
        case round =>
          clear ot kx kd kr HB
          obtain ⟨k, hkM, rfl, ot, kx, kd, kr, hb⟩ := hrel
          have hb' := Lib.hid hb
          clear hb
          by_cases hlt : k < perfN d
          · have hkp : k < d.pend.length := Nat.lt_of_lt_of_le hlt (perfN_le d)
            have j1 : (k : Int) < d.pend.length := by omega
            have j0 : (0 : Int) ≤ k := by omega
            have j2 : (k : Int) < d.pend.length := by omega
            obtain ⟨⟨p0, p1⟩, p2⟩ := (chkB_iff.1 hk).2.2.2.2.2.2 _ (List.getElem_mem hkp)
            obtain ⟨bp, op, Ak, ck, hbp, hbs, l0, l1, l2, l3, l4, -⟩ := (hdh.out.pend.keep (Kept.of hS hb'.out)).at_ hkp
            obtain ⟨q, hq⟩ : ∃ q : Nat, d.pend[k].pl = q := ⟨d.pend[k].pl.toNat, by omega⟩
            have hset := applyW_take d.secs d.pend k hkp
            rw [hq] at l0 p0 p1 hset
            rw [Int.toNat_natCast] at hset
            rw [p2] at l1 l2
            have hrow : Row wr S (.slice Ak 128 ck) d.pend[k].data := ⟨Ak, ck, by rw [p2], by rw [p2]; exact l2, l3, l4⟩
            have hrow := Lib.hid hrow
            have l0 := Lib.hid l0
            have l1 := Lib.hid l1
            have hset := Lib.hid hset
            have hq2 : q < (applyW d.secs (d.pend.take k)).length := by rw [applyW_length]; omega
            clear l2 l3 l4 hq p2
            have hbps := hS bp hbs
            have hgxr : gx < wr.heap.size := (Array.getElem?_eq_some_iff.1 kx.out).1
            have hgr : g < wr.heap.size := ot.out.lt
            have hwr : w.heap.size < wr.heap.size := (Array.getElem?_eq_some_iff.1 kd.out).1
            have hwr1 : w.heap.size + 1 < wr.heap.size := (Array.getElem?_eq_some_iff.1 kr.out).1
            have hbpr : bp < wr.heap.size := by omega
            clear hbs
            go_wp2_with fail
            refine wp_region_pre 15 1 (fun W => Below wr.heap.size wr W) (fun W W' => Below W.heap.size W W')
              (fun i v W => match i with
                | 0 => v = .pointer (some ⟨gx, 0, none⟩)
                | 1 => v = .slice (some ⟨g, 0, none⟩) d.secs.length c1
                | 2 => v = .pointer (some ⟨w.heap.size, 1, none⟩)
                | 3 => v = .slice A' d.pend.length c'
                | 4 => v = .int .i64 (k : Int)
                | 5 => v = .pointer (some ⟨bp, op + k * 2, none⟩)
                | 6 => v = .pointer (some ⟨bp, op + k * 2, none⟩)
                | 7 => v = .int .i64 (q : Int)
                | 8 => v = .pointer (some ⟨w.heap.size, 1, none⟩)
                | 9 => v = .slice A' d.pend.length c'
                | 10 => v = .int .i64 (k : Int)
                | 11 => v = .pointer (some ⟨bp, op + k * 2, none⟩)
                | 12 => v = .pointer (some ⟨bp, op + k * 2 + 1, none⟩)
                | 13 => v = .slice Ak 128 ck
                | 14 => v = .pointer (some ⟨g, q, none⟩)
                | _ => True) (fun _ => false)
              (by kernel_rfl) (by kernel_rfl) (by kernel_rfl) (by kernel_rfl) (by kernel_rfl) (by kernel_rfl) (by kernel_rfl) ?_ (fun _ _ h => h.size) (dN (Below.refl _ _) 1) ?_ ?_
            · intro i v W W' _ hF
              match i, hF with
              | 0, h => exact h
              | 1, h => exact h
              | 2, h => exact h
              | 3, h => exact h
              | 4, h => exact h
              | 5, h => exact h
              | 6, h => exact h
              | 7, h => exact h
              | 8, h => exact h
              | 9, h => exact h
              | 10, h => exact h
              | 11, h => exact h
              | 12, h => exact h
              | 13, h => exact h
              | 14, h => exact h
              | _ + 15, _ => trivial
            · refine ⟨?_, ?_, ?_, ?_, ?_, ?_, ?_, ?_, ?_, ?_, ?_, ?_, ?_, ?_, ?_, trivial⟩
              · refine stepJ_val' (fun _ _ => Below.refl _ _) rfl rfl rfl fun ac W hA hG hD => ⟨_, ?_, rfl⟩
                have h6 := hA.getD (t := 6) (by kernel_rfl)
                simp only [Array.getD_eq_getD_getElem?] at h6
                simp [execOp, Act.eval, h6, go_sem]
              · refine stepJ_val' (fun _ _ => Below.refl _ _) rfl rfl rfl fun ac W hA hG hD => ⟨_, ?_, rfl⟩
                have h44 := hD.get 0 44 _ rfl rfl (by kernel_rfl)
                simp only [Array.getD_eq_getD_getElem?] at h44
                have c0 : W.cell? ⟨gx, 0, none⟩ = some (.slice (some ⟨g, 0, none⟩) d.secs.length c1) := cell_of_row W _ 0 _ _ _ ((hG.block _ hgxr).trans kx.out)
                simp [execOp, Act.eval, h44, go_sem, c0]
              · refine stepJ_val' (fun _ _ => Below.refl _ _) rfl rfl rfl fun ac W hA hG hD => ⟨_, ?_, rfl⟩
                have h1 := hA.getD (t := 1) (by kernel_rfl)
                simp only [Array.getD_eq_getD_getElem?] at h1
                simp [execOp, Act.eval, h1, go_sem]
              · refine stepJ_val' (fun _ _ => Below.refl _ _) rfl rfl rfl fun ac W hA hG hD => ⟨_, ?_, rfl⟩
                have h46 := hD.get 2 46 _ rfl rfl (by kernel_rfl)
                simp only [Array.getD_eq_getD_getElem?] at h46
                have c0 : W.cell? ⟨w.heap.size, 1, none⟩ = some (.slice A' d.pend.length c') := cell_of_row W _ 1 _ _ _ ((hG.block _ hwr).trans kd.out)
                simp [execOp, Act.eval, h46, go_sem, c0]
              · refine stepJ_val' (fun _ _ => Below.refl _ _) rfl rfl rfl fun ac W hA hG hD => ⟨_, ?_, rfl⟩
                have h7 := hA.getD (t := 7) (by kernel_rfl)
                simp only [Array.getD_eq_getD_getElem?] at h7
                simp [execOp, Act.eval, h7, go_sem]
              · refine stepJ_val' (fun _ _ => Below.refl _ _) rfl rfl rfl fun ac W hA hG hD => ⟨_, ?_, rfl⟩
                have h47 := hD.get 3 47 _ rfl rfl (by kernel_rfl)
                have h48 := hD.get 4 48 _ rfl rfl (by kernel_rfl)
                simp only [Array.getD_eq_getD_getElem?] at h47 h48
                simp [execOp, Act.eval, h47, h48, go_sem, j0, j2, hbp]
              · refine stepJ_val' (fun _ _ => Below.refl _ _) rfl rfl rfl fun ac W hA hG hD => ⟨_, ?_, rfl⟩
                have h49 := hD.get 5 49 _ rfl rfl (by kernel_rfl)
                simp only [Array.getD_eq_getD_getElem?] at h49
                simp [execOp, Act.eval, h49, go_sem]
              · refine stepJ_val' (fun _ _ => Below.refl _ _) rfl rfl rfl fun ac W hA hG hD => ⟨_, ?_, rfl⟩
                have h50 := hD.get 6 50 _ rfl rfl (by kernel_rfl)
                simp only [Array.getD_eq_getD_getElem?] at h50
                have c0 := (hG.cell (p := ⟨bp, op + k * 2, none⟩) hbpr).trans l0.out
                simp [execOp, Act.eval, h50, go_sem, c0]
              · refine stepJ_val' (fun _ _ => Below.refl _ _) rfl rfl rfl fun ac W hA hG hD => ⟨_, ?_, rfl⟩
                have h1 := hA.getD (t := 1) (by kernel_rfl)
                simp only [Array.getD_eq_getD_getElem?] at h1
                simp [execOp, Act.eval, h1, go_sem]
              · refine stepJ_val' (fun _ _ => Below.refl _ _) rfl rfl rfl fun ac W hA hG hD => ⟨_, ?_, rfl⟩
                have h52 := hD.get 8 52 _ rfl rfl (by kernel_rfl)
                simp only [Array.getD_eq_getD_getElem?] at h52
                have c0 : W.cell? ⟨w.heap.size, 1, none⟩ = some (.slice A' d.pend.length c') := cell_of_row W _ 1 _ _ _ ((hG.block _ hwr).trans kd.out)
                simp [execOp, Act.eval, h52, go_sem, c0]
              · refine stepJ_val' (fun _ _ => Below.refl _ _) rfl rfl rfl fun ac W hA hG hD => ⟨_, ?_, rfl⟩
                have h7 := hA.getD (t := 7) (by kernel_rfl)
                simp only [Array.getD_eq_getD_getElem?] at h7
                simp [execOp, Act.eval, h7, go_sem]
              · refine stepJ_val' (fun _ _ => Below.refl _ _) rfl rfl rfl fun ac W hA hG hD => ⟨_, ?_, rfl⟩
                have h53 := hD.get 9 53 _ rfl rfl (by kernel_rfl)
                have h54 := hD.get 10 54 _ rfl rfl (by kernel_rfl)
                simp only [Array.getD_eq_getD_getElem?] at h53 h54
                simp [execOp, Act.eval, h53, h54, go_sem, j0, j2, hbp]
              · refine stepJ_val' (fun _ _ => Below.refl _ _) rfl rfl rfl fun ac W hA hG hD => ⟨_, ?_, rfl⟩
                have h55 := hD.get 11 55 _ rfl rfl (by kernel_rfl)
                simp only [Array.getD_eq_getD_getElem?] at h55
                simp [execOp, Act.eval, h55, go_sem]
              · refine stepJ_val' (fun _ _ => Below.refl _ _) rfl rfl rfl fun ac W hA hG hD => ⟨_, ?_, rfl⟩
                have h56 := hD.get 12 56 _ rfl rfl (by kernel_rfl)
                simp only [Array.getD_eq_getD_getElem?] at h56
                have c0 := (hG.cell (p := ⟨bp, op + k * 2 + 1, none⟩) hbpr).trans l1.out
                simp [execOp, Act.eval, h56, go_sem, c0]
              · refine stepJ_val' (fun _ _ => Below.refl _ _) rfl rfl rfl fun ac W hA hG hD => ⟨_, ?_, rfl⟩
                have h45 := hD.get 1 45 _ rfl rfl (by kernel_rfl)
                have h51 := hD.get 7 51 _ rfl rfl (by kernel_rfl)
                simp only [Array.getD_eq_getD_getElem?] at h45 h51
                simp [execOp, Act.eval, h45, h51, go_sem, p0, p1]
            · intro fu T W hG hF hne hltb
              have e44 : T 44 = .pointer (some ⟨gx, 0, none⟩) := hF 0 _ rfl (by omega)
              have e45 : T 45 = .slice (some ⟨g, 0, none⟩) d.secs.length c1 := hF 1 _ rfl (by omega)
              have e46 : T 46 = .pointer (some ⟨w.heap.size, 1, none⟩) := hF 2 _ rfl (by omega)
              have e47 : T 47 = .slice A' d.pend.length c' := hF 3 _ rfl (by omega)
              have e48 : T 48 = .int .i64 (k : Int) := hF 4 _ rfl (by omega)
              have e49 : T 49 = .pointer (some ⟨bp, op + k * 2, none⟩) := hF 5 _ rfl (by omega)
              have e50 : T 50 = .pointer (some ⟨bp, op + k * 2, none⟩) := hF 6 _ rfl (by omega)
              have e51 : T 51 = .int .i64 (q : Int) := hF 7 _ rfl (by omega)
              have e52 : T 52 = .pointer (some ⟨w.heap.size, 1, none⟩) := hF 8 _ rfl (by omega)
              have e53 : T 53 = .slice A' d.pend.length c' := hF 9 _ rfl (by omega)
              have e54 : T 54 = .int .i64 (k : Int) := hF 10 _ rfl (by omega)
              have e55 : T 55 = .pointer (some ⟨bp, op + k * 2, none⟩) := hF 11 _ rfl (by omega)
              have e56 : T 56 = .pointer (some ⟨bp, op + k * 2 + 1, none⟩) := hF 12 _ rfl (by omega)
              have e57 : T 57 = .slice Ak 128 ck := hF 13 _ rfl (by omega)
              have e58 : T 58 = .pointer (some ⟨g, q, none⟩) := hF 14 _ rfl (by omega)
              clear hF hne hltb
              simp only [List.take, fillT, List.setIfInBounds_toArray, List.set_cons_zero, List.set_cons_succ, e44, e45, e46, e47, e48, e49, e50, e51, e52, e53, e54, e55, e56, e57, e58]
              clear e44 e45 e46 e47 e48 e49 e50 e51 e52 e53 e54 e55 e56 e57 e58
              refine wpAny_ready (rs := [15]) (by kernel_rfl) (by simp) (AllReady.cons (o := ⟨none, .store 35 (.tmp 58) (.tmp 57), _, _, _, none⟩) rfl (fun K1 hK1 => ?_) AllReady.nil)
              rw [if_pos (by rfl)]
              have oW := ot.out.step (fun b h => by have := hS b h; omega) hG
              obtain ⟨A0, c0, hold, -⟩ := oW.cell hq2
              refine wp_store_one 35 _ _ rfl g q rfl (.slice Ak 128 ck) rfl rfl rfl Try.sizeOf35 _ hold (oW.frozen q) ?_
              refine hK1 _ _ ?_
              clear hK1 K1
              refine wpAny_done (by kernel_rfl) ?_ _
              simp only [Act.put]
              have hTg : ¬ S g := fun h => by have := hS g h; omega
              have o9 := oW.set hTg (i := q) (hrow.out.keep (Kept.of (fun b h => by have := hS b h; omega) hG))
              rw [← hset.out] at o9
              have o9 := Lib.hid o9
              have kx9 := Lib.hid ((heap_setCell_other W ⟨g, q, none⟩ gx (.slice Ak 128 ck) (by show gx ≠ g; exact Ne.symm hxg)).trans ((hG.block _ hgxr).trans kx.out))
              have kd9 := Lib.hid ((heap_setCell_other W ⟨g, q, none⟩ w.heap.size (.slice Ak 128 ck) (by show w.heap.size ≠ g; omega)).trans ((hG.block _ hwr).trans kd.out))
              have kr9 := Lib.hid ((heap_setCell_other W ⟨g, q, none⟩ (w.heap.size + 1) (.slice Ak 128 ck) (by show w.heap.size + 1 ≠ g; omega)).trans ((hG.block _ hwr1).trans kr.out))
              have B9 := Lib.hid ((hb'.out.trans (hG.mono hb'.out.size)).setCell (p := ⟨g, q, none⟩) (by show w.heap.size ≤ g; omega) (.slice Ak 128 ck))
              clear oW hold hG ot kx kd kr hrow hset
              generalize W.setCell ⟨g, q, none⟩ (.slice Ak 128 ck) = w9 at *
              go_wp2_with fail
              go_roundw
              case rel => exact ⟨k + 1, by omega, by go_num, o9, kx9, kd9, kr9, B9.out⟩
              case measure => simp [intOf]; omega
          · have hkM' : k = perfN d := by omega
            have hle : ¬ ((k : Int) < d.pend.length) := by omega
            subst hkM'
            clear hlt hkM
            have hgr : g < wr.heap.size := ot.out.lt
            have x0 : wr.cell? ⟨gx, 0, none⟩ = some (.slice (some ⟨g, 0, none⟩) d.secs.length c1) := cell_of_row wr _ 0 _ _ _ kx.out
            have x1 : wr.cell? ⟨gx, 1, none⟩ = some (.slice none 0 0) := cell_of_row wr _ 1 _ _ _ kx.out
            have x2 : wr.cell? ⟨gx, 2, none⟩ = some (.int .i64 d.left) := cell_of_row wr _ 2 _ _ _ kx.out
            have x3 : wr.cell? ⟨gx, 3, none⟩ = some (.bool false) := cell_of_row wr _ 3 _ _ _ kx.out
            have xf := fun i => frozen_of_row wr gx i _ _ kx.out
            have r0 : wr.cell? ⟨w.heap.size + 1, 0, none⟩ = some (.slice none 0 0) := cell_of_row wr _ 0 _ _ _ kr.out
            have r1 : wr.cell? ⟨w.heap.size + 1, 1, none⟩ = some (.slice none 0 0) := cell_of_row wr _ 1 _ _ _ kr.out
            have r2 : wr.cell? ⟨w.heap.size + 1, 2, none⟩ = some (.int .i64 0) := cell_of_row wr _ 2 _ _ _ kr.out
            have r3 : wr.cell? ⟨w.heap.size + 1, 3, none⟩ = some (.bool false) := cell_of_row wr _ 3 _ _ _ kr.out
            have rf := fun i => frozen_of_row wr (w.heap.size + 1) i _ _ kr.out
            rw [hM, List.take_of_length_le (Nat.le_refl _)] at ot
            have hv := Lib.hid (show syncD d = (⟨applyW d.secs d.pend, [], d.left - d.pend.length, false⟩, 0) by
              unfold syncD; rw [hrun.out, if_neg (by decide), hM, if_pos rfl]
              have : lessD d.left d.pend.length = d.left - d.pend.length := by unfold lessD; split <;> omega
              rw [this])
            have hle' : ¬ ((d.pend.length : Int) < d.pend.length) := by omega
            rw [hM]
            have hl2 := (chkB_iff.1 hk).2.2.2.2.1
            have hne9 : ¬ gx = w.heap.size + 1 := by omega
            have hne8 : ¬ w.heap.size + 1 = gx := by omega
            have hlx : I64 (d.left - d.pend.length) := by unfold I64; omega
            go_wp2_with fail
            refine bodyPost_ret (v := .tuple #[.agg #[.slice (some ⟨g, 0, none⟩) d.secs.length c1, .slice none 0 0, .int .i64 (d.left - d.pend.length), .bool false], .int .i64 0]) (by simp [results, Try.results24, go_sem, r0, r1, r2, r3, hne8, hne9]) rfl ?_
            exact DkPost.of hv.out (((((hb'.out.setCell (by show w.heap.size ≤ gx; omega) _).setCell (by simp) _).setCell (by simp) _).setCell (by simp) _).setCell (by simp) _) (some ⟨g, 0, none⟩) c1 none 0 (by rw [applyW_length]; rfl) (sy_dr hS ot.out (by omega) (fun b o hb => (set4_other _ (w.heap.size + 1) _ _ _ _ b o (by omega)).trans (World.cell?_of_block (heap_setCell_other wr ⟨gx, 2, none⟩ b _ (by show b ≠ gx; omega)))) (by simp) (by rw [applyW_length]; exact hc1) hm1 hlx)
end Go.Proofs.Ytalkbccofiiojaa
