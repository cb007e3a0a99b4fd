/- torn, Sync: contracts. -/
import Derived.Test.YtalkbccofiiojaaPf
import Derived.Test.YtalkbccofiiojaaSt
import Derived.Test.YtalkbccofiiojaaSo
namespace Go.Proofs.Ytalkbccofiiojaa
open Go.RowKit

theorem splice_torn (old data : List UInt8) (hd : data.length = 128) : splice (BV (pad old)) 0 (BV (data.take 64)) = BV (data.take 64 ++ (pad old).drop 64) := by
  unfold splice
  rw [BV_length, List.length_take, hd, BV_append, List.take_zero, List.nil_append]
  simp [BV, List.map_drop]

set_option maxRecDepth 100000 in
set_option maxHeartbeats 2000000 in
theorem torn_any (old data : List UInt8) (hd : data.length = 128) (w : World) (A A' : Option Addr) (c c' : Nat) (B : Nat) (hB : B ≤ w.heap.size) (ho : RBs w (· < B) A old) (hdr : RBs w (· < B) A' data) :
    Calls Try.prog 36 #[.slice A old.length c, .slice A' 128 c'] w fun e w' => e = .returned (.slice (some ⟨w.heap.size, 0, none⟩) 128 128) ∧ DB w' w.heap.size (data.take 64 ++ (pad old).drop 64) ∧ Below w.heap.size w w' := by
  have hS := Lib.hid (sector_any old w A c (· < B) (fun g hg => Nat.lt_of_lt_of_le hg hB) ho)
  have hsp := Lib.hid (splice_torn old data hd)
  have hdr' := Lib.hid hdr
  have hd' := Lib.hid hd
  clear ho hdr hd
  go_enter Try.func36, Try.ntmps36
  go_wp2_with fail
  refine hS.out.mono ?_
  rintro e w1 ⟨rfl, hD1, hb1⟩
  obtain ⟨Z, hZ⟩ : ∃ Z, Z = BV (pad old) := ⟨_, rfl⟩
  obtain ⟨X, hX⟩ : ∃ X, X = BV (data.take 64) := ⟨_, rfl⟩
  have hr1 := (hdr'.out.take 64).keep (Kept.below (hb1.mono hB))
  have hXl := Lib.hid (show X.length = Nat.min 128 64 by rw [hX, BV_length, List.length_take, hd'.out]; rfl)
  have hpos := Lib.hid (show 0 < X.length → ∃ ad, A' = some ad ∧ ∀ j v, X[j]? = some v → w1.cell? (ad.add j) = some v from fun h => by
    rw [hX, BV_length] at h
    rw [hX]
    exact hr1.src h)
  have hfit := Lib.hid (show 0 + X.length ≤ Z.length by rw [hXl.out, hZ, BV_length, pad_length]; decide)
  have hX1 := Lib.hid (show ∀ v ∈ X, v.oneCell' = true by rw [hX]; exact BV_one _)
  have hD := Lib.hid (show w1.heap[w.heap.size]? = some (.cells Z.toArray 5 (0, 0)) by rw [hZ]; exact hD1)
  have hsp' := Lib.hid (show splice Z 0 X = BV (data.take 64 ++ (pad old).drop 64) by rw [hZ, hX]; exact hsp.out)
  have hb1' := Lib.hid hb1
  clear hZ hX hr1 hD1 hb1 hsp
  go_wp2_with (with_reducible refine wpList_copy_splice rfl (.tmp 9) (.tmp 10) 35 35 rfl 5 Try.underlying35 (by kernel_rfl) (some ⟨w.heap.size, 0, none⟩) A' 64 128 128 c' rfl rfl w.heap.size 0 Z 5 hD.out X hXl.out (fun h => ⟨rfl, hpos.out h⟩) hfit.out hX1.out w.heap.size w hb1'.out (Nat.le_refl _) ?_; intro w2 HG2 hB2)
  go_ret
  refine ⟨rfl, ?_, hB2⟩
  have := HG2.out
  rw [hsp'.out] at this
  exact this

theorem PR.take {w : World} {S : Nat → Prop} {A : Option Addr} {ps : List Wr} (h : PR w S A ps) (n : Nat) : PR w S A (ps.take n) := fun hp => by
  rw [List.length_take] at hp
  obtain ⟨b, off, e, hs, hc⟩ := h (by omega)
  refine ⟨b, off, e, hs, fun i hi => ?_⟩
  rw [List.length_take] at hi
  obtain ⟨v, h0, h1, h2, h3⟩ := hc i (by omega)
  exact ⟨v, by rw [List.getElem_take]; exact h0, h1, by rw [List.getElem_take]; exact h2, by rw [List.getElem_take]; exact h3⟩
theorem slice3 (A : Option Addr) (l c n : Nat) (h : n ≤ l) (hc : l ≤ c) (W : World) : (Instr.sliceAt 23 (.slice A l c) none (some (.int .i64 (n : Int))) (some (.int .i64 (n : Int)))).run Try.prog W = .ok (.slice A n n) W := by
  have i3 : ¬ c < n := by omega
  have i0 : (0 : Int) ≤ n := by omega
  cases A with
  | none => simp [Instr.sliceAt, run_underlying Try.underlying23, go_sem, i3]
  | some a => simp [Instr.sliceAt, run_underlying Try.underlying23, go_sem, i3]
theorem perfN_le (d : Dk) : perfN d ≤ d.pend.length := by unfold perfN; split <;> omega

theorem box4_snd {w wr : World} {x0 x1 x2 x3 : Value} {t : TypeId} {o : Obj} (hb : Below (w.heap.size + 2) ((w.alloc o).alloc (.cells #[x0, x1, x2, x3] t)) wr) :
    (wr.cell? ⟨w.heap.size + 1, 0, none⟩ = some x0 ∧ wr.cell? ⟨w.heap.size + 1, 1, none⟩ = some x1 ∧ wr.cell? ⟨w.heap.size + 1, 2, none⟩ = some x2 ∧ wr.cell? ⟨w.heap.size + 1, 3, none⟩ = some x3) ∧ ∀ i, wr.frozen? ⟨w.heap.size + 1, i, none⟩ = false := by
  have h := heap_alloc_new (w.alloc o) (.cells #[x0, x1, x2, x3] t)
  rw [World.size_alloc] at h
  have h' := (hb.block (w.heap.size + 1) (by omega)).trans h
  exact ⟨⟨cell_of_row wr _ 0 _ _ _ h', cell_of_row wr _ 1 _ _ _ h', cell_of_row wr _ 2 _ _ _ h', cell_of_row wr _ 3 _ _ _ h'⟩, fun i => frozen_of_row wr _ i _ _ h'⟩
theorem set4_other (W : World) (g : Nat) (a b c e : Value) (B o : Nat) (h : B ≠ g) : ((((W.setCell ⟨g, 0, none⟩ a).setCell ⟨g, 1, none⟩ b).setCell ⟨g, 2, none⟩ c).setCell ⟨g, 3, none⟩ e).cell? ⟨B, o, none⟩ = W.cell? ⟨B, o, none⟩ := by
  refine World.cell?_of_block ?_
  show _ = W.heap[B]?
  rw [heap_setCell_other _ _ _ _ (by exact h), heap_setCell_other _ _ _ _ (by exact h), heap_setCell_other _ _ _ _ (by exact h), heap_setCell_other _ _ _ _ (by exact h)]

set_option maxRecDepth 100000 in
set_option maxHeartbeats 4000000 in
theorem Sync_any (d : Dk) (w : World) (A A' : Option Addr) (c c' : Nat) (S : Nat → Prop) (hS : ∀ b, S b → b < w.heap.size) (hd : DR w S A c A' c' d) :
    Calls Try.prog 23 #[.agg #[.slice A d.secs.length c, .slice A' d.pend.length c', .int .i64 d.left, .bool d.stop]] w (DkPost S (syncD d) w) := by
  have hB := Lib.hid (((Below.refl _ w).alloc (Nat.le_refl _) (.cells #[.slice A d.secs.length c, .slice A' d.pend.length c', .int .i64 d.left, .bool d.stop] 25)).alloc (by simp) (.cells #[.slice none 0 0, .slice none 0 0, .int .i64 0, .bool false] 25))
  have hC := Lib.hid (runs_any d _ A A' c c' w.heap.size (by simp; omega) ((hd.mono hS).keep (Kept.below hB.out)))
  have hdh := Lib.hid hd
  clear hd
  go_enter Try.func23, Try.ntmps23
  go_wp2_with fail
  refine hC.out.mono ?_
  rintro e w1 ⟨rfl, hb1⟩
  simp only [World.size_alloc] at hb1
  have hz := hb1.size
  simp only [World.size_alloc] at hz
  have hB1 := Lib.hid (hB.out.trans (hb1.mono (by omega)))
  have hC1 := Lib.hid hb1
  cases hr : runB d with
  | false =>
    obtain ⟨z0, z1⟩ := bcell hb1
    have hv := Lib.hid (show syncD d = (zeroDk, 40) by unfold syncD; rw [if_pos hr])
    clear hr hb1
    go_wp2_with fail
    exact bodyPost_ret (v := .tuple #[.agg #[.slice none 0 0, .slice none 0 0, .int .i64 0, .bool false], .int .i64 40]) (by simp [results, Try.results23, go_sem, z0]) rfl (DkPost.fail hv.out ((((hB1.out.setCell (by simp) _).setCell (by simp) _).setCell (by simp) _).setCell (by simp) _) rfl)
  | true =>
    obtain ⟨y0, y1, y2, y3⟩ := box4_2 hb1
    have hck := chkB_iff.1 (runB_iff.1 hr).1
    have hck' := Lib.hid hck
    obtain ⟨-, hs4, hp4, hl0, hl1, -, -⟩ := hck
    have hpf := performed_any d w1 A A' c c' hl0 hl1 hp4
    have hpl := perfN_le d
    obtain ⟨n, hn⟩ : ∃ n, n = perfN d := ⟨_, rfl⟩
    rw [← hn] at hpf hpl
    have hpf' := Lib.hid hpf
    have hn' := Lib.hid hn
    have hr' := Lib.hid hr
    clear hr hb1 hpf hn
    go_wp2_with fail
    refine hpf'.out.mono ?_
    rintro e w2 ⟨rfl, hb2⟩
    have hz2 := hb2.size
    have hC2 := Lib.hid (hC1.out.trans (hb2.mono (by omega)))
    have hB2 := Lib.hid (hB1.out.trans (hb2.mono (by omega)))
    clear y0 y1 y2 y3 hb2
    have hk := Lib.hid (box4_2 hC2.out)
    have hlt : (d.pend.take n).length = n := by rw [List.length_take]; omega
    have hx2 : Hid (w2.heap[w.heap.size + 1]? = some (.cells #[.slice none 0 0, .slice none 0 0, .int .i64 0, .bool false] 25 (0, 0))) := by
      show _ = _
      rw [hC2.out.block _ (by omega)]
      have := heap_alloc_new (w.alloc (.cells #[.slice A d.secs.length c, .slice A' d.pend.length c', .int .i64 d.left, .bool d.stop] 25)) (.cells #[.slice none 0 0, .slice none 0 0, .int .i64 0, .bool false] 25)
      simpa only [World.size_alloc] using this
    have hP' : Hid (∀ W, Below w2.heap.size w2 W → Calls Try.prog 35 #[.slice A d.secs.length c, .slice A' n n] W fun e W' => e = .returned (.slice (some ⟨W.heap.size, 0, none⟩) d.secs.length d.secs.length) ∧ OS W' S W.heap.size (applyW d.secs (d.pend.take n)) ∧ Below W.heap.size W W') := fun W hW => by
      have hbW := hB2.out.trans (hW.mono hB2.out.size)
      have h := perform_any d.secs (d.pend.take n) hs4 (by omega) (fun x hx => hck'.out.2.2.2.2.2.2 x (List.mem_of_mem_take hx)) W A A' c n S (fun b hb => Nat.lt_of_lt_of_le (hS b hb) hbW.size) (hdh.out.secs.keep (Kept.of hS hbW)) ((hdh.out.pend.take n).keep (Kept.of hS hbW))
      rwa [hlt] at h
    have hcc := hdh.out.cap'
    have hcm := hdh.out.max'
    have hsl := Lib.hid (slice3 A' d.pend.length c' n (by omega) hcc)
    have hs2 : w.heap.size < w2.heap.size := by omega
    clear hlt
    go_wp2_with fail
    refine wp_region_pre 11 1 (fun W => Below w2.heap.size w2 W) (fun W W' => Below W.heap.size W W')
      (fun i v W => match i with
        | 0 => v = .pointer (some ⟨w.heap.size, 0, none⟩)
        | 1 => v = .slice A d.secs.length c
        | 2 => v = .pointer (some ⟨w.heap.size, 1, none⟩)
        | 3 => v = .slice A' d.pend.length c'
        | 4 => v = .int .i64 (n : Int)
        | 5 => v = .int .i64 (n : Int)
        | 6 => v = .slice A' n n
        | 7 => ∃ g, v = .slice (some ⟨g, 0, none⟩) d.secs.length d.secs.length ∧ w2.heap.size ≤ g ∧ OS W S g (applyW d.secs (d.pend.take n))
        | 8 => v = .pointer (some ⟨w.heap.size, 2, none⟩)
        | 9 => v = .int .i64 d.left
        | 10 => ∃ g, v = .agg #[.slice (some ⟨g, 0, none⟩) d.secs.length d.secs.length, .slice none 0 0, .int .i64 d.left, .bool false] ∧ w2.heap.size ≤ g ∧ OS W S g (applyW d.secs (d.pend.take n))
        | _ => True) (fun _ => false)
      (by kernel_rfl) (by kernel_rfl) (by kernel_rfl) (by kernel_rfl) (by kernel_rfl) (by kernel_rfl) (by kernel_rfl) ?_ (fun _ _ h => h.size) (dN (Below.refl _ _) 1) ?_ ?_
    · intro i v W W' hb hF
      match i, hF with
      | 0, h => exact h
      | 1, h => exact h
      | 2, h => exact h
      | 3, h => exact h
      | 4, h => exact h
      | 5, h => exact h
      | 6, h => exact h
      | 7, ⟨g, h1, h2, h3⟩ => exact ⟨g, h1, h2, h3.step hb⟩
      | 8, h => exact h
      | 9, h => exact h
      | 10, ⟨g, h1, h2, h3⟩ => exact ⟨g, h1, h2, h3.step hb⟩
      | _ + 11, _ => trivial
    · refine ⟨?_, ?_, ?_, ?_, ?_, ?_, ?_, ?_, ?_, ?_, ?_, trivial⟩
      · refine stepJ_val' (fun _ _ => Below.refl _ _) rfl rfl rfl fun ac W hA hG hD => ⟨_, ?_, rfl⟩
        have h1 := hA.getD (t := 1) (by kernel_rfl)
        simp only [Array.getD_eq_getD_getElem?] at h1
        simp [execOp, Act.eval, h1, go_sem]
      · refine stepJ_val' (fun _ _ => Below.refl _ _) rfl rfl rfl fun ac W hA hG hD => ⟨_, ?_, rfl⟩
        have h12 := hD.get 0 12 _ rfl rfl (by kernel_rfl)
        simp only [Array.getD_eq_getD_getElem?] at h12
        have c0 := (hG.cell (p := ⟨w.heap.size, 0, none⟩) hs2).trans hk.out.1
        simp [execOp, Act.eval, h12, go_sem, c0]
      · refine stepJ_val' (fun _ _ => Below.refl _ _) rfl rfl rfl fun ac W hA hG hD => ⟨_, ?_, rfl⟩
        have h1 := hA.getD (t := 1) (by kernel_rfl)
        simp only [Array.getD_eq_getD_getElem?] at h1
        simp [execOp, Act.eval, h1, go_sem]
      · refine stepJ_val' (fun _ _ => Below.refl _ _) rfl rfl rfl fun ac W hA hG hD => ⟨_, ?_, rfl⟩
        have h14 := hD.get 2 14 _ rfl rfl (by kernel_rfl)
        simp only [Array.getD_eq_getD_getElem?] at h14
        have c1 := (hG.cell (p := ⟨w.heap.size, 1, none⟩) hs2).trans hk.out.2.1
        simp [execOp, Act.eval, h14, go_sem, c1]
      · refine stepJ_val' (fun _ _ => Below.refl _ _) rfl rfl rfl fun ac W hA hG hD => ⟨_, ?_, rfl⟩
        have h4 := hA.getD (t := 4) (by kernel_rfl)
        simp only [Array.getD_eq_getD_getElem?] at h4
        simp [execOp, Act.eval, h4, go_sem]
      · refine stepJ_val' (fun _ _ => Below.refl _ _) rfl rfl rfl fun ac W hA hG hD => ⟨_, ?_, rfl⟩
        have h4 := hA.getD (t := 4) (by kernel_rfl)
        simp only [Array.getD_eq_getD_getElem?] at h4
        simp [execOp, Act.eval, h4, go_sem]
      · refine stepJ_val' (fun _ _ => Below.refl _ _) rfl rfl rfl fun ac W hA hG hD => ⟨_, ?_, rfl⟩
        have h15 := hD.get 3 15 _ rfl rfl (by kernel_rfl)
        have h16 := hD.get 4 16 _ rfl rfl (by kernel_rfl)
        have h17 := hD.get 5 17 _ rfl rfl (by kernel_rfl)
        simp only [Array.getD_eq_getD_getElem?] at h15 h16 h17
        have := hsl.out W
        simp [execOp, Act.eval, h15, h16, h17, go_sem, this]
      · refine stepJ_any rfl fun ac W hA hG hD K hK => ?_
        have h13 := hD.get 1 13 _ rfl rfl (by kernel_rfl)
        have h18 := hD.get 6 18 _ rfl rfl (by kernel_rfl)
        simp only [Array.getD_eq_getD_getElem?] at h13 h18
        rw [if_pos (by rfl)]
        refine wp_call (f := 35) (args := #[.slice A d.secs.length c, .slice A' n n]) (by simp [execOp, Act.eval, h13, h18, go_sem]) ((hP'.out W hG).mono fun e W' he => ?_)
        obtain ⟨rfl, ho, hbw⟩ := he
        exact hK _ _ (hG.trans (hbw.mono hG.size)) hbw ⟨_, rfl, hG.size, ho⟩ (fun h => by cases h)
      · refine stepJ_val' (fun _ _ => Below.refl _ _) rfl rfl rfl fun ac W hA hG hD => ⟨_, ?_, rfl⟩
        have h1 := hA.getD (t := 1) (by kernel_rfl)
        simp only [Array.getD_eq_getD_getElem?] at h1
        simp [execOp, Act.eval, h1, go_sem]
      · refine stepJ_val' (fun _ _ => Below.refl _ _) rfl rfl rfl fun ac W hA hG hD => ⟨_, ?_, rfl⟩
        have h20 := hD.get 8 20 _ rfl rfl (by kernel_rfl)
        simp only [Array.getD_eq_getD_getElem?] at h20
        have c2 := (hG.cell (p := ⟨w.heap.size, 2, none⟩) hs2).trans hk.out.2.2.1
        simp [execOp, Act.eval, h20, go_sem, c2]
      · refine stepJ_val' (fun _ _ => Below.refl _ _) rfl rfl rfl fun ac W hA hG hD => ?_
        obtain ⟨g, h19, hge, ho⟩ := hD.get 7 19 _ rfl rfl (by kernel_rfl)
        have h21 := hD.get 9 21 _ rfl rfl (by kernel_rfl)
        simp only [Array.getD_eq_getD_getElem?] at h19 h21
        refine ⟨_, ?_, g, rfl, hge, ho⟩
        simp [execOp, Act.eval, h19, h21, go_sem]
    · intro fu T W hG hF hne hltb
      have e12 : T 12 = .pointer (some ⟨w.heap.size, 0, none⟩) := hF 0 _ rfl (by omega)
      have e13 : T 13 = .slice A d.secs.length c := hF 1 _ rfl (by omega)
      have e14 : T 14 = .pointer (some ⟨w.heap.size, 1, none⟩) := hF 2 _ rfl (by omega)
      have e15 : T 15 = .slice A' d.pend.length c' := hF 3 _ rfl (by omega)
      have e16 : T 16 = .int .i64 (n : Int) := hF 4 _ rfl (by omega)
      have e17 : T 17 = .int .i64 (n : Int) := hF 5 _ rfl (by omega)
      have e18 : T 18 = .slice A' n n := hF 6 _ rfl (by omega)
      obtain ⟨g0, e19, hg0, ho0⟩ := hF 7 _ rfl (by omega)
      have e19 : T 19 = _ := e19
      have e20 : T 20 = .pointer (some ⟨w.heap.size, 2, none⟩) := hF 8 _ rfl (by omega)
      have e21 : T 21 = .int .i64 d.left := hF 9 _ rfl (by omega)
      obtain ⟨g, e22, hg, ho⟩ := hF 10 _ rfl (by omega)
      have e22 : T 22 = _ := e22
      clear hF hne hltb
      simp only [List.take, fillT, List.setIfInBounds_toArray, List.set_cons_zero, List.set_cons_succ, e12, e13, e14, e15, e16, e17, e18, e19, e20, e21, e22]
      clear e12 e13 e14 e15 e16 e17 e18 e19 e20 e21 e22
      clear hg0 ho0
      have hbx := (hG.block (w.heap.size + 1) (by omega)).trans hx2.out
      have hkW : Hid (W.cell? ⟨w.heap.size, 0, none⟩ = some (.slice A d.secs.length c) ∧ W.cell? ⟨w.heap.size, 1, none⟩ = some (.slice A' d.pend.length c') ∧ W.cell? ⟨w.heap.size, 2, none⟩ = some (.int .i64 d.left) ∧ W.cell? ⟨w.heap.size, 3, none⟩ = some (.bool d.stop)) :=
        ⟨(hG.cell (p := ⟨w.heap.size, 0, none⟩) hs2).trans hk.out.1, (hG.cell (p := ⟨w.heap.size, 1, none⟩) hs2).trans hk.out.2.1, (hG.cell (p := ⟨w.heap.size, 2, none⟩) hs2).trans hk.out.2.2.1, (hG.cell (p := ⟨w.heap.size, 3, none⟩) hs2).trans hk.out.2.2.2⟩
      refine wpAny_ready (rs := [11]) (by kernel_rfl) (by simp) (AllReady.cons (o := ⟨none, .store 25 (.tmp 2) (.tmp 22), _, _, _, none⟩) rfl (fun K1 hK1 => ?_) AllReady.nil)
      rw [if_pos (by rfl)]
      refine wp_store_row 25 _ _ rfl (w.heap.size + 1) #[.slice (some ⟨g, 0, none⟩) d.secs.length d.secs.length, .slice none 0 0, .int .i64 d.left, .bool false] rfl rfl 25 _ hbx (by kernel_rfl) rfl (by simp [Value.oneCell']) ?_
      refine hK1 _ _ ?_
      clear hK1 K1
      refine wpAny_done (by kernel_rfl) ?_ _
      simp only [Act.put]
      have hrow := setRow_heap W (w.heap.size + 1) _ #[.slice (some ⟨g, 0, none⟩) d.secs.length d.secs.length, .slice none 0 0, .int .i64 d.left, .bool false] _ _ hbx
      have ho3 := Lib.hid (ho.other (grownBy_setRow W (w.heap.size + 1) #[.slice (some ⟨g, 0, none⟩) d.secs.length d.secs.length, .slice none 0 0, .int .i64 d.left, .bool false]) (fun b hb => by have := hS b hb; omega) (by omega))
      have hB3 := Lib.hid (below_setRow (g := w.heap.size + 1) (hB2.out.trans (hG.mono hB2.out.size)) (by omega) #[.slice (some ⟨g, 0, none⟩) d.secs.length d.secs.length, .slice none 0 0, .int .i64 d.left, .bool false])
      have hsz3 : w2.heap.size ≤ (W.setRow (w.heap.size + 1) #[.slice (some ⟨g, 0, none⟩) d.secs.length d.secs.length, .slice none 0 0, .int .i64 d.left, .bool false]).heap.size := by rw [size_setRow]; exact hG.size
      have q0 := (cell_setRow_other W (w.heap.size + 1) #[.slice (some ⟨g, 0, none⟩) d.secs.length d.secs.length, .slice none 0 0, .int .i64 d.left, .bool false] ⟨w.heap.size, 0, none⟩ (by simp)).trans hkW.out.1
      have q1 := (cell_setRow_other W (w.heap.size + 1) #[.slice (some ⟨g, 0, none⟩) d.secs.length d.secs.length, .slice none 0 0, .int .i64 d.left, .bool false] ⟨w.heap.size, 1, none⟩ (by simp)).trans hkW.out.2.1
      generalize W.setRow (w.heap.size + 1) #[.slice (some ⟨g, 0, none⟩) d.secs.length d.secs.length, .slice none 0 0, .int .i64 d.left, .bool false] = w3 at *
      clear hbx hkW ho hG
      have r0 := cell_of_row w3 _ 0 _ _ _ hrow
      have r1 := cell_of_row w3 _ 1 _ _ _ hrow
      have r2 := cell_of_row w3 _ 2 _ _ _ hrow
      have r3 := cell_of_row w3 _ 3 _ _ _ hrow
      simp only [List.getElem?_toArray, List.getElem?_cons_zero, List.getElem?_cons_succ] at r0 r1 r2 r3
      have rf := fun i => frozen_of_row w3 _ i _ _ hrow
      have hrow' := Lib.hid hrow
      clear hrow
      have hg3 : w.heap.size + 1 < g := by omega
      have s3 := fun (W : World) (o : Nat) (u : Value) (h : OS W S g (applyW d.secs (d.pend.take n))) => h.cell1 (x := w.heap.size + 1) o u (fun b hb => Nat.lt_succ_of_lt (hS b hb)) hg3
      have s3' := Lib.hid s3
      clear s3
      by_cases hl : d.left = -1
      · have hnl : n = d.pend.length := by rw [hn'.out]; unfold perfN; rw [if_pos hl]
        have hq : (d.left != -1) = false := by rw [hl]; rfl
        have hq2 : ((n : Int) == d.pend.length) = true := by rw [hnl]; simp
        have hv := Lib.hid (show syncD d = (⟨applyW d.secs d.pend, [], d.left, false⟩, 0) by unfold syncD; rw [hr'.out, if_neg (by decide), if_pos (by rw [← hn'.out]; exact hnl), lessD, if_pos hl, hl])
        have hdl := Lib.hid hdh.out.left
        have hnl' := Lib.hid hnl
        clear hl hnl
        go_wp2_with fail
        refine bodyPost_ret (v := .tuple #[.agg #[.slice (some ⟨g, 0, none⟩) d.secs.length d.secs.length, .slice none 0 0, .int .i64 d.left, .bool false], .int .i64 0]) (by simp [results, Try.results23, go_sem, r0, r1, r2, r3]) rfl ?_
        have hf := s3'.out _ 3 (.bool false) (s3'.out _ 2 (.int .i64 d.left) (s3'.out _ 1 (.slice none 0 0) (s3'.out _ 0 (.slice (some ⟨g, 0, none⟩) d.secs.length d.secs.length) ho3.out)))
        rw [hnl'.out, List.take_length] at hf
        have hlen : (applyW d.secs d.pend).length = d.secs.length := applyW_length _ _
        refine DkPost.of hv.out ((((hB3.out.setCell (by simp) _).setCell (by simp) _).setCell (by simp) _).setCell (by simp) _) (some ⟨g, 0, none⟩) d.secs.length none 0 (by rw [hlen]; rfl) ⟨by rw [hlen]; exact Nat.le_refl _, by unfold maxLen; omega, Nat.le_refl _, Nat.zero_le _, hf.sr.mono (fun b hb => hb.elim .inl fun h => .inr ⟨by omega, h.2⟩), fun h => absurd h (Nat.lt_irrefl 0), hdl.out⟩
      · have hq : (d.left != -1) = true := by simpa using hl
        by_cases hnl : n = d.pend.length
        · have hq2 : ((n : Int) == d.pend.length) = true := by rw [hnl]; simp
          have hv := Lib.hid (show syncD d = (⟨applyW d.secs d.pend, [], d.left - n, false⟩, 0) by unfold syncD; rw [hr'.out, if_neg (by decide), if_pos (by rw [← hn'.out]; exact hnl), lessD, if_neg hl, ← hnl])
          have hnl' := Lib.hid hnl
          have hle : (n : Int) ≤ d.left := by have := hn'.out; unfold perfN at this; rw [if_neg hl] at this; omega
          have hdl := Lib.hid (show I64 (d.left - n) by unfold I64; omega)
          clear hl hnl
          go_wp2_with fail
          refine bodyPost_ret (v := .tuple #[.agg #[.slice (some ⟨g, 0, none⟩) d.secs.length d.secs.length, .slice none 0 0, .int .i64 (d.left - n), .bool false], .int .i64 0]) (by simp [results, Try.results23, go_sem, r0, r1, r2, r3]) rfl ?_
          have hf := s3'.out _ 3 (.bool false) (s3'.out _ 2 (.int .i64 (d.left - n)) (s3'.out _ 1 (.slice none 0 0) (s3'.out _ 0 (.slice (some ⟨g, 0, none⟩) d.secs.length d.secs.length) (s3'.out _ 2 (.int .i64 (d.left - n)) ho3.out))))
          rw [hnl'.out, List.take_length] at hf
          have hlen : (applyW d.secs d.pend).length = d.secs.length := applyW_length _ _
          refine DkPost.of hv.out (((((hB3.out.setCell (by simp) _).setCell (by simp) _).setCell (by simp) _).setCell (by simp) _).setCell (by simp) _) (some ⟨g, 0, none⟩) d.secs.length none 0 (by rw [hlen]; rfl) ⟨by rw [hlen]; exact Nat.le_refl _, by unfold maxLen; omega, Nat.le_refl _, Nat.zero_le _, by rw [hnl'.out]; exact hf.sr.mono (fun b hb => hb.elim .inl fun h => .inr ⟨by omega, h.2⟩), fun h => absurd h (Nat.lt_irrefl 0), hdl.out⟩
        · have hlt : n < d.pend.length := by omega
          have hL : d.left = (n : Int) := by have := hn'.out; unfold perfN at this; rw [if_neg hl] at this; omega
          have hq2 : ((n : Int) == d.pend.length) = false := by simp only [beq_eq_false_iff_ne, ne_eq]; omega
          have hle : (n : Int) ≤ d.left := by omega
          have hlt' : (n : Int) < d.pend.length := by omega
          obtain ⟨⟨p0, p1⟩, p2⟩ := hck'.out.2.2.2.2.2.2 _ (List.getElem_mem hlt)
          obtain ⟨b1, off1, A1, c1, rfl, hs1, hcw0, hcw1, hq3, hq4, hrw, hI⟩ := hdh.out.pend.at_ hlt
          have hc0 := (hB3.out.cell (p := ⟨b1, off1 + n * 2, none⟩) (hS b1 hs1)).trans hcw0
          have hc1 := (hB3.out.cell (p := ⟨b1, off1 + n * 2 + 1, none⟩) (hS b1 hs1)).trans hcw1
          clear hcw0 hcw1
          have hv := Lib.hid (show syncD d = (⟨tornS (applyW d.secs (d.pend.take n)) d.pend[n], [], 0, true⟩, 40) by
            unfold syncD
            rw [hr'.out, if_neg (by decide), if_neg (by rw [← hn'.out]; exact hnl), ← hn'.out, List.getD_eq_getElem?_getD, List.getElem?_eq_getElem hlt]; rfl)
          have hL' := Lib.hid hL
          rw [p2] at hc1 hq3
          have p2' := Lib.hid p2
          have hrw' := Lib.hid hrw
          have hb1 : b1 < w.heap.size := hS b1 hs1
          have hne1 : b1 ≠ w.heap.size + 1 := by omega
          clear hl hnl hL p2 hrw
          go_wp2_with fail
          have n5 : Hid (((w3.setCell ⟨w.heap.size + 1, 2, none⟩ (.int .i64 (d.left - n))).alloc (.cells #[.int .i64 d.pend[n].pl, .slice A1 128 c1] 54)).heap[w3.heap.size]? = some (.cells #[.int .i64 d.pend[n].pl, .slice A1 128 c1] 54 (0, 0))) := by
            show _ = _
            have := heap_alloc_new (w3.setCell ⟨w.heap.size + 1, 2, none⟩ (.int .i64 (d.left - n))) (.cells #[.int .i64 d.pend[n].pl, .slice A1 128 c1] 54)
            simpa using this
          have x5 : Hid (((w3.setCell ⟨w.heap.size + 1, 2, none⟩ (.int .i64 (d.left - n))).alloc (.cells #[.int .i64 d.pend[n].pl, .slice A1 128 c1] 54)).heap[w.heap.size + 1]? = some (.cells #[.slice (some ⟨g, 0, none⟩) d.secs.length d.secs.length, .slice none 0 0, .int .i64 (d.left - n), .bool false] 25 (0, 0))) := by
            show _ = _
            rw [Below.heap_alloc _ _ _ (by simp; omega), heap_setCell_same w3 (w.heap.size + 1) 2 _ _ (.int .i64 (d.left - n)) hrow'.out]
            rfl
          have o5 := Lib.hid ((s3'.out _ 2 (.int .i64 (d.left - n)) ho3.out).step (bnew _ (.cells #[.int .i64 d.pend[n].pl, .slice A1 128 c1] 54)))
          have B5 := Lib.hid ((hB3.out.setCell (p := ⟨w.heap.size + 1, 2, none⟩) (by simp) (.int .i64 (d.left - n))).alloc (by simp; omega) (.cells #[.int .i64 d.pend[n].pl, .slice A1 128 c1] 54))
          have s5 : ((w3.setCell ⟨w.heap.size + 1, 2, none⟩ (.int .i64 (d.left - n))).alloc (.cells #[.int .i64 d.pend[n].pl, .slice A1 128 c1] 54)).heap.size = w3.heap.size + 1 := by simp
          have hgl := ho3.out.lt
          generalize ((w3.setCell ⟨w.heap.size + 1, 2, none⟩ (.int .i64 (d.left - n))).alloc (.cells #[.int .i64 d.pend[n].pl, .slice A1 128 c1] 54)) = w5 at *
          clear r0 r1 r2 r3 rf q0 q1 s3' hrow' ho3 hB3
          have hs5 : w.heap.size + 1 < w5.heap.size := by omega
          have hs3 : w3.heap.size < w5.heap.size := by omega
          have hg5 : g < w5.heap.size := by omega
          have hal : (applyW d.secs (d.pend.take n)).length = d.secs.length := applyW_length _ _
          have hpi : d.pend[n].pl.toNat < (applyW d.secs (d.pend.take n)).length := by omega
          obtain ⟨A0, c0, hA0, hA1, hA2, hA3⟩ := o5.out.cell hpi
          have ho128 : Hid ((applyW d.secs (d.pend.take n))[d.pend[n].pl.toNat].length = 128) := applyW_128 _ _ hck'.out.2.2.2.2.2.1 (fun x hx => (hck'.out.2.2.2.2.2.2 x (List.mem_of_mem_take hx)).2) _ (List.getElem_mem hpi)
          have hts : Hid (tornS (applyW d.secs (d.pend.take n)) d.pend[n] = (applyW d.secs (d.pend.take n)).set d.pend[n].pl.toNat (d.pend[n].data.take 64 ++ (pad (applyW d.secs (d.pend.take n))[d.pend[n].pl.toNat]).drop 64)) := by
            show _ = _
            unfold tornS
            rw [pad_full ho128.out, List.getD_eq_getElem?_getD, List.getElem?_eq_getElem hpi]; rfl
          have hT : Hid (∀ W, Below w5.heap.size w5 W → Calls Try.prog 36 #[.slice A0 (applyW d.secs (d.pend.take n))[d.pend[n].pl.toNat].length c0, .slice A1 128 c1] W fun e W' => e = .returned (.slice (some ⟨W.heap.size, 0, none⟩) 128 128) ∧ DB W' W.heap.size (d.pend[n].data.take 64 ++ (pad (applyW d.secs (d.pend.take n))[d.pend[n].pl.toNat]).drop 64) ∧ Below W.heap.size W W') := fun W hW =>
            torn_any _ _ p2'.out W A0 A1 c0 c1 w5.heap.size hW.size ((hA3.mono fun b hS => hS.2).keep (Kept.below hW)) ((hrw'.out.keep (Kept.of hS (B5.out.trans (hW.mono B5.out.size)))).mono fun b hb => Nat.lt_of_lt_of_le (hS b hb) B5.out.size)
          obtain ⟨old, hold⟩ : ∃ old, old = (applyW d.secs (d.pend.take n))[d.pend[n].pl.toNat] := ⟨_, rfl⟩
          rw [← hold] at hT hA0 ho128 hts
          obtain ⟨sn, hsn⟩ : ∃ sn, sn = d.pend[n].data.take 64 ++ (pad old).drop 64 := ⟨_, rfl⟩
          rw [← hsn] at hT hts
          have hsn' := Lib.hid (show sn.length = 128 by rw [hsn]; simp [pad_length, p2'.out])
          have hA0' := Lib.hid hA0
          have i0 := p0
          have i1 := p1
          clear hA0 hA1 hA2 hA3 hold hsn hI
          refine wp_region_pre 14 1 (fun W => Below w5.heap.size w5 W) (fun W W' => Below W.heap.size W W')
            (fun i v W => match i with
              | 0 => v = .pointer (some ⟨w.heap.size + 1, 0, none⟩)
              | 1 => v = .slice (some ⟨g, 0, none⟩) d.secs.length d.secs.length
              | 2 => v = .pointer (some ⟨w3.heap.size, 0, none⟩)
              | 3 => v = .int .i64 d.pend[n].pl
              | 4 => v = .pointer (some ⟨w.heap.size + 1, 0, none⟩)
              | 5 => v = .slice (some ⟨g, 0, none⟩) d.secs.length d.secs.length
              | 6 => v = .pointer (some ⟨w3.heap.size, 0, none⟩)
              | 7 => v = .int .i64 d.pend[n].pl
              | 8 => v = .pointer (some ⟨g, d.pend[n].pl.toNat, none⟩)
              | 9 => v = .slice A0 old.length c0
              | 10 => v = .pointer (some ⟨w3.heap.size, 1, none⟩)
              | 11 => v = .slice A1 128 c1
              | 12 => ∃ g2, v = .slice (some ⟨g2, 0, none⟩) 128 128 ∧ w5.heap.size ≤ g2 ∧ DB W g2 sn
              | 13 => v = .pointer (some ⟨g, d.pend[n].pl.toNat, none⟩)
              | _ => True) (fun _ => false)
            (by kernel_rfl) (by kernel_rfl) (by kernel_rfl) (by kernel_rfl) (by kernel_rfl) (by kernel_rfl) (by kernel_rfl) ?_ (fun _ _ h => h.size) (dN (Below.refl _ _) 1) ?_ ?_
          · intro i v W W' hb hF
            match i, hF with
            | 0, h => exact h
            | 1, h => exact h
            | 2, h => exact h
            | 3, h => exact h
            | 4, h => exact h
            | 5, h => exact h
            | 6, h => exact h
            | 7, h => exact h
            | 8, h => exact h
            | 9, h => exact h
            | 10, h => exact h
            | 11, h => exact h
            | 12, ⟨g, h1, h2, h3⟩ => exact ⟨g, h1, h2, h3.below hb h3.lt⟩
            | 13, h => exact h
            | _ + 14, _ => trivial
          · refine ⟨?_, ?_, ?_, ?_, ?_, ?_, ?_, ?_, ?_, ?_, ?_, ?_, ?_, ?_, trivial⟩
            · refine stepJ_val' (fun _ _ => Below.refl _ _) rfl rfl rfl fun ac W hA hG hD => ⟨_, ?_, rfl⟩
              have h2 := hA.getD (t := 2) (by kernel_rfl)
              simp only [Array.getD_eq_getD_getElem?] at h2
              simp [execOp, Act.eval, h2, go_sem]
            · refine stepJ_val' (fun _ _ => Below.refl _ _) rfl rfl rfl fun ac W hA hG hD => ⟨_, ?_, rfl⟩
              have h42 := hD.get 0 42 _ rfl rfl (by kernel_rfl)
              simp only [Array.getD_eq_getD_getElem?] at h42
              have c0 := (hG.cell (p := ⟨w.heap.size + 1, 0, none⟩) hs5).trans (cell_of_row w5 _ 0 _ _ _ x5.out)
              simp only [List.getElem?_toArray, List.getElem?_cons_zero, List.getElem?_cons_succ] at c0
              simp [execOp, Act.eval, h42, go_sem, c0]
            · refine stepJ_val' (fun _ _ => Below.refl _ _) rfl rfl rfl fun ac W hA hG hD => ⟨_, ?_, rfl⟩
              have h5 := hA.getD (t := 5) (by kernel_rfl)
              simp only [Array.getD_eq_getD_getElem?] at h5
              simp [execOp, Act.eval, h5, go_sem]
            · refine stepJ_val' (fun _ _ => Below.refl _ _) rfl rfl rfl fun ac W hA hG hD => ⟨_, ?_, rfl⟩
              have h44 := hD.get 2 44 _ rfl rfl (by kernel_rfl)
              simp only [Array.getD_eq_getD_getElem?] at h44
              have c0 := (hG.cell (p := ⟨w3.heap.size, 0, none⟩) hs3).trans (cell_of_row w5 _ 0 _ _ _ n5.out)
              simp only [List.getElem?_toArray, List.getElem?_cons_zero, List.getElem?_cons_succ] at c0
              simp [execOp, Act.eval, h44, go_sem, c0]
            · refine stepJ_val' (fun _ _ => Below.refl _ _) rfl rfl rfl fun ac W hA hG hD => ⟨_, ?_, rfl⟩
              have h2 := hA.getD (t := 2) (by kernel_rfl)
              simp only [Array.getD_eq_getD_getElem?] at h2
              simp [execOp, Act.eval, h2, go_sem]
            · refine stepJ_val' (fun _ _ => Below.refl _ _) rfl rfl rfl fun ac W hA hG hD => ⟨_, ?_, rfl⟩
              have h46 := hD.get 4 46 _ rfl rfl (by kernel_rfl)
              simp only [Array.getD_eq_getD_getElem?] at h46
              have c0 := (hG.cell (p := ⟨w.heap.size + 1, 0, none⟩) hs5).trans (cell_of_row w5 _ 0 _ _ _ x5.out)
              simp only [List.getElem?_toArray, List.getElem?_cons_zero, List.getElem?_cons_succ] at c0
              simp [execOp, Act.eval, h46, go_sem, c0]
            · refine stepJ_val' (fun _ _ => Below.refl _ _) rfl rfl rfl fun ac W hA hG hD => ⟨_, ?_, rfl⟩
              have h5 := hA.getD (t := 5) (by kernel_rfl)
              simp only [Array.getD_eq_getD_getElem?] at h5
              simp [execOp, Act.eval, h5, go_sem]
            · refine stepJ_val' (fun _ _ => Below.refl _ _) rfl rfl rfl fun ac W hA hG hD => ⟨_, ?_, rfl⟩
              have h48 := hD.get 6 48 _ rfl rfl (by kernel_rfl)
              simp only [Array.getD_eq_getD_getElem?] at h48
              have c0 := (hG.cell (p := ⟨w3.heap.size, 0, none⟩) hs3).trans (cell_of_row w5 _ 0 _ _ _ n5.out)
              simp only [List.getElem?_toArray, List.getElem?_cons_zero, List.getElem?_cons_succ] at c0
              simp [execOp, Act.eval, h48, go_sem, c0]
            · refine stepJ_val' (fun _ _ => Below.refl _ _) rfl rfl rfl fun ac W hA hG hD => ⟨_, ?_, rfl⟩
              have h47 := hD.get 5 47 _ rfl rfl (by kernel_rfl)
              have h49 := hD.get 7 49 _ rfl rfl (by kernel_rfl)
              simp only [Array.getD_eq_getD_getElem?] at h47 h49
              simp [execOp, Act.eval, h47, h49, go_sem, i0, i1]
            · refine stepJ_val' (fun _ _ => Below.refl _ _) rfl rfl rfl fun ac W hA hG hD => ⟨_, ?_, rfl⟩
              have h50 := hD.get 8 50 _ rfl rfl (by kernel_rfl)
              simp only [Array.getD_eq_getD_getElem?] at h50
              have c9 := (hG.cell (p := ⟨g, d.pend[n].pl.toNat, none⟩) hg5).trans hA0'.out
              simp [execOp, Act.eval, h50, go_sem, c9]
            · refine stepJ_val' (fun _ _ => Below.refl _ _) rfl rfl rfl fun ac W hA hG hD => ⟨_, ?_, rfl⟩
              have h5 := hA.getD (t := 5) (by kernel_rfl)
              simp only [Array.getD_eq_getD_getElem?] at h5
              simp [execOp, Act.eval, h5, go_sem]
            · refine stepJ_val' (fun _ _ => Below.refl _ _) rfl rfl rfl fun ac W hA hG hD => ⟨_, ?_, rfl⟩
              have h52 := hD.get 10 52 _ rfl rfl (by kernel_rfl)
              simp only [Array.getD_eq_getD_getElem?] at h52
              have c1 := (hG.cell (p := ⟨w3.heap.size, 1, none⟩) hs3).trans (cell_of_row w5 _ 1 _ _ _ n5.out)
              simp only [List.getElem?_toArray, List.getElem?_cons_zero, List.getElem?_cons_succ] at c1
              simp [execOp, Act.eval, h52, go_sem, c1]
            · refine stepJ_any rfl fun ac W hA hG hD K hK => ?_
              have h51 := hD.get 9 51 _ rfl rfl (by kernel_rfl)
              have h53 := hD.get 11 53 _ rfl rfl (by kernel_rfl)
              simp only [Array.getD_eq_getD_getElem?] at h51 h53
              rw [if_pos (by rfl)]
              refine wp_call (f := 36) (args := #[.slice A0 old.length c0, .slice A1 128 c1]) (by simp [execOp, Act.eval, h51, h53, go_sem]) ((hT.out W hG).mono fun e W' he => ?_)
              obtain ⟨rfl, ho, hbw⟩ := he
              exact hK _ _ (hG.trans (hbw.mono hG.size)) hbw ⟨_, rfl, hG.size, ho⟩ (fun h => by cases h)
            · refine stepJ_val' (fun _ _ => Below.refl _ _) rfl rfl rfl fun ac W hA hG hD => ⟨_, ?_, rfl⟩
              have h43 := hD.get 1 43 _ rfl rfl (by kernel_rfl)
              have h45 := hD.get 3 45 _ rfl rfl (by kernel_rfl)
              simp only [Array.getD_eq_getD_getElem?] at h43 h45
              simp [execOp, Act.eval, h43, h45, go_sem, i0, i1]
          · intro fu T W hG hF hne hltb
            have e42 : T 42 = .pointer (some ⟨w.heap.size + 1, 0, none⟩) := hF 0 _ rfl (by omega)
            have e43 : T 43 = .slice (some ⟨g, 0, none⟩) d.secs.length d.secs.length := hF 1 _ rfl (by omega)
            have e44 : T 44 = .pointer (some ⟨w3.heap.size, 0, none⟩) := hF 2 _ rfl (by omega)
            have e45 : T 45 = .int .i64 d.pend[n].pl := hF 3 _ rfl (by omega)
            have e46 : T 46 = .pointer (some ⟨w.heap.size + 1, 0, none⟩) := hF 4 _ rfl (by omega)
            have e47 : T 47 = .slice (some ⟨g, 0, none⟩) d.secs.length d.secs.length := hF 5 _ rfl (by omega)
            have e48 : T 48 = .pointer (some ⟨w3.heap.size, 0, none⟩) := hF 6 _ rfl (by omega)
            have e49 : T 49 = .int .i64 d.pend[n].pl := hF 7 _ rfl (by omega)
            have e50 : T 50 = .pointer (some ⟨g, d.pend[n].pl.toNat, none⟩) := hF 8 _ rfl (by omega)
            have e51 : T 51 = .slice A0 old.length c0 := hF 9 _ rfl (by omega)
            have e52 : T 52 = .pointer (some ⟨w3.heap.size, 1, none⟩) := hF 10 _ rfl (by omega)
            have e53 : T 53 = .slice A1 128 c1 := hF 11 _ rfl (by omega)
            obtain ⟨g2, e54, hg2, hd2⟩ := hF 12 _ rfl (by omega)
            have e54 : T 54 = _ := e54
            have e55 : T 55 = .pointer (some ⟨g, d.pend[n].pl.toNat, none⟩) := hF 13 _ rfl (by omega)
            clear hF hne hltb
            simp only [List.take, fillT, List.setIfInBounds_toArray, List.set_cons_zero, List.set_cons_succ, e42, e43, e44, e45, e46, e47, e48, e49, e50, e51, e52, e53, e54, e55]
            clear e42 e43 e44 e45 e46 e47 e48 e49 e50 e51 e52 e53 e54 e55
            have hcW := (hG.cell (p := ⟨g, d.pend[n].pl.toNat, none⟩) hg5).trans hA0'.out
            have oW := o5.out.step hG
            have hfW := oW.frozen d.pend[n].pl.toNat
            refine wpAny_ready (rs := [14]) (by kernel_rfl) (by simp) (AllReady.cons (o := ⟨none, .store 35 (.tmp 55) (.tmp 54), _, _, _, none⟩) rfl (fun K1 hK1 => ?_) AllReady.nil)
            rw [if_pos (by rfl)]
            refine wp_store_one 35 _ _ rfl g d.pend[n].pl.toNat rfl (.slice (some ⟨g2, 0, none⟩) 128 128) rfl rfl rfl Try.sizeOf35 _ hcW hfW ?_
            refine hK1 _ _ ?_
            clear hK1 K1
            refine wpAny_done (by kernel_rfl) ?_ _
            simp only [Act.put]
            have o9 := Lib.hid (oW.set (fun b hb => by have := hS b hb; omega) (i := d.pend[n].pl.toNat) (v := .slice (some ⟨g2, 0, none⟩) 128 128) (l := sn) ⟨some ⟨g2, 0, none⟩, 128, by rw [hsn'.out], by rw [hsn'.out]; omega, by unfold maxLen; omega, hd2.readsIn ⟨Or.inr (by omega), hd2.lt⟩⟩)
            have x9 := ((heap_setCell_other W ⟨g, d.pend[n].pl.toNat, none⟩ (w.heap.size + 1) (.slice (some ⟨g2, 0, none⟩) 128 128) (by show w.heap.size + 1 ≠ g; omega)).trans (hG.block _ hs5)).trans x5.out
            have B9 := Lib.hid ((B5.out.trans (hG.mono B5.out.size)).setCell (p := ⟨g, d.pend[n].pl.toNat, none⟩) (by show w.heap.size ≤ g; omega) (.slice (some ⟨g2, 0, none⟩) 128 128))
            rw [← hts.out] at o9
            clear hcW oW hfW hd2 hg2
            generalize W.setCell ⟨g, d.pend[n].pl.toNat, none⟩ (.slice (some ⟨g2, 0, none⟩) 128 128) = w9 at *
            have r0 := cell_of_row w9 _ 0 _ _ _ x9
            have r1 := cell_of_row w9 _ 1 _ _ _ x9
            have r2 := cell_of_row w9 _ 2 _ _ _ x9
            have r3 := cell_of_row w9 _ 3 _ _ _ x9
            simp only [List.getElem?_toArray, List.getElem?_cons_zero, List.getElem?_cons_succ] at r0 r1 r2 r3
            have rf := fun i => frozen_of_row w9 _ i _ _ x9
            clear x9 hG
            go_wp2_with fail
            refine bodyPost_ret (v := .tuple #[.agg #[.slice (some ⟨g, 0, none⟩) d.secs.length d.secs.length, .slice none 0 0, .int .i64 (d.left - n), .bool true], .int .i64 40]) (by simp [results, Try.results23, go_sem, r0, r1, r2, r3]) rfl ?_
            have s9 := fun (V : World) (o : Nat) (u : Value) (h : OS V S g (tornS (applyW d.secs (d.pend.take n)) d.pend[n])) => h.cell1 (x := w.heap.size + 1) o u (fun b hb => Nat.lt_succ_of_lt (hS b hb)) hg3
            have hf := s9 _ 3 (.bool true) (s9 _ 2 (.int .i64 (d.left - n)) (s9 _ 1 (.slice none 0 0) (s9 _ 0 (.slice (some ⟨g, 0, none⟩) d.secs.length d.secs.length) (s9 _ 3 (.bool true) o9.out))))
            have hlen : (tornS (applyW d.secs (d.pend.take n)) d.pend[n]).length = d.secs.length := by unfold tornS; rw [List.length_set, applyW_length]
            have h0 : d.left - n = 0 := by have := hL'.out; omega
            rw [h0] at hf ⊢
            refine DkPost.of hv.out (((((B9.out.setCell (by simp) _).setCell (by simp) _).setCell (by simp) _).setCell (by simp) _).setCell (by simp) _) (some ⟨g, 0, none⟩) d.secs.length none 0 (by rw [hlen]; rfl) ⟨by rw [hlen]; exact Nat.le_refl _, by unfold maxLen; omega, Nat.le_refl _, Nat.zero_le _, hf.sr.mono (fun b hb => hb.elim .inl fun h => .inr ⟨by omega, h.2⟩), fun h => absurd h (Nat.lt_irrefl 0), by unfold I64; simp⟩
      
end Go.Proofs.Ytalkbccofiiojaa
