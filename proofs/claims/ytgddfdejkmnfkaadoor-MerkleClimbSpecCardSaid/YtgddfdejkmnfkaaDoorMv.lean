/- Prove. -/
import Derived.Test.YtgddfdejkmnfkaaDoorMu
namespace Go.Proofs.YtgddfdejkmnfkaaDoor
open Go.RowKit Go.Shelf
attribute [local go_sem] Oper.semAt_some

set_option maxRecDepth 100000 in
theorem Prove_bad (ls : List (List UInt8)) (i : Int) (hp : isPl ls.length i = false) (w : World) (A : Option Addr) (c : Nat) :
    Calls Tryd.prog 12 #[.slice A ls.length c, .int .i64 i] w fun e w' => (∃ v, e = .returned (.tuple #[v, .int .i64 (proveP ls i).2]) ∧ OD w' w.heap.size v (proveP ls i).1) ∧ Below w.heap.size w w' := by
  have hv := Lib.hid (show proveP ls i = ([], 1) by unfold proveP; rw [if_pos hp])
  have hb := bel1 w (.cells #[.slice none 0 0] 25)
  have hk := heap_alloc_new w (.cells #[.slice none 0 0] 25)
  go_enter Tryd.func12, Tryd.ntmps12
  go_wp2_with fail
  refine (isPlace_any _ i _).mono ?_
  rintro e w2 ⟨rfl, hb2⟩
  rw [hp]
  have hk2 := blk_at hk hb2
  have z0 := cellAt (i := 0) hk2 rfl
  have zf := frozenAt hk2 0
  have hB := Lib.hid (hb.trans (hb2.mono hb.size))
  clear hb hk hb2 hk2 hp
  go_wp2_with fail
  exact bodyPost_ret (v := .tuple #[.slice none 0 0, .int .i64 1]) (by simp [results, Tryd.results12, go_sem, z0]) rfl ⟨⟨_, by rw [hv.out], by rw [hv.out]; exact OD.nil _ _⟩, hB.out.setCell (p := ⟨w.heap.size, 0, none⟩) (Nat.le_refl _) _⟩

set_option maxRecDepth 100000 in
set_option maxHeartbeats 4000000 in
theorem Prove_good (ls : List (List UInt8)) (ix : Nat) (hn : ls.length ≤ 65536) (hi0 : ix < ls.length) (hsm : Small ls) (w : World) (A : Option Addr) (c : Nat) (hr : LL w w.heap.size ls A) (hK : KT w) (h0 : 0 < w.heap.size) :
    Calls Tryd.prog 12 #[.slice A ls.length c, .int .i64 (ix : Int)] w fun e w' => (∃ v, e = .returned (.tuple #[v, .int .i64 (proveP ls ix).2]) ∧ OD w' w.heap.size v (proveP ls ix).1) ∧ Below w.heap.size w w' := by
  have hp : isPl ls.length ix = true := isPl_iff.2 (by omega)
  have hv := Lib.hid (show proveP ls ix = (pathP (firstM ls) ls.length ix (rows ls.length), 0) by unfold proveP; rw [if_neg (by rw [hp]; decide)]; rfl)
  have h32 := Lib.hid (firstM_32 ls)
  have hFl := Lib.hid (firstM_len ls)
  have hb := bel1 w (.cells #[.slice none 0 0] 25)
  have hk := heap_alloc_new w (.cells #[.slice none 0 0] 25)
  have hKH := Lib.hid hK
  have hrH := Lib.hid hr
  clear hK hr
  refine (callsIn_wide (n := 9)).1 ?_
  refine callsIn_of_wp_marks Tryd.func12 rfl trivial ?_ rfl
  refine wpIn_wide.2 ?_
  simp only [Tryd.ntmps12, List.size_toArray, List.length_cons, List.length_nil, Nat.reduceAdd, Nat.reduceSub, Array.replicate_succ, Array.replicate_zero, List.push_toArray, List.append_toArray, List.nil_append, List.cons_append]
  go_wp2_with fail
  refine (isPlace_any _ _ _).mono ?_
  rintro e w1 ⟨rfl, hb1⟩
  rw [hp]
  have hk1 := blk_at hk hb1
  have hB1 := hb.trans (hb1.mono hb.size)
  have s1 := hb1.size
  rw [World.size_alloc] at s1
  clear hb hk hb1 hp
  have hb2 := bel1 w1 (.cells #[.func (.func 21) #[] #[]] 45)
  have hk2 := heap_alloc_new w1 (.cells #[.func (.func 21) #[] #[]] 45)
  have hB2 := hB1.trans (hb2.mono hB1.size)
  have s2 : (w1.alloc (.cells #[.func (.func 21) #[] #[]] 45)).heap.size = w1.heap.size + 1 := by simp
  have hF := Lib.hid (first_any ls (by omega) hsm (w1.alloc (.cells #[.func (.func 21) #[] #[]] 45)) A c (hrH.out.lift hB2 hB2.size) (hKH.out.below hB2 h0) (Nat.lt_of_lt_of_le h0 hB2.size))
  go_wp2_with fail
  refine hF.out.mono ?_
  rintro e w3 ⟨v3, rfl, ho3, hb3⟩
  obtain ⟨F, hFF⟩ : ∃ F, firstM ls = F := ⟨_, rfl⟩
  rw [hFF] at ho3 h32 hFl hv
  obtain ⟨a3, c3, rfl⟩ := ho3.form
  rw [hFl.out] at ho3 ⊢
  have s3 := hb3.size
  rw [s2] at s3
  have hB3 := hB2.trans (hb3.mono hB2.size)
  have hk3 := blk_at (blk_at hk1 hb2) hb3
  have hk4 := blk_at hk2 hb3
  have hb5 := bel1 w3 (.cells #[.slice a3 ls.length c3] 25)
  have hk5 := heap_alloc_new w3 (.cells #[.slice a3 ls.length c3] 25)
  have hP5 : PI w (pathP F ls.length ix 0) (rowL F 0) w1.heap.size w3.heap.size (.slice none 0 0) (.slice a3 ls.length c3) (w3.alloc (.cells #[.slice a3 ls.length c3] 25)) :=
    ⟨hB3.trans (hb5.mono hB3.size), blk_at hk3 hb5, blk_at hk4 hb5, hk5, OD.nil _ _, (ownsRow_mono ho3 (by rw [s2]; omega) : OD w3 (w.heap.size + 1) _ F).below hb5, fun g _ e => by cases e⟩
  clear hF hB1 hB2 hB3 hb2 hb3 hk1 hk2 hk3 hk4 hk5 ho3 hb5 hFF
  go_wp2_with fail
  have s5 : (w3.alloc (.cells #[.slice a3 ls.length c3] 25)).heap.size = w3.heap.size + 1 := by simp
  generalize w3.alloc (.cells #[.slice a3 ls.length c3] 25) = w5 at hP5 s5 ⊢
  refine (way_any _ _ _).mono ?_
  rintro e w6 ⟨rfl, rfl⟩
  go_wp2_with fail
  have b6 := bel1 w5 (.cells #[.int .i64 (ls.length : Int)] 3)
  have k6 := heap_alloc_new w5 (.cells #[.int .i64 (ls.length : Int)] 3)
  obtain ⟨V6, hV6⟩ : ∃ V, w5.alloc (.cells #[.int .i64 (ls.length : Int)] 3) = V := ⟨_, rfl⟩
  have s6 : V6.heap.size = w5.heap.size + 1 := by rw [← hV6]; simp
  rw [hV6] at b6 k6 ⊢
  have b7 := bel1 V6 (.cells #[.int .i64 (ix : Int)] 3)
  have k7 := heap_alloc_new V6 (.cells #[.int .i64 (ix : Int)] 3)
  obtain ⟨W0, hV7⟩ : ∃ V, V6.alloc (.cells #[.int .i64 (ix : Int)] 3) = V := ⟨_, rfl⟩
  have s7 : W0.heap.size = w5.heap.size + 2 := by rw [← hV7]; simp; omega
  rw [hV7] at b7 k7 ⊢
  have q6 := blk_at k6 b7
  rw [s6] at k7
  have hPW := (hP5.step b6).step b7
  clear hV6 hV7 b6 b7 k6 hP5 s6
  obtain ⟨B6, hB6⟩ : ∃ B, w1.heap.size = B := ⟨_, rfl⟩
  obtain ⟨B7, hB7⟩ : ∃ B, w3.heap.size = B := ⟨_, rfl⟩
  rw [hB6] at s1 s2 s3 hPW ⊢
  rw [hB7] at s3 s5 hPW ⊢
  have h6 : w.heap.size < B6 := by omega
  have h67 : B6 < B7 := by omega
  have h7 : w.heap.size < B7 := by omega
  clear hB6 hB7
  rw [s5] at q6 k7
  refine (wpIn_wide (n := 9)).1 ?_
  refine wpIn_rangeFunc_at rfl (by omega) (gf := 43) (lb := #[.pointer (some ⟨B7 + 1, 0, none⟩), .pointer (some ⟨B7 + 1 + 1, 0, none⟩)]) rfl trivial (enters_of Tryd.func43 (by kernel_rfl) rfl)
    (way_gives Fence.wide _ trivial rfl (by omega) (B7 + 1) (B7 + 1 + 1) ls.length ix hn hi0 W0 (by omega) (by omega) (cellAt (i := 0) q6 rfl) (cellAt (i := 0) k7 rfl))
    (fun _ _ => trivial) (fun _ _ _ _ _ _ _ _ => trivial) (Below.refl _ _) (fun _ _ => rfl)
    (fun k W => (∃ u v, PI w (pathP F ls.length ix k) (rowL F k) B6 B7 u v W) ∧ w5.heap.size + 2 ≤ W.heap.size) (fun _ _ _ => False)
    (OwnFrom.and (PI.own (lp := pathP F ls.length ix) (lr := rowL F) (by omega)) (fun _ _ _ _ hs hg _ => Nat.le_trans hs hg.size))
    (fun _ _ _ _ _ hs _ _ => hs) ⟨⟨_, _, hPW⟩, by omega⟩
    (StepAx ls.length ix (w5.heap.size + 2) (fun k Bx => #[.slice A ls.length c, .int .i64 (ix : Int), undef, undef, .pointer (some ⟨w.heap.size, 0, none⟩), .int .i64 0, .pointer (some ⟨B6, 0, none⟩), .pointer (some ⟨B7, 0, none⟩), .pointer (some ⟨Bx, 0, none⟩), .slice A ls.length c, .int .i64 (ls.length : Int), .int .i64 (ix : Int), .bool true, .bool false, .func (.func 21) #[] #[], .slice A ls.length c, .slice a3 ls.length c3, .slice A ls.length c, .int .i64 (ls.length : Int), .int .i64 (ix : Int), .func (.func 43) #[] #[.pointer (some ⟨B7 + 1, 0, none⟩), .pointer (some ⟨B7 + 1 + 1, 0, none⟩)], .agg #[.int .i64 (rowN ls.length k : Int), .int .i64 (rowI ix k : Int)], undef, undef, undef, undef, undef, undef, undef, undef, undef, undef, undef, undef, undef, undef, undef])) (fun k a' => stepAx_own k a') ?assign ?body ?done ?stop
  case assign =>
    rintro lp k W K hk ⟨⟨u, v, hP⟩, hsz⟩ hK
    unfold wayV
    gi_wp2
    exact hK _ _ ((KeepsOthers.alloc _ _).from _) trivial ⟨⟨u, v, hP.step (bel1 _ _)⟩, by simp; omega⟩ ⟨W.heap.size, hsz, heap_alloc_new W _, rfl⟩
  case body =>
    rintro lp k a' W hl2 - hk ⟨⟨u, v, hP⟩, hsz⟩ ⟨Bx, hBx, bX, rfl⟩
    have hle := rowN_le ls.length k
    have hgt := rowN_gt k ls.length hk
    have hle2 := rowI_le ix k
    obtain ⟨a2, c2, rfl⟩ := hP.ou.form
    obtain ⟨a3, c3, rfl⟩ := hP.ov.form
    rw [pathP_len, rowL_len, hFl.out] at hP
    have hcon : Hid (Calls Tryd.prog 26 #[.agg #[.int .i64 (rowN ls.length k : Int), .int .i64 (rowI ix k : Int)]] W fun e w' => e = .returned (.bool (lone ls.length ix k)) ∧ Below W.heap.size W w') := alone_any (rowN ls.length k) (rowI ix k) (by omega) W
    have x0 := cellAt (i := 0) bX rfl
    have x1 := cellAt (i := 1) bX rfl
    cases hL : lone ls.length ix k with
    | true =>
      rw [hL] at hcon
      gi_upto_region 9 with (refine ⟨trivial, ?_⟩; gi_at_call 26; refine (CallsIn.inRound lp (callsIn_wide.2 hcon.out)).mono ?_)
      rintro e W1 ⟨rfl, hb5⟩
      have hPx := Lib.hid (hP.step hb5)
      have hkf := (keepsBel hb5).from W0.heap.size
      have hszx := Nat.le_trans hsz hb5.size
      have hlp : pathP F ls.length ix (k + 1) = pathP F ls.length ix k := by rw [pathP, if_pos hL]
      clear x0 x1 hcon hP hb5
      have hRD := hPx.out.ov.reads (rowL_32 h32.out k)
      rw [rowL_len, hFl.out] at hRD
      obtain ⟨a5, c5, e5, hRD⟩ := hRD
      injection e5 with e51 e52 e53
      subst e51 e53
      have hN9 := next_any (rowL F k) (by rw [rowL_len, hFl.out]; omega) (by rw [rowL_len, hFl.out]; omega) W1 a3 c3 hRD (hKH.out.below hPx.out.bel h0) (Nat.lt_of_lt_of_le h0 hPx.out.bel.size)
      rw [rowL_len, hFl.out] at hN9
      replace hN9 := Lib.hid hN9
      have y6 := cellAt (i := 0) hPx.out.bh rfl
      have y7 := cellAt (i := 0) hPx.out.bv rfl
      clear hRD
      gi_wp2_with (refine ⟨trivial, ?_⟩; gi_at_call 28; refine (CallsIn.inRound lp (callsIn_wide.2 hN9.out)).mono ?_)
      intro e w10
      first | rintro v10 rfl ho10 hb10 | rintro ⟨v10, rfl, ho10, hb10⟩
      obtain ⟨a10, c10, rfl⟩ := ho10.form
      have hPn := Lib.hid (hPx.out.row h67 h7 hb10 ho10)
      have z7 := cellAt (i := 0) (blk_at hPx.out.bv hb10) rfl
      have zf := frozenAt (blk_at hPx.out.bv hb10) 0
      have hb10' := Lib.hid hb10
      have hszW := hPx.out.bel.size
      clear ho10 hb10 y6 y7 hN9 hPx
      gi_wp2
      refine ⟨(hkf.trans ((keepsBel hb10'.out).from _)).trans ((KeepsOthers.setCell _ _ _).from _), trivial, ⟨_, _, by rw [hlp]; exact hPn.out⟩, by simp; exact Nat.le_trans hszx hb10'.out.size⟩
    | false =>
      rw [hL] at hcon
      gi_upto_region 8 with (refine ⟨trivial, ?_⟩; gi_at_call 26; refine (CallsIn.inRound lp (callsIn_wide.2 hcon.out)).mono ?_)
      rintro e W1 ⟨rfl, hb5⟩
      gi_upto_region 8 with fail
      have hP1 := Lib.hid (hP.step hb5)
      have bX := blk_at bX hb5
      have hnl := not_lone hL
      obtain ⟨a6, c6, e6, hRD⟩ := hP1.out.ov.reads (rowL_32 h32.out k)
      rw [rowL_len, hFl.out] at e6
      injection e6 with e61 e62 e63
      subst e61 e63
      have hjl : oth (rowI ix k) < (rowL F k).length := by rw [rowL_len, hFl.out]; exact hnl
      obtain ⟨b, off, rfl, hb, hrg⟩ := hRD.at_ hjl
      obtain ⟨xe, hxe⟩ : ∃ x, (rowL F k).getD (oth (rowI ix k)) [] = x := ⟨_, rfl⟩
      have hge : (rowL F k)[oth (rowI ix k)] = xe := by rw [← hxe, List.getD_eq_getElem?_getD, List.getElem?_eq_getElem hjl]; rfl
      rw [hge] at hrg
      have hlE := Lib.hid (show xe.length = 32 by rw [← hxe]; exact row_elem_32 h32.out hjl)
      replace hxe := Lib.hid hxe
      have hszj := Lib.hid (DV_size hlE.out)
      have hkl := Lib.hid (show ((0 : Int) ≤ (oth (rowI ix k) : Int)) ∧ ((oth (rowI ix k) : Int) < (rowN ls.length k : Int)) ∧ oth (rowI ix k) < rowN ls.length k from ⟨by omega, by omega, hnl⟩)
      have hrl := Lib.hid (show rowI ix k < 65536 by omega)
      have hN : Hid (∀ W, Below W1.heap.size W1 W → W.cell? ⟨w.heap.size, 0, none⟩ = some (.slice a2 (used ls.length ix k) c2) ∧ W.cell? ⟨B7, 0, none⟩ = some (.slice (some ⟨b, off, none⟩) (rowN ls.length k) c3) ∧ W.cell? ⟨Bx, 0, none⟩ = some (.int .i64 (rowN ls.length k : Int)) ∧ W.cell? ⟨Bx, 1, none⟩ = some (.int .i64 (rowI ix k : Int))) := fun W hW => ⟨cellAt (i := 0) (blk_at hP1.out.bu hW) rfl, cellAt (i := 0) (blk_at hP1.out.bv hW) rfl, cellAt (i := 0) (blk_at bX hW) rfl, cellAt (i := 1) (blk_at bX hW) rfl⟩
      have hbw := Lib.hid hb
      replace hrg := Lib.hid hrg
      have huH := Lib.hid (show Tryd.prog.underlying 30 = some (.array 32 5) by kernel_rfl)
      have hiH := Lib.hid (show (Tryd.prog.info? 30).map (·.size) = some 32 by kernel_rfl)
      have hb5' := Lib.hid hb5
      clear x0 x1 hcon hP hb5 hRD hge hb bX
      refine wpIn_region_pre lp _ ?_ (by kernel_rfl) 7 2 (fun W => Below W1.heap.size W1 W) (fun W W' => Below W.heap.size W W')
        (fun i v W => match i with
          | 0 => v = .slice a2 (used ls.length ix k) c2
          | 1 => v = .slice (some ⟨b, off, none⟩) (rowN ls.length k) c3
          | 2 => v = .agg #[.int .i64 (rowN ls.length k : Int), .int .i64 (rowI ix k : Int)]
          | 3 => v = .int .i64 (oth (rowI ix k) : Int)
          | 4 => v = .pointer (some ⟨b, off + oth (rowI ix k) * 32, none⟩)
          | 5 => v = .agg (BV xe).toArray
          | 6 => ∃ g, v = .slice (some ⟨g, 0, none⟩) 1 1 ∧ DB W g 30 xe
          | _ => True) (fun _ => false)
        (by kernel_rfl) (by kernel_rfl) (by kernel_rfl) (by kernel_rfl) (by kernel_rfl) (by kernel_rfl) (by kernel_rfl) ?_ (fun _ _ h => h.size) (dN (Below.refl _ _) 1) ?_ ?_
      · rintro ⟨_, _, h⟩; exact h
      · intro i v W W' hb hF
        match i, hF with
        | 0, h => exact h
        | 1, h => exact h
        | 2, h => exact h
        | 3, h => exact h
        | 4, h => exact h
        | 5, h => exact h
        | 6, ⟨g, h1, h2⟩ => exact ⟨g, h1, blk_at h2 hb⟩
        | _ + 7, _ => trivial
      · refine ⟨?_, ?_, ?_, ?_, ?_, ?_, ?_, trivial⟩
        · refine stepJ_any rfl fun ac W hAA hG hDD K hK => ?_
          have h4 := hAA.getD (t := 4) (by kernel_rfl)
          simp only [Array.getD_eq_getD_getElem?] at h4
          obtain ⟨k0, k1, k2, k3⟩ := hN.out W hG
          rw [if_pos (by rfl)]
          exact wp_val (v := .slice a2 (used ls.length ix k) c2) (w' := W) (by simp [execOp, Act.eval, h4, go_sem, k0]) (hK _ _ hG (Below.refl _ _) rfl (fun h => by cases h))
        · refine stepJ_any rfl fun ac W hAA hG hDD K hK => ?_
          have h7 := hAA.getD (t := 7) (by kernel_rfl)
          simp only [Array.getD_eq_getD_getElem?] at h7
          obtain ⟨k0, k1, k2, k3⟩ := hN.out W hG
          rw [if_pos (by rfl)]
          exact wp_val (v := .slice (some ⟨b, off, none⟩) (rowN ls.length k) c3) (w' := W) (by simp [execOp, Act.eval, h7, go_sem, k1]) (hK _ _ hG (Below.refl _ _) rfl (fun h => by cases h))
        · refine stepJ_any rfl fun ac W hAA hG hDD K hK => ?_
          have h8 := hAA.getD (t := 8) (by kernel_rfl)
          simp only [Array.getD_eq_getD_getElem?] at h8
          obtain ⟨k0, k1, k2, k3⟩ := hN.out W hG
          rw [if_pos (by rfl)]
          exact wp_val (v := .agg #[.int .i64 (rowN ls.length k : Int), .int .i64 (rowI ix k : Int)]) (w' := W) (by simp [execOp, Act.eval, h8, go_sem, k2, k3]) (hK _ _ hG (Below.refl _ _) rfl (fun h => by cases h))
        · refine stepJ_any rfl fun ac W hAA hG hDD K hK => ?_
          have h27 := hDD.get 2 27 _ rfl rfl (by kernel_rfl)
          simp only [Array.getD_eq_getD_getElem?] at h27
          rw [if_pos (by rfl)]
          refine wp_call (f := 27) (args := #[.agg #[.int .i64 (rowN ls.length k : Int), .int .i64 (rowI ix k : Int)]]) (by simp [execOp, Act.eval, h27, go_sem]) ((other_any (rowN ls.length k) (rowI ix k) hrl.out W).mono fun e W9 he => ?_)
          obtain ⟨rfl, hbw⟩ := he
          exact hK _ _ (hG.trans (hbw.mono hG.size)) hbw rfl (fun h => by cases h)
        · refine stepJ_any rfl fun ac W hAA hG hDD K hK => ?_
          have h26 := hDD.get 1 26 _ rfl rfl (by kernel_rfl)
          have h28 := hDD.get 3 28 _ rfl rfl (by kernel_rfl)
          simp only [Array.getD_eq_getD_getElem?] at h26 h28
          have hkl := hkl.out
          rw [if_pos (by rfl)]
          exact wp_val (v := .pointer (some ⟨b, off + oth (rowI ix k) * 32, none⟩)) (w' := W) (by simp [execOp, Act.eval, h26, h28, go_sem, hkl]) (hK _ _ hG (Below.refl _ _) rfl (fun h => by cases h))
        · refine stepJ_any rfl fun ac W hAA hG hDD K hK => ?_
          have h29 := hDD.get 4 29 _ rfl rfl (by kernel_rfl)
          rw [if_pos (by rfl)]
          exact wp_load_mid 30 _ rfl b (off + oth (rowI ix k) * 32) h29 (BV xe) _ (fun j v hv => ((hG.cell (p := ⟨b, off + oth (rowI ix k) * 32 + j, none⟩) hbw.out).trans (hrg.out j v hv))) huH.out rfl (by rw [hiH.out, BV_length, hlE.out]) (hK _ _ hG (Below.refl _ _) rfl (fun h => by cases h))
        · refine stepJ_any rfl fun ac W hAA hG hDD K hK => ?_
          have h30 := hDD.get 5 30 _ rfl rfl (by kernel_rfl)
          rw [if_pos (by rfl)]
          simp only [Array.getD_eq_getD_getElem?] at h30
          exact wp_val (v := .slice (some ⟨W.heap.size, 0, none⟩) 1 1) (w' := W.alloc (.cells (BV xe).toArray 30)) (by simp [execOp, Act.eval, h30, hszj.out, go_sem]; rw [one_cells hlE.out]) (hK _ _ (hG.alloc hG.size _) (bel1 W _) ⟨_, rfl, heap_alloc_new W _⟩ (fun h => by cases h))
      intro fu T w9 hG hF hne hltb
      have e25 : T 25 = .slice a2 (used ls.length ix k) c2 := hF 0 _ rfl (by omega)
      have e26 : T 26 = .slice (some ⟨b, off, none⟩) (rowN ls.length k) c3 := hF 1 _ rfl (by omega)
      have e27 : T 27 = .agg #[.int .i64 (rowN ls.length k : Int), .int .i64 (rowI ix k : Int)] := hF 2 _ rfl (by omega)
      have e28 : T 28 = .int .i64 (oth (rowI ix k) : Int) := hF 3 _ rfl (by omega)
      have e29 : T 29 = .pointer (some ⟨b, off + oth (rowI ix k) * 32, none⟩) := hF 4 _ rfl (by omega)
      have e30 : T 30 = .agg (BV xe).toArray := hF 5 _ rfl (by omega)
      obtain ⟨g6, e31, hg6⟩ := hF 6 _ rfl (by omega)
      replace e31 : T 31 = _ := e31
      clear hF hne hltb
      simp only [List.take, fillT, List.setIfInBounds_toArray, List.set_cons_zero, List.set_cons_succ, e25, e26, e27, e28, e29, e30, e31]
      clear e25 e26 e27 e28 e29 e30 e31
      have hP9 := hP1.out.step hG
      obtain ⟨a7, c7, w10, hr10, hO10, hg10, hu10⟩ := hP9.ou.app 25 g6 _ hg6 hlE.out (by rw [pathP_len]; have := used_le ls.length ix k; have := rows_16 hn; omega) (by have := hP9.bel.size; have := (Array.getElem?_eq_some_iff.1 hP9.bu).1; omega)
      have hl10 : (pathP F ls.length ix k ++ [xe]).length = used ls.length ix k + 1 := by rw [List.length_append, pathP_len]; rfl
      rw [hl10] at hr10 hO10 hu10
      obtain ⟨k10, hP11, hk11⟩ := hP9.path h6 h7 hO10 hg10 hu10
      refine wpAny_ready (rs := [7]) (by kernel_rfl) (by simp) (AllReady.cons (o := ⟨(some 32), (Op.call { callee := (Callee.builtin Builtin.append), args := #[(Operand.tmp 25), (Operand.tmp 31)], argTypes := #[25, 25] }), _, _, _, none⟩) rfl (fun K1 hK1 => ?_) AllReady.nil)
      rw [if_pos (by rfl)]
      refine Lib.wp_append_run w9 (.tmp 25) (.tmp 31) 25 25 rfl _ _ rfl rfl _ w10 hr10 ?_
      refine hK1 _ _ ?_
      clear hK1 K1
      refine wpAny_ready (rs := [8]) (by kernel_rfl) (by simp) (AllReady.cons (o := ⟨none, (Op.store 25 (Operand.tmp 4) (Operand.tmp 32)), _, _, _, none⟩) rfl (fun K1 hK1 => ?_) AllReady.nil)
      rw [if_pos (by rfl)]
      refine wp_store_one 25 (.tmp 4) (.tmp 32) rfl w.heap.size 0 rfl (.slice a7 (used ls.length ix k + 1) c7) rfl rfl rfl Tryd.sizeOf25 _ (cellAt (i := 0) k10 rfl) (frozenAt k10 0) ?_
      refine hK1 _ _ ?_
      clear hK1 K1
      refine wpAny_done (by kernel_rfl) ?_ _
      simp only [Act.put, List.setIfInBounds_toArray, List.set_cons_zero, List.set_cons_succ]
      have hlp : pathP F ls.length ix (k + 1) = pathP F ls.length ix k ++ [xe] := by rw [pathP, if_neg (by rw [hL]; decide), hxe.out]
      have hkf := ((((keepsBel hb5'.out).trans (keepsBel hG)).trans hk11).from W0.heap.size)
      have hszx : w5.heap.size + 2 ≤ (w10.setCell ⟨w.heap.size, 0, none⟩ (.slice a7 (used ls.length ix k + 1) c7)).heap.size := Nat.le_trans (Nat.le_trans hsz hb5'.out.size) (Nat.le_trans hG.size hk11.size)
      generalize w10.setCell ⟨w.heap.size, 0, none⟩ (.slice a7 (used ls.length ix k + 1) c7) = W11 at hP11 hkf hszx ⊢
      have hPx := Lib.hid hP11
      obtain ⟨a3, ha3⟩ : ∃ a, a = some (⟨b, off, none⟩ : Addr) := ⟨_, rfl⟩
      rw [← ha3] at hPx ⊢
      clear hr10 hO10 hg10 hu10 hl10 k10 hk11 hP9 hG hN hP1 hP11 ha3 hkl
      have hRD := hPx.out.ov.reads (rowL_32 h32.out k)
      rw [rowL_len, hFl.out] at hRD
      obtain ⟨a5, c5, e5, hRD⟩ := hRD
      injection e5 with e51 e52 e53
      subst e51 e53
      have hN9 := next_any (rowL F k) (by rw [rowL_len, hFl.out]; omega) (by rw [rowL_len, hFl.out]; omega) W11 a3 c3 hRD (hKH.out.below hPx.out.bel h0) (Nat.lt_of_lt_of_le h0 hPx.out.bel.size)
      rw [rowL_len, hFl.out] at hN9
      replace hN9 := Lib.hid hN9
      have y6 := cellAt (i := 0) hPx.out.bh rfl
      have y7 := cellAt (i := 0) hPx.out.bv rfl
      clear hRD
      gi_wp2_with (refine ⟨trivial, ?_⟩; gi_at_call 28; refine (CallsIn.inRound lp (callsIn_wide.2 hN9.out)).mono ?_)
      intro e w10
      first | rintro v10 rfl ho10 hb10 | rintro ⟨v10, rfl, ho10, hb10⟩
      obtain ⟨a10, c10, rfl⟩ := ho10.form
      have hPn := Lib.hid (hPx.out.row h67 h7 hb10 ho10)
      have z7 := cellAt (i := 0) (blk_at hPx.out.bv hb10) rfl
      have zf := frozenAt (blk_at hPx.out.bv hb10) 0
      have hb10' := Lib.hid hb10
      have hszW := hPx.out.bel.size
      clear ho10 hb10 y6 y7 hN9 hPx
      gi_wp2
      refine ⟨(hkf.trans ((keepsBel hb10'.out).from _)).trans ((KeepsOthers.setCell _ _ _).from _), trivial, ⟨_, _, by rw [hlp]; exact hPn.out⟩, by simp; exact Nat.le_trans hszx hb10'.out.size⟩
  case done =>
    rintro DD W hD ⟨⟨u, v, hP⟩, hsz⟩ hK
    obtain ⟨a2, c2, rfl⟩ := hP.ou.form
    rw [pathP_len] at hP
    have r0 := cellAt (i := 0) hP.bu rfl
    have rf := frozenAt hP.bu 0
    have hbu := Lib.hid hP.bu
    have hK' := Lib.hid hK
    have hO' := Lib.hid hP.ou
    have hB' := Lib.hid hP.bel
    clear hP hK
    gi_wp2
    go_wp2_with fail
    have hkk := (KeepsOthers.setCell W ⟨w.heap.size, 0, none⟩ (.slice a2 (used ls.length ix (rows ls.length)) c2)).same DD _ hK'.out rfl
    have hr := setOne (u := .slice a2 (used ls.length ix (rows ls.length)) c2) hbu.out
    refine ⟨by simp, .inl ⟨_, _, rfl, run_takeDeferred hkk, ?_⟩⟩
    have hc := cell_kept (cellAt (i := 0) hr rfl) (grownBy_putObj' _ DD (.deferred none)) (fun r e => by cases e; exact ⟨_, hkk, rfl⟩)
    have hBf := hB'.out.setCell (p := ⟨w.heap.size, 0, none⟩) (Nat.le_refl _) (.slice a2 (used ls.length ix (rows ls.length)) c2)
    refine ⟨.tuple #[.slice a2 (used ls.length ix (rows ls.length)) c2, .int .i64 0], ?_, ⟨_, by rw [hv.out], ?_⟩, hBf.trans (belowK_b (w := w) (Nat.le_refl _) _ DD _ _ (by omega) hkk rfl rfl)⟩
    · simp [results, Tryd.results12, go_sem, hc]
    · rw [hv.out]; exact ownsRow_mono ((hO'.out.box hbu.out (by decide) _).obj hkk rfl _) (by omega)
  case stop =>
    rintro DD c k W _ _ h _
    exact h.elim
theorem Prove_any (ls : List (List UInt8)) (i : Int) (hn : ls.length ≤ 65536) (hsm : Small ls) (w : World) (A : Option Addr) (c : Nat) (hr : LL w w.heap.size ls A) (hK : KT w) (h0 : 0 < w.heap.size) :
    Calls Tryd.prog 12 #[.slice A ls.length c, .int .i64 i] w fun e w' => (∃ v, e = .returned (.tuple #[v, .int .i64 (proveP ls i).2]) ∧ OD w' w.heap.size v (proveP ls i).1) ∧ Below w.heap.size w w' := by
  cases hp : isPl ls.length i with
  | false => exact Prove_bad ls i hp w A c
  | true =>
    have h := isPl_iff.1 hp
    obtain ⟨j, rfl⟩ := Int.eq_ofNat_of_zero_le h.2.1
    exact Prove_good ls j hn (by omega) hsm w A c hr hK h0
end Go.Proofs.YtgddfdejkmnfkaaDoor
