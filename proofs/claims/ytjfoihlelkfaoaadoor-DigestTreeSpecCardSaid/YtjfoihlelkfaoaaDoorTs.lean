/- DigestTreeSpec: the law. -/
import Derived.Test.YtjfoihlelkfaoaaDoorTb
import Derived.Test.YtjfoihlelkfaoaaDoorFs
import Derived.Test.YtjfoihlelkfaoaaDoorKp
namespace Go.Proofs.YtjfoihlelkfaoaaDoor
open Go.RowKit

attribute [local irreducible] Calls
set_option maxRecDepth 100000 in
set_option maxHeartbeats 4000000 in
theorem treeSpec_any (s : List UInt8) (at_ n : Int) (d : List UInt8) (hd : d.length = 32) (w : World) (A : Option Addr) (c : Nat) (hr : RBs w w.heap.size A s) (hs : s.length ≤ 9223372036854775807) (hK : KT w) (h0 : 0 < w.heap.size) : Calls Tryd.prog 3 #[.slice A s.length c, .int .i64 at_, .int .i64 n, .agg (BV d).toArray] w fun e w' => e = .returned (.bool true) ∧ Below w.heap.size w w' := by
  have hKH := Lib.hid hK
  have hlen : (dsOf s).length ≤ 24 := by rw [dsOf_length]; omega
  have h32 := dsTo_32 s (min s.length 24)
  rw [← dsOf_eq] at h32
  have hb0 : Below w.heap.size w (w.alloc (.cells (BV d).toArray 24)) := (Below.refl _ _).alloc (Nat.le_refl _) _
  have hd0 : DB (w.alloc (.cells (BV d).toArray 24)) w.heap.size 24 d := heap_alloc_new w _
  have hrH := Lib.hid (RBs.below hr hb0)
  have hK0 := hKH.out.below hb0 h0
  have hS := Lib.hid (sane_any _ hK0 (Nat.lt_of_lt_of_le h0 hb0.size))
  have hd0 := Lib.hid hd0
  have hb0 := Lib.hid hb0
  clear hK hr hK0
  go_enter Tryd.func3, Tryd.ntmps3
  go_wp2_with fail
  refine hS.out.mono ?_
  rintro e w1 ⟨rfl, hb1⟩
  have hD := digestsOf_any s w1 A c (RBs.below hrH.out hb1) hs
  have hd1 := Lib.hid (hd0.out.below hb1 hd0.out.lt)
  have hb1 := Lib.hid (hb0.out.trans (hb1.mono hb0.out.size))
  have hD' := Lib.hid hD
  clear hD hS
  go_wp2_with fail
  refine hD'.out.mono ?_
  rintro e w2 ⟨v, rfl, hod, hb2⟩
  generalize dsOf s = l at *
  have hod2 : OD w2 w.heap.size v l := ownsRow_mono hod hb1.out.size
  obtain ⟨a, cap, rfl, -⟩ := hod.reads h32
  obtain ⟨Q, F, q2⟩ : ∃ Q, Keeps w (.slice a l.length cap) l Q ∧ Q w2 := ⟨_, keeps_of hKH.out h0, hb1.out.trans (hb2.mono hb1.out.size), hod2⟩
  have hd2 := Lib.hid (hd1.out.below hb2 hd1.out.lt)
  have rd : ∀ W, Q W → RD W W.heap.size l a cap := fun W q => by
    obtain ⟨a', cap', e, h⟩ := (F.own W q).reads h32
    injection e with e1 e2 e3
    subst e1; subst e3
    exact h
  have rd' := Lib.hid rd
  have FH := Lib.hid F
  have h32H := Lib.hid h32
  have hT1 := Lib.hid (Tree_any l (by omega) w2 a cap (rd w2 q2) (F.kt _ q2) (F.pos _ q2))
  have hT2 : Hid (∀ W, Q W → Calls Tryd.prog 9 #[.slice a l.length cap] W fun e W' => e = .returned (.agg (BV (treeH l)).toArray) ∧ Below W.heap.size W W') := fun W q => rTree_any l (by omega) W a cap (rd W q)
  have heqT : ∀ W, (Op.equalIn 10000 24 (.agg (BV (treeH l)).toArray) (.agg (BV (treeH l)).toArray)).run Tryd.prog W = .ok true W := fun W => by
    rw [eq_digest (treeH l) (treeH l) (treeH_length _) (treeH_length _) W, beq_self_eq_true]
  have heqH := Lib.hid heqT
  have q2H := Lib.hid q2
  clear rd hod hod2 hb1 hb2 hD' hd1 hd0 hb0 hrH F h32 heqT
  go_wp2_with fail
  refine hT1.out.mono ?_
  rintro e w3 ⟨rfl, hb3⟩
  have q3 := Lib.hid (FH.out.step _ _ q2H.out hb3)
  have hd3 := Lib.hid (hd2.out.below hb3 hd2.out.lt)
  clear hb3 hT1 hd2 q2 q2H
  go_wp2_with fail
  refine (hT2.out _ q3.out).mono ?_
  rintro e w4 ⟨rfl, hb4⟩
  have q4 := Lib.hid (FH.out.step _ _ q3.out hb4)
  have hd4 := Lib.hid (hd3.out.below hb4 hd3.out.lt)
  have heq := heqH.out
  clear hb4 hT2 hd3 q3
  go_wp2_with fail
  have hb5 : Below w4.heap.size w4 (w4.alloc (.cells #[.int .i64 at_, .int .i64 (bits BinOp.and IntKind.i64 at_ 15)] 3)) := (Below.refl _ _).alloc (Nat.le_refl _) _
  have q5 := Lib.hid (FH.out.step _ _ q4.out hb5)
  have hd5 := Lib.hid (hd4.out.below hb5 hd4.out.lt)
  have hnew := heap_alloc_new w4 (.cells #[.int .i64 at_, .int .i64 (bits BinOp.and IntKind.i64 at_ 15)] 3)
  have hce : Hid (∀ j, j < 2 → ∃ z : Int, (w4.alloc (.cells #[.int .i64 at_, .int .i64 (bits BinOp.and IntKind.i64 at_ 15)] 3)).cell? ⟨w4.heap.size, j, none⟩ = some (.int .i64 z)) := fun j hj => by
    match j, hj with
    | 0, _ => exact ⟨_, by rw [cell_of_row _ w4.heap.size 0 _ _ _ hnew]; rfl⟩
    | 1, _ => exact ⟨_, by rw [cell_of_row _ w4.heap.size 1 _ _ _ hnew]; rfl⟩
  have hG1 : Hid (w4.heap.size < (w4.alloc (.cells #[.int .i64 at_, .int .i64 (bits BinOp.and IntKind.i64 at_ 15)] 3)).heap.size) := by show _ < _; simp
  clear hb5 hnew q4 hd4 heq
  generalize w4.alloc (.cells #[.int .i64 at_, .int .i64 (bits BinOp.and IntKind.i64 at_ 15)] 3) = W5 at *
  generalize w4.heap.size = G1 at *
  go_loopw [38] (fun x wr => ∃ j : Nat, x = .int .i64 (j : Int) ∧ j ≤ 2 ∧ Hid (Below W5.heap.size W5 wr)) (fun x _ => 2 - (intOf x).toNat)
  case atStart => exact ⟨0, rfl, by omega, Below.refl _ _⟩
  case round =>
    obtain ⟨j, rfl, hj, hbj⟩ := hrel
    by_cases hj2 : j < 2
    · have hj2' : (j : Int) < 2 := by omega
      have j0 : (0 : Int) ≤ j := by omega
      obtain ⟨z, hz0⟩ := hce.out j hj2
      have hz : wr.cell? ⟨G1, j, none⟩ = some (.int .i64 z) := (hbj.out.cell (p := ⟨G1, j, none⟩) hG1.out).trans hz0
      obtain ⟨P, er, hPl, hP32, hPa, hPb⟩ := path_both l hlen h32H.out z
      have qr := Lib.hid (FH.out.step _ _ q5.out hbj.out)
      have hPa1 := Lib.hid (hPa wr a cap (rd'.out wr qr.out) (FH.out.kt _ qr.out) (FH.out.pos _ qr.out))
      have hPb1 : Hid (∀ W, Q W → Calls Tryd.prog 11 #[.slice a l.length cap, .int .i64 z] W fun x w' => ∃ v, x = .returned (.tuple #[v, .int .i64 er]) ∧ OD w' W.heap.size v P ∧ Below W.heap.size W w') := fun W q => hPb W a cap (rd'.out W q)
      have hdr := Lib.hid (hd5.out.below hbj.out hd5.out.lt)
      have hP32H := Lib.hid hP32
      clear hPa hPb hz0 hP32
      go_wp2_with fail
      refine hPa1.out.mono ?_
      rintro e w6 ⟨v6, rfl, ho6, hb6⟩
      obtain ⟨a6, c6, rfl, hR6⟩ := ho6.reads hP32H.out
      have q6 := Lib.hid (FH.out.step _ _ qr.out hb6)
      have hd6 := Lib.hid (hdr.out.below hb6 hdr.out.lt)
      have hR6 := Lib.hid hR6
      have hbj6 := Lib.hid (hbj.out.trans (hb6.mono hbj.out.size))
      clear hb6 ho6 hPa1 qr hdr hz hbj
      go_wp2_with fail
      refine (hPb1.out w6 q6.out).mono ?_
      rintro e w7 ⟨v7, rfl, ho7, hb7⟩
      obtain ⟨a7, c7, rfl, hR7⟩ := ho7.reads hP32H.out
      have q7 := Lib.hid (FH.out.step _ _ q6.out hb7)
      have hd7 := Lib.hid (hd6.out.below hb7 hd6.out.lt)
      have hS7 := Lib.hid (rSame_any P (by omega) w7 a6 a7 c6 c7 (hR6.out.below hb7) hR7)
      have hR7 := Lib.hid hR7
      have hbj7 := Lib.hid (hbj6.out.trans (hb7.mono hbj6.out.size))
      clear hb7 ho7 hPb1 q6 hd6 hR6 hbj6
      go_wp2_with fail
      refine hS7.out.mono ?_
      rintro e w8 ⟨rfl, hb8⟩
      have q8 := Lib.hid (FH.out.step _ _ q7.out hb8)
      have hd8 := Lib.hid (hd7.out.below hb8 hd7.out.lt)
      have hR8 := Lib.hid (hR7.out.below hb8)
      have hbj8 := Lib.hid (hbj7.out.trans (hb8.mono hbj7.out.size))
      clear hb8 q7 hd7 hR7 hbj7 hS7
      go_wp2_with fail
      have hb9 : Below w8.heap.size w8 (w8.alloc (.cells #[.int .i64 n, .int .i64 l.length] 3)) := (Below.refl _ _).alloc (Nat.le_refl _) _
      have q9 := Lib.hid (FH.out.step _ _ q8.out hb9)
      have hd9 := Lib.hid (hd8.out.below hb9 hd8.out.lt)
      have hR9 := Lib.hid (hR8.out.below hb9)
      have hbj9 := Lib.hid (hbj8.out.trans (hb9.mono hbj8.out.size))
      have hnew9 := heap_alloc_new w8 (.cells #[.int .i64 n, .int .i64 l.length] 3)
      have hce9 : Hid (∀ j, j < 2 → ∃ y : Int, (w8.alloc (.cells #[.int .i64 n, .int .i64 l.length] 3)).cell? ⟨w8.heap.size, j, none⟩ = some (.int .i64 y)) := fun j hj => by
        match j, hj with
        | 0, _ => exact ⟨_, by rw [cell_of_row _ w8.heap.size 0 _ _ _ hnew9]; rfl⟩
        | 1, _ => exact ⟨_, by rw [cell_of_row _ w8.heap.size 1 _ _ _ hnew9]; rfl⟩
      have hG2 : Hid (w8.heap.size < (w8.alloc (.cells #[.int .i64 n, .int .i64 l.length] 3)).heap.size) := by show _ < _; simp
      clear hb9 hnew9 q8 hd8 hR8 hbj8
      generalize w8.alloc (.cells #[.int .i64 n, .int .i64 l.length] 3) = W9 at *
      generalize w8.heap.size = G2 at *
      go_loopw [68] (fun x wr => ∃ k : Nat, x = .int .i64 (k : Int) ∧ k ≤ 2 ∧ Hid (Below W9.heap.size W9 wr)) (fun x _ => 2 - (intOf x).toNat)
      case atStart => exact ⟨0, rfl, by omega, Below.refl _ _⟩
      case round =>
        obtain ⟨k, rfl, hk, hbk⟩ := hrel
        by_cases hk2 : k < 2
        · have hk2' : (k : Int) < 2 := by omega
          have k0 : (0 : Int) ≤ k := by omega
          obtain ⟨y, hy0⟩ := hce9.out k hk2
          have hy : wr.cell? ⟨G2, k, none⟩ = some (.int .i64 y) := (hbk.out.cell (p := ⟨G2, k, none⟩) hG2.out).trans hy0
          have qk := Lib.hid (FH.out.step _ _ q9.out hbk.out)
          have hdk := Lib.hid (hd9.out.below hbk.out hd9.out.lt)
          have hRk := Lib.hid (hR9.out.below hbk.out)
          clear hy0
          go_wp2_with fail
          have hhalf : (P.length : Int) / 2 = ((P.length / 2 : Nat) : Int) := by omega
          obtain ⟨a1, hs1, -⟩ := hRk.out.to (k := P.length / 2) (by omega)
          rw [← hhalf] at hs1
          have hs1H := Lib.hid hs1
          have huH : Hid (Tryd.prog.underlying 24 = some (.array 32 5)) := by show _ = _; kernel_rfl
          have hiH : Hid ((Tryd.prog.info? 24).map (·.size) = some 32) := by show _ = _; kernel_rfl
          have hqw : IntKind.i64.wrap ((P.length : Int) / 2) = (P.length : Int) / 2 := IntWalk.i64_in _ (by omega)
          have hhH := Lib.hid hhalf
          clear hs1 hhalf
          refine wp_region_pre 15 0 (fun W => Below wr.heap.size wr W) (fun W W' => RL1 wr.heap.size P d W W')
            (fun j v W => match j with
              | 0 => v = .slice a7 P.length c7
              | 1 => ∃ g, v = .slice (some ⟨g, 0, none⟩) 0 0 ∧ W.ownsRow wr.heap.size 24 32 (.slice (some ⟨g, 0, none⟩) 0 0) 0 []
              | 2 => v = .slice a7 P.length c7
              | 3 => ∃ g c, v = .slice (some ⟨g, 0, none⟩) P.length c ∧ W.ownsRow wr.heap.size 24 32 (.slice (some ⟨g, 0, none⟩) P.length c) P.length (P.flatMap BV) ∧ (P.length = 0 → c = 0)
              | 4 => v = .agg (BV d).toArray
              | 5 => ∃ g, v = .slice (some ⟨g, 0, none⟩) 1 1 ∧ W.ownsRow wr.heap.size 24 32 (.slice (some ⟨g, 0, none⟩) 1 1) 1 (BV d)
              | 6 => W.ownsRow wr.heap.size 24 32 v (P.length + 1) (P.flatMap BV ++ BV d)
              | 7 => v = .slice a7 P.length c7
              | 8 => v = .slice a7 P.length c7
              | 9 => v = .int .i64 P.length
              | 10 => v = .int .i64 ((P.length : Int) / 2)
              | 11 => v = .slice a1 (P.length / 2) c7
              | 12 => ∃ g g8 c8, v = .slice (some ⟨g, 0, none⟩) 3 3 ∧ W.heap[g]? = some (.cells #[.slice a7 P.length c7, .slice (some ⟨g8, 0, none⟩) (P.length + 1) c8, .slice a1 (P.length / 2) c7] 26 (0, 0)) ∧ W.ownsRow wr.heap.size 24 32 (.slice (some ⟨g8, 0, none⟩) (P.length + 1) c8) (P.length + 1) (P.flatMap BV ++ BV d)
              | 13 => v = .int .i64 3
              | 14 => v = .int .i64 0
              | _ => True) (fun _ => false)
            (by kernel_rfl) (by kernel_rfl) (by kernel_rfl) (by kernel_rfl) (by kernel_rfl) (by kernel_rfl) (by kernel_rfl) ?_ (fun _ _ h => h.sp.size) (dN (Below.refl _ _) 1) ?_ ?_
          · intro j v W W' hb hF
            match j, hF with
              | 0, h => exact h
              | 1, ⟨g, h1, h2⟩ => exact ⟨g, h1, hb.few (Nat.zero_le _) h2⟩
              | 2, h => exact h
              | 3, ⟨g, c, h1, h2, h3⟩ => exact ⟨g, c, h1, hb.sp.one _ h2, h3⟩
              | 4, h => exact h
              | 5, ⟨g, h1, h2⟩ => exact ⟨g, h1, hb.few (Nat.le_refl _) h2⟩
              | 6, h => exact hb.sp.two _ h
              | 7, h => exact h
              | 8, h => exact h
              | 9, h => exact h
              | 10, h => exact h
              | 11, h => exact h
              | 12, ⟨g, g8, c8, h1, h2, h3⟩ => exact ⟨g, g8, c8, h1, hb.sp.other _ _ _ _ h2 (by decide), hb.sp.two _ h3⟩
              | 13, h => exact h
              | 14, h => exact h
              | _ + 15, _ => trivial
          · refine ⟨?_, ?_, ?_, ?_, ?_, ?_, ?_, ?_, ?_, ?_, ?_, ?_, ?_, ?_, ?_, trivial⟩
            · refine stepJ_val' (fun _ h => RL1.of (Below.refl _ _) h.size) rfl rfl rfl fun ac W hA hG hD => ⟨_, ?_, rfl⟩
              have h14 := hA.getD (t := 14) (by kernel_rfl)
              simp only [Array.getD_eq_getD_getElem?] at h14
              simp [execOp, Act.eval, h14, go_sem]
            · refine stepJ_any rfl fun ac W hA hG hD K hK => ?_
              rw [if_pos (by rfl)]
              exact wp_val (v := .slice (some ⟨W.heap.size, 0, none⟩) 0 0) (w' := W.alloc (.cells #[] 24)) (by simp [execOp, Act.eval, go_sem]) (hK _ _ (hG.alloc hG.size _) (RL1.of ((Below.refl _ _).alloc (Nat.le_refl _) _) hG.size) ⟨_, rfl, own_none W wr.heap.size hG.size⟩ (fun h => by cases h))
            · refine stepJ_val' (fun _ h => RL1.of (Below.refl _ _) h.size) rfl rfl rfl fun ac W hA hG hD => ⟨_, ?_, rfl⟩
              have h14 := hA.getD (t := 14) (by kernel_rfl)
              simp only [Array.getD_eq_getD_getElem?] at h14
              simp [execOp, Act.eval, h14, go_sem]
            · refine stepJ_any rfl fun ac W hA hG hD K hK => ?_
              obtain ⟨g0, h73, ho73⟩ := hD.get 1 73 _ rfl rfl (by kernel_rfl)
              have h74 := hD.get 2 74 _ rfl rfl (by kernel_rfl)
              obtain ⟨t0, hi0, hz0, hz1, hz2⟩ := info_parts Tryd.infoD
              have hsrc := (hRk.out.below hG).src (cap := c7)
              rw [if_pos (by rfl)]
              by_cases hP0 : P.length = 0
              · have hPn : P = [] := List.eq_nil_of_length_eq_zero hP0
                have hsrc0 : Src Tryd.prog t0.size 26 (.slice a7 P.length c7) 0 [] W := by rw [hz1]; rw [hPn] at hsrc ⊢; exact hsrc
                have hr := run_append_nothing (P := Tryd.prog) W 26 26 26 24 t0 Tryd.underlying26 hi0 g0 (own_none_heap ho73) _ hsrc0
                exact Lib.wp_append_run W (.tmp 73) (.tmp 74) 26 26 rfl _ _ h73 h74 _ W hr (hK _ _ hG (RL1.of (Below.refl _ _) hG.size) ⟨g0, 0, by rw [hP0], by rw [hPn]; exact ho73, fun _ => rfl⟩ (fun h => by cases h))
              · obtain ⟨c', w', hr, ho, hbw⟩ := run_append_fresh (P := Tryd.prog) W wr.heap.size 26 26 26 24 t0 _ Tryd.underlying26 hi0 hz0 32 32 hz1 hz2 (by omega) rfl g0 (.slice a7 P.length c7) P.length (P.flatMap BV) hsrc (by omega) (by omega) hG.size
                exact Lib.wp_append_run W (.tmp 73) (.tmp 74) 26 26 rfl _ _ h73 h74 _ w' hr (hK _ _ (hG.trans (hbw.mono hG.size)) (RL1.of hbw hG.size) ⟨_, c', rfl, ho, fun h => absurd h hP0⟩ (fun h => by cases h))
            · refine stepJ_any rfl fun ac W hA hG hD K hK => ?_
              have h7 := hA.getD (t := 7) (by kernel_rfl)
              rw [if_pos (by rfl)]
              exact wp_load_mid 24 _ rfl w.heap.size 0 h7 (BV d) _ (range_of (hdk.out.below hG hdk.out.lt)) huH.out rfl (by rw [hiH.out, BV_length, hd]) (hK _ _ hG (RL1.of (Below.refl _ _) hG.size) rfl (fun h => by cases h))
            · refine stepJ_any rfl fun ac W hA hG hD K hK => ?_
              have h76 := hD.get 4 76 _ rfl rfl (by kernel_rfl)
              simp only [Array.getD_eq_getD_getElem?] at h76
              have hsz : (BV d).toArray.size = 32 := by rw [List.size_toArray, BV_length, hd]
              rw [if_pos (by rfl)]
              exact wp_val (v := .slice (some ⟨W.heap.size, 0, none⟩) 1 1) (w' := W.alloc (.cells (BV d).toArray 24)) (by simp [execOp, Act.eval, h76, hsz, go_sem]; rw [one_cells hd]) (hK _ _ (hG.alloc hG.size _) (RL1.of ((Below.refl _ _).alloc (Nat.le_refl _) _) hG.size) ⟨_, rfl, own_lit W wr.heap.size d hd hG.size⟩ (fun h => by cases h))
            · refine stepJ_any rfl fun ac W hA hG hD K hK => ?_
              obtain ⟨g0, c0, h75, ho75, hc75⟩ := hD.get 3 75 _ rfl rfl (by kernel_rfl)
              obtain ⟨g1, h77, ho77⟩ := hD.get 5 77 _ rfl rfl (by kernel_rfl)
              obtain ⟨t0, hi0, hz0, hz1, hz2⟩ := info_parts Tryd.infoD
              have hsrc := own_src hd ho77
              rw [if_pos (by rfl)]
              by_cases hP0 : P.length = 0
              · have hPn : P = [] := List.eq_nil_of_length_eq_zero hP0
                have hc0 := hc75 hP0
                subst hc0
                rw [hP0] at h75
                obtain ⟨c', w', hr, ho, hbw⟩ := run_append_fresh (P := Tryd.prog) W wr.heap.size 26 26 26 24 t0 _ Tryd.underlying26 hi0 hz0 32 32 hz1 hz2 (by omega) rfl g0 (.slice (some ⟨g1, 0, none⟩) 1 1) 1 (BV d) hsrc (by omega) (by omega) hG.size
                exact Lib.wp_append_run W (.tmp 75) (.tmp 77) 26 26 rfl _ _ h75 h77 _ w' hr (hK _ _ (hG.trans (hbw.mono hG.size)) (RL1.of hbw hG.size) (by rw [hPn]; exact ho) (fun h => by cases h))
              · obtain ⟨v', w', hr, ho, hsp⟩ := run_append_spare (P := Tryd.prog) W wr.heap.size 26 26 26 24 t0 _ Tryd.underlying26 hi0 hz0 32 32 hz1 hz2 (by omega) rfl _ P.length (P.flatMap BV) ho75 (.slice (some ⟨g1, 0, none⟩) 1 1) 1 (BV d) hsrc (by omega) hG.size
                exact Lib.wp_append_run W (.tmp 75) (.tmp 77) 26 26 rfl _ _ h75 h77 v' w' hr (hK _ _ (hG.trans hsp.below) ⟨hsp, fun h => absurd h hP0⟩ ho (fun h => by cases h))
            · refine stepJ_val' (fun _ h => RL1.of (Below.refl _ _) h.size) rfl rfl rfl fun ac W hA hG hD => ⟨_, ?_, rfl⟩
              have h14 := hA.getD (t := 14) (by kernel_rfl)
              simp only [Array.getD_eq_getD_getElem?] at h14
              simp [execOp, Act.eval, h14, go_sem]
            · refine stepJ_val' (fun _ h => RL1.of (Below.refl _ _) h.size) rfl rfl rfl fun ac W hA hG hD => ⟨_, ?_, rfl⟩
              have h14 := hA.getD (t := 14) (by kernel_rfl)
              simp only [Array.getD_eq_getD_getElem?] at h14
              simp [execOp, Act.eval, h14, go_sem]
            · refine stepJ_val' (fun _ h => RL1.of (Below.refl _ _) h.size) rfl rfl rfl fun ac W hA hG hD => ⟨_, ?_, rfl⟩
              have h80 := hD.get 8 80 _ rfl rfl (by kernel_rfl)
              simp only [Array.getD_eq_getD_getElem?] at h80
              simp [execOp, Act.eval, h80, go_sem]
            · refine stepJ_val' (fun _ h => RL1.of (Below.refl _ _) h.size) rfl rfl rfl fun ac W hA hG hD => ⟨_, ?_, rfl⟩
              have h81 := hD.get 9 81 _ rfl rfl (by kernel_rfl)
              simp only [Array.getD_eq_getD_getElem?] at h81
              simp [execOp, Act.eval, h81, go_sem, hqw]
            · refine stepJ_val' (fun _ h => RL1.of (Below.refl _ _) h.size) rfl rfl rfl fun ac W hA hG hD => ⟨_, ?_, rfl⟩
              have h79 := hD.get 7 79 _ rfl rfl (by kernel_rfl)
              have h82 := hD.get 10 82 _ rfl rfl (by kernel_rfl)
              simp only [Array.getD_eq_getD_getElem?] at h79 h82
              have := hs1H.out W
              simp [execOp, Act.eval, h79, h82, Instr.sliceAt, this, Result.andThen]
            · refine stepJ_any rfl fun ac W hA hG hD K hK => ?_
              have h72 := hD.get 0 72 _ rfl rfl (by kernel_rfl)
              have h78 := hD.get 6 78 _ rfl rfl (by kernel_rfl)
              have h83 := hD.get 11 83 _ rfl rfl (by kernel_rfl)
              simp only [Array.getD_eq_getD_getElem?] at h72 h83
              rw [if_pos (by rfl)]
              obtain ⟨v78, e78⟩ : ∃ v78, v78 = ac.tmps.getD 78 undef := ⟨_, rfl⟩
              rw [← e78] at h78
              have e78 := e78.symm
              simp only [Array.getD_eq_getD_getElem?] at e78
              obtain ⟨g8, c8, rfl, -, -⟩ := World.ownsRow.form h78 (by omega)
              refine wp_val (v := .slice (some ⟨W.heap.size, 0, none⟩) 3 3) (w' := W.alloc (.cells #[.slice a7 P.length c7, .slice (some ⟨g8, 0, none⟩) (P.length + 1) c8, .slice a1 (P.length / 2) c7] 26)) (by simp [execOp, Act.eval, h72, e78, h83, go_sem]) (hK _ _ (hG.alloc hG.size _) (RL1.of ((Below.refl _ _).alloc (Nat.le_refl _) _) hG.size) ⟨_, g8, c8, rfl, heap_alloc_new _ _, ownsRow_below h78 ((Below.refl _ _).alloc (Nat.le_refl _) _)⟩ (fun h => by cases h))
            · refine stepJ_val' (fun _ h => RL1.of (Below.refl _ _) h.size) rfl rfl rfl fun ac W hA hG hD => ⟨_, ?_, rfl⟩
              obtain ⟨g0, g8, c8, h84, -, -⟩ := hD.get 12 84 _ rfl rfl (by kernel_rfl)
              simp only [Array.getD_eq_getD_getElem?] at h84
              simp [execOp, Act.eval, h84, go_sem]
            · refine stepJ_val' (fun _ h => RL1.of (Below.refl _ _) h.size) rfl rfl rfl fun ac W hA hG hD => ⟨_, ?_, rfl⟩
              simp [execOp, Act.eval, go_sem]
          · intro n0 T W hG hF hne hltb
            have e72 : T 72 = .slice a7 P.length c7 := hF 0 _ rfl (by omega)
            obtain ⟨g73, e73, -⟩ : ∃ g, T 73 = .slice (some ⟨g, 0, none⟩) 0 0 ∧ W.ownsRow wr.heap.size 24 32 (.slice (some ⟨g, 0, none⟩) 0 0) 0 [] := hF 1 _ rfl (by omega)
            have e74 : T 74 = .slice a7 P.length c7 := hF 2 _ rfl (by omega)
            obtain ⟨g75, c75, e75, -⟩ : ∃ g c, T 75 = .slice (some ⟨g, 0, none⟩) P.length c ∧ W.ownsRow wr.heap.size 24 32 (.slice (some ⟨g, 0, none⟩) P.length c) P.length (P.flatMap BV) ∧ (P.length = 0 → c = 0) := hF 3 _ rfl (by omega)
            have e76 : T 76 = .agg (BV d).toArray := hF 4 _ rfl (by omega)
            obtain ⟨g77, e77, -⟩ : ∃ g, T 77 = .slice (some ⟨g, 0, none⟩) 1 1 ∧ W.ownsRow wr.heap.size 24 32 (.slice (some ⟨g, 0, none⟩) 1 1) 1 (BV d) := hF 5 _ rfl (by omega)
            obtain ⟨v78, e78⟩ : ∃ v, T 78 = v := ⟨_, rfl⟩
            have e79 : T 79 = .slice a7 P.length c7 := hF 7 _ rfl (by omega)
            have e80 : T 80 = .slice a7 P.length c7 := hF 8 _ rfl (by omega)
            have e81 : T 81 = .int .i64 P.length := hF 9 _ rfl (by omega)
            have e82 : T 82 = .int .i64 ((P.length : Int) / 2) := hF 10 _ rfl (by omega)
            have e83 : T 83 = .slice a1 (P.length / 2) c7 := hF 11 _ rfl (by omega)
            obtain ⟨G3, g8, c8, e84, hg84, ho84⟩ : ∃ g g8 c8, T 84 = .slice (some ⟨g, 0, none⟩) 3 3 ∧ W.heap[g]? = some (.cells #[.slice a7 P.length c7, .slice (some ⟨g8, 0, none⟩) (P.length + 1) c8, .slice a1 (P.length / 2) c7] 26 (0, 0)) ∧ W.ownsRow wr.heap.size 24 32 (.slice (some ⟨g8, 0, none⟩) (P.length + 1) c8) (P.length + 1) (P.flatMap BV ++ BV d) := hF 12 _ rfl (by omega)
            have e85 : T 85 = .int .i64 3 := hF 13 _ rfl (by omega)
            have e86 : T 86 = .int .i64 0 := hF 14 _ rfl (by omega)
            clear hF hne hltb
            simp only [List.take, fillT, List.setIfInBounds_toArray, List.set_cons_zero, List.set_cons_succ, e72, e73, e74, e75, e76, e77, e78, e79, e80, e81, e82, e83, e84, e85, e86]
            refine wpAny_done (by kernel_rfl) ?_ _
            have hpaths : Hid (∀ m, m < 3 → ∃ (p : List (List UInt8)) (ap : Option Addr) (cp : Nat), (∀ W', Below W.heap.size W W' → W'.cell? ⟨G3, m, none⟩ = some (.slice ap p.length cp)) ∧ (∀ W', Below W.heap.size W W' → RD W' W'.heap.size p ap cp)) := fun m hm => by
              have hcell : ∀ j v W', Below W.heap.size W W' → (#[Value.slice a7 P.length c7, .slice (some ⟨g8, 0, none⟩) (P.length + 1) c8, .slice a1 (P.length / 2) c7] : Array Value)[j]? = some v → W'.cell? ⟨G3, j, none⟩ = some v := fun j v W' hW hv => by
                rw [hW.cell (p := ⟨G3, j, none⟩) (Array.getElem?_eq_some_iff.1 hg84).1, cell_of_row W G3 j _ _ _ hg84]
                exact hv
              match m, hm with
              | 0, _ => exact ⟨P, a7, c7, fun W' hW => hcell 0 _ W' hW rfl, fun W' hW => hRk.out.below (hG.trans (hW.mono hG.size))⟩
              | 1, _ =>
                have hod : OD W wr.heap.size (.slice (some ⟨g8, 0, none⟩) (P.length + 1) c8) (P ++ [d]) := by
                  unfold OD
                  rw [List.length_append, List.flatMap_append]
                  simpa using ho84
                have h32p : ∀ x ∈ P ++ [d], x.length = 32 := fun x hx => by
                  rcases List.mem_append.1 hx with h | h
                  · exact hP32H.out x h
                  · simp at h; subst h; exact hd
                refine ⟨P ++ [d], some ⟨g8, 0, none⟩, c8, fun W' hW => hcell 1 _ W' hW (by simp), fun W' hW => ?_⟩
                obtain ⟨a', c', e1, hR'⟩ := (hod.below hW).reads h32p
                injection e1 with e1 _ e3
                subst e1; subst e3
                exact hR'
              | 2, _ =>
                have hs1 := hs1H.out
                rw [hhH.out] at hs1
                have hl2 : (P.take (P.length / 2)).length = P.length / 2 := by rw [List.length_take]; omega
                exact ⟨P.take (P.length / 2), a1, c7, fun W' hW => hcell 2 _ W' hW (by rw [hl2]; rfl), fun W' hW => (hRk.out.below (hG.trans (hW.mono hG.size))).to_at (by omega) hs1⟩
            have qW := Lib.hid (FH.out.step _ _ qk.out hG)
            have hdW := Lib.hid (hdk.out.below hG hdk.out.lt)
            have hbkW := Lib.hid (hbk.out.trans (hG.mono hbk.out.size))
            clear e72 e73 e74 e75 e76 e77 e78 e79 e80 e81 e82 e83 e84 e85 e86 hg84 ho84 hG hs1H hRk hqw hhH qk hdk hbk hy
            obtain ⟨wo, hwo⟩ : ∃ wo : World, wo = wr := ⟨_, rfl⟩
            clear hwo
            go_wp2_with fail
            go_loopw [86] (fun x wr => ∃ m : Nat, x = .int .i64 (m : Int) ∧ m ≤ 3 ∧ Hid (Below W.heap.size W wr)) (fun x _ => 3 - (intOf x).toNat)
            case atStart => exact ⟨0, rfl, by omega, Below.refl _ _⟩
            case round =>
              obtain ⟨m, rfl, hm, hbm⟩ := hrel
              by_cases hm3 : m < 3
              · have hm3' : (m : Int) < 3 := by omega
                have m0 : (0 : Int) ≤ m := by omega
                obtain ⟨p, ap, cp, hpc, hpr⟩ := hpaths.out m hm3
                have hcl := hpc wr hbm.out
                obtain ⟨r, er2, hrl, hCa, hCb⟩ := climb_both d hd z y p
                have qm := FH.out.step _ _ qW.out hbm.out
                have hA1 := Lib.hid (hCa wr ap cp (hpr wr hbm.out) (FH.out.kt _ qm) (FH.out.pos _ qm))
                have hCbH : Hid (∀ W', Below W.heap.size W W' → Calls Tryd.prog 14 #[.agg (BV d).toArray, .int .i64 z, .int .i64 y, .slice ap p.length cp] W' fun x w' => x = .returned (.tuple #[.agg (BV r).toArray, .int .i64 er2]) ∧ Below W'.heap.size W' w') := fun W' hW => hCb W' ap cp (hpr W' hW)
                have hdm := hdW.out.below hbm.out hdW.out.lt
                have hu := huH.out
                have hi := hiH.out
                have hsd := Lib.hid (DV_size hd)
                have hsr := Lib.hid (DV_size hrl)
                have heqr : ∀ W, (Op.equalIn 10000 24 (.agg (BV r).toArray) (.agg (BV r).toArray)).run Tryd.prog W = .ok true W := fun W => by
                  rw [eq_digest r r hrl hrl W, beq_self_eq_true]
                have heqrH := Lib.hid heqr
                clear hpc hpr hCa hCb qm heqr
                go_wp2_with (refine wpList_load_row rfl 24 _ rfl w.heap.size rfl 24 _ (0, 0) _ hdm hu rfl ?ca ?_; case ca => rw [hi, hsd.out])
                refine hA1.out.mono ?_
                rintro e w11 ⟨rfl, hb11⟩
                have hz11 := heap_alloc_last w11 (.cells #[.int .u8 0, .int .u8 0, .int .u8 0, .int .u8 0, .int .u8 0, .int .u8 0, .int .u8 0, .int .u8 0, .int .u8 0, .int .u8 0, .int .u8 0, .int .u8 0, .int .u8 0, .int .u8 0, .int .u8 0, .int .u8 0, .int .u8 0, .int .u8 0, .int .u8 0, .int .u8 0, .int .u8 0, .int .u8 0, .int .u8 0, .int .u8 0, .int .u8 0, .int .u8 0, .int .u8 0, .int .u8 0, .int .u8 0, .int .u8 0, .int .u8 0, .int .u8 0] 24)
                have hb12 : Below w11.heap.size w11 (w11.alloc (.cells (BV r).toArray 24)) := (Below.refl _ _).alloc (Nat.le_refl _) _
                have hx12 : DB (w11.alloc (.cells (BV r).toArray 24)) w11.heap.size 24 r := heap_alloc_new _ _
                have hd12 : DB (w11.alloc (.cells (BV r).toArray 24)) w.heap.size 24 d := (hdm.below hb11 hdm.lt).below hb12 (hdm.below hb11 hdm.lt).lt
                have hbm12 := hbm.out.trans ((hb11.trans (hb12.mono hb11.size)).mono hbm.out.size)
                have hB1 := Lib.hid (hCbH.out _ hbm12)
                have hbm12 := Lib.hid hbm12
                have hx12 := Lib.hid hx12
                clear hb11 hb12 hdm hA1 hbm hCbH
                go_wp2_with (first
                  | (refine wpList_store_row rfl 24 _ _ rfl w11.heap.size _ rfl rfl 24 _ hz11 ?cs ?ct ?cu ?_
                     case cs => rw [hi, hsr.out]
                     case ct => rw [hsr.out]; rfl
                     case cu => exact BV_all _
                     rw [World.setRow_alloc_new])
                  | (refine wpList_load_row rfl 24 _ rfl w.heap.size rfl 24 _ (0, 0) _ hd12 hu rfl ?cb ?_; case cb => rw [hi, hsd.out]))
                generalize w11.alloc (.cells (BV r).toArray 24) = w12 at *
                generalize w11.heap.size = G4 at *
                refine hB1.out.mono ?_
                rintro e w13 ⟨rfl, hb13⟩
                have hz13 := heap_alloc_last w13 (.cells #[.int .u8 0, .int .u8 0, .int .u8 0, .int .u8 0, .int .u8 0, .int .u8 0, .int .u8 0, .int .u8 0, .int .u8 0, .int .u8 0, .int .u8 0, .int .u8 0, .int .u8 0, .int .u8 0, .int .u8 0, .int .u8 0, .int .u8 0, .int .u8 0, .int .u8 0, .int .u8 0, .int .u8 0, .int .u8 0, .int .u8 0, .int .u8 0, .int .u8 0, .int .u8 0, .int .u8 0, .int .u8 0, .int .u8 0, .int .u8 0, .int .u8 0, .int .u8 0] 24)
                have hb14 : Below w13.heap.size w13 (w13.alloc (.cells (BV r).toArray 24)) := (Below.refl _ _).alloc (Nat.le_refl _) _
                have hx14 : DB (w13.alloc (.cells (BV r).toArray 24)) w13.heap.size 24 r := heap_alloc_new _ _
                have hx15 : DB (w13.alloc (.cells (BV r).toArray 24)) G4 24 r := (hx12.out.below hb13 hx12.out.lt).below hb14 (hx12.out.below hb13 hx12.out.lt).lt
                have hbm14 := Lib.hid (hbm12.out.trans ((hb13.trans (hb14.mono hb13.size)).mono hbm12.out.size))
                have heqr := heqrH.out
                clear hb13 hb14 hB1 hbm12 hx12 hd12 hz11
                go_wp2_with (first
                  | (refine wpList_store_row rfl 24 _ _ rfl w13.heap.size _ rfl rfl 24 _ hz13 ?cs ?ct ?cu ?_
                     case cs => rw [hi, hsr.out]
                     case ct => rw [hsr.out]; rfl
                     case cu => exact BV_all _
                     rw [World.setRow_alloc_new])
                  | (refine wpList_load_row rfl 24 _ rfl G4 rfl 24 _ (0, 0) _ hx15 hu rfl ?cc ?_; case cc => rw [hi, hsr.out])
                  | (refine wpList_load_row rfl 24 _ rfl w13.heap.size rfl 24 _ (0, 0) _ hx14 hu rfl ?cd ?_; case cd => rw [hi, hsr.out]))
                go_roundw
                case rel => exact ⟨m + 1, by go_num, by omega, hbm14⟩
                case measure => simp [intOf]; omega
              · have hm3' : ¬ (m : Int) < 3 := by omega
                have hbk2 := Lib.hid (hbkW.out.trans (hbm.out.mono hbkW.out.size))
                clear hbm hbkW hdW qW hpaths
                go_wp2_with fail
                go_roundw
                case rel => exact ⟨k + 1, by go_num, by omega, hbk2⟩
                case measure => simp [intOf]; omega
        · have hk2' : ¬ (k : Int) < 2 := by omega
          have hbj10 := Lib.hid (hbj9.out.trans (hbk.out.mono hbj9.out.size))
          clear q9 hd9 hR9 hce9 hbk hbj9
          go_wp2_with fail
          go_roundw
          case rel => exact ⟨j + 1, by go_num, by omega, hbj10⟩
          case measure => simp [intOf]; omega
    · have hj2' : ¬ (j : Int) < 2 := by omega
      go_wp2_with fail
      go_ret
      exact ⟨rfl, FH.out.below _ (FH.out.step _ _ q5.out hbj.out)⟩
end Go.Proofs.YtjfoihlelkfaoaaDoor
