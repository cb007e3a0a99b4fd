/- NetworkAll: the contract. -/
import Derived.Test.YtbckcdpiifhldaaL5q
import Derived.Test.YtbckcdpiifhldaaN6
import Derived.Test.YtbckcdpiifhldaaN9
import Derived.Test.YtbckcdpiifhldaaNz
import Derived.Deep.DeepCutAuto
namespace Go.Proofs.Ytbckcdpiifhldaa
open Go.RowKit

theorem QR.step {w w' : World} {A : Option Addr} {ps : List Pk} (h : QR w (· < w.heap.size) A ps) (hb : Below w.heap.size w w') : QR w' (· < w'.heap.size) A ps := (h.keep (Kept.below hb)).mono fun _ hlt => Nat.lt_of_lt_of_le hlt hb.size
set_option maxRecDepth 100000 in
set_option maxHeartbeats 8000000 in
theorem all_any (l : List Pk) (od : List UInt8) (w : World) (Al Ao : Option Addr) (cl co : Nat) (hlc : l.length ≤ cl ∧ cl ≤ maxLen) (hl : QR w (· < w.heap.size) Al l) (ho : RBs w (· < w.heap.size) Ao od) (hod : od.length ≤ co ∧ co ≤ maxLen) :
    Calls Try.prog 6 #[.slice Al l.length cl, .slice Ao od.length co] w fun e w' => e = .returned (.bool true) ∧ Below w.heap.size w w' := by
  have hB := Lib.hid (Below.refl w.heap.size w)
  go_enter Try.func6, Try.ntmps6
  go_wp2_with fail
  refine (sane_any w).mono ?_
  rintro e w1 ⟨rfl, hb⟩
  have hB := Lib.hid hb
  replace hl := Lib.hid (hl.step hb)
  replace ho := Lib.hid (ho.step hb)
  clear hb
  by_cases h12 : (12 : Int) < l.length
  · go_wp2_with fail
    go_ret
    exact ⟨rfl, hB.out⟩
  go_wp2_with fail
  refine (New_any w1).mono ?_
  rintro e w0 ⟨rfl, hb⟩
  have hB := Lib.hid (hB.out.trans (hb.mono hB.out.size))
  replace hl := Lib.hid (hl.out.step hb)
  replace ho := Lib.hid (ho.out.step hb)
  clear hb
  have hS0 : SL w0 [] [] (.slice none 0 0) (w0.alloc (.cells #[.slice none 0 0, .slice none 0 0] 25)) := ⟨bnew w0 _, by simp, ⟨[], World.ownsRow_nil _ _ _ _, rfl, fun i hi => absurd hi (by simp)⟩, none, 0, none, 0, heap_alloc_new w0 _, NR.zero _ _⟩
  replace hS0 := Lib.hid hS0
  go_wp2_with fail
  go_loopw [6, 7, 8, 9] (fun rv k _ _ wr => ∃ (q : Nat) (Q : List Pk), q ≤ l.length ∧ k = .int .i64 q ∧ Q.length ≤ q ∧ ntB ⟨Q, []⟩ = true ∧ (∃ Av cv, rv = .slice Av Q.length cv) ∧ Hid (SL w0 Q Q rv wr)) (fun _ k _ _ _ => l.length - (intOf k).toNat)
  case atStart => exact ⟨0, [], Nat.zero_le _, rfl, Nat.le_refl _, rfl, ⟨none, 0, rfl⟩, hS0.out⟩
  case round =>
    clear hS0
    obtain ⟨q, Q, hq, rfl, hQq, hnt, ⟨Av, cv, rfl⟩, hS⟩ := hrel
    by_cases hlt : q < l.length
    · have hlt' : (q : Int) < (l.length : Int) := by omega
      have hw1 : IntKind.i64.wrap ((q : Int) + 1) = (q : Int) + 1 := IntWalk.i64_in _ (by omega)
      have hsz0 := hS.out.bel.size
      obtain ⟨bl, ol, Ap, cp, rfl, hsb, hc0, hc1, hc2, hl1, hl2, hrp, hI⟩ := hl.out.at_ hlt
      obtain ⟨p, hp⟩ : ∃ p, l[q] = p := ⟨_, rfl⟩
      rw [hp] at hc0 hc1 hc2 hl1 hrp hI
      clear hp
      obtain ⟨U, m, hX⟩ : ∃ U m, sendN ⟨Q, []⟩ p = (U, m) := ⟨_, _, rfl⟩
      obtain ⟨An, cn, An', cn', hbx, hnr⟩ := hS.out.box
      have hkl := Lib.hid (show ((0 : Int) ≤ q) ∧ ((q : Int) < l.length) ∧ q < l.length from ⟨by omega, by omega, hlt⟩)
      have hN : Hid (∀ W, Below wr.heap.size wr W → W.cell? ⟨w0.heap.size, 0, none⟩ = some (.slice An Q.length cn) ∧ W.cell? ⟨w0.heap.size, 1, none⟩ = some (.slice An' 0 cn')) := fun W hW => ⟨cell_of_row W _ 0 _ _ _ (blk_step hbx hW), cell_of_row W _ 1 _ _ _ (blk_step hbx hW)⟩
      have hE : Hid (∀ W, Below wr.heap.size wr W → W.cell? ⟨bl, ol + q * 3, none⟩ = some (.int .i64 p.frm) ∧ W.cell? ⟨bl, ol + q * 3 + 1, none⟩ = some (.int .i64 p.to) ∧ W.cell? ⟨bl, ol + q * 3 + 2, none⟩ = some (.slice Ap p.data.length cp)) := fun W hW =>
        have hk := hS.out.bel.trans (hW.mono hsz0)
        ⟨(hk.cell hsb).trans hc0, (hk.cell hsb).trans hc1, (hk.cell hsb).trans hc2⟩
      have hsub : Hid (∀ W, Below wr.heap.size wr W → Calls Try.prog 11 #[.agg #[.slice An Q.length cn, .slice An' 0 cn'], .agg #[.int .i64 p.frm, .int .i64 p.to, .slice Ap p.data.length cp]] W (NtPost (fun b => b < W.heap.size ∧ Er (.slice Av Q.length cv) b) (U, m) W)) := fun W hW => by
        have hs := hS.out.step hW
        have h := Send_any ⟨Q, []⟩ p W An An' Ap cn cn' cp (fun b => b < W.heap.size ∧ Er (.slice Av Q.length cv) b) (fun b h => h.1) ((hnr.keep (fun b o hb => hW.cell (p := ⟨b, o, none⟩) hb.1)).mono fun b hb => ⟨Nat.lt_of_lt_of_le hb.1 hW.size, hb.2⟩) hI ⟨hl1, hl2⟩ (hs.arg hrp)
        rw [hX] at h
        exact h
      replace hX := Lib.hid hX
      replace hsb := Lib.hid hsb
      replace hI := Lib.hid hI
      clear hbx hnr
      go_wp2_with fail
      refine wp_region_preA 12 0 (fun W => Below wr.heap.size wr W) (Re U (Er (.slice Av Q.length cv)))
        (fun i a v W => match i with
          | 0 => v = .agg #[.slice An Q.length cn, .slice An' 0 cn']
          | 1 => v = .slice (some ⟨bl, ol, none⟩) l.length cl
          | 2 => v = .int .i64 (q : Int)
          | 3 => v = .pointer (some ⟨bl, ol + q * 3, none⟩)
          | 4 => v = .agg #[.int .i64 p.frm, .int .i64 p.to, .slice Ap p.data.length cp]
          | 5 => ∃ A2 c2 A2' c2', v = .tuple #[.agg #[.slice A2 U.q.length c2, .slice A2' U.ap.length c2'], .int .i64 m] ∧ NR W (PE (Er (.slice Av Q.length cv)) W) A2 c2 A2' c2' U
          | 6 => ∃ A2 c2 A2' c2', v = .tuple #[.agg #[.slice A2 U.q.length c2, .slice A2' U.ap.length c2'], .int .i64 m] ∧ NR W (PE (Er (.slice Av Q.length cv)) W) A2 c2 A2' c2' U
          | 7 => ∃ A2 c2 A2' c2', v = .agg #[.slice A2 U.q.length c2, .slice A2' U.ap.length c2'] ∧ NR W (PE (Er (.slice Av Q.length cv)) W) A2 c2 A2' c2' U
          | 8 => v = .int .i64 m
          | 9 => ∃ g, v = .pointer (some ⟨g, 0, none⟩) ∧ wr.heap.size ≤ g ∧ sbox W g
          | 10 => ∃ g, a.tmps.getD 8 undef = .pointer (some ⟨g, 0, none⟩) ∧ Ue U (Er (.slice Av Q.length cv)) W g
          | 11 => v = .int .i64 m
          | _ => True) (fun _ => false)
        (by kernel_rfl) (by kernel_rfl) (by kernel_rfl) (by kernel_rfl) (by kernel_rfl) (by kernel_rfl) (by kernel_rfl) ?_ (fun _ _ h => h.1) (dN (Below.refl _ _) 1) ?_ ?_
      · intro i v a a' W W' hs hb hF
        match i, hs, hF with
        | 0, _, h => exact h
        | 1, _, h => exact h
        | 2, _, h => exact h
        | 3, _, h => exact h
        | 4, _, h => exact h
        | 5, _, ⟨A2, c2, A2', c2', h1, h2⟩ => exact ⟨A2, c2, A2', c2', h1, hb.nr h2⟩
        | 6, _, ⟨A2, c2, A2', c2', h1, h2⟩ => exact ⟨A2, c2, A2', c2', h1, hb.nr h2⟩
        | 7, _, ⟨A2, c2, A2', c2', h1, h2⟩ => exact ⟨A2, c2, A2', c2', h1, hb.nr h2⟩
        | 8, _, h => exact h
        | 9, _, ⟨g, h1, h2, h3⟩ => exact ⟨g, h1, h2, hb.sbox h3⟩
        | 10, hs, ⟨g, h1, h2⟩ => exact ⟨g, (hs 8 (by decide +kernel)).trans h1, hb.ue h2⟩
        | 11, _, h => exact h
        | _ + 12, _, _ => trivial
      · refine ⟨?_, ?_, ?_, ?_, ?_, ?_, ?_, ?_, ?_, ?_, ?_, ?_, trivial⟩
        · refine stepA_any rfl fun ac W hAA hG hDD K hK => ?_
          have h5 := hAA.getD (t := 5) (by kernel_rfl)
          simp only [Array.getD_eq_getD_getElem?] at h5
          obtain ⟨k0, k1⟩ := hN.out W hG
          rw [if_pos (by rfl)]
          exact wp_val (v := .agg #[.slice An Q.length cn, .slice An' 0 cn']) (w' := W) (by simp [execOp, Act.eval, h5, go_sem, k0, k1]) (hK _ _ hG (Re.refl U _ _) rfl (fun h => by cases h))
        · refine stepA_any rfl fun ac W hAA hG hDD K hK => ?_
          have h0 := hAA.getD (t := 0) (by kernel_rfl)
          simp only [Array.getD_eq_getD_getElem?] at h0
          rw [if_pos (by rfl)]
          exact wp_val (v := .slice (some ⟨bl, ol, none⟩) l.length cl) (w' := W) (by simp [execOp, Act.eval, h0, go_sem]) (hK _ _ hG (Re.refl U _ _) rfl (fun h => by cases h))
        · refine stepA_any rfl fun ac W hAA hG hDD K hK => ?_
          have h7 := hAA.getD (t := 7) (by kernel_rfl)
          simp only [Array.getD_eq_getD_getElem?] at h7
          rw [if_pos (by rfl)]
          exact wp_val (v := .int .i64 (q : Int)) (w' := W) (by simp [execOp, Act.eval, h7, go_sem]) (hK _ _ hG (Re.refl U _ _) rfl (fun h => by cases h))
        · refine stepA_any rfl fun ac W hAA hG hDD K hK => ?_
          have h29 := hDD.get 1 29 _ rfl rfl (by kernel_rfl)
          have h30 := hDD.get 2 30 _ rfl rfl (by kernel_rfl)
          simp only [Array.getD_eq_getD_getElem?] at h29 h30
          have hkl := hkl.out
          rw [if_pos (by rfl)]
          exact wp_val (v := .pointer (some ⟨bl, ol + q * 3, none⟩)) (w' := W) (by simp [execOp, Act.eval, h29, h30, go_sem, hkl]) (hK _ _ hG (Re.refl U _ _) rfl (fun h => by cases h))
        · refine stepA_any rfl fun ac W hAA hG hDD K hK => ?_
          have h31 := hDD.get 3 31 _ rfl rfl (by kernel_rfl)
          simp only [Array.getD_eq_getD_getElem?] at h31
          obtain ⟨q0, q1, q2⟩ := hE.out W hG
          rw [if_pos (by rfl)]
          exact wp_val (v := .agg #[.int .i64 p.frm, .int .i64 p.to, .slice Ap p.data.length cp]) (w' := W) (by simp [execOp, Act.eval, h31, go_sem, q0, q1, q2]) (hK _ _ hG (Re.refl U _ _) rfl (fun h => by cases h))
        · refine stepA_any rfl fun ac W hAA hG hDD K hK => ?_
          have h28 := hDD.get 0 28 _ rfl rfl (by kernel_rfl)
          have h32 := hDD.get 4 32 _ rfl rfl (by kernel_rfl)
          rw [if_pos (by rfl)]
          simp only [Array.getD_eq_getD_getElem?] at h28 h32
          refine wp_call (f := 11) (args := #[.agg #[.slice An Q.length cn, .slice An' 0 cn'], .agg #[.int .i64 p.frm, .int .i64 p.to, .slice Ap p.data.length cp]]) (by simp [execOp, Act.eval, h28, h32, go_sem]) ((hsub.out W hG).mono fun e W9 he => ?_)
          obtain ⟨A2, c2, A2', c2', rfl, hnr, hbw⟩ := he.get
          have hSW := hS.out.step hG
          exact hK _ _ (hG.trans (hbw.mono hG.size)) (Re.below hbw) ⟨A2, c2, A2', c2', rfl, NR.pe (hnr.mono fun b hb => hSW.sn hbw hb)⟩ (fun h => by cases h)
        · refine stepA_any rfl fun ac W hAA hG hDD K hK => ?_
          obtain ⟨A2, c2, A2', c2', h33, hnr⟩ := hDD.get 5 33 _ rfl rfl (by kernel_rfl)
          rw [if_pos (by rfl)]
          simp only [Array.getD_eq_getD_getElem?] at h33
          exact wp_val (v := .tuple #[.agg #[.slice A2 U.q.length c2, .slice A2' U.ap.length c2'], .int .i64 m]) (w' := W) (by simp [execOp, Act.eval, h33, go_sem]) (hK _ _ hG (Re.refl U _ _) ⟨A2, c2, A2', c2', rfl, hnr⟩ (fun h => by cases h))
        · refine stepA_any rfl fun ac W hAA hG hDD K hK => ?_
          obtain ⟨A2, c2, A2', c2', h27, hnr⟩ := hDD.get 6 27 _ rfl rfl (by kernel_rfl)
          rw [if_pos (by rfl)]
          simp only [Array.getD_eq_getD_getElem?] at h27
          exact wp_val (v := .agg #[.slice A2 U.q.length c2, .slice A2' U.ap.length c2']) (w' := W) (by simp [execOp, Act.eval, h27, go_sem]) (hK _ _ hG (Re.refl U _ _) ⟨A2, c2, A2', c2', rfl, hnr⟩ (fun h => by cases h))
        · refine stepA_any rfl fun ac W hAA hG hDD K hK => ?_
          obtain ⟨A2, c2, A2', c2', h27, hnr⟩ := hDD.get 6 27 _ rfl rfl (by kernel_rfl)
          rw [if_pos (by rfl)]
          simp only [Array.getD_eq_getD_getElem?] at h27
          exact wp_val (v := .int .i64 m) (w' := W) (by simp [execOp, Act.eval, h27, go_sem]) (hK _ _ hG (Re.refl U _ _) rfl (fun h => by cases h))
        · refine stepA_any rfl fun ac W hAA hG hDD K hK => ?_
          rw [if_pos (by rfl)]
          exact wp_val (v := .pointer (some ⟨W.heap.size, 0, none⟩)) (w' := W.alloc (.cells #[.slice none 0 0, .slice none 0 0] 25)) (by simp [execOp, Act.eval, go_sem]) (hK _ _ (hG.alloc hG.size _) (Re.below (bnew W _)) ⟨_, rfl, hG.size, _, _, _, _, _, _, heap_alloc_new W _⟩ (fun h => by cases h))
        · refine stepA_store rfl rfl fun ac W hAA hG hDD K hK => ?_
          obtain ⟨g, h8, hge, hsg⟩ := hDD.get 9 8 _ rfl rfl (by kernel_rfl)
          obtain ⟨A2, c2, A2', c2', h34, hnr⟩ := hDD.get 7 34 _ rfl rfl (by kernel_rfl)
          rw [if_pos (by rfl)]
          obtain ⟨p1, p2⟩ := Re.put hsg hnr
          obtain ⟨_, _, _, _, _, _, hbx⟩ := hsg
          exact wp_store_row 25 (.tmp 8) (.tmp 34) rfl g #[.slice A2 U.q.length c2, .slice A2' U.ap.length c2'] h8 h34 25 _ hbx (by kernel_rfl) rfl (by simp [Value.oneCell']) (hK _ (below_setRowN hG hge hG.size _) p1 ⟨g, h8, p2⟩)
        · refine stepA_any rfl fun ac W hAA hG hDD K hK => ?_
          have h35 := hDD.get 8 35 _ rfl rfl (by kernel_rfl)
          simp only [Array.getD_eq_getD_getElem?] at h35
          rw [if_pos (by rfl)]
          exact wp_val (v := .int .i64 m) (w' := W) (by simp [execOp, Act.eval, h35, go_sem]) (hK _ _ hG (Re.refl U _ _) rfl (fun h => by cases h))
      intro fu T w9 hG hF hne hltb
      have e28 : T 28 = .agg #[.slice An Q.length cn, .slice An' 0 cn'] := hF 0 _ rfl (by omega)
      have e29 : T 29 = .slice (some ⟨bl, ol, none⟩) l.length cl := hF 1 _ rfl (by omega)
      have e30 : T 30 = .int .i64 (q : Int) := hF 2 _ rfl (by omega)
      have e31 : T 31 = .pointer (some ⟨bl, ol + q * 3, none⟩) := hF 3 _ rfl (by omega)
      have e32 : T 32 = .agg #[.int .i64 p.frm, .int .i64 p.to, .slice Ap p.data.length cp] := hF 4 _ rfl (by omega)
      obtain ⟨A3, c3, A3', c3', e33, -⟩ := hF 5 _ rfl (by omega)
      replace e33 : T 33 = _ := e33
      obtain ⟨A5, c5, A5', c5', e27, -⟩ := hF 6 _ rfl (by omega)
      replace e27 : T 27 = _ := e27
      obtain ⟨A9, c9, A9', c9', e34, -⟩ := hF 7 _ rfl (by omega)
      replace e34 : T 34 = _ := e34
      have e35 : T 35 = .int .i64 m := hF 8 _ rfl (by omega)
      obtain ⟨g, e8, hge, -⟩ := hF 9 _ rfl (by omega)
      replace e8 : T 8 = _ := e8
      have hst10 := hF 10 _ rfl (by omega)
      have e9 : T 9 = .int .i64 m := hF 11 _ rfl (by omega)
      clear hF hne hltb
      simp only [List.take, fillT, List.setIfInBounds_toArray, List.set_cons_zero, List.set_cons_succ, e28, e29, e30, e31, e32, e33, e27, e34, e35, e8, e9] at hst10 ⊢
      clear e28 e29 e30 e31 e32 e33 e27 e34 e35 e8 e9
      refine wpAny_done (by kernel_rfl) ?_ _
      obtain ⟨g', hg1, hux⟩ := hst10
      obtain rfl : g = g' := by simpa using hg1
      have hS9 := Lib.hid (hS.out.step hG)
      obtain ⟨Au, cu, Au', cu', hkg, hnu⟩ := hux
      obtain ⟨q0, q1, q2⟩ := hE.out w9 hG
      have hsz1 := hS.out.lt
      clear hS hE hN hsub hg1 hG
      cases hpk : pkB p with
      | false =>
        have hx := hX.out
        rw [sendN_bad (.inr hpk)] at hx
        obtain ⟨-, hm⟩ := Prod.mk.inj hx
        subst hm
        clear hx hX hpk hkg hnu q0 q1 q2
        go_wp2_with fail
        go_roundw
        case rel => exact ⟨q + 1, Q, by omega, by go_num, by omega, hnt, ⟨Av, cv, rfl⟩, hS9.out⟩
        case measure => simp [intOf]; omega
      | true =>
        have hx := hX.out
        rw [sendN_ok hnt hpk] at hx
        unfold addN at hx
        rw [if_neg (show ¬ Q.length = 4096 by omega)] at hx
        obtain ⟨hU, hm⟩ := Prod.mk.inj hx
        subst hU
        subst hm
        have hnt2 := Lib.hid (show ntB ⟨Q ++ [p], []⟩ = true from ntB_iff.2 ⟨by simp; omega, rfl, by
          have h := (ntB_iff.1 hnt).2.2
          rw [List.all_append, h]
          simp [hpk]⟩)
        obtain ⟨An2, cn2, An2', cn2', hbn, -⟩ := hS9.out.box
        have hS2 := hS9.out.put (Q' := Q ++ [p]) (hnu.mono fun b hb => ⟨hb.1.1, hb.2⟩)
        have hS3 := hS2.step (bnew _ (.cells #[.int .i64 p.frm, .int .i64 p.to, .slice Ap p.data.length cp] 28))
        obtain ⟨v', W4, hr, hS4⟩ := hS3.app 22 _ p Ap cp hI.out ⟨hl1, hl2⟩ hrp (heap_alloc_new _ _) (by omega)
        have hf4 : ∃ A c, v' = .slice A (Q ++ [p]).length c := by
          obtain ⟨xs, h1, -⟩ := hS4.row
          rcases h1.2 with ⟨h2, h3⟩ | ⟨_, _, _, h2, -⟩
          · exact ⟨none, 0, by rw [h3]; exact h2⟩
          · exact ⟨_, _, h2⟩
        obtain ⟨A4, c4, rfl⟩ := hf4
        have n0 := cell_of_row w9 _ 0 _ _ _ hbn
        have n1 := cell_of_row w9 _ 1 _ _ _ hbn
        have fN := fun i => frozen_of_row w9 _ i _ _ hbn
        have x0 : w9.cell? ⟨g, 0, none⟩ = some (.slice Au (Q ++ [p]).length cu) := cell_of_row w9 _ 0 _ _ _ hkg
        have x1 : w9.cell? ⟨g, 1, none⟩ = some (.slice Au' 0 cu') := cell_of_row w9 _ 1 _ _ _ hkg
        have hg1 : g ≠ w0.heap.size := by omega
        have hg2 : w0.heap.size ≠ g := by omega
        have hl3 : bl ≠ w0.heap.size := by have := hsb.out; omega
        have hl4 : w0.heap.size ≠ bl := by have := hsb.out; omega
        rw [show ((w9.setCell ⟨w0.heap.size, 0, none⟩ (.slice Au (Q ++ [p]).length cu)).setCell ⟨w0.heap.size, 1, none⟩ (.slice Au' 0 cu')).heap.size = w9.heap.size by simp] at hr
        have hlen : (Q ++ [p]).length = Q.length + 1 := by simp
        rw [hlen] at hr hS4 x0
        clear hlen
        replace hr := Lib.hid hr
        replace hS4 := Lib.hid hS4
        replace hnt := Lib.hid hnt
        clear hx hX hpk hkg hnu hbn hS2 hS3 hS9
        go_wp2_with (at_builtin; refine Lib.wpList_append_run _ rfl _ _ _ _ rfl _ _ rfl rfl _ _ hr.out ?_)
        go_roundw
        case rel => exact ⟨q + 1, Q ++ [p], by omega, by go_num, by simp; omega, hnt2.out, ⟨A4, c4, by simp⟩, hS4.out⟩
        case measure => simp [intOf]; omega
    · obtain rfl : q = l.length := by omega
      go_wp2_with fail
      go_loopw [6, 10, 11, 12, 13, 14] (fun rv k _ _ _ _ wr => ∃ (i : Nat) (Q : List Pk), i + Q.length ≤ 12 ∧ ntB ⟨Q, []⟩ = true ∧ k = .int .i64 i ∧ (∃ Av cv, rv = .slice Av Q.length cv) ∧ Hid (SL w0 Q Q rv wr)) (fun rv _ _ _ _ _ _ => lenV rv)
      case atStart => exact ⟨0, Q, by omega, hnt, rfl, ⟨Av, cv, rfl⟩, hS⟩
      case round =>
        clear hS hnt hQq hq hlt
        obtain ⟨i, Q, hiQ, hnt, rfl, ⟨Av, cv, rfl⟩, hS⟩ := hrel
        have hwi : IntKind.i64.wrap ((i : Int) + 1) = (i : Int) + 1 := IntWalk.i64_in _ (by omega)
        have hl12 := Lib.hid (show Q.length ≤ 12 by omega)
        by_cases hpos : 0 < Q.length
        · have hpos' : (0 : Int) < (Q.length : Int) := by omega
          by_cases hio : i < od.length
          · have hio' : (i : Int) < (od.length : Int) := by omega
            obtain ⟨bo, oo, rfl, hbo, hco⟩ := ho.out (by omega)
            have hcr := (hS.out.bel.cell (p := ⟨bo, oo + i, none⟩) hbo).trans (hco i hio)
            obtain ⟨z, hz⟩ : ∃ z, od[i].toNat = z := ⟨_, rfl⟩
            rw [hz] at hcr
            have hj : z % Q.length < Q.length := Nat.mod_lt _ hpos
            obtain ⟨j, hj0⟩ : ∃ j, z % Q.length = j := ⟨_, rfl⟩
            have hzl : z < 256 := by rw [← hz]; exact UInt8.toNat_lt _
            have hrm : (z : Int) % (Q.length : Int) = (j : Int) := by rw [← hj0]; exact (Int.natCast_emod z Q.length).symm
            rw [hj0] at hj
            clear hz hj0 hco hbo
            obtain ⟨An, cn, An', cn', hbx, hnr⟩ := hS.out.box
            have y0 := cell_of_row wr _ 0 _ _ _ hbx
            have y1 := cell_of_row wr _ 1 _ _ _ hbx
            obtain ⟨p, hp⟩ : ∃ p, Q[j]? = some p := ⟨_, List.getElem?_eq_getElem hj⟩
            obtain ⟨q1, q2, q3, q4⟩ := all_plain hnt hp
            obtain ⟨Q', hQ'⟩ : ∃ X, Q.take j ++ Q.drop (j + 1) = X := ⟨_, rfl⟩
            rw [hQ'] at q2 q3 q4
            have hq3 := Lib.hid q3
            have hp' := Lib.hid hp
            have hcon := Deliver_any ⟨Q, []⟩ j wr An An' cn cn' (fun b => b < wr.heap.size ∧ Er (.slice Av Q.length cv) b) (fun _ h => h.1) hnr
            rw [q1, q2] at hcon
            replace hcon := Lib.hid hcon
            have hq4' := Lib.hid q4
            replace hQ' := Lib.hid hQ'
            have hjh := Lib.hid hj
            clear hbx hnr q1 q2 q3 q4 hp hj
            go_wp2_with fail
            refine hcon.out.mono ?_
            intro e w6 hp6
            obtain ⟨hb, P6, k6, A6, c6, A6', c6', rfl, hP1, hP2, hP3, hd⟩ := hp6
            clear hcon y0 y1
            have hSn := fun b hs => hS.out.sn hb (b := b) hs
            have hd := hd.mono hSn
            have hP2 := hP2.mono hSn
            have hS6 := hS.out.step hb
            have hlt6 := hS6.lt
            clear hSn hb hS
            have hS7 := hS6.step (bnew w6 (.cells #[.int .i64 p.frm, .int .i64 p.to, .slice P6 p.data.length k6] 28))
            have hd7 := hd.er (bnew w6 (.cells #[.int .i64 p.frm, .int .i64 p.to, .slice P6 p.data.length k6] 28))
            have kp7 := heap_alloc_new w6 (.cells #[.int .i64 p.frm, .int .i64 p.to, .slice P6 p.data.length k6] 28)
            obtain ⟨V7, hV7⟩ : ∃ V, w6.alloc (.cells #[.int .i64 p.frm, .int .i64 p.to, .slice P6 p.data.length k6] 28) = V := ⟨_, rfl⟩
            have s7 : V7.heap.size = w6.heap.size + 1 := by rw [← hV7]; simp
            rw [hV7] at hS7 hd7 kp7
            have hb8 := bnew V7 (.cells #[.slice A6 Q'.length c6, .slice A6' 0 c6'] 25)
            have hS8 := hS7.step hb8
            have hd8 := hd7.er hb8
            have kp8 := blk_step kp7 hb8
            have kx8 := heap_alloc_new V7 (.cells #[.slice A6 Q'.length c6, .slice A6' 0 c6'] 25)
            obtain ⟨V8, hV8⟩ : ∃ V, V7.alloc (.cells #[.slice A6 Q'.length c6, .slice A6' 0 c6'] 25) = V := ⟨_, rfl⟩
            have s8 : V8.heap.size = w6.heap.size + 2 := by rw [← hV8]; simp; omega
            rw [hV8] at hS8 hd8 kp8 kx8 hb8
            rw [s7] at kx8
            have hP8 := (hP2.mono (S' := (· < w6.heap.size)) fun b hb => hb.1).keep (w := w6) (w' := V8) (fun b o hb => ((bnew w6 (.cells #[.int .i64 p.frm, .int .i64 p.to, .slice P6 p.data.length k6] 28)).cell (p := ⟨b, o, none⟩) hb |> fun e => by rw [hV7] at e; exact (hb8.cell (p := ⟨b, o, none⟩) (by have : b < w6.heap.size := hb; show b < V7.heap.size; omega)).trans e))
            have hP8 := hP8.mono (S' := (· < V8.heap.size)) fun b hb => by have : b < w6.heap.size := hb; show b < V8.heap.size; omega
            obtain ⟨g, c0, xs, ys, hv, hc1, hc2, hxs, hxp, hys, hyp, r, Ar, cr, hr, ⟨r0, r1, r2⟩, hgl, hrr⟩ := hS8.parts hjh.out
            obtain rfl : p = r := by
              have := hp'.out.symm.trans hr
              injection this
            injection hv with hv1 hv2 hv3
            subst hv1 hv3
            have hR8 := (hS8.arg hrr).mono (S' := (· < V8.heap.size)) fun b hb => hb.1
            have hsp : Hid (∀ W, Below V8.heap.size V8 W → Calls Try.prog 22 #[.agg #[.int .i64 p.frm, .int .i64 p.to, .slice P6 p.data.length k6], .agg #[.int .i64 p.frm, .int .i64 p.to, .slice Ar p.data.length cr]] W fun x w' => x = .returned (.bool true) ∧ Below W.heap.size W w') := fun W hW => by
              have h := SamePacket_any p p W P6 Ar k6 cr ((hP8.keep (Kept.below hW)).mono fun b hb => Nat.lt_of_lt_of_le hb hW.size) ((hR8.keep (Kept.below hW)).mono fun b hb => Nat.lt_of_lt_of_le hb hW.size)
              rw [sameP_refl] at h
              exact h
            have hN : Hid (∀ W, Below V8.heap.size V8 W → (W.cell? ⟨w6.heap.size, 0, none⟩ = some (.int .i64 p.frm) ∧ W.cell? ⟨w6.heap.size, 1, none⟩ = some (.int .i64 p.to) ∧ W.cell? ⟨w6.heap.size, 2, none⟩ = some (.slice P6 p.data.length k6)) ∧ W.cell? ⟨g, j * 3, none⟩ = some (.int .i64 p.frm) ∧ W.cell? ⟨g, j * 3 + 1, none⟩ = some (.int .i64 p.to) ∧ W.cell? ⟨g, j * 3 + 2, none⟩ = some (.slice Ar p.data.length cr)) := fun W hW =>
              have h := blk_step kp8 hW
              ⟨⟨cell_of_row W _ 0 _ _ _ h, cell_of_row W _ 1 _ _ _ h, cell_of_row W _ 2 _ _ _ h⟩, (hW.cell (p := ⟨g, j * 3, none⟩) hgl).trans r0, (hW.cell (p := ⟨g, j * 3 + 1, none⟩) hgl).trans r1, (hW.cell (p := ⟨g, j * 3 + 2, none⟩) hgl).trans r2⟩
            have hkl := Lib.hid (show ((0 : Int) ≤ (j : Int)) ∧ ((j : Int) < Q.length) ∧ j < Q.length from ⟨by omega, by have := hjh.out; omega, hjh.out⟩)
            replace hV7 := Lib.hid hV7
            replace hV8 := Lib.hid hV8
            replace hS8 := Lib.hid hS8
            replace hd8 := Lib.hid hd8
            replace kx8 := Lib.hid kx8
            replace hc1 := Lib.hid hc1
            clear hP1 hP2 hP3 hd hS6 hS7 hd7 kp7 hb8 kp8 hxs hxp hys hyp hr r0 r1 r2 hgl hrr hR8 hP8
            go_upto_region 21 with fail
            rw [hV7.out, hV8.out]
            refine wp_region_pre 11 0 (fun W => Below V8.heap.size V8 W) (fun W W' => Below W.heap.size W W')
              (fun i v W => match i with
                | 0 => v = .int .i64 0
                | 1 => v = .bool false
                | 2 => v = .bool false
                | 3 => v = .agg #[.int .i64 p.frm, .int .i64 p.to, .slice P6 p.data.length k6]
                | 4 => v = .slice (some ⟨g, 0, none⟩) Q.length cv
                | 5 => v = .int .i64 (j : Int)
                | 6 => v = .pointer (some ⟨g, j * 3, none⟩)
                | 7 => v = .agg #[.int .i64 p.frm, .int .i64 p.to, .slice Ar p.data.length cr]
                | 8 => v = .bool true
                | 9 => v = .bool false
                | 10 => v = .bool false
                | _ => True) (fun _ => false)
              (by kernel_rfl) (by kernel_rfl) (by kernel_rfl) (by kernel_rfl) (by kernel_rfl) (by kernel_rfl) (by kernel_rfl) ?_ (fun _ _ h => h.size) (dN (Below.refl _ _) 1) ?_ ?_
            · intro i v W W' hb hF
              match i, hF with
              | 0, h => exact h
              | 1, h => exact h
              | 2, h => exact h
              | 3, h => exact h
              | 4, h => exact h
              | 5, h => exact h
              | 6, h => exact h
              | 7, h => exact h
              | 8, h => exact h
              | 9, h => exact h
              | 10, h => exact h
              | _ + 11, _ => trivial
            · refine ⟨?_, ?_, ?_, ?_, ?_, ?_, ?_, ?_, ?_, ?_, ?_, trivial⟩
              · refine stepJ_any rfl fun ac W hAA hG hDD K hK => ?_
                have h14 := hAA.getD (t := 14) (by kernel_rfl)
                simp only [Array.getD_eq_getD_getElem?] at h14
                rw [if_pos (by rfl)]
                exact wp_val (v := .int .i64 0) (w' := W) (by simp [execOp, Act.eval, h14, go_sem]) (hK _ _ hG (Below.refl _ _) rfl (fun h => by cases h))
              · refine stepJ_any rfl fun ac W hAA hG hDD K hK => ?_
                have h70 := hDD.get 0 70 _ rfl rfl (by kernel_rfl)
                simp only [Array.getD_eq_getD_getElem?] at h70
                rw [if_pos (by rfl)]
                exact wp_val (v := .bool false) (w' := W) (by simp [execOp, Act.eval, h70, go_sem]) (hK _ _ hG (Below.refl _ _) rfl (fun h => by cases h))
              · refine stepJ_any rfl fun ac W hAA hG hDD K hK => ?_
                have h71 := hDD.get 1 71 _ rfl rfl (by kernel_rfl)
                simp only [Array.getD_eq_getD_getElem?] at h71
                rw [if_pos (by rfl)]
                exact wp_val (v := .bool false) (w' := W) (by simp [execOp, Act.eval, h71, go_sem]) (hK _ _ hG (Below.refl _ _) rfl (fun h => by cases h))
              · refine stepJ_any rfl fun ac W hAA hG hDD K hK => ?_
                have h12 := hAA.getD (t := 12) (by kernel_rfl)
                have hgd := hDD.get 2 72 _ rfl rfl (by kernel_rfl)
                have hgd := slot_bool hgd
                simp only [Array.getD_eq_getD_getElem?] at h12
                obtain ⟨⟨k0, k1, k2⟩, -⟩ := hN.out W hG
                rw [if_pos (by simp [Region.wanted, yielded, hgd])]
                exact wp_val (v := .agg #[.int .i64 p.frm, .int .i64 p.to, .slice P6 p.data.length k6]) (w' := W) (by simp [execOp, Act.eval, h12, go_sem, k0, k1, k2]) (hK _ _ hG (Below.refl _ _) rfl (fun h => by cases h))
              · refine stepJ_any rfl fun ac W hAA hG hDD K hK => ?_
                have h6 := hAA.getD (t := 6) (by kernel_rfl)
                have hgd := hDD.get 2 72 _ rfl rfl (by kernel_rfl)
                have hgd := slot_bool hgd
                simp only [Array.getD_eq_getD_getElem?] at h6
                rw [if_pos (by simp [Region.wanted, yielded, hgd])]
                exact wp_val (v := .slice (some ⟨g, 0, none⟩) Q.length cv) (w' := W) (by simp [execOp, Act.eval, h6, go_sem]) (hK _ _ hG (Below.refl _ _) rfl (fun h => by cases h))
              · refine stepJ_any rfl fun ac W hAA hG hDD K hK => ?_
                have h11 := hAA.getD (t := 11) (by kernel_rfl)
                have hgd := hDD.get 2 72 _ rfl rfl (by kernel_rfl)
                have hgd := slot_bool hgd
                simp only [Array.getD_eq_getD_getElem?] at h11
                rw [if_pos (by simp [Region.wanted, yielded, hgd])]
                exact wp_val (v := .int .i64 (j : Int)) (w' := W) (by simp [execOp, Act.eval, h11, go_sem]) (hK _ _ hG (Below.refl _ _) rfl (fun h => by cases h))
              · refine stepJ_any rfl fun ac W hAA hG hDD K hK => ?_
                have h74 := hDD.get 4 74 _ rfl rfl (by kernel_rfl)
                have h75 := hDD.get 5 75 _ rfl rfl (by kernel_rfl)
                have hgd := hDD.get 2 72 _ rfl rfl (by kernel_rfl)
                have hgd := slot_bool hgd
                simp only [Array.getD_eq_getD_getElem?] at h74 h75
                have hkl := hkl.out
                rw [if_pos (by simp [Region.wanted, yielded, hgd])]
                exact wp_val (v := .pointer (some ⟨g, j * 3, none⟩)) (w' := W) (by simp [execOp, Act.eval, h74, h75, go_sem, hkl]) (hK _ _ hG (Below.refl _ _) rfl (fun h => by cases h))
              · refine stepJ_any rfl fun ac W hAA hG hDD K hK => ?_
                have h76 := hDD.get 6 76 _ rfl rfl (by kernel_rfl)
                have hgd := hDD.get 2 72 _ rfl rfl (by kernel_rfl)
                have hgd := slot_bool hgd
                simp only [Array.getD_eq_getD_getElem?] at h76
                obtain ⟨-, k0, k1, k2⟩ := hN.out W hG
                rw [if_pos (by simp [Region.wanted, yielded, hgd])]
                exact wp_val (v := .agg #[.int .i64 p.frm, .int .i64 p.to, .slice Ar p.data.length cr]) (w' := W) (by simp [execOp, Act.eval, h76, go_sem, k0, k1, k2]) (hK _ _ hG (Below.refl _ _) rfl (fun h => by cases h))
              · refine stepJ_any rfl fun ac W hAA hG hDD K hK => ?_
                have h73 := hDD.get 3 73 _ rfl rfl (by kernel_rfl)
                have h77 := hDD.get 7 77 _ rfl rfl (by kernel_rfl)
                have hgd := hDD.get 2 72 _ rfl rfl (by kernel_rfl)
                have hgd := slot_bool hgd
                simp only [Array.getD_eq_getD_getElem?] at h73 h77
                rw [if_pos (by simp [Region.wanted, yielded, hgd])]
                refine wp_call (f := 22) (args := #[.agg #[.int .i64 p.frm, .int .i64 p.to, .slice P6 p.data.length k6], .agg #[.int .i64 p.frm, .int .i64 p.to, .slice Ar p.data.length cr]]) (by simp [execOp, Act.eval, h73, h77, go_sem]) ((hsp.out W hG).mono fun e W9 he => ?_)
                obtain ⟨rfl, hbw⟩ := he
                exact hK _ _ (hG.trans (hbw.mono hG.size)) hbw rfl (fun h => by cases h)
              · refine stepJ_any rfl fun ac W hAA hG hDD K hK => ?_
                have h78 := hDD.get 8 78 _ rfl rfl (by kernel_rfl)
                have hgd := hDD.get 2 72 _ rfl rfl (by kernel_rfl)
                have hgd := slot_bool hgd
                simp only [Array.getD_eq_getD_getElem?] at h78
                rw [if_pos (by simp [Region.wanted, yielded, hgd])]
                exact wp_val (v := .bool false) (w' := W) (by simp [execOp, Act.eval, h78, go_sem]) (hK _ _ hG (Below.refl _ _) rfl (fun h => by cases h))
              · refine stepJ_any rfl fun ac W hAA hG hDD K hK => ?_
                have h72 := hDD.get 2 72 _ rfl rfl (by kernel_rfl)
                have h79 := hDD.get 9 79 _ rfl rfl (by kernel_rfl)
                simp only [Array.getD_eq_getD_getElem?] at h72 h79
                rw [if_pos (by rfl)]
                exact wp_val (v := .bool false) (w' := W) (by simp [execOp, Act.eval, h72, h79, go_sem]) (hK _ _ hG (Below.refl _ _) rfl (fun h => by cases h))
            intro fu T w9 hG hF hne hltb
            have e70 : T 70 = .int .i64 0 := hF 0 _ rfl (by omega)
            have e71 : T 71 = .bool false := hF 1 _ rfl (by omega)
            have e72 : T 72 = .bool false := hF 2 _ rfl (by omega)
            have e73 : T 73 = .agg #[.int .i64 p.frm, .int .i64 p.to, .slice P6 p.data.length k6] := hF 3 _ rfl (by omega)
            have e74 : T 74 = .slice (some ⟨g, 0, none⟩) Q.length cv := hF 4 _ rfl (by omega)
            have e75 : T 75 = .int .i64 (j : Int) := hF 5 _ rfl (by omega)
            have e76 : T 76 = .pointer (some ⟨g, j * 3, none⟩) := hF 6 _ rfl (by omega)
            have e77 : T 77 = .agg #[.int .i64 p.frm, .int .i64 p.to, .slice Ar p.data.length cr] := hF 7 _ rfl (by omega)
            have e78 : T 78 = .bool true := hF 8 _ rfl (by omega)
            have e79 : T 79 = .bool false := hF 9 _ rfl (by omega)
            have e80 : T 80 = .bool false := hF 10 _ rfl (by omega)
            clear hF hne hltb
            simp only [List.take, fillT, List.setIfInBounds_toArray, List.set_cons_zero, List.set_cons_succ, e70, e71, e72, e73, e74, e75, e76, e77, e78, e79, e80]
            clear e70 e71 e72 e73 e74 e75 e76 e77 e78 e79 e80
            refine wpAny_done (by kernel_rfl) ?_ _
            have hS9 := hS8.out.step hG
            have hd9 := hd8.out.er hG
            have kx9 := blk_step kx8.out hG
            have s9 := hG.size
            clear hN hsp hS8 hd8 kx8
            obtain ⟨An2, cn2, An2', cn2', hbn, -⟩ := hS9.box
            have n0 := cell_of_row w9 _ 0 _ _ _ hbn
            have n1 := cell_of_row w9 _ 1 _ _ _ hbn
            have fN := fun i => frozen_of_row w9 _ i _ _ hbn
            have x0 : w9.cell? ⟨w6.heap.size + 1, 0, none⟩ = some (.slice A6 Q'.length c6) := cell_of_row w9 _ 0 _ _ _ kx9
            have x1 : w9.cell? ⟨w6.heap.size + 1, 1, none⟩ = some (.slice A6' 0 c6') := cell_of_row w9 _ 1 _ _ _ kx9
            have hz0 := hS9.bel.size
            have hz6 : w0.heap.size < w6.heap.size := hlt6
            have hne1 : w6.heap.size + 1 ≠ w0.heap.size := by omega
            have hne2 : w0.heap.size ≠ w6.heap.size + 1 := by omega
            have hS10 := hS9.put hd9
            obtain ⟨V10, hV10⟩ : ∃ V, (w9.setCell ⟨w0.heap.size, 0, none⟩ (.slice A6 Q'.length c6)).setCell ⟨w0.heap.size, 1, none⟩ (.slice A6' 0 c6') = V := ⟨_, rfl⟩
            rw [hV10] at hS10
            obtain ⟨g', c0, xs, ys, hv, hc1', hc2', hxs, hxp, hys, hyp, -⟩ := hS10.parts hjh.out
            injection hv with hv1 hv2 hv3
            injection hv1 with hv1
            injection hv1 with hv1
            subst hv1 hv3
            obtain ⟨D, hD⟩ : ∃ D, (if cv = j + 1 then some (⟨g, 0, none⟩ : Addr) else some ⟨g, (j + 1) * 3, none⟩) = D := ⟨_, rfl⟩
            rw [hD] at hys
            have hq4 := Lib.hid (show j ≤ cv by have := hjh.out; omega)
            have hk1 := Lib.hid (show IntKind.i64.wrap ((j : Int) + 1) = (j : Int) + 1 from IntWalk.i64_in _ (by have := hjh.out; have := hl12.out; omega))
            have hq9 := Lib.hid (show ((0 : Int) ≤ (j : Int) + 1) ∧ ((j : Int) + 1 ≤ (Q.length : Int)) ∧ (if cv = j + 1 then some (⟨g, 0, none⟩ : Addr) else some ⟨g, (j + 1) * 3, none⟩) = D from ⟨by omega, by have := hjh.out; omega, hD⟩)
            have hq6 := Lib.hid (show j ≤ 1000000 by have := hjh.out; have := hl12.out; omega)
            replace hxs := Lib.hid hxs
            replace hys := Lib.hid hys
            replace hS10 := Lib.hid hS10
            replace hV10 := Lib.hid hV10
            clear hS9 hd9 kx9 hbn hD hG
            go_upto_region 24 with fail
            rw [hV10.out]
            clear n0 n1 fN x0 x1 hne1 hne2
            refine wp_region_pre 9 2 (fun W => Below V10.heap.size V10 W) (fun W W' => Below W.heap.size W W')
              (fun i v W => match i with
                | 0 => ∃ g, v = .slice (some ⟨g, 0, none⟩) 0 0 ∧ W.ownsRow V10.heap.size 28 3 (.slice (some ⟨g, 0, none⟩) 0 0) 0 []
                | 1 => v = .slice (some ⟨g, 0, none⟩) Q.length cv
                | 2 => v = .int .i64 (j : Int)
                | 3 => v = .slice (some ⟨g, 0, none⟩) j cv
                | 4 => ∃ u, v = u ∧ Own0 V10.heap.size j xs u W
                | 5 => v = .slice (some ⟨g, 0, none⟩) Q.length cv
                | 6 => v = .int .i64 (j : Int)
                | 7 => v = .int .i64 ((j : Int) + 1)
                | 8 => v = .slice D (Q.length - (j + 1)) (cv - (j + 1))
                | _ => True) (fun _ => false)
              (by kernel_rfl) (by kernel_rfl) (by kernel_rfl) (by kernel_rfl) (by kernel_rfl) (by kernel_rfl) (by kernel_rfl) ?_ (fun _ _ h => h.size) (dN (Below.refl _ _) 1) ?_ ?_
            · intro i v W W' hb hF
              match i, hF with
              | 0, ⟨g, h1, h2⟩ => exact ⟨g, h1, ownsRow_below h2 hb⟩
              | 1, h => exact h
              | 2, h => exact h
              | 3, h => exact h
              | 4, ⟨u, h1, h2⟩ => exact ⟨u, h1, ⟨ownsRow_below h2.1 hb, h2.2⟩⟩
              | 5, h => exact h
              | 6, h => exact h
              | 7, h => exact h
              | 8, h => exact h
              | _ + 9, _ => trivial
            · refine ⟨?_, ?_, ?_, ?_, ?_, ?_, ?_, ?_, ?_, trivial⟩
              · refine stepJ_any rfl fun ac W hAA hG hDD K hK => ?_
                rw [if_pos (by rfl)]
                exact wp_val (v := .slice (some ⟨W.heap.size, 0, none⟩) 0 0) (w' := W.alloc (.cells #[] 28)) (by simp [execOp, Act.eval, go_sem]) (hK _ _ (hG.alloc hG.size _) (bnew W _) ⟨_, rfl, own_zero (heap_alloc_new W _) hG.size⟩ (fun h => by cases h))
              · refine stepJ_any rfl fun ac W hAA hG hDD K hK => ?_
                have h6 := hAA.getD (t := 6) (by kernel_rfl)
                simp only [Array.getD_eq_getD_getElem?] at h6
                rw [if_pos (by rfl)]
                exact wp_val (v := .slice (some ⟨g, 0, none⟩) Q.length cv) (w' := W) (by simp [execOp, Act.eval, h6, go_sem]) (hK _ _ hG (Below.refl _ _) rfl (fun h => by cases h))
              · refine stepJ_any rfl fun ac W hAA hG hDD K hK => ?_
                have h11 := hAA.getD (t := 11) (by kernel_rfl)
                simp only [Array.getD_eq_getD_getElem?] at h11
                rw [if_pos (by rfl)]
                exact wp_val (v := .int .i64 (j : Int)) (w' := W) (by simp [execOp, Act.eval, h11, go_sem]) (hK _ _ hG (Below.refl _ _) rfl (fun h => by cases h))
              · refine stepJ_any rfl fun ac W hAA hG hDD K hK => ?_
                have h83 := hDD.get 1 83 _ rfl rfl (by kernel_rfl)
                have h84 := hDD.get 2 84 _ rfl rfl (by kernel_rfl)
                simp only [Array.getD_eq_getD_getElem?] at h83 h84
                have hq4 := hq4.out
                rw [if_pos (by rfl)]
                exact wp_val (v := .slice (some ⟨g, 0, none⟩) j cv) (w' := W) (by simp [execOp, Act.eval, h83, h84, go_sem, hq4]) (hK _ _ hG (Below.refl _ _) rfl (fun h => by cases h))
              · refine stepJ_any rfl fun ac W hAA hG hDD K hK => ?_
                obtain ⟨g0, h82, ho0⟩ := hDD.get 0 82 _ rfl rfl (by kernel_rfl)
                have h85 := hDD.get 3 85 _ rfl rfl (by kernel_rfl)
                rw [if_pos (by rfl)]
                obtain ⟨v3, W3, hr3, ho3, hb3⟩ := append_empty W V10.heap.size 22 g0 ho0 (some ⟨g, 0, none⟩) j cv xs hxs.out.len (hxs.out.cells W hG) hxs.out.ones hq6.out hG.size
                exact Lib.wp_append_run W (.tmp 82) (.tmp 85) 22 22 rfl _ _ h82 h85 _ W3 hr3 (hK _ _ (hG.trans (hb3.mono hG.size)) hb3 ⟨_, rfl, ho3⟩ (fun h => by cases h))
              · refine stepJ_any rfl fun ac W hAA hG hDD K hK => ?_
                have h6 := hAA.getD (t := 6) (by kernel_rfl)
                simp only [Array.getD_eq_getD_getElem?] at h6
                rw [if_pos (by rfl)]
                exact wp_val (v := .slice (some ⟨g, 0, none⟩) Q.length cv) (w' := W) (by simp [execOp, Act.eval, h6, go_sem]) (hK _ _ hG (Below.refl _ _) rfl (fun h => by cases h))
              · refine stepJ_any rfl fun ac W hAA hG hDD K hK => ?_
                have h11 := hAA.getD (t := 11) (by kernel_rfl)
                simp only [Array.getD_eq_getD_getElem?] at h11
                rw [if_pos (by rfl)]
                exact wp_val (v := .int .i64 (j : Int)) (w' := W) (by simp [execOp, Act.eval, h11, go_sem]) (hK _ _ hG (Below.refl _ _) rfl (fun h => by cases h))
              · refine stepJ_any rfl fun ac W hAA hG hDD K hK => ?_
                have h88 := hDD.get 6 88 _ rfl rfl (by kernel_rfl)
                simp only [Array.getD_eq_getD_getElem?] at h88
                have hk1 := hk1.out
                rw [if_pos (by rfl)]
                exact wp_val (v := .int .i64 ((j : Int) + 1)) (w' := W) (by simp [execOp, Act.eval, h88, go_sem, hk1]) (hK _ _ hG (Below.refl _ _) rfl (fun h => by cases h))
              · refine stepJ_any rfl fun ac W hAA hG hDD K hK => ?_
                have h87 := hDD.get 5 87 _ rfl rfl (by kernel_rfl)
                have h89 := hDD.get 7 89 _ rfl rfl (by kernel_rfl)
                simp only [Array.getD_eq_getD_getElem?] at h87 h89
                have hq9 := hq9.out
                rw [if_pos (by rfl)]
                exact wp_val (v := .slice D (Q.length - (j + 1)) (cv - (j + 1))) (w' := W) (by simp [execOp, Act.eval, h87, h89, go_sem, hq9]) (hK _ _ hG (Below.refl _ _) rfl (fun h => by cases h))
            intro fu T w11 hG hF hne hltb
            obtain ⟨g0, e82, -⟩ := hF 0 _ rfl (by omega)
            replace e82 : T 82 = _ := e82
            have e83 : T 83 = .slice (some ⟨g, 0, none⟩) Q.length cv := hF 1 _ rfl (by omega)
            have e84 : T 84 = .int .i64 (j : Int) := hF 2 _ rfl (by omega)
            have e85 : T 85 = .slice (some ⟨g, 0, none⟩) j cv := hF 3 _ rfl (by omega)
            obtain ⟨u3, e86, ho3⟩ := hF 4 _ rfl (by omega)
            replace e86 : T 86 = _ := e86
            have e87 : T 87 = .slice (some ⟨g, 0, none⟩) Q.length cv := hF 5 _ rfl (by omega)
            have e88 : T 88 = .int .i64 (j : Int) := hF 6 _ rfl (by omega)
            have e89 : T 89 = .int .i64 ((j : Int) + 1) := hF 7 _ rfl (by omega)
            have e90 : T 90 = .slice D (Q.length - (j + 1)) (cv - (j + 1)) := hF 8 _ rfl (by omega)
            clear hF hne hltb
            simp only [List.take, fillT, List.setIfInBounds_toArray, List.set_cons_zero, List.set_cons_succ, e82, e83, e84, e85, e86, e87, e88, e89, e90]
            clear e82 e83 e84 e85 e86 e87 e88 e89 e90
            refine wpAny_ready (rs := [9]) (by kernel_rfl) (by simp) (AllReady.cons (o := ⟨(some 91), (Op.call { callee := (Callee.builtin Builtin.append), args := #[(Operand.tmp 86), (Operand.tmp 90)], argTypes := #[22, 22] }), _, _, _, none⟩) rfl (fun K1 hK1 => ?_) AllReady.nil)
            rw [if_pos (by rfl)]
            obtain ⟨v4, w12, hr, ho, -, hb4⟩ := append_behind w11 V10.heap.size 22 u3 j xs ho3 D (Q.length - (j + 1)) (cv - (j + 1)) ys hys.out.len (hys.out.cells w11 hG) hys.out.ones (by have := hjh.out; have := hl12.out; omega) hG.size
            refine Lib.wp_append_run w11 (.tmp 86) (.tmp 90) 22 22 rfl _ _ rfl rfl _ w12 hr ?_
            refine hK1 _ _ ?_
            clear hK1 K1
            have hQl : j + (Q.length - (j + 1)) = Q'.length := by have := hq4'.out; have := hjh.out; omega
            rw [hQl] at ho
            have hS12 := hS10.out.turn (hG.trans hb4) ho (by rw [← hQ'.out]; exact hxp.append hyp)
            have hf12 : ∃ A c, v4 = .slice A Q'.length c := by
              rcases ho.2 with ⟨h1, h2⟩ | ⟨g2, cap, cur, h1, -⟩
              · exact ⟨none, 0, by rw [h1, h2]⟩
              · exact ⟨_, cap, h1⟩
            obtain ⟨A12, c12, rfl⟩ := hf12
            replace hS12 := Lib.hid hS12
            clear hr ho hb4 hG hS10 hxs hys hxp hyp ho3
            refine wpAny_ready (rs := [10]) (by kernel_rfl) (by simp) (AllReady.cons (o := ⟨(some 6), (Op.assign (Operand.tmp 91)), _, _, _, none⟩) rfl (fun K1 hK1 => ?_) AllReady.nil)
            rw [if_pos (by rfl)]
            refine wp_val (v := .slice A12 Q'.length c12) (w' := w12) (by simp [execOp, Act.eval, go_sem]) ?_
            refine hK1 _ _ ?_
            clear hK1 K1
            refine wpAny_done (by kernel_rfl) ?_ _
            simp only [Act.put, List.setIfInBounds_toArray, List.set_cons_zero, List.set_cons_succ]
            go_wp2_with fail
            go_roundw
            case rel => exact ⟨i + 1, Q', by have := hq4'.out; omega, hq3.out, by go_num, ⟨A12, c12, rfl⟩, hS12.out⟩
            case measure => have := hq4'.out; simp [lenV]; omega
          · have hio' : ¬ (i : Int) < (od.length : Int) := by omega
            obtain ⟨j, hj0⟩ : ∃ j : Nat, j = 0 := ⟨_, rfl⟩
            have hj : j < Q.length := by omega
            replace hj0 := Lib.hid hj0
            obtain ⟨An, cn, An', cn', hbx, hnr⟩ := hS.out.box
            have y0 := cell_of_row wr _ 0 _ _ _ hbx
            have y1 := cell_of_row wr _ 1 _ _ _ hbx
            obtain ⟨p, hp⟩ : ∃ p, Q[j]? = some p := ⟨_, List.getElem?_eq_getElem hj⟩
            obtain ⟨q1, q2, q3, q4⟩ := all_plain hnt hp
            obtain ⟨Q', hQ'⟩ : ∃ X, Q.take j ++ Q.drop (j + 1) = X := ⟨_, rfl⟩
            rw [hQ'] at q2 q3 q4
            have hq3 := Lib.hid q3
            have hp' := Lib.hid hp
            have hcon := Deliver_any ⟨Q, []⟩ j wr An An' cn cn' (fun b => b < wr.heap.size ∧ Er (.slice Av Q.length cv) b) (fun _ h => h.1) hnr
            rw [q1, q2] at hcon
            rw [show ((j : Nat) : Int) = 0 by rw [hj0.out]; rfl] at hcon
            replace hcon := Lib.hid hcon
            have hq4' := Lib.hid q4
            replace hQ' := Lib.hid hQ'
            have hjh := Lib.hid hj
            clear hbx hnr q1 q2 q3 q4 hp hj
            go_wp2_with fail
            refine hcon.out.mono ?_
            intro e w6 hp6
            obtain ⟨hb, P6, k6, A6, c6, A6', c6', rfl, hP1, hP2, hP3, hd⟩ := hp6
            clear hcon y0 y1
            have hSn := fun b hs => hS.out.sn hb (b := b) hs
            have hd := hd.mono hSn
            have hP2 := hP2.mono hSn
            have hS6 := hS.out.step hb
            have hlt6 := hS6.lt
            clear hSn hb hS
            have hS7 := hS6.step (bnew w6 (.cells #[.int .i64 p.frm, .int .i64 p.to, .slice P6 p.data.length k6] 28))
            have hd7 := hd.er (bnew w6 (.cells #[.int .i64 p.frm, .int .i64 p.to, .slice P6 p.data.length k6] 28))
            have kp7 := heap_alloc_new w6 (.cells #[.int .i64 p.frm, .int .i64 p.to, .slice P6 p.data.length k6] 28)
            obtain ⟨V7, hV7⟩ : ∃ V, w6.alloc (.cells #[.int .i64 p.frm, .int .i64 p.to, .slice P6 p.data.length k6] 28) = V := ⟨_, rfl⟩
            have s7 : V7.heap.size = w6.heap.size + 1 := by rw [← hV7]; simp
            rw [hV7] at hS7 hd7 kp7
            have hb8 := bnew V7 (.cells #[.slice A6 Q'.length c6, .slice A6' 0 c6'] 25)
            have hS8 := hS7.step hb8
            have hd8 := hd7.er hb8
            have kp8 := blk_step kp7 hb8
            have kx8 := heap_alloc_new V7 (.cells #[.slice A6 Q'.length c6, .slice A6' 0 c6'] 25)
            obtain ⟨V8, hV8⟩ : ∃ V, V7.alloc (.cells #[.slice A6 Q'.length c6, .slice A6' 0 c6'] 25) = V := ⟨_, rfl⟩
            have s8 : V8.heap.size = w6.heap.size + 2 := by rw [← hV8]; simp; omega
            rw [hV8] at hS8 hd8 kp8 kx8 hb8
            rw [s7] at kx8
            have hP8 := (hP2.mono (S' := (· < w6.heap.size)) fun b hb => hb.1).keep (w := w6) (w' := V8) (fun b o hb => ((bnew w6 (.cells #[.int .i64 p.frm, .int .i64 p.to, .slice P6 p.data.length k6] 28)).cell (p := ⟨b, o, none⟩) hb |> fun e => by rw [hV7] at e; exact (hb8.cell (p := ⟨b, o, none⟩) (by have : b < w6.heap.size := hb; show b < V7.heap.size; omega)).trans e))
            have hP8 := hP8.mono (S' := (· < V8.heap.size)) fun b hb => by have : b < w6.heap.size := hb; show b < V8.heap.size; omega
            obtain ⟨g, c0, xs, ys, hv, hc1, hc2, hxs, hxp, hys, hyp, r, Ar, cr, hr, ⟨r0, r1, r2⟩, hgl, hrr⟩ := hS8.parts hjh.out
            obtain rfl : p = r := by
              have := hp'.out.symm.trans hr
              injection this
            injection hv with hv1 hv2 hv3
            subst hv1 hv3
            have hR8 := (hS8.arg hrr).mono (S' := (· < V8.heap.size)) fun b hb => hb.1
            have hsp : Hid (∀ W, Below V8.heap.size V8 W → Calls Try.prog 22 #[.agg #[.int .i64 p.frm, .int .i64 p.to, .slice P6 p.data.length k6], .agg #[.int .i64 p.frm, .int .i64 p.to, .slice Ar p.data.length cr]] W fun x w' => x = .returned (.bool true) ∧ Below W.heap.size W w') := fun W hW => by
              have h := SamePacket_any p p W P6 Ar k6 cr ((hP8.keep (Kept.below hW)).mono fun b hb => Nat.lt_of_lt_of_le hb hW.size) ((hR8.keep (Kept.below hW)).mono fun b hb => Nat.lt_of_lt_of_le hb hW.size)
              rw [sameP_refl] at h
              exact h
            have hN : Hid (∀ W, Below V8.heap.size V8 W → (W.cell? ⟨w6.heap.size, 0, none⟩ = some (.int .i64 p.frm) ∧ W.cell? ⟨w6.heap.size, 1, none⟩ = some (.int .i64 p.to) ∧ W.cell? ⟨w6.heap.size, 2, none⟩ = some (.slice P6 p.data.length k6)) ∧ W.cell? ⟨g, j * 3, none⟩ = some (.int .i64 p.frm) ∧ W.cell? ⟨g, j * 3 + 1, none⟩ = some (.int .i64 p.to) ∧ W.cell? ⟨g, j * 3 + 2, none⟩ = some (.slice Ar p.data.length cr)) := fun W hW =>
              have h := blk_step kp8 hW
              ⟨⟨cell_of_row W _ 0 _ _ _ h, cell_of_row W _ 1 _ _ _ h, cell_of_row W _ 2 _ _ _ h⟩, (hW.cell (p := ⟨g, j * 3, none⟩) hgl).trans r0, (hW.cell (p := ⟨g, j * 3 + 1, none⟩) hgl).trans r1, (hW.cell (p := ⟨g, j * 3 + 2, none⟩) hgl).trans r2⟩
            have hkl := Lib.hid (show ((0 : Int) ≤ (j : Int)) ∧ ((j : Int) < Q.length) ∧ j < Q.length from ⟨by omega, by have := hjh.out; omega, hjh.out⟩)
            replace hV7 := Lib.hid hV7
            replace hV8 := Lib.hid hV8
            replace hS8 := Lib.hid hS8
            replace hd8 := Lib.hid hd8
            replace kx8 := Lib.hid kx8
            replace hc1 := Lib.hid hc1
            clear hP1 hP2 hP3 hd hS6 hS7 hd7 kp7 hb8 kp8 hxs hxp hys hyp hr r0 r1 r2 hgl hrr hR8 hP8
            go_upto_region 21 with fail
            rw [hV7.out, hV8.out]
            refine wp_region_pre 11 0 (fun W => Below V8.heap.size V8 W) (fun W W' => Below W.heap.size W W')
              (fun i v W => match i with
                | 0 => v = .int .i64 0
                | 1 => v = .bool false
                | 2 => v = .bool false
                | 3 => v = .agg #[.int .i64 p.frm, .int .i64 p.to, .slice P6 p.data.length k6]
                | 4 => v = .slice (some ⟨g, 0, none⟩) Q.length cv
                | 5 => v = .int .i64 (j : Int)
                | 6 => v = .pointer (some ⟨g, j * 3, none⟩)
                | 7 => v = .agg #[.int .i64 p.frm, .int .i64 p.to, .slice Ar p.data.length cr]
                | 8 => v = .bool true
                | 9 => v = .bool false
                | 10 => v = .bool false
                | _ => True) (fun _ => false)
              (by kernel_rfl) (by kernel_rfl) (by kernel_rfl) (by kernel_rfl) (by kernel_rfl) (by kernel_rfl) (by kernel_rfl) ?_ (fun _ _ h => h.size) (dN (Below.refl _ _) 1) ?_ ?_
            · intro i v W W' hb hF
              match i, hF with
              | 0, h => exact h
              | 1, h => exact h
              | 2, h => exact h
              | 3, h => exact h
              | 4, h => exact h
              | 5, h => exact h
              | 6, h => exact h
              | 7, h => exact h
              | 8, h => exact h
              | 9, h => exact h
              | 10, h => exact h
              | _ + 11, _ => trivial
            · refine ⟨?_, ?_, ?_, ?_, ?_, ?_, ?_, ?_, ?_, ?_, ?_, trivial⟩
              · refine stepJ_any rfl fun ac W hAA hG hDD K hK => ?_
                have h14 := hAA.getD (t := 14) (by kernel_rfl)
                simp only [Array.getD_eq_getD_getElem?] at h14
                rw [if_pos (by rfl)]
                exact wp_val (v := .int .i64 0) (w' := W) (by simp [execOp, Act.eval, h14, go_sem]) (hK _ _ hG (Below.refl _ _) rfl (fun h => by cases h))
              · refine stepJ_any rfl fun ac W hAA hG hDD K hK => ?_
                have h70 := hDD.get 0 70 _ rfl rfl (by kernel_rfl)
                simp only [Array.getD_eq_getD_getElem?] at h70
                rw [if_pos (by rfl)]
                exact wp_val (v := .bool false) (w' := W) (by simp [execOp, Act.eval, h70, go_sem]) (hK _ _ hG (Below.refl _ _) rfl (fun h => by cases h))
              · refine stepJ_any rfl fun ac W hAA hG hDD K hK => ?_
                have h71 := hDD.get 1 71 _ rfl rfl (by kernel_rfl)
                simp only [Array.getD_eq_getD_getElem?] at h71
                rw [if_pos (by rfl)]
                exact wp_val (v := .bool false) (w' := W) (by simp [execOp, Act.eval, h71, go_sem]) (hK _ _ hG (Below.refl _ _) rfl (fun h => by cases h))
              · refine stepJ_any rfl fun ac W hAA hG hDD K hK => ?_
                have h12 := hAA.getD (t := 12) (by kernel_rfl)
                have hgd := hDD.get 2 72 _ rfl rfl (by kernel_rfl)
                have hgd := slot_bool hgd
                simp only [Array.getD_eq_getD_getElem?] at h12
                obtain ⟨⟨k0, k1, k2⟩, -⟩ := hN.out W hG
                rw [if_pos (by simp [Region.wanted, yielded, hgd])]
                exact wp_val (v := .agg #[.int .i64 p.frm, .int .i64 p.to, .slice P6 p.data.length k6]) (w' := W) (by simp [execOp, Act.eval, h12, go_sem, k0, k1, k2]) (hK _ _ hG (Below.refl _ _) rfl (fun h => by cases h))
              · refine stepJ_any rfl fun ac W hAA hG hDD K hK => ?_
                have h6 := hAA.getD (t := 6) (by kernel_rfl)
                have hgd := hDD.get 2 72 _ rfl rfl (by kernel_rfl)
                have hgd := slot_bool hgd
                simp only [Array.getD_eq_getD_getElem?] at h6
                rw [if_pos (by simp [Region.wanted, yielded, hgd])]
                exact wp_val (v := .slice (some ⟨g, 0, none⟩) Q.length cv) (w' := W) (by simp [execOp, Act.eval, h6, go_sem]) (hK _ _ hG (Below.refl _ _) rfl (fun h => by cases h))
              · refine stepJ_any rfl fun ac W hAA hG hDD K hK => ?_
                have h11 := hAA.getD (t := 11) (by kernel_rfl)
                have hgd := hDD.get 2 72 _ rfl rfl (by kernel_rfl)
                have hgd := slot_bool hgd
                simp only [Array.getD_eq_getD_getElem?] at h11
                have hj0 := hj0.out
                rw [if_pos (by simp [Region.wanted, yielded, hgd])]
                exact wp_val (v := .int .i64 (j : Int)) (w' := W) (by simp [execOp, Act.eval, h11, go_sem, hj0]) (hK _ _ hG (Below.refl _ _) rfl (fun h => by cases h))
              · refine stepJ_any rfl fun ac W hAA hG hDD K hK => ?_
                have h74 := hDD.get 4 74 _ rfl rfl (by kernel_rfl)
                have h75 := hDD.get 5 75 _ rfl rfl (by kernel_rfl)
                have hgd := hDD.get 2 72 _ rfl rfl (by kernel_rfl)
                have hgd := slot_bool hgd
                simp only [Array.getD_eq_getD_getElem?] at h74 h75
                have hkl := hkl.out
                rw [if_pos (by simp [Region.wanted, yielded, hgd])]
                exact wp_val (v := .pointer (some ⟨g, j * 3, none⟩)) (w' := W) (by simp [execOp, Act.eval, h74, h75, go_sem, hkl]) (hK _ _ hG (Below.refl _ _) rfl (fun h => by cases h))
              · refine stepJ_any rfl fun ac W hAA hG hDD K hK => ?_
                have h76 := hDD.get 6 76 _ rfl rfl (by kernel_rfl)
                have hgd := hDD.get 2 72 _ rfl rfl (by kernel_rfl)
                have hgd := slot_bool hgd
                simp only [Array.getD_eq_getD_getElem?] at h76
                obtain ⟨-, k0, k1, k2⟩ := hN.out W hG
                rw [if_pos (by simp [Region.wanted, yielded, hgd])]
                exact wp_val (v := .agg #[.int .i64 p.frm, .int .i64 p.to, .slice Ar p.data.length cr]) (w' := W) (by simp [execOp, Act.eval, h76, go_sem, k0, k1, k2]) (hK _ _ hG (Below.refl _ _) rfl (fun h => by cases h))
              · refine stepJ_any rfl fun ac W hAA hG hDD K hK => ?_
                have h73 := hDD.get 3 73 _ rfl rfl (by kernel_rfl)
                have h77 := hDD.get 7 77 _ rfl rfl (by kernel_rfl)
                have hgd := hDD.get 2 72 _ rfl rfl (by kernel_rfl)
                have hgd := slot_bool hgd
                simp only [Array.getD_eq_getD_getElem?] at h73 h77
                rw [if_pos (by simp [Region.wanted, yielded, hgd])]
                refine wp_call (f := 22) (args := #[.agg #[.int .i64 p.frm, .int .i64 p.to, .slice P6 p.data.length k6], .agg #[.int .i64 p.frm, .int .i64 p.to, .slice Ar p.data.length cr]]) (by simp [execOp, Act.eval, h73, h77, go_sem]) ((hsp.out W hG).mono fun e W9 he => ?_)
                obtain ⟨rfl, hbw⟩ := he
                exact hK _ _ (hG.trans (hbw.mono hG.size)) hbw rfl (fun h => by cases h)
              · refine stepJ_any rfl fun ac W hAA hG hDD K hK => ?_
                have h78 := hDD.get 8 78 _ rfl rfl (by kernel_rfl)
                have hgd := hDD.get 2 72 _ rfl rfl (by kernel_rfl)
                have hgd := slot_bool hgd
                simp only [Array.getD_eq_getD_getElem?] at h78
                rw [if_pos (by simp [Region.wanted, yielded, hgd])]
                exact wp_val (v := .bool false) (w' := W) (by simp [execOp, Act.eval, h78, go_sem]) (hK _ _ hG (Below.refl _ _) rfl (fun h => by cases h))
              · refine stepJ_any rfl fun ac W hAA hG hDD K hK => ?_
                have h72 := hDD.get 2 72 _ rfl rfl (by kernel_rfl)
                have h79 := hDD.get 9 79 _ rfl rfl (by kernel_rfl)
                simp only [Array.getD_eq_getD_getElem?] at h72 h79
                rw [if_pos (by rfl)]
                exact wp_val (v := .bool false) (w' := W) (by simp [execOp, Act.eval, h72, h79, go_sem]) (hK _ _ hG (Below.refl _ _) rfl (fun h => by cases h))
            intro fu T w9 hG hF hne hltb
            have e70 : T 70 = .int .i64 0 := hF 0 _ rfl (by omega)
            have e71 : T 71 = .bool false := hF 1 _ rfl (by omega)
            have e72 : T 72 = .bool false := hF 2 _ rfl (by omega)
            have e73 : T 73 = .agg #[.int .i64 p.frm, .int .i64 p.to, .slice P6 p.data.length k6] := hF 3 _ rfl (by omega)
            have e74 : T 74 = .slice (some ⟨g, 0, none⟩) Q.length cv := hF 4 _ rfl (by omega)
            have e75 : T 75 = .int .i64 (j : Int) := hF 5 _ rfl (by omega)
            have e76 : T 76 = .pointer (some ⟨g, j * 3, none⟩) := hF 6 _ rfl (by omega)
            have e77 : T 77 = .agg #[.int .i64 p.frm, .int .i64 p.to, .slice Ar p.data.length cr] := hF 7 _ rfl (by omega)
            have e78 : T 78 = .bool true := hF 8 _ rfl (by omega)
            have e79 : T 79 = .bool false := hF 9 _ rfl (by omega)
            have e80 : T 80 = .bool false := hF 10 _ rfl (by omega)
            clear hF hne hltb
            simp only [List.take, fillT, List.setIfInBounds_toArray, List.set_cons_zero, List.set_cons_succ, e70, e71, e72, e73, e74, e75, e76, e77, e78, e79, e80]
            clear e70 e71 e72 e73 e74 e75 e76 e77 e78 e79 e80
            refine wpAny_done (by kernel_rfl) ?_ _
            have hS9 := hS8.out.step hG
            have hd9 := hd8.out.er hG
            have kx9 := blk_step kx8.out hG
            have s9 := hG.size
            clear hN hsp hS8 hd8 kx8
            obtain ⟨An2, cn2, An2', cn2', hbn, -⟩ := hS9.box
            have n0 := cell_of_row w9 _ 0 _ _ _ hbn
            have n1 := cell_of_row w9 _ 1 _ _ _ hbn
            have fN := fun i => frozen_of_row w9 _ i _ _ hbn
            have x0 : w9.cell? ⟨w6.heap.size + 1, 0, none⟩ = some (.slice A6 Q'.length c6) := cell_of_row w9 _ 0 _ _ _ kx9
            have x1 : w9.cell? ⟨w6.heap.size + 1, 1, none⟩ = some (.slice A6' 0 c6') := cell_of_row w9 _ 1 _ _ _ kx9
            have hz0 := hS9.bel.size
            have hz6 : w0.heap.size < w6.heap.size := hlt6
            have hne1 : w6.heap.size + 1 ≠ w0.heap.size := by omega
            have hne2 : w0.heap.size ≠ w6.heap.size + 1 := by omega
            have hS10 := hS9.put hd9
            obtain ⟨V10, hV10⟩ : ∃ V, (w9.setCell ⟨w0.heap.size, 0, none⟩ (.slice A6 Q'.length c6)).setCell ⟨w0.heap.size, 1, none⟩ (.slice A6' 0 c6') = V := ⟨_, rfl⟩
            rw [hV10] at hS10
            obtain ⟨g', c0, xs, ys, hv, hc1', hc2', hxs, hxp, hys, hyp, -⟩ := hS10.parts hjh.out
            injection hv with hv1 hv2 hv3
            injection hv1 with hv1
            injection hv1 with hv1
            subst hv1 hv3
            obtain ⟨D, hD⟩ : ∃ D, (if cv = j + 1 then some (⟨g, 0, none⟩ : Addr) else some ⟨g, (j + 1) * 3, none⟩) = D := ⟨_, rfl⟩
            rw [hD] at hys
            have hq4 := Lib.hid (show j ≤ cv by have := hjh.out; omega)
            have hk1 := Lib.hid (show IntKind.i64.wrap ((j : Int) + 1) = (j : Int) + 1 from IntWalk.i64_in _ (by have := hjh.out; have := hl12.out; omega))
            have hq9 := Lib.hid (show ((0 : Int) ≤ (j : Int) + 1) ∧ ((j : Int) + 1 ≤ (Q.length : Int)) ∧ (if cv = j + 1 then some (⟨g, 0, none⟩ : Addr) else some ⟨g, (j + 1) * 3, none⟩) = D from ⟨by omega, by have := hjh.out; omega, hD⟩)
            have hq6 := Lib.hid (show j ≤ 1000000 by have := hjh.out; have := hl12.out; omega)
            replace hxs := Lib.hid hxs
            replace hys := Lib.hid hys
            replace hS10 := Lib.hid hS10
            replace hV10 := Lib.hid hV10
            clear hS9 hd9 kx9 hbn hD hG
            go_upto_region 24 with fail
            rw [hV10.out]
            clear n0 n1 fN x0 x1 hne1 hne2
            refine wp_region_pre 9 2 (fun W => Below V10.heap.size V10 W) (fun W W' => Below W.heap.size W W')
              (fun i v W => match i with
                | 0 => ∃ g, v = .slice (some ⟨g, 0, none⟩) 0 0 ∧ W.ownsRow V10.heap.size 28 3 (.slice (some ⟨g, 0, none⟩) 0 0) 0 []
                | 1 => v = .slice (some ⟨g, 0, none⟩) Q.length cv
                | 2 => v = .int .i64 (j : Int)
                | 3 => v = .slice (some ⟨g, 0, none⟩) j cv
                | 4 => ∃ u, v = u ∧ Own0 V10.heap.size j xs u W
                | 5 => v = .slice (some ⟨g, 0, none⟩) Q.length cv
                | 6 => v = .int .i64 (j : Int)
                | 7 => v = .int .i64 ((j : Int) + 1)
                | 8 => v = .slice D (Q.length - (j + 1)) (cv - (j + 1))
                | _ => True) (fun _ => false)
              (by kernel_rfl) (by kernel_rfl) (by kernel_rfl) (by kernel_rfl) (by kernel_rfl) (by kernel_rfl) (by kernel_rfl) ?_ (fun _ _ h => h.size) (dN (Below.refl _ _) 1) ?_ ?_
            · intro i v W W' hb hF
              match i, hF with
              | 0, ⟨g, h1, h2⟩ => exact ⟨g, h1, ownsRow_below h2 hb⟩
              | 1, h => exact h
              | 2, h => exact h
              | 3, h => exact h
              | 4, ⟨u, h1, h2⟩ => exact ⟨u, h1, ⟨ownsRow_below h2.1 hb, h2.2⟩⟩
              | 5, h => exact h
              | 6, h => exact h
              | 7, h => exact h
              | 8, h => exact h
              | _ + 9, _ => trivial
            · refine ⟨?_, ?_, ?_, ?_, ?_, ?_, ?_, ?_, ?_, trivial⟩
              · refine stepJ_any rfl fun ac W hAA hG hDD K hK => ?_
                rw [if_pos (by rfl)]
                exact wp_val (v := .slice (some ⟨W.heap.size, 0, none⟩) 0 0) (w' := W.alloc (.cells #[] 28)) (by simp [execOp, Act.eval, go_sem]) (hK _ _ (hG.alloc hG.size _) (bnew W _) ⟨_, rfl, own_zero (heap_alloc_new W _) hG.size⟩ (fun h => by cases h))
              · refine stepJ_any rfl fun ac W hAA hG hDD K hK => ?_
                have h6 := hAA.getD (t := 6) (by kernel_rfl)
                simp only [Array.getD_eq_getD_getElem?] at h6
                rw [if_pos (by rfl)]
                exact wp_val (v := .slice (some ⟨g, 0, none⟩) Q.length cv) (w' := W) (by simp [execOp, Act.eval, h6, go_sem]) (hK _ _ hG (Below.refl _ _) rfl (fun h => by cases h))
              · refine stepJ_any rfl fun ac W hAA hG hDD K hK => ?_
                have h11 := hAA.getD (t := 11) (by kernel_rfl)
                simp only [Array.getD_eq_getD_getElem?] at h11
                have hj0 := hj0.out
                rw [if_pos (by rfl)]
                exact wp_val (v := .int .i64 (j : Int)) (w' := W) (by simp [execOp, Act.eval, h11, go_sem, hj0]) (hK _ _ hG (Below.refl _ _) rfl (fun h => by cases h))
              · refine stepJ_any rfl fun ac W hAA hG hDD K hK => ?_
                have h83 := hDD.get 1 83 _ rfl rfl (by kernel_rfl)
                have h84 := hDD.get 2 84 _ rfl rfl (by kernel_rfl)
                simp only [Array.getD_eq_getD_getElem?] at h83 h84
                have hq4 := hq4.out
                rw [if_pos (by rfl)]
                exact wp_val (v := .slice (some ⟨g, 0, none⟩) j cv) (w' := W) (by simp [execOp, Act.eval, h83, h84, go_sem, hq4]) (hK _ _ hG (Below.refl _ _) rfl (fun h => by cases h))
              · refine stepJ_any rfl fun ac W hAA hG hDD K hK => ?_
                obtain ⟨g0, h82, ho0⟩ := hDD.get 0 82 _ rfl rfl (by kernel_rfl)
                have h85 := hDD.get 3 85 _ rfl rfl (by kernel_rfl)
                rw [if_pos (by rfl)]
                obtain ⟨v3, W3, hr3, ho3, hb3⟩ := append_empty W V10.heap.size 22 g0 ho0 (some ⟨g, 0, none⟩) j cv xs hxs.out.len (hxs.out.cells W hG) hxs.out.ones hq6.out hG.size
                exact Lib.wp_append_run W (.tmp 82) (.tmp 85) 22 22 rfl _ _ h82 h85 _ W3 hr3 (hK _ _ (hG.trans (hb3.mono hG.size)) hb3 ⟨_, rfl, ho3⟩ (fun h => by cases h))
              · refine stepJ_any rfl fun ac W hAA hG hDD K hK => ?_
                have h6 := hAA.getD (t := 6) (by kernel_rfl)
                simp only [Array.getD_eq_getD_getElem?] at h6
                rw [if_pos (by rfl)]
                exact wp_val (v := .slice (some ⟨g, 0, none⟩) Q.length cv) (w' := W) (by simp [execOp, Act.eval, h6, go_sem]) (hK _ _ hG (Below.refl _ _) rfl (fun h => by cases h))
              · refine stepJ_any rfl fun ac W hAA hG hDD K hK => ?_
                have h11 := hAA.getD (t := 11) (by kernel_rfl)
                simp only [Array.getD_eq_getD_getElem?] at h11
                have hj0 := hj0.out
                rw [if_pos (by rfl)]
                exact wp_val (v := .int .i64 (j : Int)) (w' := W) (by simp [execOp, Act.eval, h11, go_sem, hj0]) (hK _ _ hG (Below.refl _ _) rfl (fun h => by cases h))
              · refine stepJ_any rfl fun ac W hAA hG hDD K hK => ?_
                have h88 := hDD.get 6 88 _ rfl rfl (by kernel_rfl)
                simp only [Array.getD_eq_getD_getElem?] at h88
                have hk1 := hk1.out
                rw [if_pos (by rfl)]
                exact wp_val (v := .int .i64 ((j : Int) + 1)) (w' := W) (by simp [execOp, Act.eval, h88, go_sem, hk1]) (hK _ _ hG (Below.refl _ _) rfl (fun h => by cases h))
              · refine stepJ_any rfl fun ac W hAA hG hDD K hK => ?_
                have h87 := hDD.get 5 87 _ rfl rfl (by kernel_rfl)
                have h89 := hDD.get 7 89 _ rfl rfl (by kernel_rfl)
                simp only [Array.getD_eq_getD_getElem?] at h87 h89
                have hq9 := hq9.out
                rw [if_pos (by rfl)]
                exact wp_val (v := .slice D (Q.length - (j + 1)) (cv - (j + 1))) (w' := W) (by simp [execOp, Act.eval, h87, h89, go_sem, hq9]) (hK _ _ hG (Below.refl _ _) rfl (fun h => by cases h))
            intro fu T w11 hG hF hne hltb
            obtain ⟨g0, e82, -⟩ := hF 0 _ rfl (by omega)
            replace e82 : T 82 = _ := e82
            have e83 : T 83 = .slice (some ⟨g, 0, none⟩) Q.length cv := hF 1 _ rfl (by omega)
            have e84 : T 84 = .int .i64 (j : Int) := hF 2 _ rfl (by omega)
            have e85 : T 85 = .slice (some ⟨g, 0, none⟩) j cv := hF 3 _ rfl (by omega)
            obtain ⟨u3, e86, ho3⟩ := hF 4 _ rfl (by omega)
            replace e86 : T 86 = _ := e86
            have e87 : T 87 = .slice (some ⟨g, 0, none⟩) Q.length cv := hF 5 _ rfl (by omega)
            have e88 : T 88 = .int .i64 (j : Int) := hF 6 _ rfl (by omega)
            have e89 : T 89 = .int .i64 ((j : Int) + 1) := hF 7 _ rfl (by omega)
            have e90 : T 90 = .slice D (Q.length - (j + 1)) (cv - (j + 1)) := hF 8 _ rfl (by omega)
            clear hF hne hltb
            simp only [List.take, fillT, List.setIfInBounds_toArray, List.set_cons_zero, List.set_cons_succ, e82, e83, e84, e85, e86, e87, e88, e89, e90]
            clear e82 e83 e84 e85 e86 e87 e88 e89 e90
            refine wpAny_ready (rs := [9]) (by kernel_rfl) (by simp) (AllReady.cons (o := ⟨(some 91), (Op.call { callee := (Callee.builtin Builtin.append), args := #[(Operand.tmp 86), (Operand.tmp 90)], argTypes := #[22, 22] }), _, _, _, none⟩) rfl (fun K1 hK1 => ?_) AllReady.nil)
            rw [if_pos (by rfl)]
            obtain ⟨v4, w12, hr, ho, -, hb4⟩ := append_behind w11 V10.heap.size 22 u3 j xs ho3 D (Q.length - (j + 1)) (cv - (j + 1)) ys hys.out.len (hys.out.cells w11 hG) hys.out.ones (by have := hjh.out; have := hl12.out; omega) hG.size
            refine Lib.wp_append_run w11 (.tmp 86) (.tmp 90) 22 22 rfl _ _ rfl rfl _ w12 hr ?_
            refine hK1 _ _ ?_
            clear hK1 K1
            have hQl : j + (Q.length - (j + 1)) = Q'.length := by have := hq4'.out; have := hjh.out; omega
            rw [hQl] at ho
            have hS12 := hS10.out.turn (hG.trans hb4) ho (by rw [← hQ'.out]; exact hxp.append hyp)
            have hf12 : ∃ A c, v4 = .slice A Q'.length c := by
              rcases ho.2 with ⟨h1, h2⟩ | ⟨g2, cap, cur, h1, -⟩
              · exact ⟨none, 0, by rw [h1, h2]⟩
              · exact ⟨_, cap, h1⟩
            obtain ⟨A12, c12, rfl⟩ := hf12
            replace hS12 := Lib.hid hS12
            clear hr ho hb4 hG hS10 hxs hys hxp hyp ho3
            refine wpAny_ready (rs := [10]) (by kernel_rfl) (by simp) (AllReady.cons (o := ⟨(some 6), (Op.assign (Operand.tmp 91)), _, _, _, none⟩) rfl (fun K1 hK1 => ?_) AllReady.nil)
            rw [if_pos (by rfl)]
            refine wp_val (v := .slice A12 Q'.length c12) (w' := w12) (by simp [execOp, Act.eval, go_sem]) ?_
            refine hK1 _ _ ?_
            clear hK1 K1
            refine wpAny_done (by kernel_rfl) ?_ _
            simp only [Act.put, List.setIfInBounds_toArray, List.set_cons_zero, List.set_cons_succ]
            go_wp2_with fail
            go_roundw
            case rel => exact ⟨i + 1, Q', by have := hq4'.out; omega, hq3.out, by go_num, ⟨A12, c12, rfl⟩, hS12.out⟩
            case measure => have := hq4'.out; simp [lenV]; omega
        · obtain rfl : Q = [] := List.eq_nil_of_length_eq_zero (by omega)
          obtain ⟨An, cn, An', cn', hbx, hnr⟩ := hS.out.box
          have y0 := cell_of_row wr _ 0 _ _ _ hbx
          have hBf := Lib.hid (hB.out.trans (hS.out.bel.mono hB.out.size))
          clear hnr hS hbx
          go_wp2_with fail
          go_ret
          exact ⟨rfl, hBf.out⟩
end Go.Proofs.Ytbckcdpiifhldaa
