/- NetworkLost: the contract. -/
import Derived.Test.YtgomckibinmjmaaN0
namespace Go.Proofs.Ytgomckibinmjmaa
open Go.RowKit

set_option maxRecDepth 100000 in
set_option maxHeartbeats 8000000 in
theorem lost_any (n : Nt) (at0 : Nat) (hat : at0 < 18446744073709551616) (w : World) (A A' : Option Addr) (c c' : Nat) (hd : NR w (· < w.heap.size) A c A' c' n) :
    Calls Try.prog 8 #[.agg #[.slice A n.q.length c, .slice A' n.ap.length c'], .int .u64 at0] w fun e w' => e = .returned (.bool true) ∧ Below w.heap.size w w' := by
  have hB := Lib.hid (Below.refl w.heap.size w)
  have hbx := bnew w (.cells #[.slice A n.q.length c, .slice A' n.ap.length c'] 25)
  have kn := (NB.new hd)
  obtain ⟨V1, hV1⟩ : ∃ V, (w).alloc (.cells #[.slice A n.q.length c, .slice A' n.ap.length c'] 25) = V := ⟨_, rfl⟩
  have sV1 : V1.heap.size = w.heap.size + 1 := by rw [← hV1]; simp
  rw [hV1] at kn
  rw [hV1] at hbx
  replace hV1 := Lib.hid hV1
  have hB := Lib.hid (hB.out.trans (hbx.mono hB.out.size))
  have kn := Lib.hid kn
  clear hbx
  have hmax := hd.max
  have hcap := hd.cap
  unfold maxLen at hmax
  clear hd
  obtain ⟨f, hf⟩ : ∃ f, (decide (n.q.length ≤ 40) && decide (n.ap.length ≤ 40)) = f := ⟨_, rfl⟩
  replace hf := Lib.hid hf
  go_enter Try.func8, Try.ntmps8
  go_wp2_with fail
  rw [hV1.out]
  have hcon := sane_any V1
  refine hcon.mono ?_
  rintro e w1 ⟨rfl, hb⟩
  clear hcon
  have hB := Lib.hid (hB.out.trans (hb.mono hB.out.size))
  have kn := Lib.hid (kn.out.step hb)
  clear hb
  have y0 : w1.cell? ⟨w.heap.size, 0, none⟩ = some _ := kn.out.cells.1
  have y1 : w1.cell? ⟨w.heap.size, 1, none⟩ = some _ := kn.out.cells.2
  go_wp2_with fail
  have hcon := Few_any n w1 A A' c c'
  rw [hf.out] at hcon
  refine hcon.mono ?_
  rintro e w2 ⟨rfl, hb⟩
  clear y0 y1
  clear hcon
  have hB := Lib.hid (hB.out.trans (hb.mono hB.out.size))
  have kn := Lib.hid (kn.out.step hb)
  clear hb
  cases f with
  | false =>
    go_wp2_with fail
    go_ret
    exact ⟨rfl, hB.out⟩
  | true =>
    have y0 : w2.cell? ⟨w.heap.size, 0, none⟩ = some _ := kn.out.cells.1
    have y1 : w2.cell? ⟨w.heap.size, 1, none⟩ = some _ := kn.out.cells.2
    go_wp2_with fail
    have hcon := Check_any n w2 A A' c c' w2.heap.size (Nat.le_refl _) kn.out.net
    refine hcon.mono ?_
    rintro e w3 ⟨rfl, hb⟩
    clear y0 y1
    clear hcon
    have hB := Lib.hid (hB.out.trans (hb.mono hB.out.size))
    have kn := Lib.hid (kn.out.step hb)
    clear hb
    rcases nchk_eq n with ⟨hnt, h2⟩ | ⟨hnt, h2⟩
    case inr =>
      rw [h2]
      clear hnt h2
      go_wp2_with fail
      go_ret
      exact ⟨rfl, hB.out⟩
    case inl =>
      rw [h2]
      clear h2
      have y0 : w3.cell? ⟨w.heap.size, 0, none⟩ = some _ := kn.out.cells.1
      have y1 : w3.cell? ⟨w.heap.size, 1, none⟩ = some _ := kn.out.cells.2
      by_cases h0 : n.q.length = 0
      · have h0' : ((n.q.length : Int) == 0) = true := by rw [h0]; rfl
        clear h0
        go_wp2_with fail
        go_ret
        exact ⟨rfl, hB.out⟩
      have h0' : ((n.q.length : Int) == 0) = false := by simp only [beq_eq_false_iff_ne, ne_eq]; omega
      have hql : n.q.length ≤ 40 := by have := hf.out; simp at this; exact this.1
      obtain ⟨j, hi, hlt⟩ : ∃ j : Nat, (at0 % n.q.length) = j ∧ j < n.q.length := ⟨_, rfl, Nat.mod_lt _ (by omega)⟩
      have hw1 : IntKind.u64.wrap (n.q.length : Int) = (n.q.length : Int) := IntWalk.u64_in _ (by omega)
      have hv1 := Lib.hid (lose_less hnt hlt)
      have hv2 := Lib.hid (rep_more hnt hlt (by omega))
      have hv3 := Lib.hid (lose_more hnt hlt (by omega))
      have hv4 := Lib.hid (send_less hnt hlt)
      obtain ⟨Y, hY⟩ : ∃ Y, lessN n j = Y := ⟨_, rfl⟩
      obtain ⟨Z, hZ⟩ : ∃ Z : Nt, ⟨n.q ++ [n.q[j]], n.ap⟩ = Z := ⟨_, rfl⟩
      rw [hZ] at hv2 hv3
      rw [hY] at hv1 hv3 hv4
      obtain ⟨U, hU⟩ : ∃ U : Nt, ⟨Y.q ++ [n.q[j]], n.ap⟩ = U := ⟨_, rfl⟩
      rw [hU] at hv3 hv4
      have hzl := Lib.hid (show Z.q.length = n.q.length + 1 by rw [← hZ]; simp)
      have hii := Lib.hid (show ((at0 : Int) % (n.q.length : Int)) = (j : Int) by rw [← hi]; exact (Int.natCast_emod _ _).symm)
      clear hY hZ hU hi
      go_wp2_with fail
      clear hw1 h0' h0
      rw [hii.out, show wrap64 (j : Int) = (j : Int) from IntWalk.wrap64_in _ (by omega)]
      clear y0 y1
      have hcon := Deliver_any n j w3 A A' c c' (· < w3.heap.size) (fun _ h => h) kn.out.net
      refine hcon.mono ?_
      intro e w4 hp
      clear hcon
      obtain ⟨P4, k4, A4, c4, A4', c4', rfl, hP1, hP2, hP3, hd, hb⟩ := hp.got rfl (congrArg (·.1) hv1.out) (congrArg (·.2) hv1.out)
      clear hp
      have hB := Lib.hid (hB.out.trans (hb.mono hB.out.size))
      have kn := Lib.hid (kn.out.step hb)
      clear hb
      obtain ⟨z4, hz4⟩ : ∃ z, delivN n j = z := ⟨_, rfl⟩
      rw [hz4] at hP1 hP2 hP3 ⊢
      clear hz4
      have hbx := bnew w4 (.cells #[.int .i64 z4.frm, .int .i64 z4.to, .slice P4 z4.data.length k4] 28)
      obtain ⟨V4, hV4⟩ : ∃ V, (w4).alloc (.cells #[.int .i64 z4.frm, .int .i64 z4.to, .slice P4 z4.data.length k4] 28) = V := ⟨_, rfl⟩
      have sV4 : V4.heap.size = w4.heap.size + 1 := by rw [← hV4]; simp
      rw [hV4] at hbx
      replace hV4 := Lib.hid hV4
      have hB := Lib.hid (hB.out.trans (hbx.mono hB.out.size))
      have kn := Lib.hid (kn.out.step hbx)
      clear hbx
      have hd := hd.step (show Below w4.heap.size w4 V4 from hV4.out ▸ bnew w4 _)
      have hbx := bnew V4 (.cells #[.slice A4 Y.q.length c4, .slice A4' Y.ap.length c4'] 25)
      have ka := (show NB _ (w4.heap.size + 1) _ _ _ _ Y from sV4 ▸ NB.new hd)
      obtain ⟨V5, hV5⟩ : ∃ V, (V4).alloc (.cells #[.slice A4 Y.q.length c4, .slice A4' Y.ap.length c4'] 25) = V := ⟨_, rfl⟩
      have sV5 : V5.heap.size = w4.heap.size + 2 := by rw [← hV5]; simp <;> omega
      rw [hV5] at ka
      rw [hV5] at hbx
      replace hV5 := Lib.hid hV5
      have hB := Lib.hid (hB.out.trans (hbx.mono hB.out.size))
      have ka := Lib.hid ka
      have kn := Lib.hid (kn.out.step hbx)
      clear hbx
      clear hd hP1 hP2 hP3
      have y0 : (((w4).alloc (.cells #[.int .i64 z4.frm, .int .i64 z4.to, .slice P4 z4.data.length k4] 28)).alloc (.cells #[.slice A4 Y.q.length c4, .slice A4' Y.ap.length c4'] 25)).cell? ⟨w.heap.size, 0, none⟩ = some _ := (congrArg (fun W => W.cell? ⟨w.heap.size, 0, none⟩) (show ((w4).alloc (.cells #[.int .i64 z4.frm, .int .i64 z4.to, .slice P4 z4.data.length k4] 28)).alloc (.cells #[.slice A4 Y.q.length c4, .slice A4' Y.ap.length c4'] 25) = V5 from by rw [hV4.out, hV5.out])).trans kn.out.cells.1
      have y1 : (((w4).alloc (.cells #[.int .i64 z4.frm, .int .i64 z4.to, .slice P4 z4.data.length k4] 28)).alloc (.cells #[.slice A4 Y.q.length c4, .slice A4' Y.ap.length c4'] 25)).cell? ⟨w.heap.size, 1, none⟩ = some _ := (congrArg (fun W => W.cell? ⟨w.heap.size, 1, none⟩) (show ((w4).alloc (.cells #[.int .i64 z4.frm, .int .i64 z4.to, .slice P4 z4.data.length k4] 28)).alloc (.cells #[.slice A4 Y.q.length c4, .slice A4' Y.ap.length c4'] 25) = V5 from by rw [hV4.out, hV5.out])).trans kn.out.cells.2
      go_wp2_with fail
      rw [hV4.out, hV5.out]
      have hcon := Lose_any n j V5 A A' c c' (· < V5.heap.size) (fun _ h => h) kn.out.net
      refine hcon.mono ?_
      intro e w6 hp
      clear y0 y1
      clear hcon
      obtain ⟨A6, c6, A6', c6', rfl, hd, hb⟩ := hp.got hv1.out
      clear hp
      have hB := Lib.hid (hB.out.trans (hb.mono hB.out.size))
      have kn := Lib.hid (kn.out.step hb)
      have ka := Lib.hid (ka.out.step hb)
      clear hb
      have hbx := bnew w6 (.cells #[.slice A6 Y.q.length c6, .slice A6' Y.ap.length c6'] 25)
      have kb := (NB.new hd)
      obtain ⟨V6, hV6⟩ : ∃ V, (w6).alloc (.cells #[.slice A6 Y.q.length c6, .slice A6' Y.ap.length c6'] 25) = V := ⟨_, rfl⟩
      have sV6 : V6.heap.size = w6.heap.size + 1 := by rw [← hV6]; simp
      rw [hV6] at kb
      rw [hV6] at hbx
      replace hV6 := Lib.hid hV6
      have hB := Lib.hid (hB.out.trans (hbx.mono hB.out.size))
      have kb := Lib.hid kb
      have kn := Lib.hid (kn.out.step hbx)
      have ka := Lib.hid (ka.out.step hbx)
      clear hbx
      clear hd
      have y0 : ((w6).alloc (.cells #[.slice A6 Y.q.length c6, .slice A6' Y.ap.length c6'] 25)).cell? ⟨w.heap.size, 0, none⟩ = some _ := (congrArg (fun W => W.cell? ⟨w.heap.size, 0, none⟩) (show (w6).alloc (.cells #[.slice A6 Y.q.length c6, .slice A6' Y.ap.length c6'] 25) = V6 from by rw [hV6.out])).trans kn.out.cells.1
      have y1 : ((w6).alloc (.cells #[.slice A6 Y.q.length c6, .slice A6' Y.ap.length c6'] 25)).cell? ⟨w.heap.size, 1, none⟩ = some _ := (congrArg (fun W => W.cell? ⟨w.heap.size, 1, none⟩) (show (w6).alloc (.cells #[.slice A6 Y.q.length c6, .slice A6' Y.ap.length c6'] 25) = V6 from by rw [hV6.out])).trans kn.out.cells.2
      go_wp2_with fail
      rw [hV6.out]
      have hcon := Repeat_any n j V6 A A' c c' (· < V6.heap.size) (fun _ h => h) kn.out.net
      refine hcon.mono ?_
      intro e w7 hp
      clear y0 y1
      clear hcon
      obtain ⟨A7, c7, A7', c7', rfl, hd, hb⟩ := hp.got hv2.out
      clear hp
      have hB := Lib.hid (hB.out.trans (hb.mono hB.out.size))
      have kn := Lib.hid (kn.out.step hb)
      have ka := Lib.hid (ka.out.step hb)
      have kb := Lib.hid (kb.out.step hb)
      clear hb
      have hbx := bnew w7 (.cells #[.slice A7 Z.q.length c7, .slice A7' Z.ap.length c7'] 25)
      have kc := (NB.new hd)
      obtain ⟨V7, hV7⟩ : ∃ V, (w7).alloc (.cells #[.slice A7 Z.q.length c7, .slice A7' Z.ap.length c7'] 25) = V := ⟨_, rfl⟩
      have sV7 : V7.heap.size = w7.heap.size + 1 := by rw [← hV7]; simp
      rw [hV7] at kc
      rw [hV7] at hbx
      replace hV7 := Lib.hid hV7
      have hB := Lib.hid (hB.out.trans (hbx.mono hB.out.size))
      have kc := Lib.hid kc
      have kn := Lib.hid (kn.out.step hbx)
      have ka := Lib.hid (ka.out.step hbx)
      have kb := Lib.hid (kb.out.step hbx)
      clear hbx
      clear hd
      have y0 : ((w7).alloc (.cells #[.slice A7 Z.q.length c7, .slice A7' Z.ap.length c7'] 25)).cell? ⟨w7.heap.size, 0, none⟩ = some _ := (congrArg (fun W => W.cell? ⟨w7.heap.size, 0, none⟩) (show (w7).alloc (.cells #[.slice A7 Z.q.length c7, .slice A7' Z.ap.length c7'] 25) = V7 from by rw [hV7.out])).trans kc.out.cells.1
      have y1 : ((w7).alloc (.cells #[.slice A7 Z.q.length c7, .slice A7' Z.ap.length c7'] 25)).cell? ⟨w7.heap.size, 1, none⟩ = some _ := (congrArg (fun W => W.cell? ⟨w7.heap.size, 1, none⟩) (show (w7).alloc (.cells #[.slice A7 Z.q.length c7, .slice A7' Z.ap.length c7'] 25) = V7 from by rw [hV7.out])).trans kc.out.cells.2
      go_wp2_with fail
      rw [hV7.out]
      have hcon := Lose_any Z j V7 A7 A7' c7 c7' (· < V7.heap.size) (fun _ h => h) kc.out.net
      refine hcon.mono ?_
      intro e w8 hp
      clear y0 y1
      clear hcon
      obtain ⟨A8, c8, A8', c8', rfl, hd, hb⟩ := hp.got hv3.out
      clear hp
      have hB := Lib.hid (hB.out.trans (hb.mono hB.out.size))
      have kn := Lib.hid (kn.out.step hb)
      have ka := Lib.hid (ka.out.step hb)
      have kb := Lib.hid (kb.out.step hb)
      have kc := Lib.hid (kc.out.step hb)
      clear hb
      have hbx := bnew w8 (.cells #[.slice A8 U.q.length c8, .slice A8' U.ap.length c8'] 25)
      have kd := (NB.new hd)
      obtain ⟨V8, hV8⟩ : ∃ V, (w8).alloc (.cells #[.slice A8 U.q.length c8, .slice A8' U.ap.length c8'] 25) = V := ⟨_, rfl⟩
      have sV8 : V8.heap.size = w8.heap.size + 1 := by rw [← hV8]; simp
      rw [hV8] at kd
      rw [hV8] at hbx
      replace hV8 := Lib.hid hV8
      have hB := Lib.hid (hB.out.trans (hbx.mono hB.out.size))
      have kd := Lib.hid kd
      have kn := Lib.hid (kn.out.step hbx)
      have ka := Lib.hid (ka.out.step hbx)
      have kb := Lib.hid (kb.out.step hbx)
      have kc := Lib.hid (kc.out.step hbx)
      clear hbx
      clear hd
      go_wp2_with fail
      rw [hV8.out]
      obtain ⟨b, off, Ap, cp, rfl, hsb, hc0, hc1, hc2, hl1, hl2, hrp, hI⟩ := kn.out.net.q.at_ hlt
      obtain ⟨p, hp⟩ : ∃ p, n.q[j] = p := ⟨_, rfl⟩
      rw [hp] at hv4 hc0 hc1 hc2 hl1 hrp hI
      clear hp
      have hkl := Lib.hid (show ((0 : Int) ≤ j) ∧ ((j : Int) < n.q.length) ∧ j < n.q.length from ⟨by omega, by omega, hlt⟩)
      have hN : Hid (∀ W, Below V8.heap.size V8 W → (W.cell? ⟨w.heap.size, 0, none⟩ = some (.slice (some ⟨b, off, none⟩) n.q.length c) ∧ W.cell? ⟨w.heap.size, 1, none⟩ = some (.slice A' n.ap.length c')) ∧ W.cell? ⟨w6.heap.size, 0, none⟩ = some (.slice A6 Y.q.length c6) ∧ W.cell? ⟨w6.heap.size, 1, none⟩ = some (.slice A6' Y.ap.length c6')) := fun W hW => ⟨(kn.out.step hW).cells, (kb.out.step hW).cells⟩
      have hE : Hid (∀ W, Below V8.heap.size V8 W → W.cell? ⟨b, off + j * 3, none⟩ = some (.int .i64 p.frm) ∧ W.cell? ⟨b, off + j * 3 + 1, none⟩ = some (.int .i64 p.to) ∧ W.cell? ⟨b, off + j * 3 + 2, none⟩ = some (.slice Ap p.data.length cp)) := fun W hW => ⟨(hW.cell hsb).trans hc0, (hW.cell hsb).trans hc1, (hW.cell hsb).trans hc2⟩
      have hsub : Hid (∀ W, Below V8.heap.size V8 W → Calls Try.prog 11 #[.agg #[.slice A6 Y.q.length c6, .slice A6' Y.ap.length c6'], .agg #[.int .i64 p.frm, .int .i64 p.to, .slice Ap p.data.length cp]] W (NtPost (· < W.heap.size) (sendN Y p) W)) := fun W hW => Send_any Y p W A6 A6' Ap c6 c6' cp (· < W.heap.size) (fun _ h => h) (kb.out.step hW).net hI ⟨hl1, hl2⟩ (hrp.step hW)
      replace hsb := Lib.hid hsb
      replace hI := Lib.hid hI
      clear hc0 hc1 hc2 hrp hl1
      refine wp_region_preA 13 0 (fun W => Below V8.heap.size V8 W) (Rx U)
        (fun i a v W => match i with
          | 0 => v = .agg #[.slice A6 Y.q.length c6, .slice A6' Y.ap.length c6']
          | 1 => v = .pointer (some ⟨w.heap.size, 0, none⟩)
          | 2 => v = .slice (some ⟨b, off, none⟩) n.q.length c
          | 3 => v = .int .i64 (j : Int)
          | 4 => v = .pointer (some ⟨b, off + j * 3, none⟩)
          | 5 => v = .agg #[.int .i64 p.frm, .int .i64 p.to, .slice Ap p.data.length cp]
          | 6 => ∃ A2 c2 A2' c2', v = .tuple #[.agg #[.slice A2 U.q.length c2, .slice A2' U.ap.length c2'], .int .i64 0] ∧ NR W (PW W) A2 c2 A2' c2' U
          | 7 => ∃ A2 c2 A2' c2', v = .tuple #[.agg #[.slice A2 U.q.length c2, .slice A2' U.ap.length c2'], .int .i64 0] ∧ NR W (PW W) A2 c2 A2' c2' U
          | 8 => ∃ A2 c2 A2' c2', v = .agg #[.slice A2 U.q.length c2, .slice A2' U.ap.length c2'] ∧ NR W (PW W) A2 c2 A2' c2' U
          | 9 => v = .int .i64 0
          | 10 => ∃ g, v = .pointer (some ⟨g, 0, none⟩) ∧ V8.heap.size ≤ g ∧ sbox W g
          | 11 => ∃ g, a.tmps.getD 15 undef = .pointer (some ⟨g, 0, none⟩) ∧ Ux U W g
          | 12 => v = .int .i64 0
          | _ => True) (fun _ => false)
        (by kernel_rfl) (by kernel_rfl) (by kernel_rfl) (by kernel_rfl) (by kernel_rfl) (by kernel_rfl) (by kernel_rfl) ?_ (fun _ _ h => h.1) (dN (Below.refl _ _) 1) ?_ ?_
      · intro i v a a' W W' hs hb hF
        match i, hs, hF with
        | 0, _, h => exact h
        | 1, _, h => exact h
        | 2, _, h => exact h
        | 3, _, h => exact h
        | 4, _, h => exact h
        | 5, _, h => exact h
        | 6, _, ⟨A2, c2, A2', c2', h1, h2⟩ => exact ⟨A2, c2, A2', c2', h1, hb.nr h2⟩
        | 7, _, ⟨A2, c2, A2', c2', h1, h2⟩ => exact ⟨A2, c2, A2', c2', h1, hb.nr h2⟩
        | 8, _, ⟨A2, c2, A2', c2', h1, h2⟩ => exact ⟨A2, c2, A2', c2', h1, hb.nr h2⟩
        | 9, _, h => exact h
        | 10, _, ⟨g, h1, h2, h3⟩ => exact ⟨g, h1, h2, hb.sbox h3⟩
        | 11, hs, ⟨g, h1, h2⟩ => exact ⟨g, (hs 15 (by decide +kernel)).trans h1, hb.ux h2⟩
        | 12, _, h => exact h
        | _ + 13, _, _ => trivial
      · refine ⟨?_, ?_, ?_, ?_, ?_, ?_, ?_, ?_, ?_, ?_, ?_, ?_, ?_, trivial⟩
        · refine stepA_any rfl fun ac W hAA hG hDD K hK => ?_
          have h9 := hAA.getD (t := 9) (by kernel_rfl)
          simp only [Array.getD_eq_getD_getElem?] at h9
          obtain ⟨-, k0, k1⟩ := hN.out W hG
          rw [if_pos (by rfl)]
          exact wp_val (v := .agg #[.slice A6 Y.q.length c6, .slice A6' Y.ap.length c6']) (w' := W) (by simp [execOp, Act.eval, h9, go_sem, k0, k1]) (hK _ _ hG (Rx.refl U _) rfl (fun h => by cases h))
        · refine stepA_any rfl fun ac W hAA hG hDD K hK => ?_
          have h2 := hAA.getD (t := 2) (by kernel_rfl)
          simp only [Array.getD_eq_getD_getElem?] at h2
          rw [if_pos (by rfl)]
          exact wp_val (v := .pointer (some ⟨w.heap.size, 0, none⟩)) (w' := W) (by simp [execOp, Act.eval, h2, go_sem]) (hK _ _ hG (Rx.refl U _) rfl (fun h => by cases h))
        · refine stepA_any rfl fun ac W hAA hG hDD K hK => ?_
          have h67 := hDD.get 1 67 _ rfl rfl (by kernel_rfl)
          simp only [Array.getD_eq_getD_getElem?] at h67
          obtain ⟨⟨k0, k1⟩, -⟩ := hN.out W hG
          rw [if_pos (by rfl)]
          exact wp_val (v := .slice (some ⟨b, off, none⟩) n.q.length c) (w' := W) (by simp [execOp, Act.eval, h67, go_sem, k0]) (hK _ _ hG (Rx.refl U _) rfl (fun h => by cases h))
        · refine stepA_any rfl fun ac W hAA hG hDD K hK => ?_
          have h5 := hAA.getD (t := 5) (by kernel_rfl)
          simp only [Array.getD_eq_getD_getElem?] at h5
          rw [if_pos (by rfl)]
          exact wp_val (v := .int .i64 (j : Int)) (w' := W) (by simp [execOp, Act.eval, h5, go_sem]) (hK _ _ hG (Rx.refl U _) rfl (fun h => by cases h))
        · refine stepA_any rfl fun ac W hAA hG hDD K hK => ?_
          have h68 := hDD.get 2 68 _ rfl rfl (by kernel_rfl)
          have h69 := hDD.get 3 69 _ rfl rfl (by kernel_rfl)
          simp only [Array.getD_eq_getD_getElem?] at h68 h69
          have hkl := hkl.out
          rw [if_pos (by rfl)]
          exact wp_val (v := .pointer (some ⟨b, off + j * 3, none⟩)) (w' := W) (by simp [execOp, Act.eval, h68, h69, go_sem, hkl]) (hK _ _ hG (Rx.refl U _) rfl (fun h => by cases h))
        · refine stepA_any rfl fun ac W hAA hG hDD K hK => ?_
          have h70 := hDD.get 4 70 _ rfl rfl (by kernel_rfl)
          simp only [Array.getD_eq_getD_getElem?] at h70
          obtain ⟨q0, q1, q2⟩ := hE.out W hG
          rw [if_pos (by rfl)]
          exact wp_val (v := .agg #[.int .i64 p.frm, .int .i64 p.to, .slice Ap p.data.length cp]) (w' := W) (by simp [execOp, Act.eval, h70, go_sem, q0, q1, q2]) (hK _ _ hG (Rx.refl U _) rfl (fun h => by cases h))
        · refine stepA_any rfl fun ac W hAA hG hDD K hK => ?_
          have h66 := hDD.get 0 66 _ rfl rfl (by kernel_rfl)
          have h71 := hDD.get 5 71 _ rfl rfl (by kernel_rfl)
          rw [if_pos (by rfl)]
          simp only [Array.getD_eq_getD_getElem?] at h66 h71
          refine wp_call (f := 11) (args := #[.agg #[.slice A6 Y.q.length c6, .slice A6' Y.ap.length c6'], .agg #[.int .i64 p.frm, .int .i64 p.to, .slice Ap p.data.length cp]]) (by simp [execOp, Act.eval, h66, h71, go_sem]) ((hsub.out W hG).mono fun e W9 he => ?_)
          obtain ⟨A2, c2, A2', c2', rfl, hnr, hbw⟩ := he.got hv4.out
          exact hK _ _ (hG.trans (hbw.mono hG.size)) (Rx.below hbw) ⟨A2, c2, A2', c2', rfl, hnr.px⟩ (fun h => by cases h)
        · refine stepA_any rfl fun ac W hAA hG hDD K hK => ?_
          obtain ⟨A2, c2, A2', c2', h72, hnr⟩ := hDD.get 6 72 _ rfl rfl (by kernel_rfl)
          rw [if_pos (by rfl)]
          simp only [Array.getD_eq_getD_getElem?] at h72
          exact wp_val (v := .tuple #[.agg #[.slice A2 U.q.length c2, .slice A2' U.ap.length c2'], .int .i64 0]) (w' := W) (by simp [execOp, Act.eval, h72, go_sem]) (hK _ _ hG (Rx.refl U _) ⟨A2, c2, A2', c2', rfl, hnr⟩ (fun h => by cases h))
        · refine stepA_any rfl fun ac W hAA hG hDD K hK => ?_
          obtain ⟨A2, c2, A2', c2', h65, hnr⟩ := hDD.get 7 65 _ rfl rfl (by kernel_rfl)
          rw [if_pos (by rfl)]
          simp only [Array.getD_eq_getD_getElem?] at h65
          exact wp_val (v := .agg #[.slice A2 U.q.length c2, .slice A2' U.ap.length c2']) (w' := W) (by simp [execOp, Act.eval, h65, go_sem]) (hK _ _ hG (Rx.refl U _) ⟨A2, c2, A2', c2', rfl, hnr⟩ (fun h => by cases h))
        · refine stepA_any rfl fun ac W hAA hG hDD K hK => ?_
          obtain ⟨A2, c2, A2', c2', h65, hnr⟩ := hDD.get 7 65 _ rfl rfl (by kernel_rfl)
          rw [if_pos (by rfl)]
          simp only [Array.getD_eq_getD_getElem?] at h65
          exact wp_val (v := .int .i64 0) (w' := W) (by simp [execOp, Act.eval, h65, go_sem]) (hK _ _ hG (Rx.refl U _) rfl (fun h => by cases h))
        · refine stepA_any rfl fun ac W hAA hG hDD K hK => ?_
          rw [if_pos (by rfl)]
          exact wp_val (v := .pointer (some ⟨W.heap.size, 0, none⟩)) (w' := W.alloc (.cells #[.slice none 0 0, .slice none 0 0] 25)) (by simp [execOp, Act.eval, go_sem]) (hK _ _ (hG.alloc hG.size _) (Rx.below (bnew W _)) ⟨_, rfl, hG.size, _, _, _, _, _, _, heap_alloc_new W _⟩ (fun h => by cases h))
        · refine stepA_store rfl rfl fun ac W hAA hG hDD K hK => ?_
          obtain ⟨g, h15, hge, hsg⟩ := hDD.get 10 15 _ rfl rfl (by kernel_rfl)
          obtain ⟨A2, c2, A2', c2', h73, hnr⟩ := hDD.get 8 73 _ rfl rfl (by kernel_rfl)
          rw [if_pos (by rfl)]
          obtain ⟨p1, p2⟩ := Rx.put hsg hnr
          obtain ⟨_, _, _, _, _, _, hbx⟩ := hsg
          exact wp_store_row 25 (.tmp 15) (.tmp 73) rfl g #[.slice A2 U.q.length c2, .slice A2' U.ap.length c2'] h15 h73 25 _ hbx (by kernel_rfl) rfl (by simp [Value.oneCell']) (hK _ (below_setRowN hG hge hG.size _) p1 ⟨g, h15, p2⟩)
        · refine stepA_any rfl fun ac W hAA hG hDD K hK => ?_
          have h74 := hDD.get 9 74 _ rfl rfl (by kernel_rfl)
          simp only [Array.getD_eq_getD_getElem?] at h74
          rw [if_pos (by rfl)]
          exact wp_val (v := .int .i64 0) (w' := W) (by simp [execOp, Act.eval, h74, go_sem]) (hK _ _ hG (Rx.refl U _) rfl (fun h => by cases h))
      intro fu T w10 hG hF hne hltb
      have e66 : T 66 = .agg #[.slice A6 Y.q.length c6, .slice A6' Y.ap.length c6'] := hF 0 _ rfl (by omega)
      have e67 : T 67 = .pointer (some ⟨w.heap.size, 0, none⟩) := hF 1 _ rfl (by omega)
      have e68 : T 68 = .slice (some ⟨b, off, none⟩) n.q.length c := hF 2 _ rfl (by omega)
      have e69 : T 69 = .int .i64 (j : Int) := hF 3 _ rfl (by omega)
      have e70 : T 70 = .pointer (some ⟨b, off + j * 3, none⟩) := hF 4 _ rfl (by omega)
      have e71 : T 71 = .agg #[.int .i64 p.frm, .int .i64 p.to, .slice Ap p.data.length cp] := hF 5 _ rfl (by omega)
      obtain ⟨A3, c3, A3', c3', e72, -⟩ := hF 6 _ rfl (by omega)
      replace e72 : T 72 = _ := e72
      obtain ⟨A5, c5, A5', c5', e65, -⟩ := hF 7 _ rfl (by omega)
      replace e65 : T 65 = _ := e65
      obtain ⟨A9, c9, A9', c9', e73, -⟩ := hF 8 _ rfl (by omega)
      replace e73 : T 73 = _ := e73
      have e74 : T 74 = .int .i64 0 := hF 9 _ rfl (by omega)
      obtain ⟨g, e15, -, -⟩ := hF 10 _ rfl (by omega)
      replace e15 : T 15 = _ := e15
      have hst11 := hF 11 _ rfl (by omega)
      have e16 : T 16 = .int .i64 0 := hF 12 _ rfl (by omega)
      clear hF hne hltb
      simp only [List.take, fillT, List.setIfInBounds_toArray, List.set_cons_zero, List.set_cons_succ, e66, e67, e68, e69, e70, e71, e72, e65, e73, e74, e15, e16] at hst11 ⊢
      clear e66 e67 e68 e69 e70 e71 e72 e65 e73 e74 e15 e16
      refine wpAny_done (by kernel_rfl) ?_ _
      obtain ⟨g', hg1, hux⟩ := hst11
      obtain rfl : g = g' := by simpa using hg1
      obtain ⟨A2, c2, A2', c2', kx⟩ := hux.box
      have kx := Lib.hid kx
      have hB := Lib.hid (hB.out.trans (hG.mono hB.out.size))
      have kn := Lib.hid (kn.out.step hG)
      have ka := Lib.hid (ka.out.step hG)
      have kb := Lib.hid (kb.out.step hG)
      have kc := Lib.hid (kc.out.step hG)
      have kd := Lib.hid (kd.out.step hG)
      clear hG hux hg1 hE hN hsub
      have a0 : w10.cell? ⟨w4.heap.size + 1, 0, none⟩ = some _ := ka.out.cells.1
      have a1 : w10.cell? ⟨w4.heap.size + 1, 1, none⟩ = some _ := ka.out.cells.2
      have b0 : w10.cell? ⟨w6.heap.size, 0, none⟩ = some _ := kb.out.cells.1
      have b1 : w10.cell? ⟨w6.heap.size, 1, none⟩ = some _ := kb.out.cells.2
      go_wp2_with fail
      have hcon := Same_any Y w10 A4 A4' A6 A6' c4 c4' c6 c6' ka.out.net kb.out.net
      refine hcon.mono ?_
      rintro e w11 ⟨rfl, hb⟩
      clear a0 a1 b0 b1
      clear hcon
      have hB := Lib.hid (hB.out.trans (hb.mono hB.out.size))
      have kn := Lib.hid (kn.out.step hb)
      have ka := Lib.hid (ka.out.step hb)
      have kb := Lib.hid (kb.out.step hb)
      have kc := Lib.hid (kc.out.step hb)
      have kd := Lib.hid (kd.out.step hb)
      have kx := Lib.hid (kx.out.step hb)
      clear hb
      have d0 : w11.cell? ⟨w8.heap.size, 0, none⟩ = some _ := kd.out.cells.1
      have d1 : w11.cell? ⟨w8.heap.size, 1, none⟩ = some _ := kd.out.cells.2
      have x0 : w11.cell? ⟨g, 0, none⟩ = some _ := kx.out.cells.1
      have x1 : w11.cell? ⟨g, 1, none⟩ = some _ := kx.out.cells.2
      go_wp2_with fail
      have hcon := Same_any U w11 A8 A8' A2 A2' c8 c8' c2 c2' kd.out.net kx.out.net
      refine hcon.mono ?_
      rintro e w12 ⟨rfl, hb⟩
      clear d0 d1 x0 x1
      clear hcon
      have hB := Lib.hid (hB.out.trans (hb.mono hB.out.size))
      have kn := Lib.hid (kn.out.step hb)
      have ka := Lib.hid (ka.out.step hb)
      have kb := Lib.hid (kb.out.step hb)
      have kc := Lib.hid (kc.out.step hb)
      have kd := Lib.hid (kd.out.step hb)
      have kx := Lib.hid (kx.out.step hb)
      clear hb
      have k0 : w12.cell? ⟨w7.heap.size, 0, none⟩ = some _ := kc.out.cells.1
      have k1 : w12.cell? ⟨w7.heap.size, 1, none⟩ = some _ := kc.out.cells.2
      have y0 : w12.cell? ⟨w.heap.size, 0, none⟩ = some _ := kn.out.cells.1
      have y1 : w12.cell? ⟨w.heap.size, 1, none⟩ = some _ := kn.out.cells.2
      have hw3 : IntKind.i64.wrap ((n.q.length : Int) + 1) = (n.q.length : Int) + 1 := IntWalk.i64_in _ (by omega)
      have hw4 : ((Z.q.length : Int) == (n.q.length : Int) + 1) = true := by rw [hzl.out]; simp
      go_wp2_with fail
      go_ret
      exact ⟨rfl, hB.out⟩
end Go.Proofs.Ytgomckibinmjmaa
