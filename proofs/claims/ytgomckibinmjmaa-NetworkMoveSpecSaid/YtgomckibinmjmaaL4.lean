/- NetworkMoveSpec: the contract. -/
import Derived.Test.YtgomckibinmjmaaL4p
namespace Go.Proofs.Ytgomckibinmjmaa
open Go.RowKit

set_option maxRecDepth 100000 in
set_option maxHeartbeats 8000000 in
theorem move_any (n : Nt) (at0 a b : Int) (on : Bool) (w : World) (A A' : Option Addr) (c c' : Nat) (hd : NR w (· < w.heap.size) A c A' c' n) :
    Calls Try.prog 4 #[.agg #[.slice A n.q.length c, .slice A' n.ap.length c'], .int .i64 at0, .int .i64 a, .int .i64 b, .bool on] w fun e w' => e = .returned (.bool true) ∧ Below w.heap.size w w' := by
  have hB := Lib.hid (Below.refl w.heap.size w)
  have hbx := bnew w (.cells #[.slice A n.q.length c, .slice A' n.ap.length c'] 25)
  have kn := (NB.new hd)
  obtain ⟨V1, hV1⟩ : ∃ V, (w).alloc (.cells #[.slice A n.q.length c, .slice A' n.ap.length c'] 25) = V := ⟨_, rfl⟩
  have sV1 : V1.heap.size = w.heap.size + 1 := by rw [← hV1]; simp
  rw [hV1] at kn
  rw [hV1] at hbx
  replace hV1 := Lib.hid hV1
  have hB := Lib.hid (hB.out.trans (hbx.mono hB.out.size))
  have kn := Lib.hid kn
  clear hbx
  clear hd
  obtain ⟨X, m0, hX⟩ : ∃ X m, cutN n a b on = (X, m) := ⟨_, _, rfl⟩
  replace hX := Lib.hid hX
  obtain ⟨f, hf⟩ : ∃ f, (decide (n.q.length ≤ 40) && decide (n.ap.length ≤ 40)) = f := ⟨_, rfl⟩
  replace hf := Lib.hid hf
  go_enter Try.func4, Try.ntmps4
  go_wp2_with fail
  rw [hV1.out]
  have hcon := sane_any V1
  refine hcon.mono ?_
  rintro e w1 ⟨rfl, hb⟩
  clear hcon
  have hB := Lib.hid (hB.out.trans (hb.mono hB.out.size))
  have kn := Lib.hid (kn.out.step hb)
  clear hb
  have y0 : w1.cell? ⟨w.heap.size, 0, none⟩ = some _ := kn.out.cells.1
  have y1 : w1.cell? ⟨w.heap.size, 1, none⟩ = some _ := kn.out.cells.2
  go_wp2_with fail
  have hcon := Few_any n w1 A A' c c'
  rw [hf.out] at hcon
  refine hcon.mono ?_
  rintro e w2 ⟨rfl, hb⟩
  clear y0 y1
  clear hcon
  have hB := Lib.hid (hB.out.trans (hb.mono hB.out.size))
  have kn := Lib.hid (kn.out.step hb)
  clear hb
  cases f with
  | false =>
    go_wp2_with fail
    go_ret
    exact ⟨rfl, hB.out⟩
  | true =>
    have y0 : w2.cell? ⟨w.heap.size, 0, none⟩ = some _ := kn.out.cells.1
    have y1 : w2.cell? ⟨w.heap.size, 1, none⟩ = some _ := kn.out.cells.2
    go_wp2_with fail
    have hcon := Cut_any n a b on w2 A A' c c' (· < w2.heap.size) (fun _ h => h) kn.out.net
    refine hcon.mono ?_
    intro e w3 hp
    clear y0 y1
    clear hcon
    obtain ⟨A3, c3, A3', c3', rfl, hd, hb⟩ := hp.got hX.out
    clear hp
    have hB := Lib.hid (hB.out.trans (hb.mono hB.out.size))
    have kn := Lib.hid (kn.out.step hb)
    clear hb
    have hbx := bnew w3 (.cells #[.slice A3 X.q.length c3, .slice A3' X.ap.length c3'] 25)
    have kx := (NB.new hd)
    obtain ⟨V3, hV3⟩ : ∃ V, (w3).alloc (.cells #[.slice A3 X.q.length c3, .slice A3' X.ap.length c3'] 25) = V := ⟨_, rfl⟩
    have sV3 : V3.heap.size = w3.heap.size + 1 := by rw [← hV3]; simp
    rw [hV3] at kx
    rw [hV3] at hbx
    replace hV3 := Lib.hid hV3
    have hB := Lib.hid (hB.out.trans (hbx.mono hB.out.size))
    have kx := Lib.hid kx
    have kn := Lib.hid (kn.out.step hbx)
    clear hbx
    clear hd
    have y0 : ((w3).alloc (.cells #[.slice A3 X.q.length c3, .slice A3' X.ap.length c3'] 25)).cell? ⟨w.heap.size, 0, none⟩ = some _ := (congrArg (fun W => W.cell? ⟨w.heap.size, 0, none⟩) (show (w3).alloc (.cells #[.slice A3 X.q.length c3, .slice A3' X.ap.length c3'] 25) = V3 from by rw [hV3.out])).trans kn.out.cells.1
    have y1 : ((w3).alloc (.cells #[.slice A3 X.q.length c3, .slice A3' X.ap.length c3'] 25)).cell? ⟨w.heap.size, 1, none⟩ = some _ := (congrArg (fun W => W.cell? ⟨w.heap.size, 1, none⟩) (show (w3).alloc (.cells #[.slice A3 X.q.length c3, .slice A3' X.ap.length c3'] 25) = V3 from by rw [hV3.out])).trans kn.out.cells.2
    go_wp2_with fail
    rw [hV3.out]
    have hcon := rCut_any n a b on V3 A A' c c' (· < V3.heap.size) (fun _ h => h) kn.out.net
    refine hcon.mono ?_
    intro e w4 hp
    clear y0 y1
    clear hcon
    obtain ⟨A4, c4, A4', c4', rfl, hd, hb⟩ := hp.got hX.out
    clear hp
    have hB := Lib.hid (hB.out.trans (hb.mono hB.out.size))
    have kn := Lib.hid (kn.out.step hb)
    have kx := Lib.hid (kx.out.step hb)
    clear hb
    have hbx := bnew w4 (.cells #[.slice A4 X.q.length c4, .slice A4' X.ap.length c4'] 25)
    have ky := (NB.new hd)
    obtain ⟨V4, hV4⟩ : ∃ V, (w4).alloc (.cells #[.slice A4 X.q.length c4, .slice A4' X.ap.length c4'] 25) = V := ⟨_, rfl⟩
    have sV4 : V4.heap.size = w4.heap.size + 1 := by rw [← hV4]; simp
    rw [hV4] at ky
    rw [hV4] at hbx
    replace hV4 := Lib.hid hV4
    have hB := Lib.hid (hB.out.trans (hbx.mono hB.out.size))
    have ky := Lib.hid ky
    have kn := Lib.hid (kn.out.step hbx)
    have kx := Lib.hid (kx.out.step hbx)
    clear hbx
    clear hd
    have x0 : ((w4).alloc (.cells #[.slice A4 X.q.length c4, .slice A4' X.ap.length c4'] 25)).cell? ⟨w3.heap.size, 0, none⟩ = some _ := (congrArg (fun W => W.cell? ⟨w3.heap.size, 0, none⟩) (show (w4).alloc (.cells #[.slice A4 X.q.length c4, .slice A4' X.ap.length c4'] 25) = V4 from by rw [hV4.out])).trans kx.out.cells.1
    have x1 : ((w4).alloc (.cells #[.slice A4 X.q.length c4, .slice A4' X.ap.length c4'] 25)).cell? ⟨w3.heap.size, 1, none⟩ = some _ := (congrArg (fun W => W.cell? ⟨w3.heap.size, 1, none⟩) (show (w4).alloc (.cells #[.slice A4 X.q.length c4, .slice A4' X.ap.length c4'] 25) = V4 from by rw [hV4.out])).trans kx.out.cells.2
    have y0 : ((w4).alloc (.cells #[.slice A4 X.q.length c4, .slice A4' X.ap.length c4'] 25)).cell? ⟨w4.heap.size, 0, none⟩ = some _ := (congrArg (fun W => W.cell? ⟨w4.heap.size, 0, none⟩) (show (w4).alloc (.cells #[.slice A4 X.q.length c4, .slice A4' X.ap.length c4'] 25) = V4 from by rw [hV4.out])).trans ky.out.cells.1
    have y1 : ((w4).alloc (.cells #[.slice A4 X.q.length c4, .slice A4' X.ap.length c4'] 25)).cell? ⟨w4.heap.size, 1, none⟩ = some _ := (congrArg (fun W => W.cell? ⟨w4.heap.size, 1, none⟩) (show (w4).alloc (.cells #[.slice A4 X.q.length c4, .slice A4' X.ap.length c4'] 25) = V4 from by rw [hV4.out])).trans ky.out.cells.2
    go_wp2_with fail
    rw [hV4.out]
    have hcon := Same_any X V4 A3 A3' A4 A4' c3 c3' c4 c4' kx.out.net ky.out.net
    refine hcon.mono ?_
    rintro e w5 ⟨rfl, hb⟩
    clear x0 x1 y0 y1
    clear hcon
    have hB := Lib.hid (hB.out.trans (hb.mono hB.out.size))
    have kn := Lib.hid (kn.out.step hb)
    have kx := Lib.hid (kx.out.step hb)
    have ky := Lib.hid (ky.out.step hb)
    clear hb
    clear kx ky
    have hi5 := IR.one (w0 := w5) at0
    obtain ⟨V5, hV5⟩ : ∃ V, w5.alloc (.cells #[.int .i64 at0] 3) = V := ⟨_, rfl⟩
    rw [hV5] at hi5
    replace hV5 := Lib.hid hV5
    replace kn := kn.out
    have hql := kn.net.cap
    have hqm := kn.net.max
    unfold maxLen at hqm
    replace kn := Lib.hid kn
    replace hi5 := Lib.hid hi5
    have hmm : (m0 != m0) = false := by simp
    go_wp2_with fail
    rw [hV5.out]
    go_loopw [15, 16] (fun v i wr => ∃ (q m g cv : Nat) (L : List Int), q ≤ 3 ∧ i = .int .i64 q ∧ v = .slice (some ⟨g, 0, none⟩) m cv ∧ m ≤ 1 + q ∧ Hid (IR w5 g m cv L wr)) (fun _ i _ => 3 - (intOf i).toNat)
    case atStart => exact ⟨0, 1, w5.heap.size, 1, [at0], by omega, rfl, rfl, by omega, hi5.out⟩
    case round =>
      clear hi5
      obtain ⟨q, m, g, cv, L, hq, rfl, rfl, hle, hI⟩ := hrel
      have kr := kn.out.step hI.out.bel
      obtain ⟨y0, y1⟩ := kr.cells
      by_cases hgo : q < n.q.length ∧ q < 3
      · have g1 : (q : Int) < n.q.length := by omega
        have g2 : (q : Int) < 3 := by omega
        have hw1 : IntKind.i64.wrap ((q : Int) + 1) = (q : Int) + 1 := IntWalk.i64_in _ (by omega)
        have hI2 := hI.out.step (bnew wr (.cells #[.int .i64 (q : Int)] 3))
        obtain ⟨g', cap', W1, hr, hI3⟩ := hI2.app 39 wr.heap.size (q : Int) (heap_alloc_new wr _) (by omega)
        replace hI3 := Lib.hid hI3
        replace hr := Lib.hid hr
        clear hI hI2 kr
        go_wp2_with (at_builtin; refine Lib.wpList_append_run _ rfl _ _ _ _ rfl _ _ rfl rfl _ _ hr.out ?_)
        go_roundw
        case rel => exact ⟨q + 1, m + 1, g', cap', L ++ [(q : Int)], by omega, by go_num, rfl, by omega, hI3.out⟩
        case measure => simp [intOf]; omega
      · have hst : ¬ ((q : Int) < n.q.length) ∨ ((q : Int) < n.q.length ∧ ¬ ((q : Int) < 3)) := by omega
        have kl := Lib.hid kr
        have hBl := Lib.hid ((hB.out.trans (hI.out.bel.mono hB.out.size)))
        have hIl := Lib.hid hI.out
        clear kr hI hgo kn hB
        rcases hst with hst | ⟨hst1, hst⟩
        all_goals
        go_wp2_with fail
        clear y0 y1
        try clear hst1
        clear hst
        obtain ⟨wl, hwl⟩ : ∃ x, x = wr := ⟨_, rfl⟩
        subst hwl
        go_loopw [74, 18, 19, 20, 21, 22, 23, 24] (fun i _ _ _ _ _ _ _ wr => ∃ k : Nat, k ≤ m ∧ i = .int .i64 k ∧ Hid (BW wl wr)) (fun i _ _ _ _ _ _ _ _ => m - (intOf i).toNat)
        case atStart => exact ⟨0, Nat.zero_le _, rfl, ⟨Below.refl _ _⟩⟩
        case round =>
          obtain ⟨k, hk, rfl, hW⟩ := hrel
          by_cases hlt : k < m
          · have hlt' : (k : Int) < (m : Int) := by omega
            have hwk : IntKind.i64.wrap ((k : Int) + 1) = (k : Int) + 1 := IntWalk.i64_in _ (by have := hIl.out.len; omega)
            have hnl := (Array.getElem?_eq_some_iff.1 kl.out.blk).1
            have kn := Lib.hid (kl.out.step hW.out.bel)
            have hB := Lib.hid (hBl.out.trans (hW.out.bel.mono hBl.out.size))
            obtain ⟨y0, y1⟩ := kn.out.cells
            obtain ⟨hc, hgl⟩ := hIl.out.cell hlt
            have hcr : wr.cell? ⟨g, k, none⟩ = some (.int .i64 (L.getD k 0)) := (hW.out.bel.cell hgl).trans hc
            obtain ⟨z, hz⟩ : ∃ z, L.getD k 0 = z := ⟨_, rfl⟩
            rw [hz] at hcr
            clear hz hc hgl
            obtain ⟨p, hp0⟩ : ∃ p, delivN n z = p := ⟨_, rfl⟩
            obtain ⟨Y, e1, hY⟩ : ∃ Y e, loseN n z = (Y, e) := ⟨_, _, rfl⟩
            obtain ⟨Z, e2, hZ⟩ : ∃ Z e, repN n z = (Z, e) := ⟨_, _, rfl⟩
            have he1 : (e1 != e1) = false := by simp
            have he2 : (e2 != e2) = false := by simp
            replace hp0 := Lib.hid hp0
            replace hY := Lib.hid hY
            replace hZ := Lib.hid hZ
            go_wp2_with fail
            clear hcr y0 y1
            have hcon := Deliver_any n z wr A A' c c' (· < wr.heap.size) (fun _ h => h) kn.out.net
            refine hcon.mono ?_
            intro e w6 hp
            clear hcon
            obtain ⟨P6, k6, A6, c6, A6', c6', rfl, hP1, hP2, hP3, hd, hb⟩ := hp.got hp0.out (congrArg (·.1) hY.out) (congrArg (·.2) hY.out)
            clear hp
            have hB := Lib.hid (hB.out.trans (hb.mono hB.out.size))
            have kn := Lib.hid (kn.out.step hb)
            have hW := Lib.hid (hW.out.step hb)
            clear hb
            have hs6 := hW.out.bel.size
            have hs6b := hB.out.size
            have hbx := bnew w6 (.cells #[.int .i64 p.frm, .int .i64 p.to, .slice P6 p.data.length k6] 28)
            have kp := (KB.new hP1 hP2 hP3)
            obtain ⟨V6, hV6⟩ : ∃ V, (w6).alloc (.cells #[.int .i64 p.frm, .int .i64 p.to, .slice P6 p.data.length k6] 28) = V := ⟨_, rfl⟩
            have sV6 : V6.heap.size = w6.heap.size + 1 := by rw [← hV6]; simp
            rw [hV6] at kp
            rw [hV6] at hbx
            replace hV6 := Lib.hid hV6
            have hB := Lib.hid (hB.out.trans (hbx.mono hB.out.size))
            have kp := Lib.hid kp
            have kn := Lib.hid (kn.out.step hbx)
            have hW := Lib.hid (hW.out.step hbx)
            clear hbx
            have hd := hd.step (show Below w6.heap.size w6 V6 from hV6.out ▸ bnew w6 _)
            have hbx := bnew V6 (.cells #[.slice A6 Y.q.length c6, .slice A6' Y.ap.length c6'] 25)
            have ka := (show NB _ (w6.heap.size + 1) _ _ _ _ Y from sV6 ▸ NB.new hd)
            obtain ⟨V7, hV7⟩ : ∃ V, (V6).alloc (.cells #[.slice A6 Y.q.length c6, .slice A6' Y.ap.length c6'] 25) = V := ⟨_, rfl⟩
            have sV7 : V7.heap.size = w6.heap.size + 2 := by rw [← hV7]; simp <;> omega
            rw [hV7] at ka
            rw [hV7] at hbx
            replace hV7 := Lib.hid hV7
            have hB := Lib.hid (hB.out.trans (hbx.mono hB.out.size))
            have ka := Lib.hid ka
            have kn := Lib.hid (kn.out.step hbx)
            have hW := Lib.hid (hW.out.step hbx)
            have kp := Lib.hid (kp.out.step hbx)
            clear hbx
            clear hd hP1 hP2 hP3
            have y0 : (((w6).alloc (.cells #[.int .i64 p.frm, .int .i64 p.to, .slice P6 p.data.length k6] 28)).alloc (.cells #[.slice A6 Y.q.length c6, .slice A6' Y.ap.length c6'] 25)).cell? ⟨w.heap.size, 0, none⟩ = some _ := (congrArg (fun W => W.cell? ⟨w.heap.size, 0, none⟩) (show ((w6).alloc (.cells #[.int .i64 p.frm, .int .i64 p.to, .slice P6 p.data.length k6] 28)).alloc (.cells #[.slice A6 Y.q.length c6, .slice A6' Y.ap.length c6'] 25) = V7 from by rw [hV6.out, hV7.out])).trans kn.out.cells.1
            have y1 : (((w6).alloc (.cells #[.int .i64 p.frm, .int .i64 p.to, .slice P6 p.data.length k6] 28)).alloc (.cells #[.slice A6 Y.q.length c6, .slice A6' Y.ap.length c6'] 25)).cell? ⟨w.heap.size, 1, none⟩ = some _ := (congrArg (fun W => W.cell? ⟨w.heap.size, 1, none⟩) (show ((w6).alloc (.cells #[.int .i64 p.frm, .int .i64 p.to, .slice P6 p.data.length k6] 28)).alloc (.cells #[.slice A6 Y.q.length c6, .slice A6' Y.ap.length c6'] 25) = V7 from by rw [hV6.out, hV7.out])).trans kn.out.cells.2
            go_wp2_with fail
            rw [hV6.out, hV7.out]
            have h7 := Lib.hid (show BW V7 V7 from ⟨Below.refl _ _⟩)
            have hcon := rDeliver_any n z V7 A A' c c' (· < V7.heap.size) (fun _ h => h) kn.out.net
            refine hcon.mono ?_
            intro e w8 hp
            clear y0 y1
            clear hcon
            obtain ⟨P8, k8, A8, c8, A8', c8', rfl, hP1, hP2, hP3, hd, hb⟩ := hp.got hp0.out (congrArg (·.1) hY.out) (congrArg (·.2) hY.out)
            clear hp
            have hB := Lib.hid (hB.out.trans (hb.mono hB.out.size))
            have kn := Lib.hid (kn.out.step hb)
            have hW := Lib.hid (hW.out.step hb)
            have kp := Lib.hid (kp.out.step hb)
            have ka := Lib.hid (ka.out.step hb)
            have h7 := Lib.hid (h7.out.step hb)
            clear hb
            have hs8 := h7.out.bel.size
            rw [sV7] at hs8
            have hbx := bnew w8 (.cells #[.int .i64 p.frm, .int .i64 p.to, .slice P8 p.data.length k8] 28)
            have kq := (KB.new hP1 hP2 hP3)
            obtain ⟨V8, hV8⟩ : ∃ V, (w8).alloc (.cells #[.int .i64 p.frm, .int .i64 p.to, .slice P8 p.data.length k8] 28) = V := ⟨_, rfl⟩
            have sV8 : V8.heap.size = w8.heap.size + 1 := by rw [← hV8]; simp
            rw [hV8] at kq
            rw [hV8] at hbx
            replace hV8 := Lib.hid hV8
            have hB := Lib.hid (hB.out.trans (hbx.mono hB.out.size))
            have kq := Lib.hid kq
            have kn := Lib.hid (kn.out.step hbx)
            have hW := Lib.hid (hW.out.step hbx)
            have kp := Lib.hid (kp.out.step hbx)
            have ka := Lib.hid (ka.out.step hbx)
            clear hbx
            have hd := hd.step (show Below w8.heap.size w8 V8 from hV8.out ▸ bnew w8 _)
            have hbx := bnew V8 (.cells #[.slice A8 Y.q.length c8, .slice A8' Y.ap.length c8'] 25)
            have kb := (show NB _ (w8.heap.size + 1) _ _ _ _ Y from sV8 ▸ NB.new hd)
            obtain ⟨V9, hV9⟩ : ∃ V, (V8).alloc (.cells #[.slice A8 Y.q.length c8, .slice A8' Y.ap.length c8'] 25) = V := ⟨_, rfl⟩
            have sV9 : V9.heap.size = w8.heap.size + 2 := by rw [← hV9]; simp <;> omega
            rw [hV9] at kb
            rw [hV9] at hbx
            replace hV9 := Lib.hid hV9
            have hB := Lib.hid (hB.out.trans (hbx.mono hB.out.size))
            have kb := Lib.hid kb
            have kn := Lib.hid (kn.out.step hbx)
            have hW := Lib.hid (hW.out.step hbx)
            have kp := Lib.hid (kp.out.step hbx)
            have ka := Lib.hid (ka.out.step hbx)
            have kq := Lib.hid (kq.out.step hbx)
            clear hbx
            clear hd hP1 hP2 hP3
            have p0 : (((w8).alloc (.cells #[.int .i64 p.frm, .int .i64 p.to, .slice P8 p.data.length k8] 28)).alloc (.cells #[.slice A8 Y.q.length c8, .slice A8' Y.ap.length c8'] 25)).cell? ⟨w6.heap.size, 0, none⟩ = some _ := (congrArg (fun W => W.cell? ⟨w6.heap.size, 0, none⟩) (show ((w8).alloc (.cells #[.int .i64 p.frm, .int .i64 p.to, .slice P8 p.data.length k8] 28)).alloc (.cells #[.slice A8 Y.q.length c8, .slice A8' Y.ap.length c8'] 25) = V9 from by rw [hV8.out, hV9.out])).trans kp.out.cells.1
            have p1 : (((w8).alloc (.cells #[.int .i64 p.frm, .int .i64 p.to, .slice P8 p.data.length k8] 28)).alloc (.cells #[.slice A8 Y.q.length c8, .slice A8' Y.ap.length c8'] 25)).cell? ⟨w6.heap.size, 1, none⟩ = some _ := (congrArg (fun W => W.cell? ⟨w6.heap.size, 1, none⟩) (show ((w8).alloc (.cells #[.int .i64 p.frm, .int .i64 p.to, .slice P8 p.data.length k8] 28)).alloc (.cells #[.slice A8 Y.q.length c8, .slice A8' Y.ap.length c8'] 25) = V9 from by rw [hV8.out, hV9.out])).trans kp.out.cells.2.1
            have p2 : (((w8).alloc (.cells #[.int .i64 p.frm, .int .i64 p.to, .slice P8 p.data.length k8] 28)).alloc (.cells #[.slice A8 Y.q.length c8, .slice A8' Y.ap.length c8'] 25)).cell? ⟨w6.heap.size, 2, none⟩ = some _ := (congrArg (fun W => W.cell? ⟨w6.heap.size, 2, none⟩) (show ((w8).alloc (.cells #[.int .i64 p.frm, .int .i64 p.to, .slice P8 p.data.length k8] 28)).alloc (.cells #[.slice A8 Y.q.length c8, .slice A8' Y.ap.length c8'] 25) = V9 from by rw [hV8.out, hV9.out])).trans kp.out.cells.2.2
            have q0 : (((w8).alloc (.cells #[.int .i64 p.frm, .int .i64 p.to, .slice P8 p.data.length k8] 28)).alloc (.cells #[.slice A8 Y.q.length c8, .slice A8' Y.ap.length c8'] 25)).cell? ⟨w8.heap.size, 0, none⟩ = some _ := (congrArg (fun W => W.cell? ⟨w8.heap.size, 0, none⟩) (show ((w8).alloc (.cells #[.int .i64 p.frm, .int .i64 p.to, .slice P8 p.data.length k8] 28)).alloc (.cells #[.slice A8 Y.q.length c8, .slice A8' Y.ap.length c8'] 25) = V9 from by rw [hV8.out, hV9.out])).trans kq.out.cells.1
            have q1 : (((w8).alloc (.cells #[.int .i64 p.frm, .int .i64 p.to, .slice P8 p.data.length k8] 28)).alloc (.cells #[.slice A8 Y.q.length c8, .slice A8' Y.ap.length c8'] 25)).cell? ⟨w8.heap.size, 1, none⟩ = some _ := (congrArg (fun W => W.cell? ⟨w8.heap.size, 1, none⟩) (show ((w8).alloc (.cells #[.int .i64 p.frm, .int .i64 p.to, .slice P8 p.data.length k8] 28)).alloc (.cells #[.slice A8 Y.q.length c8, .slice A8' Y.ap.length c8'] 25) = V9 from by rw [hV8.out, hV9.out])).trans kq.out.cells.2.1
            have q2 : (((w8).alloc (.cells #[.int .i64 p.frm, .int .i64 p.to, .slice P8 p.data.length k8] 28)).alloc (.cells #[.slice A8 Y.q.length c8, .slice A8' Y.ap.length c8'] 25)).cell? ⟨w8.heap.size, 2, none⟩ = some _ := (congrArg (fun W => W.cell? ⟨w8.heap.size, 2, none⟩) (show ((w8).alloc (.cells #[.int .i64 p.frm, .int .i64 p.to, .slice P8 p.data.length k8] 28)).alloc (.cells #[.slice A8 Y.q.length c8, .slice A8' Y.ap.length c8'] 25) = V9 from by rw [hV8.out, hV9.out])).trans kq.out.cells.2.2
            go_wp2_with fail
            rw [hV8.out, hV9.out]
            have hcon := SamePacket_any p p V9 P6 P8 k6 k8 kp.out.dat kq.out.dat
            refine hcon.mono ?_
            rintro e w10 ⟨rfl, hb⟩
            clear p0 p1 p2 q0 q1 q2
            clear hcon
            rw [sameP_refl]
            have hB := Lib.hid (hB.out.trans (hb.mono hB.out.size))
            have kn := Lib.hid (kn.out.step hb)
            have hW := Lib.hid (hW.out.step hb)
            have kp := Lib.hid (kp.out.step hb)
            have ka := Lib.hid (ka.out.step hb)
            have kq := Lib.hid (kq.out.step hb)
            have kb := Lib.hid (kb.out.step hb)
            clear hb
            clear kp kq
            have a0 : w10.cell? ⟨w6.heap.size + 1, 0, none⟩ = some _ := ka.out.cells.1
            have a1 : w10.cell? ⟨w6.heap.size + 1, 1, none⟩ = some _ := ka.out.cells.2
            have b0 : w10.cell? ⟨w8.heap.size + 1, 0, none⟩ = some _ := kb.out.cells.1
            have b1 : w10.cell? ⟨w8.heap.size + 1, 1, none⟩ = some _ := kb.out.cells.2
            go_wp2_with fail
            have hcon := Same_any Y w10 A6 A6' A8 A8' c6 c6' c8 c8' ka.out.net kb.out.net
            refine hcon.mono ?_
            rintro e w11 ⟨rfl, hb⟩
            clear a0 a1 b0 b1
            clear hcon
            have hB := Lib.hid (hB.out.trans (hb.mono hB.out.size))
            have kn := Lib.hid (kn.out.step hb)
            have hW := Lib.hid (hW.out.step hb)
            have ka := Lib.hid (ka.out.step hb)
            have kb := Lib.hid (kb.out.step hb)
            clear hb
            have nA : w.heap.size ≠ w6.heap.size + 1 := by omega
            have nA2 : w6.heap.size + 1 ≠ w.heap.size := by omega
            have nB : w.heap.size ≠ w8.heap.size + 1 := by omega
            have nB2 : w8.heap.size + 1 ≠ w.heap.size := by omega
            have nC : w6.heap.size + 1 ≠ w8.heap.size + 1 := by omega
            have nC2 : w8.heap.size + 1 ≠ w6.heap.size + 1 := by omega
            have y0 : w11.cell? ⟨w.heap.size, 0, none⟩ = some _ := kn.out.cells.1
            have y1 : w11.cell? ⟨w.heap.size, 1, none⟩ = some _ := kn.out.cells.2
            go_wp2_with fail
            have hcon := Lose_any n z w11 A A' c c' (· < w11.heap.size) (fun _ h => h) kn.out.net
            refine hcon.mono ?_
            intro e w12 hp
            clear y0 y1
            clear hcon
            obtain ⟨A12, c12, A12', c12', rfl, hd, hb⟩ := hp.got hY.out
            clear hp
            have hB := Lib.hid (hB.out.trans (hb.mono hB.out.size))
            have kn := Lib.hid (kn.out.step hb)
            have hW := Lib.hid (hW.out.step hb)
            have ka := Lib.hid (ka.out.step hb)
            have kb := Lib.hid (kb.out.step hb)
            clear hb
            have fm := fun i => frozen_of_row w12 _ i _ _ ka.out.blk
            have m0c := cell_of_row w12 _ 0 _ _ _ ka.out.blk
            have m1c := cell_of_row w12 _ 1 _ _ _ ka.out.blk
            have y0 : w12.cell? ⟨w.heap.size, 0, none⟩ = some _ := kn.out.cells.1
            have y1 : w12.cell? ⟨w.heap.size, 1, none⟩ = some _ := kn.out.cells.2
            have meN := NB.sets ka.out.blk hd
            have otN := NB.other ka.out.blk (by omega) kb.out (.slice A12 Y.q.length c12) (.slice A12' Y.ap.length c12')
            have hWN := hW.out.sets (B := w6.heap.size + 1) (by omega) (.slice A12 Y.q.length c12) (.slice A12' Y.ap.length c12')
            obtain ⟨V12, hV12⟩ : ∃ V, (w12.setCell ⟨w6.heap.size + 1, 0, none⟩ (.slice A12 Y.q.length c12)).setCell ⟨w6.heap.size + 1, 1, none⟩ (.slice A12' Y.ap.length c12') = V := ⟨_, rfl⟩
            rw [hV12] at meN otN hWN
            replace hV12 := Lib.hid hV12
            replace meN := Lib.hid meN
            replace otN := Lib.hid otN
            replace hWN := Lib.hid hWN
            clear hd
            go_wp2_with fail
            rw [hV12.out]
            clear fm m0c m1c y0 y1
            have hW := hWN
            have ka := meN
            have kb := otN
            have kn := Lib.hid (kl.out.step hW.out.bel)
            have hB := Lib.hid (hBl.out.trans (hW.out.bel.mono hBl.out.size))
            clear meN otN hWN
            have hcon := rLose_any n z V12 A A' c c' (· < V12.heap.size) (fun _ h => h) kn.out.net
            refine hcon.mono ?_
            intro e w13 hp
            clear hcon
            obtain ⟨A13, c13, A13', c13', rfl, hd, hb⟩ := hp.got hY.out
            clear hp
            have hB := Lib.hid (hB.out.trans (hb.mono hB.out.size))
            have kn := Lib.hid (kn.out.step hb)
            have hW := Lib.hid (hW.out.step hb)
            have ka := Lib.hid (ka.out.step hb)
            have kb := Lib.hid (kb.out.step hb)
            clear hb
            have fm := fun i => frozen_of_row w13 _ i _ _ kb.out.blk
            have m0c := cell_of_row w13 _ 0 _ _ _ kb.out.blk
            have m1c := cell_of_row w13 _ 1 _ _ _ kb.out.blk
            have o0 : w13.cell? ⟨w6.heap.size + 1, 0, none⟩ = some _ := ka.out.cells.1
            have o1 : w13.cell? ⟨w6.heap.size + 1, 1, none⟩ = some _ := ka.out.cells.2
            have meN := NB.sets kb.out.blk hd
            have otN := NB.other kb.out.blk (by omega) ka.out (.slice A13 Y.q.length c13) (.slice A13' Y.ap.length c13')
            have hWN := hW.out.sets (B := w8.heap.size + 1) (by omega) (.slice A13 Y.q.length c13) (.slice A13' Y.ap.length c13')
            obtain ⟨V13, hV13⟩ : ∃ V, (w13.setCell ⟨w8.heap.size + 1, 0, none⟩ (.slice A13 Y.q.length c13)).setCell ⟨w8.heap.size + 1, 1, none⟩ (.slice A13' Y.ap.length c13') = V := ⟨_, rfl⟩
            rw [hV13] at meN otN hWN
            replace hV13 := Lib.hid hV13
            replace meN := Lib.hid meN
            replace otN := Lib.hid otN
            replace hWN := Lib.hid hWN
            clear hd
            go_wp2_with fail
            rw [hV13.out]
            clear fm m0c m1c o0 o1
            have hW := hWN
            have kb := meN
            have ka := otN
            have kn := Lib.hid (kl.out.step hW.out.bel)
            have hB := Lib.hid (hBl.out.trans (hW.out.bel.mono hBl.out.size))
            clear meN otN hWN
            have hcon := Same_any Y V13 A12 A12' A13 A13' c12 c12' c13 c13' ka.out.net kb.out.net
            refine hcon.mono ?_
            rintro e w14 ⟨rfl, hb⟩
            clear hcon
            have hB := Lib.hid (hB.out.trans (hb.mono hB.out.size))
            have kn := Lib.hid (kn.out.step hb)
            have hW := Lib.hid (hW.out.step hb)
            have ka := Lib.hid (ka.out.step hb)
            have kb := Lib.hid (kb.out.step hb)
            clear hb
            have y0 : w14.cell? ⟨w.heap.size, 0, none⟩ = some _ := kn.out.cells.1
            have y1 : w14.cell? ⟨w.heap.size, 1, none⟩ = some _ := kn.out.cells.2
            go_wp2_with fail
            have hcon := Repeat_any n z w14 A A' c c' (· < w14.heap.size) (fun _ h => h) kn.out.net
            refine hcon.mono ?_
            intro e w15 hp
            clear y0 y1
            clear hcon
            obtain ⟨A15, c15, A15', c15', rfl, hd, hb⟩ := hp.got hZ.out
            clear hp
            have hB := Lib.hid (hB.out.trans (hb.mono hB.out.size))
            have kn := Lib.hid (kn.out.step hb)
            have hW := Lib.hid (hW.out.step hb)
            have ka := Lib.hid (ka.out.step hb)
            have kb := Lib.hid (kb.out.step hb)
            clear hb
            have fm := fun i => frozen_of_row w15 _ i _ _ ka.out.blk
            have m0c := cell_of_row w15 _ 0 _ _ _ ka.out.blk
            have m1c := cell_of_row w15 _ 1 _ _ _ ka.out.blk
            have y0 : w15.cell? ⟨w.heap.size, 0, none⟩ = some _ := kn.out.cells.1
            have y1 : w15.cell? ⟨w.heap.size, 1, none⟩ = some _ := kn.out.cells.2
            have meN := NB.sets ka.out.blk hd
            have otN := NB.other ka.out.blk (by omega) kb.out (.slice A15 Z.q.length c15) (.slice A15' Z.ap.length c15')
            have hWN := hW.out.sets (B := w6.heap.size + 1) (by omega) (.slice A15 Z.q.length c15) (.slice A15' Z.ap.length c15')
            obtain ⟨V15, hV15⟩ : ∃ V, (w15.setCell ⟨w6.heap.size + 1, 0, none⟩ (.slice A15 Z.q.length c15)).setCell ⟨w6.heap.size + 1, 1, none⟩ (.slice A15' Z.ap.length c15') = V := ⟨_, rfl⟩
            rw [hV15] at meN otN hWN
            replace hV15 := Lib.hid hV15
            replace meN := Lib.hid meN
            replace otN := Lib.hid otN
            replace hWN := Lib.hid hWN
            clear hd
            go_wp2_with fail
            rw [hV15.out]
            clear fm m0c m1c y0 y1
            have hW := hWN
            have ka := meN
            have kb := otN
            have kn := Lib.hid (kl.out.step hW.out.bel)
            have hB := Lib.hid (hBl.out.trans (hW.out.bel.mono hBl.out.size))
            clear meN otN hWN
            have hcon := rRepeat_any n z V15 A A' c c' (· < V15.heap.size) (fun _ h => h) kn.out.net
            refine hcon.mono ?_
            intro e w16 hp
            clear hcon
            obtain ⟨A16, c16, A16', c16', rfl, hd, hb⟩ := hp.got hZ.out
            clear hp
            have hB := Lib.hid (hB.out.trans (hb.mono hB.out.size))
            have kn := Lib.hid (kn.out.step hb)
            have hW := Lib.hid (hW.out.step hb)
            have ka := Lib.hid (ka.out.step hb)
            have kb := Lib.hid (kb.out.step hb)
            clear hb
            have fm := fun i => frozen_of_row w16 _ i _ _ kb.out.blk
            have m0c := cell_of_row w16 _ 0 _ _ _ kb.out.blk
            have m1c := cell_of_row w16 _ 1 _ _ _ kb.out.blk
            have o0 : w16.cell? ⟨w6.heap.size + 1, 0, none⟩ = some _ := ka.out.cells.1
            have o1 : w16.cell? ⟨w6.heap.size + 1, 1, none⟩ = some _ := ka.out.cells.2
            have meN := NB.sets kb.out.blk hd
            have otN := NB.other kb.out.blk (by omega) ka.out (.slice A16 Z.q.length c16) (.slice A16' Z.ap.length c16')
            have hWN := hW.out.sets (B := w8.heap.size + 1) (by omega) (.slice A16 Z.q.length c16) (.slice A16' Z.ap.length c16')
            obtain ⟨V16, hV16⟩ : ∃ V, (w16.setCell ⟨w8.heap.size + 1, 0, none⟩ (.slice A16 Z.q.length c16)).setCell ⟨w8.heap.size + 1, 1, none⟩ (.slice A16' Z.ap.length c16') = V := ⟨_, rfl⟩
            rw [hV16] at meN otN hWN
            replace hV16 := Lib.hid hV16
            replace meN := Lib.hid meN
            replace otN := Lib.hid otN
            replace hWN := Lib.hid hWN
            clear hd
            go_wp2_with fail
            rw [hV16.out]
            clear fm m0c m1c o0 o1
            have hW := hWN
            have kb := meN
            have ka := otN
            have kn := Lib.hid (kl.out.step hW.out.bel)
            have hB := Lib.hid (hBl.out.trans (hW.out.bel.mono hBl.out.size))
            clear meN otN hWN
            have hcon := Same_any Z V16 A15 A15' A16 A16' c15 c15' c16 c16' ka.out.net kb.out.net
            refine hcon.mono ?_
            rintro e w17 ⟨rfl, hb⟩
            clear hcon
            have hB := Lib.hid (hB.out.trans (hb.mono hB.out.size))
            have kn := Lib.hid (kn.out.step hb)
            have hW := Lib.hid (hW.out.step hb)
            have ka := Lib.hid (ka.out.step hb)
            have kb := Lib.hid (kb.out.step hb)
            clear hb
            go_wp2_with fail
            go_roundw
            case rel => exact ⟨k + 1, by omega, by go_num, hW.out⟩
            case measure => simp [intOf]; omega
          · obtain rfl : k = m := by omega
            have hB := Lib.hid (hBl.out.trans (hW.out.bel.mono hBl.out.size))
            go_wp2_with fail
            go_ret
            exact ⟨rfl, hB.out⟩
end Go.Proofs.Ytgomckibinmjmaa
