/- sane: the chapter's examples. -/
import Derived.Test.YtpmmahlmfcbbbaaN7
namespace Go.Proofs.Ytpmmahlmfcbbbaa
open Go.RowKit

set_option maxRecDepth 100000 in
set_option maxHeartbeats 8000000 in
theorem sane_any (w : World) : Calls Try.prog 9 #[] w fun e w' => e = .returned (.bool true) ∧ Below w.heap.size w w' := by
  go_enter Try.func9, Try.ntmps9
  go_wp2_with fail
  refine (New_any w).mono ?_
  rintro e w1 ⟨rfl, hb⟩
  have hB := Lib.hid hb
  clear hb
  have hbx := bnew w1 (.cells #[.slice none 0 0, .slice none 0 0] 25)
  have kn := (show NB (w1.alloc (.cells #[.slice none 0 0, .slice none 0 0] 25)) w1.heap.size none 0 none 0 zeroNt from NB.new (NR.zero w1 _))
  obtain ⟨V1, hV1⟩ : ∃ V, (w1).alloc (.cells #[.slice none 0 0, .slice none 0 0] 25) = V := ⟨_, rfl⟩
  have sV1 : V1.heap.size = w1.heap.size + 1 := by rw [← hV1]; simp
  rw [hV1] at kn
  rw [hV1] at hbx
  replace hV1 := Lib.hid hV1
  have hB := Lib.hid (hB.out.trans (hbx.mono hB.out.size))
  have kn := Lib.hid kn
  clear hbx
  go_wp2_with fail
  rw [hV1.out]
  have hcon := Deliver_any zeroNt 0 V1 none none 0 0 (· < V1.heap.size) (fun _ h => h) kn.out.net
  refine hcon.mono ?_
  intro e w2 hp
  clear hcon
  obtain ⟨P2, k2, A2, c2, A2', c2', rfl, hP1, hP2, hP3, hd, hb⟩ := hp.got s1.1.1 s1.1.2 s1.2
  clear hp
  have hB := Lib.hid (hB.out.trans (hb.mono hB.out.size))
  have kn := Lib.hid (kn.out.step hb)
  clear hb
  have hbx := bnew w2 (.cells #[.int .i64 zeroPk.frm, .int .i64 zeroPk.to, .slice P2 zeroPk.data.length k2] 28)
  obtain ⟨V2, hV2⟩ : ∃ V, (w2).alloc (.cells #[.int .i64 zeroPk.frm, .int .i64 zeroPk.to, .slice P2 zeroPk.data.length k2] 28) = V := ⟨_, rfl⟩
  have sV2 : V2.heap.size = w2.heap.size + 1 := by rw [← hV2]; simp
  rw [hV2] at hbx
  replace hV2 := Lib.hid hV2
  have hB := Lib.hid (hB.out.trans (hbx.mono hB.out.size))
  have kn := Lib.hid (kn.out.step hbx)
  clear hbx
  have hbx := bnew V2 (.cells #[.slice A2 zeroNt.q.length c2, .slice A2' zeroNt.ap.length c2'] 25)
  obtain ⟨V3, hV3⟩ : ∃ V, (V2).alloc (.cells #[.slice A2 zeroNt.q.length c2, .slice A2' zeroNt.ap.length c2'] 25) = V := ⟨_, rfl⟩
  have sV3 : V3.heap.size = w2.heap.size + 2 := by rw [← hV3]; simp <;> omega
  rw [hV3] at hbx
  replace hV3 := Lib.hid hV3
  have hB := Lib.hid (hB.out.trans (hbx.mono hB.out.size))
  have kn := Lib.hid (kn.out.step hbx)
  clear hbx
  clear hd hP1 hP2 hP3
  have y0 : (((w2).alloc (.cells #[.int .i64 zeroPk.frm, .int .i64 zeroPk.to, .slice P2 zeroPk.data.length k2] 28)).alloc (.cells #[.slice A2 zeroNt.q.length c2, .slice A2' zeroNt.ap.length c2'] 25)).cell? ⟨w1.heap.size, 0, none⟩ = some (.slice none 0 0) := (congrArg (fun W => W.cell? ⟨w1.heap.size, 0, none⟩) (show ((w2).alloc (.cells #[.int .i64 zeroPk.frm, .int .i64 zeroPk.to, .slice P2 zeroPk.data.length k2] 28)).alloc (.cells #[.slice A2 zeroNt.q.length c2, .slice A2' zeroNt.ap.length c2'] 25) = V3 from by rw [hV2.out, hV3.out])).trans kn.out.cells.1
  have y1 : (((w2).alloc (.cells #[.int .i64 zeroPk.frm, .int .i64 zeroPk.to, .slice P2 zeroPk.data.length k2] 28)).alloc (.cells #[.slice A2 zeroNt.q.length c2, .slice A2' zeroNt.ap.length c2'] 25)).cell? ⟨w1.heap.size, 1, none⟩ = some (.slice none 0 0) := (congrArg (fun W => W.cell? ⟨w1.heap.size, 1, none⟩) (show ((w2).alloc (.cells #[.int .i64 zeroPk.frm, .int .i64 zeroPk.to, .slice P2 zeroPk.data.length k2] 28)).alloc (.cells #[.slice A2 zeroNt.q.length c2, .slice A2' zeroNt.ap.length c2'] 25) = V3 from by rw [hV2.out, hV3.out])).trans kn.out.cells.2
  go_wp2_with fail
  rw [hV2.out, hV3.out]
  have hcon := Send_any zeroNt ⟨3, 3, []⟩ V3 none none none 0 0 0 (· < V3.heap.size) (fun _ h => h) kn.out.net ⟨by unfold I64; decide, by unfold I64; decide⟩ ⟨Nat.le_refl _, Nat.zero_le _⟩ (fun h => absurd h (Nat.lt_irrefl 0))
  refine hcon.mono ?_
  intro e w4 hp
  clear y0 y1
  clear hcon
  obtain ⟨A4, c4, A4', c4', rfl, hd, hb⟩ := hp.got s2
  clear hp
  have hB := Lib.hid (hB.out.trans (hb.mono hB.out.size))
  have kn := Lib.hid (kn.out.step hb)
  clear hb
  have hbx := bnew w4 (.cells #[.slice A4 zeroNt.q.length c4, .slice A4' zeroNt.ap.length c4'] 25)
  obtain ⟨V4, hV4⟩ : ∃ V, (w4).alloc (.cells #[.slice A4 zeroNt.q.length c4, .slice A4' zeroNt.ap.length c4'] 25) = V := ⟨_, rfl⟩
  have sV4 : V4.heap.size = w4.heap.size + 1 := by rw [← hV4]; simp
  rw [hV4] at hbx
  replace hV4 := Lib.hid hV4
  have hB := Lib.hid (hB.out.trans (hbx.mono hB.out.size))
  have kn := Lib.hid (kn.out.step hbx)
  clear hbx
  clear hd
  have y0 : ((w4).alloc (.cells #[.slice A4 zeroNt.q.length c4, .slice A4' zeroNt.ap.length c4'] 25)).cell? ⟨w1.heap.size, 0, none⟩ = some (.slice none 0 0) := (congrArg (fun W => W.cell? ⟨w1.heap.size, 0, none⟩) (show (w4).alloc (.cells #[.slice A4 zeroNt.q.length c4, .slice A4' zeroNt.ap.length c4'] 25) = V4 from by rw [hV4.out])).trans kn.out.cells.1
  have y1 : ((w4).alloc (.cells #[.slice A4 zeroNt.q.length c4, .slice A4' zeroNt.ap.length c4'] 25)).cell? ⟨w1.heap.size, 1, none⟩ = some (.slice none 0 0) := (congrArg (fun W => W.cell? ⟨w1.heap.size, 1, none⟩) (show (w4).alloc (.cells #[.slice A4 zeroNt.q.length c4, .slice A4' zeroNt.ap.length c4'] 25) = V4 from by rw [hV4.out])).trans kn.out.cells.2
  go_wp2_with fail
  rw [hV4.out]
  have hcon := Cut_any zeroNt 2 2 true V4 none none 0 0 (· < V4.heap.size) (fun _ h => h) kn.out.net
  refine hcon.mono ?_
  intro e w5 hp
  clear y0 y1
  clear hcon
  obtain ⟨A5, c5, A5', c5', rfl, hd, hb⟩ := hp.got s3
  clear hp
  have hB := Lib.hid (hB.out.trans (hb.mono hB.out.size))
  have kn := Lib.hid (kn.out.step hb)
  clear hb
  have hbx := bnew w5 (.cells #[.slice A5 zeroNt.q.length c5, .slice A5' zeroNt.ap.length c5'] 25)
  obtain ⟨V5, hV5⟩ : ∃ V, (w5).alloc (.cells #[.slice A5 zeroNt.q.length c5, .slice A5' zeroNt.ap.length c5'] 25) = V := ⟨_, rfl⟩
  have sV5 : V5.heap.size = w5.heap.size + 1 := by rw [← hV5]; simp
  rw [hV5] at hbx
  replace hV5 := Lib.hid hV5
  have hB := Lib.hid (hB.out.trans (hbx.mono hB.out.size))
  have kn := Lib.hid (kn.out.step hbx)
  clear hbx
  clear hd
  have h7 : RBs (V5.alloc (.cells #[.int .u8 7] 5)) (· < (V5.alloc (.cells #[.int .u8 7] 5)).heap.size) (some ⟨w5.heap.size + 1, 0, none⟩) [7] := fun _ => ⟨w5.heap.size + 1, 0, rfl, by simp; omega, fun j hj => by
    match j, hj with
    | 0, _ => exact sV5 ▸ cell_of_row _ V5.heap.size 0 _ _ _ (heap_alloc_new V5 _)⟩
  have hbx := bnew V5 (.cells #[.int .u8 7] 5)
  obtain ⟨V6, hV6⟩ : ∃ V, (V5).alloc (.cells #[.int .u8 7] 5) = V := ⟨_, rfl⟩
  have sV6 : V6.heap.size = w5.heap.size + 2 := by rw [← hV6]; simp <;> omega
  rw [hV6] at hbx
  replace hV6 := Lib.hid hV6
  have hB := Lib.hid (hB.out.trans (hbx.mono hB.out.size))
  have kn := Lib.hid (kn.out.step hbx)
  clear hbx
  rw [hV6.out] at h7
  have hbx := bnew V6 (.cells #[.int .i64 1, .int .i64 3, .slice (some ⟨w5.heap.size + 1, 0, none⟩) 1 1] 28)
  have kp := (show KB (V6.alloc (.cells #[.int .i64 1, .int .i64 3, .slice (some ⟨w5.heap.size + 1, 0, none⟩) 1 1] 28)) (w5.heap.size + 2) (some ⟨w5.heap.size + 1, 0, none⟩) 1 pS from sV6 ▸ KB.new (p := pS) ⟨by decide, by decide⟩ h7 ⟨by unfold I64; decide, by unfold I64; decide⟩)
  obtain ⟨V7, hV7⟩ : ∃ V, (V6).alloc (.cells #[.int .i64 1, .int .i64 3, .slice (some ⟨w5.heap.size + 1, 0, none⟩) 1 1] 28) = V := ⟨_, rfl⟩
  have sV7 : V7.heap.size = w5.heap.size + 3 := by rw [← hV7]; simp <;> omega
  rw [hV7] at kp
  rw [hV7] at hbx
  replace hV7 := Lib.hid hV7
  have hB := Lib.hid (hB.out.trans (hbx.mono hB.out.size))
  have kp := Lib.hid kp
  have kn := Lib.hid (kn.out.step hbx)
  clear hbx
  clear h7
  have y0 : ((((w5).alloc (.cells #[.slice A5 zeroNt.q.length c5, .slice A5' zeroNt.ap.length c5'] 25)).alloc (.cells #[.int .u8 7] 5)).alloc (.cells #[.int .i64 1, .int .i64 3, .slice (some ⟨w5.heap.size + 1, 0, none⟩) 1 1] 28)).cell? ⟨w1.heap.size, 0, none⟩ = some (.slice none 0 0) := (congrArg (fun W => W.cell? ⟨w1.heap.size, 0, none⟩) (show (((w5).alloc (.cells #[.slice A5 zeroNt.q.length c5, .slice A5' zeroNt.ap.length c5'] 25)).alloc (.cells #[.int .u8 7] 5)).alloc (.cells #[.int .i64 1, .int .i64 3, .slice (some ⟨w5.heap.size + 1, 0, none⟩) 1 1] 28) = V7 from by rw [hV5.out, hV6.out, hV7.out])).trans kn.out.cells.1
  have y1 : ((((w5).alloc (.cells #[.slice A5 zeroNt.q.length c5, .slice A5' zeroNt.ap.length c5'] 25)).alloc (.cells #[.int .u8 7] 5)).alloc (.cells #[.int .i64 1, .int .i64 3, .slice (some ⟨w5.heap.size + 1, 0, none⟩) 1 1] 28)).cell? ⟨w1.heap.size, 1, none⟩ = some (.slice none 0 0) := (congrArg (fun W => W.cell? ⟨w1.heap.size, 1, none⟩) (show (((w5).alloc (.cells #[.slice A5 zeroNt.q.length c5, .slice A5' zeroNt.ap.length c5'] 25)).alloc (.cells #[.int .u8 7] 5)).alloc (.cells #[.int .i64 1, .int .i64 3, .slice (some ⟨w5.heap.size + 1, 0, none⟩) 1 1] 28) = V7 from by rw [hV5.out, hV6.out, hV7.out])).trans kn.out.cells.2
  have z0 : ((((w5).alloc (.cells #[.slice A5 zeroNt.q.length c5, .slice A5' zeroNt.ap.length c5'] 25)).alloc (.cells #[.int .u8 7] 5)).alloc (.cells #[.int .i64 1, .int .i64 3, .slice (some ⟨w5.heap.size + 1, 0, none⟩) 1 1] 28)).cell? ⟨w5.heap.size + 2, 0, none⟩ = some (.int .i64 1) := (congrArg (fun W => W.cell? ⟨w5.heap.size + 2, 0, none⟩) (show (((w5).alloc (.cells #[.slice A5 zeroNt.q.length c5, .slice A5' zeroNt.ap.length c5'] 25)).alloc (.cells #[.int .u8 7] 5)).alloc (.cells #[.int .i64 1, .int .i64 3, .slice (some ⟨w5.heap.size + 1, 0, none⟩) 1 1] 28) = V7 from by rw [hV5.out, hV6.out, hV7.out])).trans kp.out.cells.1
  have z1 : ((((w5).alloc (.cells #[.slice A5 zeroNt.q.length c5, .slice A5' zeroNt.ap.length c5'] 25)).alloc (.cells #[.int .u8 7] 5)).alloc (.cells #[.int .i64 1, .int .i64 3, .slice (some ⟨w5.heap.size + 1, 0, none⟩) 1 1] 28)).cell? ⟨w5.heap.size + 2, 1, none⟩ = some (.int .i64 3) := (congrArg (fun W => W.cell? ⟨w5.heap.size + 2, 1, none⟩) (show (((w5).alloc (.cells #[.slice A5 zeroNt.q.length c5, .slice A5' zeroNt.ap.length c5'] 25)).alloc (.cells #[.int .u8 7] 5)).alloc (.cells #[.int .i64 1, .int .i64 3, .slice (some ⟨w5.heap.size + 1, 0, none⟩) 1 1] 28) = V7 from by rw [hV5.out, hV6.out, hV7.out])).trans kp.out.cells.2.1
  have z2 : ((((w5).alloc (.cells #[.slice A5 zeroNt.q.length c5, .slice A5' zeroNt.ap.length c5'] 25)).alloc (.cells #[.int .u8 7] 5)).alloc (.cells #[.int .i64 1, .int .i64 3, .slice (some ⟨w5.heap.size + 1, 0, none⟩) 1 1] 28)).cell? ⟨w5.heap.size + 2, 2, none⟩ = some (.slice (some ⟨w5.heap.size + 1, 0, none⟩) 1 1) := (congrArg (fun W => W.cell? ⟨w5.heap.size + 2, 2, none⟩) (show (((w5).alloc (.cells #[.slice A5 zeroNt.q.length c5, .slice A5' zeroNt.ap.length c5'] 25)).alloc (.cells #[.int .u8 7] 5)).alloc (.cells #[.int .i64 1, .int .i64 3, .slice (some ⟨w5.heap.size + 1, 0, none⟩) 1 1] 28) = V7 from by rw [hV5.out, hV6.out, hV7.out])).trans kp.out.cells.2.2
  go_wp2_with fail
  rw [hV5.out, hV6.out, hV7.out]
  have hcon := Send_any zeroNt pS V7 none none (some ⟨w5.heap.size + 1, 0, none⟩) 0 0 1 (· < V7.heap.size) (fun _ h => h) kn.out.net kp.out.num kp.out.cap kp.out.dat
  refine hcon.mono ?_
  intro e w8 hp
  clear y0 y1 z0 z1 z2
  clear hcon
  obtain ⟨A8, c8, A8', c8', rfl, hd, hb⟩ := hp.got s4
  clear hp
  have hB := Lib.hid (hB.out.trans (hb.mono hB.out.size))
  have kn := Lib.hid (kn.out.step hb)
  have kp := Lib.hid (kp.out.step hb)
  clear hb
  have hbx := bnew w8 (.cells #[.slice A8 nA.q.length c8, .slice A8' nA.ap.length c8'] 25)
  have ka := (NB.new hd)
  obtain ⟨V8, hV8⟩ : ∃ V, (w8).alloc (.cells #[.slice A8 nA.q.length c8, .slice A8' nA.ap.length c8'] 25) = V := ⟨_, rfl⟩
  have sV8 : V8.heap.size = w8.heap.size + 1 := by rw [← hV8]; simp
  rw [hV8] at ka
  rw [hV8] at hbx
  replace hV8 := Lib.hid hV8
  have hB := Lib.hid (hB.out.trans (hbx.mono hB.out.size))
  have ka := Lib.hid ka
  have kn := Lib.hid (kn.out.step hbx)
  have kp := Lib.hid (kp.out.step hbx)
  clear hbx
  clear hd
  have y0 : ((w8).alloc (.cells #[.slice A8 nA.q.length c8, .slice A8' nA.ap.length c8'] 25)).cell? ⟨w8.heap.size, 0, none⟩ = some _ := (congrArg (fun W => W.cell? ⟨w8.heap.size, 0, none⟩) (show (w8).alloc (.cells #[.slice A8 nA.q.length c8, .slice A8' nA.ap.length c8'] 25) = V8 from by rw [hV8.out])).trans ka.out.cells.1
  have y1 : ((w8).alloc (.cells #[.slice A8 nA.q.length c8, .slice A8' nA.ap.length c8'] 25)).cell? ⟨w8.heap.size, 1, none⟩ = some _ := (congrArg (fun W => W.cell? ⟨w8.heap.size, 1, none⟩) (show (w8).alloc (.cells #[.slice A8 nA.q.length c8, .slice A8' nA.ap.length c8'] 25) = V8 from by rw [hV8.out])).trans ka.out.cells.2
  go_wp2_with fail
  rw [hV8.out]
  have hcon := Repeat_any nA 0 V8 A8 A8' c8 c8' (· < V8.heap.size) (fun _ h => h) ka.out.net
  refine hcon.mono ?_
  intro e w9 hp
  clear y0 y1
  clear hcon
  obtain ⟨A9, c9, A9', c9', rfl, hd, hb⟩ := hp.got s5
  clear hp
  have hB := Lib.hid (hB.out.trans (hb.mono hB.out.size))
  have kn := Lib.hid (kn.out.step hb)
  have kp := Lib.hid (kp.out.step hb)
  have ka := Lib.hid (ka.out.step hb)
  clear hb
  have hbx := bnew w9 (.cells #[.slice A9 nB.q.length c9, .slice A9' nB.ap.length c9'] 25)
  have kb := (NB.new hd)
  obtain ⟨V9, hV9⟩ : ∃ V, (w9).alloc (.cells #[.slice A9 nB.q.length c9, .slice A9' nB.ap.length c9'] 25) = V := ⟨_, rfl⟩
  have sV9 : V9.heap.size = w9.heap.size + 1 := by rw [← hV9]; simp
  rw [hV9] at kb
  rw [hV9] at hbx
  replace hV9 := Lib.hid hV9
  have hB := Lib.hid (hB.out.trans (hbx.mono hB.out.size))
  have kb := Lib.hid kb
  have kn := Lib.hid (kn.out.step hbx)
  have kp := Lib.hid (kp.out.step hbx)
  have ka := Lib.hid (ka.out.step hbx)
  clear hbx
  clear hd
  have y0 : ((w9).alloc (.cells #[.slice A9 nB.q.length c9, .slice A9' nB.ap.length c9'] 25)).cell? ⟨w9.heap.size, 0, none⟩ = some _ := (congrArg (fun W => W.cell? ⟨w9.heap.size, 0, none⟩) (show (w9).alloc (.cells #[.slice A9 nB.q.length c9, .slice A9' nB.ap.length c9'] 25) = V9 from by rw [hV9.out])).trans kb.out.cells.1
  have y1 : ((w9).alloc (.cells #[.slice A9 nB.q.length c9, .slice A9' nB.ap.length c9'] 25)).cell? ⟨w9.heap.size, 1, none⟩ = some _ := (congrArg (fun W => W.cell? ⟨w9.heap.size, 1, none⟩) (show (w9).alloc (.cells #[.slice A9 nB.q.length c9, .slice A9' nB.ap.length c9'] 25) = V9 from by rw [hV9.out])).trans kb.out.cells.2
  go_wp2_with fail
  rw [hV9.out]
  have hcon := Cut_any nB 3 1 true V9 A9 A9' c9 c9' (· < V9.heap.size) (fun _ h => h) kb.out.net
  refine hcon.mono ?_
  intro e w10 hp
  clear y0 y1
  clear hcon
  obtain ⟨A10, c10, A10', c10', rfl, hd, hb⟩ := hp.got s6
  clear hp
  have hB := Lib.hid (hB.out.trans (hb.mono hB.out.size))
  have kn := Lib.hid (kn.out.step hb)
  have kp := Lib.hid (kp.out.step hb)
  have ka := Lib.hid (ka.out.step hb)
  have kb := Lib.hid (kb.out.step hb)
  clear hb
  have hbx := bnew w10 (.cells #[.slice A10 nC.q.length c10, .slice A10' nC.ap.length c10'] 25)
  have kc := (NB.new hd)
  obtain ⟨V10, hV10⟩ : ∃ V, (w10).alloc (.cells #[.slice A10 nC.q.length c10, .slice A10' nC.ap.length c10'] 25) = V := ⟨_, rfl⟩
  have sV10 : V10.heap.size = w10.heap.size + 1 := by rw [← hV10]; simp
  rw [hV10] at kc
  rw [hV10] at hbx
  replace hV10 := Lib.hid hV10
  have hB := Lib.hid (hB.out.trans (hbx.mono hB.out.size))
  have kc := Lib.hid kc
  have kn := Lib.hid (kn.out.step hbx)
  have kp := Lib.hid (kp.out.step hbx)
  have ka := Lib.hid (ka.out.step hbx)
  have kb := Lib.hid (kb.out.step hbx)
  clear hbx
  clear hd
  have y0 : ((w10).alloc (.cells #[.slice A10 nC.q.length c10, .slice A10' nC.ap.length c10'] 25)).cell? ⟨w9.heap.size, 0, none⟩ = some _ := (congrArg (fun W => W.cell? ⟨w9.heap.size, 0, none⟩) (show (w10).alloc (.cells #[.slice A10 nC.q.length c10, .slice A10' nC.ap.length c10'] 25) = V10 from by rw [hV10.out])).trans kb.out.cells.1
  have y1 : ((w10).alloc (.cells #[.slice A10 nC.q.length c10, .slice A10' nC.ap.length c10'] 25)).cell? ⟨w9.heap.size, 1, none⟩ = some _ := (congrArg (fun W => W.cell? ⟨w9.heap.size, 1, none⟩) (show (w10).alloc (.cells #[.slice A10 nC.q.length c10, .slice A10' nC.ap.length c10'] 25) = V10 from by rw [hV10.out])).trans kb.out.cells.2
  go_wp2_with fail
  rw [hV10.out]
  have hcon := Deliver_any nB 0 V10 A9 A9' c9 c9' (· < V10.heap.size) (fun _ h => h) kb.out.net
  refine hcon.mono ?_
  intro e w11 hp
  clear y0 y1
  clear hcon
  obtain ⟨P11, k11, A11, c11, A11', c11', rfl, hP1, hP2, hP3, hd, hb⟩ := hp.got s7.1.1 s7.1.2 s7.2
  clear hp
  have hB := Lib.hid (hB.out.trans (hb.mono hB.out.size))
  have kn := Lib.hid (kn.out.step hb)
  have kp := Lib.hid (kp.out.step hb)
  have ka := Lib.hid (ka.out.step hb)
  have kb := Lib.hid (kb.out.step hb)
  have kc := Lib.hid (kc.out.step hb)
  clear hb
  have hbx := bnew w11 (.cells #[.int .i64 pS.frm, .int .i64 pS.to, .slice P11 pS.data.length k11] 28)
  have kq := (KB.new hP1 hP2 hP3)
  obtain ⟨V11, hV11⟩ : ∃ V, (w11).alloc (.cells #[.int .i64 pS.frm, .int .i64 pS.to, .slice P11 pS.data.length k11] 28) = V := ⟨_, rfl⟩
  have sV11 : V11.heap.size = w11.heap.size + 1 := by rw [← hV11]; simp
  rw [hV11] at kq
  rw [hV11] at hbx
  replace hV11 := Lib.hid hV11
  have hB := Lib.hid (hB.out.trans (hbx.mono hB.out.size))
  have kq := Lib.hid kq
  have kn := Lib.hid (kn.out.step hbx)
  have kp := Lib.hid (kp.out.step hbx)
  have ka := Lib.hid (ka.out.step hbx)
  have kb := Lib.hid (kb.out.step hbx)
  have kc := Lib.hid (kc.out.step hbx)
  clear hbx
  have hd := hd.step (show Below w11.heap.size w11 V11 from hV11.out ▸ bnew w11 _)
  have hbx := bnew V11 (.cells #[.slice A11 nA.q.length c11, .slice A11' nA.ap.length c11'] 25)
  have kd := (show NB _ (w11.heap.size + 1) _ _ _ _ nA from sV11 ▸ NB.new hd)
  obtain ⟨V12, hV12⟩ : ∃ V, (V11).alloc (.cells #[.slice A11 nA.q.length c11, .slice A11' nA.ap.length c11'] 25) = V := ⟨_, rfl⟩
  have sV12 : V12.heap.size = w11.heap.size + 2 := by rw [← hV12]; simp <;> omega
  rw [hV12] at kd
  rw [hV12] at hbx
  replace hV12 := Lib.hid hV12
  have hB := Lib.hid (hB.out.trans (hbx.mono hB.out.size))
  have kd := Lib.hid kd
  have kn := Lib.hid (kn.out.step hbx)
  have kp := Lib.hid (kp.out.step hbx)
  have ka := Lib.hid (ka.out.step hbx)
  have kb := Lib.hid (kb.out.step hbx)
  have kc := Lib.hid (kc.out.step hbx)
  have kq := Lib.hid (kq.out.step hbx)
  clear hbx
  clear hd hP1 hP2 hP3
  have y0 : (((w11).alloc (.cells #[.int .i64 pS.frm, .int .i64 pS.to, .slice P11 pS.data.length k11] 28)).alloc (.cells #[.slice A11 nA.q.length c11, .slice A11' nA.ap.length c11'] 25)).cell? ⟨w10.heap.size, 0, none⟩ = some _ := (congrArg (fun W => W.cell? ⟨w10.heap.size, 0, none⟩) (show ((w11).alloc (.cells #[.int .i64 pS.frm, .int .i64 pS.to, .slice P11 pS.data.length k11] 28)).alloc (.cells #[.slice A11 nA.q.length c11, .slice A11' nA.ap.length c11'] 25) = V12 from by rw [hV11.out, hV12.out])).trans kc.out.cells.1
  have y1 : (((w11).alloc (.cells #[.int .i64 pS.frm, .int .i64 pS.to, .slice P11 pS.data.length k11] 28)).alloc (.cells #[.slice A11 nA.q.length c11, .slice A11' nA.ap.length c11'] 25)).cell? ⟨w10.heap.size, 1, none⟩ = some _ := (congrArg (fun W => W.cell? ⟨w10.heap.size, 1, none⟩) (show ((w11).alloc (.cells #[.int .i64 pS.frm, .int .i64 pS.to, .slice P11 pS.data.length k11] 28)).alloc (.cells #[.slice A11 nA.q.length c11, .slice A11' nA.ap.length c11'] 25) = V12 from by rw [hV11.out, hV12.out])).trans kc.out.cells.2
  go_wp2_with fail
  rw [hV11.out, hV12.out]
  have hcon := Deliver_any nC 1 V12 A10 A10' c10 c10' (· < V12.heap.size) (fun _ h => h) kc.out.net
  refine hcon.mono ?_
  intro e w13 hp
  clear y0 y1
  clear hcon
  obtain ⟨P13, k13, A13, c13, A13', c13', rfl, hP1, hP2, hP3, hd, hb⟩ := hp.got s8.1.1 s8.1.2 s8.2
  clear hp
  have hB := Lib.hid (hB.out.trans (hb.mono hB.out.size))
  have kn := Lib.hid (kn.out.step hb)
  have kp := Lib.hid (kp.out.step hb)
  have ka := Lib.hid (ka.out.step hb)
  have kb := Lib.hid (kb.out.step hb)
  have kc := Lib.hid (kc.out.step hb)
  have kq := Lib.hid (kq.out.step hb)
  have kd := Lib.hid (kd.out.step hb)
  clear hb
  have hbx := bnew w13 (.cells #[.int .i64 zeroPk.frm, .int .i64 zeroPk.to, .slice P13 zeroPk.data.length k13] 28)
  have kr := (KB.new hP1 hP2 hP3)
  obtain ⟨V13, hV13⟩ : ∃ V, (w13).alloc (.cells #[.int .i64 zeroPk.frm, .int .i64 zeroPk.to, .slice P13 zeroPk.data.length k13] 28) = V := ⟨_, rfl⟩
  have sV13 : V13.heap.size = w13.heap.size + 1 := by rw [← hV13]; simp
  rw [hV13] at kr
  rw [hV13] at hbx
  replace hV13 := Lib.hid hV13
  have hB := Lib.hid (hB.out.trans (hbx.mono hB.out.size))
  have kr := Lib.hid kr
  have kn := Lib.hid (kn.out.step hbx)
  have kp := Lib.hid (kp.out.step hbx)
  have ka := Lib.hid (ka.out.step hbx)
  have kb := Lib.hid (kb.out.step hbx)
  have kc := Lib.hid (kc.out.step hbx)
  have kq := Lib.hid (kq.out.step hbx)
  have kd := Lib.hid (kd.out.step hbx)
  clear hbx
  have hbx := bnew V13 (.cells #[.slice A13 nD.q.length c13, .slice A13' nD.ap.length c13'] 25)
  obtain ⟨V14, hV14⟩ : ∃ V, (V13).alloc (.cells #[.slice A13 nD.q.length c13, .slice A13' nD.ap.length c13'] 25) = V := ⟨_, rfl⟩
  have sV14 : V14.heap.size = w13.heap.size + 2 := by rw [← hV14]; simp <;> omega
  rw [hV14] at hbx
  replace hV14 := Lib.hid hV14
  have hB := Lib.hid (hB.out.trans (hbx.mono hB.out.size))
  have kn := Lib.hid (kn.out.step hbx)
  have kp := Lib.hid (kp.out.step hbx)
  have ka := Lib.hid (ka.out.step hbx)
  have kb := Lib.hid (kb.out.step hbx)
  have kc := Lib.hid (kc.out.step hbx)
  have kq := Lib.hid (kq.out.step hbx)
  have kd := Lib.hid (kd.out.step hbx)
  have kr := Lib.hid (kr.out.step hbx)
  clear hbx
  clear hd hP1 hP2 hP3
  have y0 : (((w13).alloc (.cells #[.int .i64 zeroPk.frm, .int .i64 zeroPk.to, .slice P13 zeroPk.data.length k13] 28)).alloc (.cells #[.slice A13 nD.q.length c13, .slice A13' nD.ap.length c13'] 25)).cell? ⟨w1.heap.size, 0, none⟩ = some (.slice none 0 0) := (congrArg (fun W => W.cell? ⟨w1.heap.size, 0, none⟩) (show ((w13).alloc (.cells #[.int .i64 zeroPk.frm, .int .i64 zeroPk.to, .slice P13 zeroPk.data.length k13] 28)).alloc (.cells #[.slice A13 nD.q.length c13, .slice A13' nD.ap.length c13'] 25) = V14 from by rw [hV13.out, hV14.out])).trans kn.out.cells.1
  have y1 : (((w13).alloc (.cells #[.int .i64 zeroPk.frm, .int .i64 zeroPk.to, .slice P13 zeroPk.data.length k13] 28)).alloc (.cells #[.slice A13 nD.q.length c13, .slice A13' nD.ap.length c13'] 25)).cell? ⟨w1.heap.size, 1, none⟩ = some (.slice none 0 0) := (congrArg (fun W => W.cell? ⟨w1.heap.size, 1, none⟩) (show ((w13).alloc (.cells #[.int .i64 zeroPk.frm, .int .i64 zeroPk.to, .slice P13 zeroPk.data.length k13] 28)).alloc (.cells #[.slice A13 nD.q.length c13, .slice A13' nD.ap.length c13'] 25) = V14 from by rw [hV13.out, hV14.out])).trans kn.out.cells.2
  go_wp2_with fail
  rw [hV13.out, hV14.out]
  have hcon := Check_any zeroNt V14 none none 0 0 V14.heap.size (Nat.le_refl _) kn.out.net
  refine hcon.mono ?_
  rintro e w15 ⟨rfl, hb⟩
  clear y0 y1
  clear hcon
  rw [show nchk zeroNt = 0 from rfl]
  have hB := Lib.hid (hB.out.trans (hb.mono hB.out.size))
  have kn := Lib.hid (kn.out.step hb)
  have kp := Lib.hid (kp.out.step hb)
  have ka := Lib.hid (ka.out.step hb)
  have kb := Lib.hid (kb.out.step hb)
  have kc := Lib.hid (kc.out.step hb)
  have kq := Lib.hid (kq.out.step hb)
  have kd := Lib.hid (kd.out.step hb)
  have kr := Lib.hid (kr.out.step hb)
  clear hb
  have z0 : w15.cell? ⟨w5.heap.size + 1 + 1, 0, none⟩ = some (.int .i64 1) := kp.out.cells.1
  have z1 : w15.cell? ⟨w5.heap.size + 1 + 1, 1, none⟩ = some (.int .i64 3) := kp.out.cells.2.1
  have z2 : w15.cell? ⟨w5.heap.size + 1 + 1, 2, none⟩ = some (.slice (some ⟨w5.heap.size + 1, 0, none⟩) 1 1) := kp.out.cells.2.2
  have q0 : w15.cell? ⟨w11.heap.size, 0, none⟩ = some _ := kq.out.cells.1
  have q1 : w15.cell? ⟨w11.heap.size, 1, none⟩ = some _ := kq.out.cells.2.1
  have q2 : w15.cell? ⟨w11.heap.size, 2, none⟩ = some _ := kq.out.cells.2.2
  go_wp2_with fail
  have hcon := SamePacket_any pS pS w15 (some ⟨w5.heap.size + 1, 0, none⟩) P11 1 k11 kp.out.dat kq.out.dat
  refine hcon.mono ?_
  rintro e w16 ⟨rfl, hb⟩
  clear z0 z1 z2 q0 q1 q2
  clear hcon
  rw [show sameP pS pS = true from rfl]
  have hB := Lib.hid (hB.out.trans (hb.mono hB.out.size))
  have kn := Lib.hid (kn.out.step hb)
  have kp := Lib.hid (kp.out.step hb)
  have ka := Lib.hid (ka.out.step hb)
  have kb := Lib.hid (kb.out.step hb)
  have kc := Lib.hid (kc.out.step hb)
  have kq := Lib.hid (kq.out.step hb)
  have kd := Lib.hid (kd.out.step hb)
  have kr := Lib.hid (kr.out.step hb)
  clear hb
  have r0 : w16.cell? ⟨w13.heap.size, 0, none⟩ = some _ := kr.out.cells.1
  have r1 : w16.cell? ⟨w13.heap.size, 1, none⟩ = some _ := kr.out.cells.2.1
  have r2 : w16.cell? ⟨w13.heap.size, 2, none⟩ = some _ := kr.out.cells.2.2
  go_wp2_with fail
  have hcon := SamePacket_any zeroPk zeroPk w16 P13 none k13 0 kr.out.dat (fun h => absurd h (Nat.lt_irrefl 0))
  refine hcon.mono ?_
  rintro e w17 ⟨rfl, hb⟩
  clear r0 r1 r2
  clear hcon
  rw [show sameP zeroPk zeroPk = true from rfl]
  have hB := Lib.hid (hB.out.trans (hb.mono hB.out.size))
  have kn := Lib.hid (kn.out.step hb)
  have kp := Lib.hid (kp.out.step hb)
  have ka := Lib.hid (ka.out.step hb)
  have kb := Lib.hid (kb.out.step hb)
  have kc := Lib.hid (kc.out.step hb)
  have kq := Lib.hid (kq.out.step hb)
  have kd := Lib.hid (kd.out.step hb)
  have kr := Lib.hid (kr.out.step hb)
  clear hb
  have d0 : w17.cell? ⟨w11.heap.size + 1, 0, none⟩ = some _ := kd.out.cells.1
  have d1 : w17.cell? ⟨w11.heap.size + 1, 1, none⟩ = some _ := kd.out.cells.2
  have a0 : w17.cell? ⟨w8.heap.size, 0, none⟩ = some _ := ka.out.cells.1
  have a1 : w17.cell? ⟨w8.heap.size, 1, none⟩ = some _ := ka.out.cells.2
  go_wp2_with fail
  have hcon := Same_any nA w17 A11 A11' A8 A8' c11 c11' c8 c8' kd.out.net ka.out.net
  refine hcon.mono ?_
  rintro e w18 ⟨rfl, hb⟩
  clear d0 d1 a0 a1
  clear hcon
  have hB := Lib.hid (hB.out.trans (hb.mono hB.out.size))
  have kn := Lib.hid (kn.out.step hb)
  have kp := Lib.hid (kp.out.step hb)
  have ka := Lib.hid (ka.out.step hb)
  have kb := Lib.hid (kb.out.step hb)
  have kc := Lib.hid (kc.out.step hb)
  have kq := Lib.hid (kq.out.step hb)
  have kd := Lib.hid (kd.out.step hb)
  have kr := Lib.hid (kr.out.step hb)
  clear hb
  obtain ⟨b, off, rfl, hs, hc0, hc1, -⟩ := kc.out.net.ap.at_ (i := 0) (by decide)
  have p0 : w18.cell? ⟨b, off, none⟩ = some (.int .i64 1) := (congrArg (fun o => w18.cell? ⟨b, o, none⟩) (show off = off + 0 * 2 by omega)).trans hc0
  have p1 : w18.cell? ⟨b, off + 1, none⟩ = some (.int .i64 3) := (congrArg (fun o => w18.cell? ⟨b, o, none⟩) (show off + 1 = off + 0 * 2 + 1 by omega)).trans hc1
  have hEq : (Op.equalIn 10000 55 (.agg #[.int .i64 1, .int .i64 3]) (.agg #[.int .i64 1, .int .i64 3])).run Try.prog w18 = .ok true w18 := by
    rw [run_equalIn_two w18 9998 55 3 Try.underlying55 Try.underlying3 Try.sizeOf3]
    rfl
  clear hc0 hc1 hs
  have y0 : w18.cell? ⟨w10.heap.size, 0, none⟩ = some (.slice A10 2 c10) := kc.out.cells.1
  have y1 : w18.cell? ⟨w10.heap.size, 1, none⟩ = some (.slice (some ⟨b, off, none⟩) 1 c10') := kc.out.cells.2
  go_wp2_with fail
  go_ret
  exact ⟨rfl, hB.out⟩
end Go.Proofs.Ytpmmahlmfcbbbaa
