/- NetworkCuts: the contract. -/
import Derived.Test.YtgomckibinmjmaaL7p
namespace Go.Proofs.Ytgomckibinmjmaa
open Go.RowKit

set_option maxRecDepth 100000 in
set_option maxHeartbeats 8000000 in
theorem cuts_any (n : Nt) (a b : Int) (at0 : Nat) (hat : at0 < 18446744073709551616) (w : World) (A A' : Option Addr) (c c' : Nat) (hd : NR w (· < w.heap.size) A c A' c' n) :
    Calls Try.prog 7 #[.agg #[.slice A n.q.length c, .slice A' n.ap.length c'], .int .i64 a, .int .i64 b, .int .u64 at0] w fun e w' => e = .returned (.bool true) ∧ Below w.heap.size w w' := by
  have hB := Lib.hid (Below.refl w.heap.size w)
  have hbx := bnew w (.cells #[.slice A n.q.length c, .slice A' n.ap.length c'] 25)
  have kn := (NB.new hd)
  obtain ⟨V1, hV1⟩ : ∃ V, (w).alloc (.cells #[.slice A n.q.length c, .slice A' n.ap.length c'] 25) = V := ⟨_, rfl⟩
  have sV1 : V1.heap.size = w.heap.size + 1 := by rw [← hV1]; simp
  rw [hV1] at kn
  rw [hV1] at hbx
  replace hV1 := Lib.hid hV1
  have hB := Lib.hid (hB.out.trans (hbx.mono hB.out.size))
  have kn := Lib.hid kn
  clear hbx
  have hmax := hd.max
  have hcap := hd.cap
  unfold maxLen at hmax
  clear hd
  obtain ⟨f, hf⟩ : ∃ f, (decide (n.q.length ≤ 40) && decide (n.ap.length ≤ 40)) = f := ⟨_, rfl⟩
  replace hf := Lib.hid hf
  go_enter Try.func7, Try.ntmps7
  go_wp2_with fail
  rw [hV1.out]
  have hcon := sane_any V1
  refine hcon.mono ?_
  rintro e w1 ⟨rfl, hb⟩
  clear hcon
  have hB := Lib.hid (hB.out.trans (hb.mono hB.out.size))
  have kn := Lib.hid (kn.out.step hb)
  clear hb
  have y0 : w1.cell? ⟨w.heap.size, 0, none⟩ = some _ := kn.out.cells.1
  have y1 : w1.cell? ⟨w.heap.size, 1, none⟩ = some _ := kn.out.cells.2
  go_wp2_with fail
  have hcon := Few_any n w1 A A' c c'
  rw [hf.out] at hcon
  refine hcon.mono ?_
  rintro e w2 ⟨rfl, hb⟩
  clear y0 y1
  clear hcon
  have hB := Lib.hid (hB.out.trans (hb.mono hB.out.size))
  have kn := Lib.hid (kn.out.step hb)
  clear hb
  cases f with
  | false =>
    go_wp2_with fail
    go_ret
    exact ⟨rfl, hB.out⟩
  | true =>
    have y0 : w2.cell? ⟨w.heap.size, 0, none⟩ = some _ := kn.out.cells.1
    have y1 : w2.cell? ⟨w.heap.size, 1, none⟩ = some _ := kn.out.cells.2
    go_wp2_with fail
    have hcon := Check_any n w2 A A' c c' w2.heap.size (Nat.le_refl _) kn.out.net
    refine hcon.mono ?_
    rintro e w3 ⟨rfl, hb⟩
    clear y0 y1
    clear hcon
    have hB := Lib.hid (hB.out.trans (hb.mono hB.out.size))
    have kn := Lib.hid (kn.out.step hb)
    clear hb
    rcases nchk_eq n with ⟨hnt, h2⟩ | ⟨hnt, h2⟩
    case inr =>
      rw [h2]
      clear hnt h2
      go_wp2_with fail
      go_ret
      exact ⟨rfl, hB.out⟩
    case inl =>
      rw [h2]
      clear h2
      have y0 : w3.cell? ⟨w.heap.size, 0, none⟩ = some _ := kn.out.cells.1
      have y1 : w3.cell? ⟨w.heap.size, 1, none⟩ = some _ := kn.out.cells.2
      go_wp2_with fail
      cases hab : areP a b with
      | false =>
        have hcon := Cut_any n a b true w3 A A' c c' (· < w3.heap.size) (fun _ h => h) kn.out.net
        refine hcon.mono ?_
        intro e w4 hp
        obtain ⟨A4, c4, A4', c4', rfl, hd, hb⟩ := hp.got (cutN_arg hnt hab)
        have hB := Lib.hid (hB.out.trans (hb.mono hB.out.size))
        clear y0 y1 hcon hp hd hb hnt hab
        go_wp2_with fail
        go_ret
        exact ⟨rfl, hB.out.alloc hB.out.size _⟩
      | true =>
        have hql : n.q.length ≤ 40 := by have := hf.out; simp at this; exact this.1
        obtain ⟨k, hk⟩ : ∃ k, linkP a b = k := ⟨_, rfl⟩
        have hok : okP k = true := by rw [← hk]; exact okP_link hab
        have v1 := Lib.hid (show cutN n a b true = (⟨n.q, cutL n.ap k true⟩, 0) by rw [cutN_ok hnt hab, hk])
        have v2 := Lib.hid (show cutN n b a true = (⟨n.q, cutL n.ap k true⟩, 0) by rw [cutN_ok hnt (areP_swap hab), link_swap, hk])
        have v3 := Lib.hid (show cutN ⟨n.q, cutL n.ap k true⟩ a b true = (⟨n.q, cutL n.ap k true⟩, 0) by rw [cutN_ok (cut_valid hnt _ _) hab, hk, cutL_cut])
        have v4 := Lib.hid (show cutN ⟨n.q, cutL n.ap k true⟩ b a false = (⟨n.q, cutL n.ap k false⟩, 0) by rw [cutN_ok (cut_valid hnt _ _) (areP_swap hab), link_swap, hk, cutL_cut])
        have v5 := Lib.hid (show cutN n a b false = (⟨n.q, cutL n.ap k false⟩, 0) by rw [cutN_ok hnt hab, hk])
        have hlen := Lib.hid (cutL_one (l := n.ap) hok)
        have hpl := fun j hj => cuts_plain (j := j) hnt hab hj
        have hfd := fun (j : Nat) (hj : j < n.q.length) on => findN_at (cut_valid hnt k on) hj
        rw [hk] at hpl
        obtain ⟨X, hX⟩ : ∃ X : Nt, ⟨n.q, cutL n.ap k true⟩ = X := ⟨_, rfl⟩
        obtain ⟨K, hK⟩ : ∃ K : Nt, ⟨n.q, cutL n.ap k false⟩ = K := ⟨_, rfl⟩
        have hxq : X.q = n.q := by rw [← hX]
        have hkq : K.q = n.q := by rw [← hK]
        have hlen := Lib.hid (show X.ap.length = K.ap.length + 1 by rw [← hX, ← hK]; exact hlen.out)
        have hl5 := Lib.hid (show K.ap.length ≤ 576 by rw [← hK]; exact cutL_len _ _ _)
        have hf1 := Lib.hid (show ∀ (j : Nat), j < n.q.length → findN X j = 0 ∧ findN K j = 0 by rw [← hX, ← hK]; exact fun j hj => ⟨hfd j hj true, hfd j hj false⟩)
        rw [hX] at v1 v2 v3 v4
        rw [hK] at v4 v5
        rw [hX, hK] at hpl
        replace hpl := Lib.hid hpl
        have hne := (areP_iff.1 hab).2.2
        clear hX hK hab hk hok hnt hfd
        have hjx : ∀ j, j < n.q.length → j < X.q.length := fun j hj => by rw [hxq]; exact hj
        have hjk : ∀ j, j < n.q.length → j < K.q.length := fun j hj => by rw [hkq]; exact hj
        clear hxq hkq
        have hcon := Cut_any n a b true w3 A A' c c' (· < w3.heap.size) (fun _ h => h) kn.out.net
        refine hcon.mono ?_
        intro e w4 hp
        clear y0 y1
        clear hcon
        obtain ⟨A4, c4, A4', c4', rfl, hd, hb⟩ := hp.got v1.out
        clear hp
        have hB := Lib.hid (hB.out.trans (hb.mono hB.out.size))
        have kn := Lib.hid (kn.out.step hb)
        clear hb
        have hbx := bnew w4 (.cells #[.slice A4 X.q.length c4, .slice A4' X.ap.length c4'] 25)
        have kx := (NB.new hd)
        obtain ⟨V4, hV4⟩ : ∃ V, (w4).alloc (.cells #[.slice A4 X.q.length c4, .slice A4' X.ap.length c4'] 25) = V := ⟨_, rfl⟩
        have sV4 : V4.heap.size = w4.heap.size + 1 := by rw [← hV4]; simp
        rw [hV4] at kx
        rw [hV4] at hbx
        replace hV4 := Lib.hid hV4
        have hB := Lib.hid (hB.out.trans (hbx.mono hB.out.size))
        have kx := Lib.hid kx
        have kn := Lib.hid (kn.out.step hbx)
        clear hbx
        clear hd
        have y0 : ((w4).alloc (.cells #[.slice A4 X.q.length c4, .slice A4' X.ap.length c4'] 25)).cell? ⟨w.heap.size, 0, none⟩ = some _ := (congrArg (fun W => W.cell? ⟨w.heap.size, 0, none⟩) (show (w4).alloc (.cells #[.slice A4 X.q.length c4, .slice A4' X.ap.length c4'] 25) = V4 from by rw [hV4.out])).trans kn.out.cells.1
        have y1 : ((w4).alloc (.cells #[.slice A4 X.q.length c4, .slice A4' X.ap.length c4'] 25)).cell? ⟨w.heap.size, 1, none⟩ = some _ := (congrArg (fun W => W.cell? ⟨w.heap.size, 1, none⟩) (show (w4).alloc (.cells #[.slice A4 X.q.length c4, .slice A4' X.ap.length c4'] 25) = V4 from by rw [hV4.out])).trans kn.out.cells.2
        go_wp2_with fail
        rw [hV4.out]
        have hcon := Cut_any n b a true V4 A A' c c' (· < V4.heap.size) (fun _ h => h) kn.out.net
        refine hcon.mono ?_
        intro e w5 hp
        clear y0 y1
        clear hcon
        obtain ⟨A5, c5, A5', c5', rfl, hd, hb⟩ := hp.got v2.out
        clear hp
        have hB := Lib.hid (hB.out.trans (hb.mono hB.out.size))
        have kn := Lib.hid (kn.out.step hb)
        have kx := Lib.hid (kx.out.step hb)
        clear hb
        have hbx := bnew w5 (.cells #[.slice A5 X.q.length c5, .slice A5' X.ap.length c5'] 25)
        have ky := (NB.new hd)
        obtain ⟨V5, hV5⟩ : ∃ V, (w5).alloc (.cells #[.slice A5 X.q.length c5, .slice A5' X.ap.length c5'] 25) = V := ⟨_, rfl⟩
        have sV5 : V5.heap.size = w5.heap.size + 1 := by rw [← hV5]; simp
        rw [hV5] at ky
        rw [hV5] at hbx
        replace hV5 := Lib.hid hV5
        have hB := Lib.hid (hB.out.trans (hbx.mono hB.out.size))
        have ky := Lib.hid ky
        have kn := Lib.hid (kn.out.step hbx)
        have kx := Lib.hid (kx.out.step hbx)
        clear hbx
        clear hd
        have y0 : ((w5).alloc (.cells #[.slice A5 X.q.length c5, .slice A5' X.ap.length c5'] 25)).cell? ⟨w4.heap.size, 0, none⟩ = some _ := (congrArg (fun W => W.cell? ⟨w4.heap.size, 0, none⟩) (show (w5).alloc (.cells #[.slice A5 X.q.length c5, .slice A5' X.ap.length c5'] 25) = V5 from by rw [hV5.out])).trans kx.out.cells.1
        have y1 : ((w5).alloc (.cells #[.slice A5 X.q.length c5, .slice A5' X.ap.length c5'] 25)).cell? ⟨w4.heap.size, 1, none⟩ = some _ := (congrArg (fun W => W.cell? ⟨w4.heap.size, 1, none⟩) (show (w5).alloc (.cells #[.slice A5 X.q.length c5, .slice A5' X.ap.length c5'] 25) = V5 from by rw [hV5.out])).trans kx.out.cells.2
        go_wp2_with fail
        rw [hV5.out]
        have hcon := Cut_any X a b true V5 A4 A4' c4 c4' (· < V5.heap.size) (fun _ h => h) kx.out.net
        refine hcon.mono ?_
        intro e w6 hp
        clear y0 y1
        clear hcon
        obtain ⟨A6, c6, A6', c6', rfl, hd, hb⟩ := hp.got v3.out
        clear hp
        have hB := Lib.hid (hB.out.trans (hb.mono hB.out.size))
        have kn := Lib.hid (kn.out.step hb)
        have kx := Lib.hid (kx.out.step hb)
        have ky := Lib.hid (ky.out.step hb)
        clear hb
        have hbx := bnew w6 (.cells #[.slice A6 X.q.length c6, .slice A6' X.ap.length c6'] 25)
        have kz := (NB.new hd)
        obtain ⟨V6, hV6⟩ : ∃ V, (w6).alloc (.cells #[.slice A6 X.q.length c6, .slice A6' X.ap.length c6'] 25) = V := ⟨_, rfl⟩
        have sV6 : V6.heap.size = w6.heap.size + 1 := by rw [← hV6]; simp
        rw [hV6] at kz
        rw [hV6] at hbx
        replace hV6 := Lib.hid hV6
        have hB := Lib.hid (hB.out.trans (hbx.mono hB.out.size))
        have kz := Lib.hid kz
        have kn := Lib.hid (kn.out.step hbx)
        have kx := Lib.hid (kx.out.step hbx)
        have ky := Lib.hid (ky.out.step hbx)
        clear hbx
        clear hd
        have y0 : ((w6).alloc (.cells #[.slice A6 X.q.length c6, .slice A6' X.ap.length c6'] 25)).cell? ⟨w4.heap.size, 0, none⟩ = some _ := (congrArg (fun W => W.cell? ⟨w4.heap.size, 0, none⟩) (show (w6).alloc (.cells #[.slice A6 X.q.length c6, .slice A6' X.ap.length c6'] 25) = V6 from by rw [hV6.out])).trans kx.out.cells.1
        have y1 : ((w6).alloc (.cells #[.slice A6 X.q.length c6, .slice A6' X.ap.length c6'] 25)).cell? ⟨w4.heap.size, 1, none⟩ = some _ := (congrArg (fun W => W.cell? ⟨w4.heap.size, 1, none⟩) (show (w6).alloc (.cells #[.slice A6 X.q.length c6, .slice A6' X.ap.length c6'] 25) = V6 from by rw [hV6.out])).trans kx.out.cells.2
        go_wp2_with fail
        rw [hV6.out]
        have hcon := Cut_any X b a false V6 A4 A4' c4 c4' (· < V6.heap.size) (fun _ h => h) kx.out.net
        refine hcon.mono ?_
        intro e w7 hp
        clear y0 y1
        clear hcon
        obtain ⟨A7, c7, A7', c7', rfl, hd, hb⟩ := hp.got v4.out
        clear hp
        have hB := Lib.hid (hB.out.trans (hb.mono hB.out.size))
        have kn := Lib.hid (kn.out.step hb)
        have kx := Lib.hid (kx.out.step hb)
        have ky := Lib.hid (ky.out.step hb)
        have kz := Lib.hid (kz.out.step hb)
        clear hb
        have hbx := bnew w7 (.cells #[.slice A7 K.q.length c7, .slice A7' K.ap.length c7'] 25)
        have km := (NB.new hd)
        obtain ⟨V7, hV7⟩ : ∃ V, (w7).alloc (.cells #[.slice A7 K.q.length c7, .slice A7' K.ap.length c7'] 25) = V := ⟨_, rfl⟩
        have sV7 : V7.heap.size = w7.heap.size + 1 := by rw [← hV7]; simp
        rw [hV7] at km
        rw [hV7] at hbx
        replace hV7 := Lib.hid hV7
        have hB := Lib.hid (hB.out.trans (hbx.mono hB.out.size))
        have km := Lib.hid km
        have kn := Lib.hid (kn.out.step hbx)
        have kx := Lib.hid (kx.out.step hbx)
        have ky := Lib.hid (ky.out.step hbx)
        have kz := Lib.hid (kz.out.step hbx)
        clear hbx
        clear hd
        have y0 : ((w7).alloc (.cells #[.slice A7 K.q.length c7, .slice A7' K.ap.length c7'] 25)).cell? ⟨w.heap.size, 0, none⟩ = some _ := (congrArg (fun W => W.cell? ⟨w.heap.size, 0, none⟩) (show (w7).alloc (.cells #[.slice A7 K.q.length c7, .slice A7' K.ap.length c7'] 25) = V7 from by rw [hV7.out])).trans kn.out.cells.1
        have y1 : ((w7).alloc (.cells #[.slice A7 K.q.length c7, .slice A7' K.ap.length c7'] 25)).cell? ⟨w.heap.size, 1, none⟩ = some _ := (congrArg (fun W => W.cell? ⟨w.heap.size, 1, none⟩) (show (w7).alloc (.cells #[.slice A7 K.q.length c7, .slice A7' K.ap.length c7'] 25) = V7 from by rw [hV7.out])).trans kn.out.cells.2
        go_wp2_with fail
        rw [hV7.out]
        have hcon := Cut_any n a b false V7 A A' c c' (· < V7.heap.size) (fun _ h => h) kn.out.net
        refine hcon.mono ?_
        intro e w8 hp
        clear y0 y1
        clear hcon
        obtain ⟨A8, c8, A8', c8', rfl, hd, hb⟩ := hp.got v5.out
        clear hp
        have hB := Lib.hid (hB.out.trans (hb.mono hB.out.size))
        have kn := Lib.hid (kn.out.step hb)
        have kx := Lib.hid (kx.out.step hb)
        have ky := Lib.hid (ky.out.step hb)
        have kz := Lib.hid (kz.out.step hb)
        have km := Lib.hid (km.out.step hb)
        clear hb
        have hbx := bnew w8 (.cells #[.slice A8 K.q.length c8, .slice A8' K.ap.length c8'] 25)
        have kk := (NB.new hd)
        obtain ⟨V8, hV8⟩ : ∃ V, (w8).alloc (.cells #[.slice A8 K.q.length c8, .slice A8' K.ap.length c8'] 25) = V := ⟨_, rfl⟩
        have sV8 : V8.heap.size = w8.heap.size + 1 := by rw [← hV8]; simp
        rw [hV8] at kk
        rw [hV8] at hbx
        replace hV8 := Lib.hid hV8
        have hB := Lib.hid (hB.out.trans (hbx.mono hB.out.size))
        have kk := Lib.hid kk
        have kn := Lib.hid (kn.out.step hbx)
        have kx := Lib.hid (kx.out.step hbx)
        have ky := Lib.hid (ky.out.step hbx)
        have kz := Lib.hid (kz.out.step hbx)
        have km := Lib.hid (km.out.step hbx)
        clear hbx
        clear hd
        have x0 : ((w8).alloc (.cells #[.slice A8 K.q.length c8, .slice A8' K.ap.length c8'] 25)).cell? ⟨w4.heap.size, 0, none⟩ = some _ := (congrArg (fun W => W.cell? ⟨w4.heap.size, 0, none⟩) (show (w8).alloc (.cells #[.slice A8 K.q.length c8, .slice A8' K.ap.length c8'] 25) = V8 from by rw [hV8.out])).trans kx.out.cells.1
        have x1 : ((w8).alloc (.cells #[.slice A8 K.q.length c8, .slice A8' K.ap.length c8'] 25)).cell? ⟨w4.heap.size, 1, none⟩ = some _ := (congrArg (fun W => W.cell? ⟨w4.heap.size, 1, none⟩) (show (w8).alloc (.cells #[.slice A8 K.q.length c8, .slice A8' K.ap.length c8'] 25) = V8 from by rw [hV8.out])).trans kx.out.cells.2
        have y0 : ((w8).alloc (.cells #[.slice A8 K.q.length c8, .slice A8' K.ap.length c8'] 25)).cell? ⟨w5.heap.size, 0, none⟩ = some _ := (congrArg (fun W => W.cell? ⟨w5.heap.size, 0, none⟩) (show (w8).alloc (.cells #[.slice A8 K.q.length c8, .slice A8' K.ap.length c8'] 25) = V8 from by rw [hV8.out])).trans ky.out.cells.1
        have y1 : ((w8).alloc (.cells #[.slice A8 K.q.length c8, .slice A8' K.ap.length c8'] 25)).cell? ⟨w5.heap.size, 1, none⟩ = some _ := (congrArg (fun W => W.cell? ⟨w5.heap.size, 1, none⟩) (show (w8).alloc (.cells #[.slice A8 K.q.length c8, .slice A8' K.ap.length c8'] 25) = V8 from by rw [hV8.out])).trans ky.out.cells.2
        go_wp2_with fail
        rw [hV8.out]
        have hcon := Same_any X V8 A4 A4' A5 A5' c4 c4' c5 c5' kx.out.net ky.out.net
        refine hcon.mono ?_
        rintro e w9 ⟨rfl, hb⟩
        clear x0 x1 y0 y1
        clear hcon
        have hB := Lib.hid (hB.out.trans (hb.mono hB.out.size))
        have kn := Lib.hid (kn.out.step hb)
        have kx := Lib.hid (kx.out.step hb)
        have ky := Lib.hid (ky.out.step hb)
        have kz := Lib.hid (kz.out.step hb)
        have km := Lib.hid (km.out.step hb)
        have kk := Lib.hid (kk.out.step hb)
        clear hb
        have x0 : w9.cell? ⟨w4.heap.size, 0, none⟩ = some _ := kx.out.cells.1
        have x1 : w9.cell? ⟨w4.heap.size, 1, none⟩ = some _ := kx.out.cells.2
        have z0 : w9.cell? ⟨w6.heap.size, 0, none⟩ = some _ := kz.out.cells.1
        have z1 : w9.cell? ⟨w6.heap.size, 1, none⟩ = some _ := kz.out.cells.2
        go_wp2_with fail
        have hcon := Same_any X w9 A4 A4' A6 A6' c4 c4' c6 c6' kx.out.net kz.out.net
        refine hcon.mono ?_
        rintro e w10 ⟨rfl, hb⟩
        clear x0 x1 z0 z1
        clear hcon
        have hB := Lib.hid (hB.out.trans (hb.mono hB.out.size))
        have kn := Lib.hid (kn.out.step hb)
        have kx := Lib.hid (kx.out.step hb)
        have ky := Lib.hid (ky.out.step hb)
        have kz := Lib.hid (kz.out.step hb)
        have km := Lib.hid (km.out.step hb)
        have kk := Lib.hid (kk.out.step hb)
        clear hb
        have x0 : w10.cell? ⟨w7.heap.size, 0, none⟩ = some _ := km.out.cells.1
        have x1 : w10.cell? ⟨w7.heap.size, 1, none⟩ = some _ := km.out.cells.2
        have z0 : w10.cell? ⟨w8.heap.size, 0, none⟩ = some _ := kk.out.cells.1
        have z1 : w10.cell? ⟨w8.heap.size, 1, none⟩ = some _ := kk.out.cells.2
        go_wp2_with fail
        have hcon := Same_any K w10 A7 A7' A8 A8' c7 c7' c8 c8' km.out.net kk.out.net
        refine hcon.mono ?_
        rintro e w11 ⟨rfl, hb⟩
        clear x0 x1 z0 z1
        clear hcon
        have hB := Lib.hid (hB.out.trans (hb.mono hB.out.size))
        have kn := Lib.hid (kn.out.step hb)
        have kx := Lib.hid (kx.out.step hb)
        have ky := Lib.hid (ky.out.step hb)
        have kz := Lib.hid (kz.out.step hb)
        have km := Lib.hid (km.out.step hb)
        have kk := Lib.hid (kk.out.step hb)
        clear hb
        have x0 : w11.cell? ⟨w4.heap.size, 0, none⟩ = some _ := kx.out.cells.1
        have x1 : w11.cell? ⟨w4.heap.size, 1, none⟩ = some _ := kx.out.cells.2
        have z0 : w11.cell? ⟨w8.heap.size, 0, none⟩ = some _ := kk.out.cells.1
        have z1 : w11.cell? ⟨w8.heap.size, 1, none⟩ = some _ := kk.out.cells.2
        have y0 : w11.cell? ⟨w.heap.size, 0, none⟩ = some _ := kn.out.cells.1
        have y1 : w11.cell? ⟨w.heap.size, 1, none⟩ = some _ := kn.out.cells.2
        have hw3 : IntKind.i64.wrap ((K.ap.length : Int) + 1) = (K.ap.length : Int) + 1 := IntWalk.i64_in _ (by have := hl5.out; omega)
        have hw4 : ((X.ap.length : Int) != (K.ap.length : Int) + 1) = false := by rw [hlen.out]; simp
        by_cases h0 : n.q.length = 0
        · have h0' : ((n.q.length : Int) == 0) = true := by rw [h0]; rfl
          clear h0
          go_wp2_with fail
          go_ret
          exact ⟨rfl, hB.out⟩
        have h0' : ((n.q.length : Int) == 0) = false := by simp only [beq_eq_false_iff_ne, ne_eq]; omega
        obtain ⟨j, hi, hlt⟩ : ∃ j : Nat, (at0 % n.q.length) = j ∧ j < n.q.length := ⟨_, rfl, Nat.mod_lt _ (by omega)⟩
        have hw1 : IntKind.u64.wrap (n.q.length : Int) = (n.q.length : Int) := IntWalk.u64_in _ (by omega)
        have hii := Lib.hid (show ((at0 : Int) % (n.q.length : Int)) = (j : Int) by rw [← hi]; exact (Int.natCast_emod _ _).symm)
        obtain ⟨p, z, hdp, hdz, hpz⟩ := hpl.out j hlt
        obtain ⟨hfx, hfk⟩ := hf1.out j hlt
        have hlx := loseN_ok hfx
        have hlk := loseN_ok hfk
        replace hdp := Lib.hid hdp
        replace hdz := Lib.hid hdz
        replace hpz := Lib.hid hpz
        replace hlx := Lib.hid hlx
        replace hlk := Lib.hid hlk
        replace hne := Lib.hid hne
        clear hi hfx hfk
        go_wp2_with fail
        rw [hii.out, show wrap64 (j : Int) = (j : Int) from IntWalk.wrap64_in _ (by omega)]
        clear hw1 hw3 hw4 h0 h0' 
        have hcon := Deliver_any X j w11 A4 A4' c4 c4' (· < w11.heap.size) (fun _ h => h) kx.out.net
        refine hcon.mono ?_
        intro e w12 hp
        clear x0 x1 z0 z1 y0 y1
        clear hcon
        obtain ⟨P12, k12, A12, c12, A12', c12', rfl, hP1, hP2, hP3, hd, hb⟩ := hp.got hdp.out (congrArg (·.1) hlx.out) (congrArg (·.2) hlx.out)
        clear hp
        have hB := Lib.hid (hB.out.trans (hb.mono hB.out.size))
        have kn := Lib.hid (kn.out.step hb)
        have kx := Lib.hid (kx.out.step hb)
        have ky := Lib.hid (ky.out.step hb)
        have kz := Lib.hid (kz.out.step hb)
        have km := Lib.hid (km.out.step hb)
        have kk := Lib.hid (kk.out.step hb)
        clear hb
        obtain ⟨L1, hL1⟩ : ∃ N : Nt, ⟨X.q.take j ++ X.q.drop (j + 1), X.ap⟩ = N := ⟨_, rfl⟩
        rw [hL1] at hd ⊢
        clear hL1
        have hbx := bnew w12 (.cells #[.int .i64 p.frm, .int .i64 p.to, .slice P12 p.data.length k12] 28)
        have kp := (KB.new hP1 hP2 hP3)
        obtain ⟨V12, hV12⟩ : ∃ V, (w12).alloc (.cells #[.int .i64 p.frm, .int .i64 p.to, .slice P12 p.data.length k12] 28) = V := ⟨_, rfl⟩
        have sV12 : V12.heap.size = w12.heap.size + 1 := by rw [← hV12]; simp
        rw [hV12] at kp
        rw [hV12] at hbx
        replace hV12 := Lib.hid hV12
        have hB := Lib.hid (hB.out.trans (hbx.mono hB.out.size))
        have kp := Lib.hid kp
        have kn := Lib.hid (kn.out.step hbx)
        have kx := Lib.hid (kx.out.step hbx)
        have ky := Lib.hid (ky.out.step hbx)
        have kz := Lib.hid (kz.out.step hbx)
        have km := Lib.hid (km.out.step hbx)
        have kk := Lib.hid (kk.out.step hbx)
        clear hbx
        have hbx := bnew V12 (.cells #[.slice A12 L1.q.length c12, .slice A12' L1.ap.length c12'] 25)
        obtain ⟨V13, hV13⟩ : ∃ V, (V12).alloc (.cells #[.slice A12 L1.q.length c12, .slice A12' L1.ap.length c12'] 25) = V := ⟨_, rfl⟩
        have sV13 : V13.heap.size = w12.heap.size + 2 := by rw [← hV13]; simp <;> omega
        rw [hV13] at hbx
        replace hV13 := Lib.hid hV13
        have hB := Lib.hid (hB.out.trans (hbx.mono hB.out.size))
        have kn := Lib.hid (kn.out.step hbx)
        have kx := Lib.hid (kx.out.step hbx)
        have ky := Lib.hid (ky.out.step hbx)
        have kz := Lib.hid (kz.out.step hbx)
        have km := Lib.hid (km.out.step hbx)
        have kk := Lib.hid (kk.out.step hbx)
        have kp := Lib.hid (kp.out.step hbx)
        clear hbx
        clear hd hP1 hP2 hP3
        have y0 : (((w12).alloc (.cells #[.int .i64 p.frm, .int .i64 p.to, .slice P12 p.data.length k12] 28)).alloc (.cells #[.slice A12 L1.q.length c12, .slice A12' L1.ap.length c12'] 25)).cell? ⟨w8.heap.size, 0, none⟩ = some _ := (congrArg (fun W => W.cell? ⟨w8.heap.size, 0, none⟩) (show ((w12).alloc (.cells #[.int .i64 p.frm, .int .i64 p.to, .slice P12 p.data.length k12] 28)).alloc (.cells #[.slice A12 L1.q.length c12, .slice A12' L1.ap.length c12'] 25) = V13 from by rw [hV12.out, hV13.out])).trans kk.out.cells.1
        have y1 : (((w12).alloc (.cells #[.int .i64 p.frm, .int .i64 p.to, .slice P12 p.data.length k12] 28)).alloc (.cells #[.slice A12 L1.q.length c12, .slice A12' L1.ap.length c12'] 25)).cell? ⟨w8.heap.size, 1, none⟩ = some _ := (congrArg (fun W => W.cell? ⟨w8.heap.size, 1, none⟩) (show ((w12).alloc (.cells #[.int .i64 p.frm, .int .i64 p.to, .slice P12 p.data.length k12] 28)).alloc (.cells #[.slice A12 L1.q.length c12, .slice A12' L1.ap.length c12'] 25) = V13 from by rw [hV12.out, hV13.out])).trans kk.out.cells.2
        go_wp2_with fail
        rw [hV12.out, hV13.out]
        have hcon := Deliver_any K j V13 A8 A8' c8 c8' (· < V13.heap.size) (fun _ h => h) kk.out.net
        refine hcon.mono ?_
        intro e w14 hp
        clear y0 y1
        clear hcon
        obtain ⟨P14, k14, A14, c14, A14', c14', rfl, hP1, hP2, hP3, hd, hb⟩ := hp.got hdz.out (congrArg (·.1) hlk.out) (congrArg (·.2) hlk.out)
        clear hp
        have hB := Lib.hid (hB.out.trans (hb.mono hB.out.size))
        have kn := Lib.hid (kn.out.step hb)
        have kx := Lib.hid (kx.out.step hb)
        have ky := Lib.hid (ky.out.step hb)
        have kz := Lib.hid (kz.out.step hb)
        have km := Lib.hid (km.out.step hb)
        have kk := Lib.hid (kk.out.step hb)
        have kp := Lib.hid (kp.out.step hb)
        clear hb
        obtain ⟨L2, hL2⟩ : ∃ N : Nt, ⟨K.q.take j ++ K.q.drop (j + 1), K.ap⟩ = N := ⟨_, rfl⟩
        rw [hL2] at hd ⊢
        clear hL2
        have hbx := bnew w14 (.cells #[.int .i64 z.frm, .int .i64 z.to, .slice P14 z.data.length k14] 28)
        have kz2 := (KB.new hP1 hP2 hP3)
        obtain ⟨V14, hV14⟩ : ∃ V, (w14).alloc (.cells #[.int .i64 z.frm, .int .i64 z.to, .slice P14 z.data.length k14] 28) = V := ⟨_, rfl⟩
        have sV14 : V14.heap.size = w14.heap.size + 1 := by rw [← hV14]; simp
        rw [hV14] at kz2
        rw [hV14] at hbx
        replace hV14 := Lib.hid hV14
        have hB := Lib.hid (hB.out.trans (hbx.mono hB.out.size))
        have kz2 := Lib.hid kz2
        have kn := Lib.hid (kn.out.step hbx)
        have kx := Lib.hid (kx.out.step hbx)
        have ky := Lib.hid (ky.out.step hbx)
        have kz := Lib.hid (kz.out.step hbx)
        have km := Lib.hid (km.out.step hbx)
        have kk := Lib.hid (kk.out.step hbx)
        have kp := Lib.hid (kp.out.step hbx)
        clear hbx
        have hbx := bnew V14 (.cells #[.slice A14 L2.q.length c14, .slice A14' L2.ap.length c14'] 25)
        obtain ⟨V15, hV15⟩ : ∃ V, (V14).alloc (.cells #[.slice A14 L2.q.length c14, .slice A14' L2.ap.length c14'] 25) = V := ⟨_, rfl⟩
        have sV15 : V15.heap.size = w14.heap.size + 2 := by rw [← hV15]; simp <;> omega
        rw [hV15] at hbx
        replace hV15 := Lib.hid hV15
        have hB := Lib.hid (hB.out.trans (hbx.mono hB.out.size))
        have kn := Lib.hid (kn.out.step hbx)
        have kx := Lib.hid (kx.out.step hbx)
        have ky := Lib.hid (ky.out.step hbx)
        have kz := Lib.hid (kz.out.step hbx)
        have km := Lib.hid (km.out.step hbx)
        have kk := Lib.hid (kk.out.step hbx)
        have kp := Lib.hid (kp.out.step hbx)
        have kz2 := Lib.hid (kz2.out.step hbx)
        clear hbx
        clear hd hP1 hP2 hP3
        have p0 : (((w14).alloc (.cells #[.int .i64 z.frm, .int .i64 z.to, .slice P14 z.data.length k14] 28)).alloc (.cells #[.slice A14 L2.q.length c14, .slice A14' L2.ap.length c14'] 25)).cell? ⟨w12.heap.size, 0, none⟩ = some _ := (congrArg (fun W => W.cell? ⟨w12.heap.size, 0, none⟩) (show ((w14).alloc (.cells #[.int .i64 z.frm, .int .i64 z.to, .slice P14 z.data.length k14] 28)).alloc (.cells #[.slice A14 L2.q.length c14, .slice A14' L2.ap.length c14'] 25) = V15 from by rw [hV14.out, hV15.out])).trans kp.out.cells.1
        have p1 : (((w14).alloc (.cells #[.int .i64 z.frm, .int .i64 z.to, .slice P14 z.data.length k14] 28)).alloc (.cells #[.slice A14 L2.q.length c14, .slice A14' L2.ap.length c14'] 25)).cell? ⟨w12.heap.size, 1, none⟩ = some _ := (congrArg (fun W => W.cell? ⟨w12.heap.size, 1, none⟩) (show ((w14).alloc (.cells #[.int .i64 z.frm, .int .i64 z.to, .slice P14 z.data.length k14] 28)).alloc (.cells #[.slice A14 L2.q.length c14, .slice A14' L2.ap.length c14'] 25) = V15 from by rw [hV14.out, hV15.out])).trans kp.out.cells.2.1
        have p2 : (((w14).alloc (.cells #[.int .i64 z.frm, .int .i64 z.to, .slice P14 z.data.length k14] 28)).alloc (.cells #[.slice A14 L2.q.length c14, .slice A14' L2.ap.length c14'] 25)).cell? ⟨w12.heap.size, 2, none⟩ = some _ := (congrArg (fun W => W.cell? ⟨w12.heap.size, 2, none⟩) (show ((w14).alloc (.cells #[.int .i64 z.frm, .int .i64 z.to, .slice P14 z.data.length k14] 28)).alloc (.cells #[.slice A14 L2.q.length c14, .slice A14' L2.ap.length c14'] 25) = V15 from by rw [hV14.out, hV15.out])).trans kp.out.cells.2.2
        have z0 : (((w14).alloc (.cells #[.int .i64 z.frm, .int .i64 z.to, .slice P14 z.data.length k14] 28)).alloc (.cells #[.slice A14 L2.q.length c14, .slice A14' L2.ap.length c14'] 25)).cell? ⟨w14.heap.size, 0, none⟩ = some _ := (congrArg (fun W => W.cell? ⟨w14.heap.size, 0, none⟩) (show ((w14).alloc (.cells #[.int .i64 z.frm, .int .i64 z.to, .slice P14 z.data.length k14] 28)).alloc (.cells #[.slice A14 L2.q.length c14, .slice A14' L2.ap.length c14'] 25) = V15 from by rw [hV14.out, hV15.out])).trans kz2.out.cells.1
        have z1 : (((w14).alloc (.cells #[.int .i64 z.frm, .int .i64 z.to, .slice P14 z.data.length k14] 28)).alloc (.cells #[.slice A14 L2.q.length c14, .slice A14' L2.ap.length c14'] 25)).cell? ⟨w14.heap.size, 1, none⟩ = some _ := (congrArg (fun W => W.cell? ⟨w14.heap.size, 1, none⟩) (show ((w14).alloc (.cells #[.int .i64 z.frm, .int .i64 z.to, .slice P14 z.data.length k14] 28)).alloc (.cells #[.slice A14 L2.q.length c14, .slice A14' L2.ap.length c14'] 25) = V15 from by rw [hV14.out, hV15.out])).trans kz2.out.cells.2.1
        have z2 : (((w14).alloc (.cells #[.int .i64 z.frm, .int .i64 z.to, .slice P14 z.data.length k14] 28)).alloc (.cells #[.slice A14 L2.q.length c14, .slice A14' L2.ap.length c14'] 25)).cell? ⟨w14.heap.size, 2, none⟩ = some _ := (congrArg (fun W => W.cell? ⟨w14.heap.size, 2, none⟩) (show ((w14).alloc (.cells #[.int .i64 z.frm, .int .i64 z.to, .slice P14 z.data.length k14] 28)).alloc (.cells #[.slice A14 L2.q.length c14, .slice A14' L2.ap.length c14'] 25) = V15 from by rw [hV14.out, hV15.out])).trans kz2.out.cells.2.2
        clear v1 v2 v3 v4 v5 hlen hl5 hf1 hpl hlx hlk hdp hdz hf hmax hcap hii
        rcases hpz.out with ⟨hp0, hzz⟩ | ⟨hp0, hz1, hz2⟩
        · replace hp0 := Lib.hid hp0
          rcases hzz with hzz | hzz
          · have e1 : (z.frm == a) = true := by simp [hzz.1]
            have e2 : (z.to == b) = true := by simp [hzz.2]
            clear hzz
            go_wp2_with fail
            rw [hV14.out, hV15.out]
            have hcon := SamePacket_any p zeroPk V15 P12 none k12 0 kp.out.dat (fun h => absurd h (Nat.lt_irrefl 0))
            refine hcon.mono ?_
            rintro e w16 ⟨rfl, hb⟩
            clear p0 p1 p2 z0 z1 z2
            clear hcon
            have hB := Lib.hid (hB.out.trans (hb.mono hB.out.size))
            have kn := Lib.hid (kn.out.step hb)
            have kx := Lib.hid (kx.out.step hb)
            have ky := Lib.hid (ky.out.step hb)
            have kz := Lib.hid (kz.out.step hb)
            have km := Lib.hid (km.out.step hb)
            have kk := Lib.hid (kk.out.step hb)
            have kp := Lib.hid (kp.out.step hb)
            have kz2 := Lib.hid (kz2.out.step hb)
            clear hb
            have hs1 : sameP p zeroPk = true := by rw [hp0.out]; rfl
            rw [hs1]
            clear hs1
            go_wp2_with fail
            go_ret
            exact ⟨rfl, hB.out⟩
          · have e1 : (z.frm == a) = false := by rw [hzz.1]; simp only [beq_eq_false_iff_ne, ne_eq]; exact fun e => hne.out e.symm
            have e3 : (z.frm == b) = true := by simp [hzz.1]
            have e4 : (z.to == a) = true := by simp [hzz.2]
            clear hzz
            go_wp2_with fail
            rw [hV14.out, hV15.out]
            have hcon := SamePacket_any p zeroPk V15 P12 none k12 0 kp.out.dat (fun h => absurd h (Nat.lt_irrefl 0))
            refine hcon.mono ?_
            rintro e w16 ⟨rfl, hb⟩
            clear p0 p1 p2 z0 z1 z2
            clear hcon
            have hB := Lib.hid (hB.out.trans (hb.mono hB.out.size))
            have kn := Lib.hid (kn.out.step hb)
            have kx := Lib.hid (kx.out.step hb)
            have ky := Lib.hid (ky.out.step hb)
            have kz := Lib.hid (kz.out.step hb)
            have km := Lib.hid (km.out.step hb)
            have kk := Lib.hid (kk.out.step hb)
            have kp := Lib.hid (kp.out.step hb)
            have kz2 := Lib.hid (kz2.out.step hb)
            clear hb
            have hs1 : sameP p zeroPk = true := by rw [hp0.out]; rfl
            rw [hs1]
            clear hs1
            go_wp2_with fail
            go_ret
            exact ⟨rfl, hB.out⟩
        · replace hp0 := Lib.hid hp0
          by_cases g1 : z.frm = a
          · have e1 : (z.frm == a) = true := by simp [g1]
            have e2 : (z.to == b) = false := by simp only [beq_eq_false_iff_ne, ne_eq]; exact fun e => hz1 ⟨g1, e⟩
            have e3 : (z.frm == b) = false := by rw [g1]; simp only [beq_eq_false_iff_ne, ne_eq]; exact hne.out
            clear hz1 hz2 g1
            go_wp2_with fail
            rw [hV14.out, hV15.out]
            have hcon := SamePacket_any p zeroPk V15 P12 none k12 0 kp.out.dat (fun h => absurd h (Nat.lt_irrefl 0))
            refine hcon.mono ?_
            rintro e w16 ⟨rfl, hb⟩
            clear p0 p1 p2 z0 z1 z2
            clear hcon
            have hB := Lib.hid (hB.out.trans (hb.mono hB.out.size))
            have kn := Lib.hid (kn.out.step hb)
            have kx := Lib.hid (kx.out.step hb)
            have ky := Lib.hid (ky.out.step hb)
            have kz := Lib.hid (kz.out.step hb)
            have km := Lib.hid (km.out.step hb)
            have kk := Lib.hid (kk.out.step hb)
            have kp := Lib.hid (kp.out.step hb)
            have kz2 := Lib.hid (kz2.out.step hb)
            clear hb
            have z0 : w16.cell? ⟨w14.heap.size, 0, none⟩ = some _ := kz2.out.cells.1
            have z1 : w16.cell? ⟨w14.heap.size, 1, none⟩ = some _ := kz2.out.cells.2.1
            have z2 : w16.cell? ⟨w14.heap.size, 2, none⟩ = some _ := kz2.out.cells.2.2
            go_wp2_with fail
            have hcon := SamePacket_any z zeroPk w16 P14 none k14 0 kz2.out.dat (fun h => absurd h (Nat.lt_irrefl 0))
            refine hcon.mono ?_
            rintro e w17 ⟨rfl, hb⟩
            clear z0 z1 z2
            clear hcon
            have hB := Lib.hid (hB.out.trans (hb.mono hB.out.size))
            have kn := Lib.hid (kn.out.step hb)
            have kx := Lib.hid (kx.out.step hb)
            have ky := Lib.hid (ky.out.step hb)
            have kz := Lib.hid (kz.out.step hb)
            have km := Lib.hid (km.out.step hb)
            have kk := Lib.hid (kk.out.step hb)
            have kp := Lib.hid (kp.out.step hb)
            have kz2 := Lib.hid (kz2.out.step hb)
            clear hb
            obtain ⟨s, hs⟩ : ∃ s, sameP p zeroPk = s := ⟨_, rfl⟩
            have hs2 : sameP z zeroPk = s := by rw [← hs, hp0.out]
            rw [hs, hs2]
            clear hs hs2
            have hss : (s == s) = true := by simp
            have p0 : w17.cell? ⟨w12.heap.size, 0, none⟩ = some _ := kp.out.cells.1
            have p1 : w17.cell? ⟨w12.heap.size, 1, none⟩ = some _ := kp.out.cells.2.1
            have p2 : w17.cell? ⟨w12.heap.size, 2, none⟩ = some _ := kp.out.cells.2.2
            have z0 : w17.cell? ⟨w14.heap.size, 0, none⟩ = some _ := kz2.out.cells.1
            have z1 : w17.cell? ⟨w14.heap.size, 1, none⟩ = some _ := kz2.out.cells.2.1
            have z2 : w17.cell? ⟨w14.heap.size, 2, none⟩ = some _ := kz2.out.cells.2.2
            go_wp2_with fail
            have hcon := SamePacket_any p z w17 P12 P14 k12 k14 kp.out.dat kz2.out.dat
            refine hcon.mono ?_
            rintro e w18 ⟨rfl, hb⟩
            clear p0 p1 p2 z0 z1 z2
            clear hcon
            have hB := Lib.hid (hB.out.trans (hb.mono hB.out.size))
            have kn := Lib.hid (kn.out.step hb)
            have kx := Lib.hid (kx.out.step hb)
            have ky := Lib.hid (ky.out.step hb)
            have kz := Lib.hid (kz.out.step hb)
            have km := Lib.hid (km.out.step hb)
            have kk := Lib.hid (kk.out.step hb)
            have kp := Lib.hid (kp.out.step hb)
            have kz2 := Lib.hid (kz2.out.step hb)
            clear hb
            have hs3 : sameP p z = true := by rw [hp0.out]; exact sameP_refl _
            rw [hs3]
            clear hs3
            go_wp2_with fail
            go_ret
            exact ⟨rfl, hB.out⟩
          · by_cases g2 : z.frm = b
            · have e1 : (z.frm == a) = false := by simp [g1]
              have e3 : (z.frm == b) = true := by simp [g2]
              have e4 : (z.to == a) = false := by simp only [beq_eq_false_iff_ne, ne_eq]; exact fun e => hz2 ⟨g2, e⟩
              clear hz1 hz2 g1 g2
              go_wp2_with fail
              rw [hV14.out, hV15.out]
              have hcon := SamePacket_any p zeroPk V15 P12 none k12 0 kp.out.dat (fun h => absurd h (Nat.lt_irrefl 0))
              refine hcon.mono ?_
              rintro e w16 ⟨rfl, hb⟩
              clear p0 p1 p2 z0 z1 z2
              clear hcon
              have hB := Lib.hid (hB.out.trans (hb.mono hB.out.size))
              have kn := Lib.hid (kn.out.step hb)
              have kx := Lib.hid (kx.out.step hb)
              have ky := Lib.hid (ky.out.step hb)
              have kz := Lib.hid (kz.out.step hb)
              have km := Lib.hid (km.out.step hb)
              have kk := Lib.hid (kk.out.step hb)
              have kp := Lib.hid (kp.out.step hb)
              have kz2 := Lib.hid (kz2.out.step hb)
              clear hb
              have z0 : w16.cell? ⟨w14.heap.size, 0, none⟩ = some _ := kz2.out.cells.1
              have z1 : w16.cell? ⟨w14.heap.size, 1, none⟩ = some _ := kz2.out.cells.2.1
              have z2 : w16.cell? ⟨w14.heap.size, 2, none⟩ = some _ := kz2.out.cells.2.2
              go_wp2_with fail
              have hcon := SamePacket_any z zeroPk w16 P14 none k14 0 kz2.out.dat (fun h => absurd h (Nat.lt_irrefl 0))
              refine hcon.mono ?_
              rintro e w17 ⟨rfl, hb⟩
              clear z0 z1 z2
              clear hcon
              have hB := Lib.hid (hB.out.trans (hb.mono hB.out.size))
              have kn := Lib.hid (kn.out.step hb)
              have kx := Lib.hid (kx.out.step hb)
              have ky := Lib.hid (ky.out.step hb)
              have kz := Lib.hid (kz.out.step hb)
              have km := Lib.hid (km.out.step hb)
              have kk := Lib.hid (kk.out.step hb)
              have kp := Lib.hid (kp.out.step hb)
              have kz2 := Lib.hid (kz2.out.step hb)
              clear hb
              obtain ⟨s, hs⟩ : ∃ s, sameP p zeroPk = s := ⟨_, rfl⟩
              have hs2 : sameP z zeroPk = s := by rw [← hs, hp0.out]
              rw [hs, hs2]
              clear hs hs2
              have hss : (s == s) = true := by simp
              have p0 : w17.cell? ⟨w12.heap.size, 0, none⟩ = some _ := kp.out.cells.1
              have p1 : w17.cell? ⟨w12.heap.size, 1, none⟩ = some _ := kp.out.cells.2.1
              have p2 : w17.cell? ⟨w12.heap.size, 2, none⟩ = some _ := kp.out.cells.2.2
              have z0 : w17.cell? ⟨w14.heap.size, 0, none⟩ = some _ := kz2.out.cells.1
              have z1 : w17.cell? ⟨w14.heap.size, 1, none⟩ = some _ := kz2.out.cells.2.1
              have z2 : w17.cell? ⟨w14.heap.size, 2, none⟩ = some _ := kz2.out.cells.2.2
              go_wp2_with fail
              have hcon := SamePacket_any p z w17 P12 P14 k12 k14 kp.out.dat kz2.out.dat
              refine hcon.mono ?_
              rintro e w18 ⟨rfl, hb⟩
              clear p0 p1 p2 z0 z1 z2
              clear hcon
              have hB := Lib.hid (hB.out.trans (hb.mono hB.out.size))
              have kn := Lib.hid (kn.out.step hb)
              have kx := Lib.hid (kx.out.step hb)
              have ky := Lib.hid (ky.out.step hb)
              have kz := Lib.hid (kz.out.step hb)
              have km := Lib.hid (km.out.step hb)
              have kk := Lib.hid (kk.out.step hb)
              have kp := Lib.hid (kp.out.step hb)
              have kz2 := Lib.hid (kz2.out.step hb)
              clear hb
              have hs3 : sameP p z = true := by rw [hp0.out]; exact sameP_refl _
              rw [hs3]
              clear hs3
              go_wp2_with fail
              go_ret
              exact ⟨rfl, hB.out⟩
            · have e1 : (z.frm == a) = false := by simp [g1]
              have e3 : (z.frm == b) = false := by simp [g2]
              clear hz1 hz2 g1 g2
              go_wp2_with fail
              rw [hV14.out, hV15.out]
              have hcon := SamePacket_any p zeroPk V15 P12 none k12 0 kp.out.dat (fun h => absurd h (Nat.lt_irrefl 0))
              refine hcon.mono ?_
              rintro e w16 ⟨rfl, hb⟩
              clear p0 p1 p2 z0 z1 z2
              clear hcon
              have hB := Lib.hid (hB.out.trans (hb.mono hB.out.size))
              have kn := Lib.hid (kn.out.step hb)
              have kx := Lib.hid (kx.out.step hb)
              have ky := Lib.hid (ky.out.step hb)
              have kz := Lib.hid (kz.out.step hb)
              have km := Lib.hid (km.out.step hb)
              have kk := Lib.hid (kk.out.step hb)
              have kp := Lib.hid (kp.out.step hb)
              have kz2 := Lib.hid (kz2.out.step hb)
              clear hb
              have z0 : w16.cell? ⟨w14.heap.size, 0, none⟩ = some _ := kz2.out.cells.1
              have z1 : w16.cell? ⟨w14.heap.size, 1, none⟩ = some _ := kz2.out.cells.2.1
              have z2 : w16.cell? ⟨w14.heap.size, 2, none⟩ = some _ := kz2.out.cells.2.2
              go_wp2_with fail
              have hcon := SamePacket_any z zeroPk w16 P14 none k14 0 kz2.out.dat (fun h => absurd h (Nat.lt_irrefl 0))
              refine hcon.mono ?_
              rintro e w17 ⟨rfl, hb⟩
              clear z0 z1 z2
              clear hcon
              have hB := Lib.hid (hB.out.trans (hb.mono hB.out.size))
              have kn := Lib.hid (kn.out.step hb)
              have kx := Lib.hid (kx.out.step hb)
              have ky := Lib.hid (ky.out.step hb)
              have kz := Lib.hid (kz.out.step hb)
              have km := Lib.hid (km.out.step hb)
              have kk := Lib.hid (kk.out.step hb)
              have kp := Lib.hid (kp.out.step hb)
              have kz2 := Lib.hid (kz2.out.step hb)
              clear hb
              obtain ⟨s, hs⟩ : ∃ s, sameP p zeroPk = s := ⟨_, rfl⟩
              have hs2 : sameP z zeroPk = s := by rw [← hs, hp0.out]
              rw [hs, hs2]
              clear hs hs2
              have hss : (s == s) = true := by simp
              have p0 : w17.cell? ⟨w12.heap.size, 0, none⟩ = some _ := kp.out.cells.1
              have p1 : w17.cell? ⟨w12.heap.size, 1, none⟩ = some _ := kp.out.cells.2.1
              have p2 : w17.cell? ⟨w12.heap.size, 2, none⟩ = some _ := kp.out.cells.2.2
              have z0 : w17.cell? ⟨w14.heap.size, 0, none⟩ = some _ := kz2.out.cells.1
              have z1 : w17.cell? ⟨w14.heap.size, 1, none⟩ = some _ := kz2.out.cells.2.1
              have z2 : w17.cell? ⟨w14.heap.size, 2, none⟩ = some _ := kz2.out.cells.2.2
              go_wp2_with fail
              have hcon := SamePacket_any p z w17 P12 P14 k12 k14 kp.out.dat kz2.out.dat
              refine hcon.mono ?_
              rintro e w18 ⟨rfl, hb⟩
              clear p0 p1 p2 z0 z1 z2
              clear hcon
              have hB := Lib.hid (hB.out.trans (hb.mono hB.out.size))
              have kn := Lib.hid (kn.out.step hb)
              have kx := Lib.hid (kx.out.step hb)
              have ky := Lib.hid (ky.out.step hb)
              have kz := Lib.hid (kz.out.step hb)
              have km := Lib.hid (km.out.step hb)
              have kk := Lib.hid (kk.out.step hb)
              have kp := Lib.hid (kp.out.step hb)
              have kz2 := Lib.hid (kz2.out.step hb)
              clear hb
              have hs3 : sameP p z = true := by rw [hp0.out]; exact sameP_refl _
              rw [hs3]
              clear hs3
              go_wp2_with fail
              go_ret
              exact ⟨rfl, hB.out⟩
end Go.Proofs.Ytgomckibinmjmaa
