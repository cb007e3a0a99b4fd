/- DiskStopped: the law. -/
import Derived.Test.YtalkbccofiiojaaSn
import Derived.Test.YtalkbccofiiojaaSm
namespace Go.Proofs.Ytalkbccofiiojaa
open Go.RowKit

theorem Restart_rest (ls : List (List UInt8)) (w : World) (A : Option Addr) (c : Nat) :
    Calls Try.prog 17 #[.agg #[.slice A ls.length c, .slice none 0 0, .int .i64 (-1), .bool false]] w fun e w' => e = .returned (.agg #[.slice A ls.length c, .slice none 0 0, .int .i64 (-1), .bool false]) ∧ Below w.heap.size w w' :=
  Restart_any ⟨ls, [], -1, false⟩ w A none c 0
theorem Same_rest (ls : List (List UInt8)) (w : World) (A A2 : Option Addr) (c c2 : Nat) (h : SR w (· < w.heap.size) A ls) (h2 : SR w (· < w.heap.size) A2 ls) (hc : ls.length ≤ c ∧ c ≤ maxLen) (hc2 : ls.length ≤ c2 ∧ c2 ≤ maxLen) :
    Calls Try.prog 14 #[.agg #[.slice A ls.length c, .slice none 0 0, .int .i64 (-1), .bool false], .agg #[.slice A2 ls.length c2, .slice none 0 0, .int .i64 (-1), .bool false]] w fun e w' => e = .returned (.bool true) ∧ Below w.heap.size w w' :=
  Same_any ⟨ls, [], -1, false⟩ w A none A2 none c 0 c2 0 ⟨hc.1, hc.2, Nat.le_refl _, Nat.zero_le _, h, fun h => absurd h (Nat.lt_irrefl 0), by unfold I64; simp⟩ ⟨hc2.1, hc2.2, Nat.le_refl _, Nat.zero_le _, h2, fun h => absurd h (Nat.lt_irrefl 0), by unfold I64; simp⟩
theorem runB_stop {d : Dk} : runB ⟨d.secs, d.pend, d.left, true⟩ = false := by unfold runB; simp

/-- The argument's box, behind whatever leaves it alone. -/
structure Held (w : World) (A : Option Addr) (c : Nat) (A' : Option Addr) (c' : Nat) (d : Dk) (W : World) : Prop where
  base : Below (w.heap.size + 1) (w.alloc (.cells #[.slice A d.secs.length c, .slice A' d.pend.length c', .int .i64 d.left, .bool d.stop] 25)) W
theorem Held.init (w : World) (A A' : Option Addr) (c c' : Nat) (d : Dk) : Held w A c A' c' d (w.alloc (.cells #[.slice A d.secs.length c, .slice A' d.pend.length c', .int .i64 d.left, .bool d.stop] 25)) := ⟨Below.refl _ _⟩
theorem Held.lt {w W : World} {A A' : Option Addr} {c c' : Nat} {d : Dk} (h : Held w A c A' c' d W) : w.heap.size < W.heap.size := by
  have := h.base.size
  simp only [World.size_alloc] at this
  omega
theorem Held.step {w W W' : World} {A A' : Option Addr} {c c' : Nat} {d : Dk} (h : Held w A c A' c' d W) (hb : Below W.heap.size W W') : Held w A c A' c' d W' := ⟨h.base.trans (hb.mono h.lt)⟩
theorem Held.kb {w W : World} {A A' : Option Addr} {c c' : Nat} {d : Dk} (h : Held w A c A' c' d W) : KB W w.heap.size A c A' c' d :=
  (h.base.block _ (Nat.lt_succ_self _)).trans (heap_alloc_new w _)
theorem Held.below {w W : World} {A A' : Option Addr} {c c' : Nat} {d : Dk} (h : Held w A c A' c' d W) : Below w.heap.size w W := unbox h.base
theorem Held.dr {w W : World} {A A' : Option Addr} {c c' : Nat} {d : Dk} (h : Held w A c A' c' d W) (hd : DR w (· < w.heap.size) A c A' c' d) : DR W (· < w.heap.size) A c A' c' d := hd.keep (Kept.below h.below)
theorem Held.drw {w W : World} {A A' : Option Addr} {c c' : Nat} {d : Dk} (h : Held w A c A' c' d W) (hd : DR w (· < w.heap.size) A c A' c' d) : DR W (· < W.heap.size) A c A' c' d := (h.dr hd).mono fun _ hb => Nat.lt_trans hb h.lt

set_option maxRecDepth 100000 in
set_option maxHeartbeats 4000000 in
theorem stopped_any (d : Dk) (a l : Int) (hl : I64 l) (ha : I64 a) (b : List UInt8) (w : World) (A A' Ab : Option Addr) (c c' cb : Nat) (hd : DR w (· < w.heap.size) A c A' c' d) (hbl : b.length ≤ cb ∧ cb ≤ maxLen) (hrb : RBs w (· < w.heap.size) Ab b) :
    Calls Try.prog 9 #[.agg #[.slice A d.secs.length c, .slice A' d.pend.length c', .int .i64 d.left, .bool d.stop], .int .i64 a, .int .i64 l, .slice Ab b.length cb] w fun e w' => e = .returned (.bool true) ∧ Below w.heap.size w w' := by
  have H := Lib.hid (Held.init w A A' c c' d)
  have hdh := Lib.hid hd
  have hrbh := Lib.hid hrb
  have hcap := hd.cap
  have hmax := hd.max
  have hmx := hmax
  unfold maxLen at hmx
  have hblh := Lib.hid hbl
  have hb63 : b.length ≤ 9223372036854775807 := by have := hbl.1; have := hbl.2; unfold maxLen at *; omega
  clear hd hrb hbl
  go_enter Try.func9, Try.ntmps9
  go_wp2_with fail
  refine (sane_any _).mono ?_
  rintro e w1 ⟨rfl, hb⟩
  have H := Lib.hid (H.out.step hb)
  clear hb
  obtain ⟨y0, y1, y2, y3⟩ := H.out.kb.cells
  go_wp2_with fail
  refine (Few_any d w1 A A' c c' (H.out.drw hdh.out)).mono ?_
  rintro e w2 ⟨⟨f, rfl⟩, hb⟩
  have H := Lib.hid (H.out.step hb)
  clear hb y0 y1 y2 y3
  cases f with
  | false =>
    go_wp2_with fail
    go_ret
    exact ⟨rfl, H.out.below⟩
  | true =>
    by_cases h1000 : (1000 : Int) < b.length
    · go_wp2_with fail
      go_ret
      exact ⟨rfl, H.out.below⟩
    · obtain ⟨y0, y1, y2, y3⟩ := H.out.kb.cells
      go_wp2_with fail
      refine (Restart_any d w2 A A' c c').mono ?_
      rintro e w3 ⟨rfl, hb⟩
      have H := Lib.hid (H.out.step hb)
      clear hb y0 y1 y2 y3
      go_wp2_with fail
      have k9 := heap_alloc_new w3 (.cells #[.slice A d.secs.length c, .slice none 0 0, .int .i64 (-1), .bool false] 25)
      have H3 := H.out.step (bnew w3 (.cells #[.slice A d.secs.length c, .slice none 0 0, .int .i64 (-1), .bool false] 25))
      have hz3 : (w3.alloc (.cells #[.slice A d.secs.length c, .slice none 0 0, .int .i64 (-1), .bool false] 25)).heap.size = w3.heap.size + 1 := by simp
      generalize w3.alloc (.cells #[.slice A d.secs.length c, .slice none 0 0, .int .i64 (-1), .bool false] 25) = V3 at *
      have H := Lib.hid H3
      clear H3
      have z0 : V3.cell? ⟨w3.heap.size, 0, none⟩ = some (.slice A d.secs.length c) := cell_of_row V3 _ 0 _ _ _ k9
      have z1 : V3.cell? ⟨w3.heap.size, 1, none⟩ = some (.slice none 0 0) := cell_of_row V3 _ 1 _ _ _ k9
      have z2 : V3.cell? ⟨w3.heap.size, 2, none⟩ = some (.int .i64 (-1)) := cell_of_row V3 _ 2 _ _ _ k9
      have z3 : V3.cell? ⟨w3.heap.size, 3, none⟩ = some (.bool false) := cell_of_row V3 _ 3 _ _ _ k9
      have k9 := Lib.hid k9
      go_wp2_with fail
      refine (Restart_rest d.secs V3 A c).mono ?_
      rintro e w4 ⟨rfl, hb⟩
      have H := Lib.hid (H.out.step hb)
      have k9 := Lib.hid (blk_step k9.out hb)
      have hz4 := hb.size
      clear hb z0 z1 z2 z3
      have hw34 : w3.heap.size < w4.heap.size := by omega
      have z0 : w4.cell? ⟨w3.heap.size, 0, none⟩ = some (.slice A d.secs.length c) := cell_of_row w4 _ 0 _ _ _ k9.out
      have z1 : w4.cell? ⟨w3.heap.size, 1, none⟩ = some (.slice none 0 0) := cell_of_row w4 _ 1 _ _ _ k9.out
      have z2 : w4.cell? ⟨w3.heap.size, 2, none⟩ = some (.int .i64 (-1)) := cell_of_row w4 _ 2 _ _ _ k9.out
      have z3 : w4.cell? ⟨w3.heap.size, 3, none⟩ = some (.bool false) := cell_of_row w4 _ 3 _ _ _ k9.out
      have H4 := Lib.hid (H.out.step (bnew w4 (.cells #[.slice A d.secs.length c, .slice none 0 0, .int .i64 (-1), .bool false] 25)))
      have k9' := Lib.hid (blk_step k9.out (bnew w4 (.cells #[.slice A d.secs.length c, .slice none 0 0, .int .i64 (-1), .bool false] 25)))
      have hS := Lib.hid (Same_rest d.secs (w4.alloc (.cells #[.slice A d.secs.length c, .slice none 0 0, .int .i64 (-1), .bool false] 25)) A A c c (H4.out.drw hdh.out).secs (H4.out.drw hdh.out).secs ⟨hcap, hmax⟩ ⟨hcap, hmax⟩)
      have hz5 : (w4.alloc (.cells #[.slice A d.secs.length c, .slice none 0 0, .int .i64 (-1), .bool false] 25)).heap.size = w4.heap.size + 1 := by simp
      go_wp2_with fail
      refine hS.out.mono ?_
      rintro e w5 ⟨rfl, hb⟩
      have H := Lib.hid (H4.out.step hb)
      have k9 := Lib.hid (blk_step k9'.out hb)
      have hz6 := hb.size
      rw [hz5] at hz6
      clear hb z0 z1 z2 z3 hS H4 k9' hz5
      have z0 : w5.cell? ⟨w3.heap.size, 0, none⟩ = some (.slice A d.secs.length c) := cell_of_row w5 _ 0 _ _ _ k9.out
      obtain ⟨y0, y1, y2, y3⟩ := H.out.kb.cells
      go_wp2_with fail
      have hl3 : w3.heap.size < w5.heap.size := by omega
      clear z0 y0 y1 y2 y3
      go_loopw [11] (fun i wr => ∃ k : Nat, k ≤ d.secs.length ∧ i = .int .i64 k ∧ Below w5.heap.size w5 wr) (fun i _ => d.secs.length - (intOf i).toNat)
      case atStart => exact ⟨0, Nat.zero_le _, rfl, Below.refl _ _⟩
      case round =>
        obtain ⟨k, hk, rfl, hb⟩ := hrel
        have H := Lib.hid (H.out.step hb)
        have k9' := blk_step k9.out hb
        have z0 : wr.cell? ⟨w3.heap.size, 0, none⟩ = some (.slice A d.secs.length c) := cell_of_row wr _ 0 _ _ _ k9'
        obtain ⟨y0, y1, y2, y3⟩ := H.out.kb.cells
        have hb' := Lib.hid hb
        clear k9' hb
        by_cases hlt : k < d.secs.length
        · obtain ⟨b1, off1, B1, e1, rfl, hs1, hc1, hl1, hl2, hr1⟩ := (H.out.dr hdh.out).secs.at_ hlt
          have k1 := conv_drew (c := e1) hr1
          clear hr1
          generalize d.secs[k] = m at *
          go_wp2_with fail
          go_quiet (fail)
          go_wp2_with fail
          go_roundw
          case rel => exact ⟨k + 1, by omega, by go_num, dN hb'.out _⟩
          case measure => simp [intOf]; omega
        · have hle : ¬ ((k : Int) < d.secs.length) := by omega
          have yf := H.out.kb.fz
          have hdV : DR (wr.setCell ⟨w.heap.size, 3, none⟩ (.bool true)) (· < w.heap.size) A c A' c' ⟨d.secs, d.pend, d.left, true⟩ := ((H.out.dr hdh.out).keep fun b o (h : b < w.heap.size) => World.cell?_of_block (heap_setCell_other wr ⟨w.heap.size, 3, none⟩ b (.bool true) (Nat.ne_of_lt h))).relabel hdh.out.left true
          have hkV : KB (wr.setCell ⟨w.heap.size, 3, none⟩ (.bool true)) w.heap.size A c A' c' ⟨d.secs, d.pend, d.left, true⟩ := (heap_setCell_same wr w.heap.size 3 _ _ (.bool true) H.out.kb).trans rfl
          have hBV := Lib.hid (H.out.below.setCell (p := ⟨w.heap.size, 3, none⟩) (Nat.le_refl _) (.bool true))
          have hsV : w.heap.size < (wr.setCell ⟨w.heap.size, 3, none⟩ (.bool true)).heap.size := by have := H.out.lt; simpa using this
          have hdV := Lib.hid (hdV.mono (S' := (· < (wr.setCell ⟨w.heap.size, 3, none⟩ (.bool true)).heap.size)) fun b h => Nat.lt_trans h hsV)
          have hkV := Lib.hid hkV
          have hrd := Lib.hid (Read_any ⟨d.secs, d.pend, d.left, true⟩ a _ A A' c c' hdV.out)
          clear hlt
          go_wp2_with fail
          refine hrd.out.mono ?_
          intro e w6 hp
          obtain ⟨rfl, hb⟩ := hp.no (by rw [runB_stop]; rfl)
          have hdV := Lib.hid (hdV.out.step hb)
          have hkV := Lib.hid (hkV.out.step hb)
          have hBV := Lib.hid (hBV.out.trans (hb.mono hBV.out.size))
          clear hb hp hrd z0 y0 y1 y2 y3 yf
          have hsb := Lib.hid (hrbh.out.keep (Kept.below hBV.out))
          have hle6 := hBV.out.size
          obtain ⟨y0, y1, y2, y3⟩ := hkV.out.cells
          go_wp2_with fail
          refine (Write_any ⟨d.secs, d.pend, d.left, true⟩ a ha b (Nat.le_trans hblh.out.1 hblh.out.2) w6 A A' Ab c c' cb (· < w6.heap.size) (fun _ h => h) hdV.out (hsb.out.mono fun _ h => Nat.lt_of_lt_of_le h hle6)).mono ?_
          intro e w7 hp
          obtain ⟨A1, c1, A1', c1', rfl, -, hb⟩ := hp.get (show writeD ⟨d.secs, d.pend, d.left, true⟩ a b = (zeroDk, 40) by unfold writeD; rw [runB_stop]; rfl)
          have hdV := Lib.hid (hdV.out.step hb)
          have hkV := Lib.hid (hkV.out.step hb)
          have hBV := Lib.hid (hBV.out.trans (hb.mono hBV.out.size))
          clear hb hp y0 y1 y2 y3 hsb hle6
          obtain ⟨y0, y1, y2, y3⟩ := hkV.out.cells
          have hl7 := hkV.out.lt
          have hd7 := Lib.hid (hdV.out.step (bnew w7 (.cells #[.slice A1 zeroDk.secs.length c1, .slice A1' zeroDk.pend.length c1', .int .i64 zeroDk.left, .bool zeroDk.stop] 25)))
          have hk7 := Lib.hid (hkV.out.step (bnew w7 (.cells #[.slice A1 zeroDk.secs.length c1, .slice A1' zeroDk.pend.length c1', .int .i64 zeroDk.left, .bool zeroDk.stop] 25)))
          have hB7 := Lib.hid (hBV.out.alloc hBV.out.size (.cells #[.slice A1 zeroDk.secs.length c1, .slice A1' zeroDk.pend.length c1', .int .i64 zeroDk.left, .bool zeroDk.stop] 25))
          go_wp2_with fail
          refine (Sync_any ⟨d.secs, d.pend, d.left, true⟩ _ A A' c c' _ (fun _ h => h) hd7.out).mono ?_
          intro e w8 hp
          obtain ⟨A2, c2, A2', c2', rfl, -, hb⟩ := hp.get (show syncD ⟨d.secs, d.pend, d.left, true⟩ = (zeroDk, 40) by unfold syncD; rw [runB_stop]; rfl)
          have hdV := Lib.hid (hd7.out.step hb)
          have hkV := Lib.hid (hk7.out.step hb)
          have hBV := Lib.hid (hB7.out.trans (hb.mono hB7.out.size))
          clear hb hp y0 y1 y2 y3 hd7 hk7 hB7
          obtain ⟨y0, y1, y2, y3⟩ := hkV.out.cells
          have hl8 := hkV.out.lt
          have hd8 := Lib.hid (hdV.out.step (bnew w8 (.cells #[.slice A2 zeroDk.secs.length c2, .slice A2' zeroDk.pend.length c2', .int .i64 zeroDk.left, .bool zeroDk.stop] 25)))
          have hB8 := Lib.hid (hBV.out.alloc hBV.out.size (.cells #[.slice A2 zeroDk.secs.length c2, .slice A2' zeroDk.pend.length c2', .int .i64 zeroDk.left, .bool zeroDk.stop] 25))
          go_wp2_with fail
          refine (Stop_any ⟨d.secs, d.pend, d.left, true⟩ l hl _ A A' c c' _ (fun _ h => h) hd8.out).mono ?_
          intro e w9 hp
          obtain ⟨A3, c3, A3', c3', rfl, -, hb⟩ := hp.get (show stopD ⟨d.secs, d.pend, d.left, true⟩ l = (zeroDk, 40) by unfold stopD; rw [runB_stop]; rfl)
          have hBV := Lib.hid (hB8.out.trans (hb.mono hB8.out.size))
          have hBf := Lib.hid (hBV.out.alloc hBV.out.size (.cells #[.slice A3 zeroDk.secs.length c3, .slice A3' zeroDk.pend.length c3', .int .i64 zeroDk.left, .bool zeroDk.stop] 25))
          clear hb hp y0 y1 y2 y3 hd8 hB8
          go_wp2_with fail
          go_ret
          exact ⟨rfl, hBf.out⟩
end Go.Proofs.Ytalkbccofiiojaa
