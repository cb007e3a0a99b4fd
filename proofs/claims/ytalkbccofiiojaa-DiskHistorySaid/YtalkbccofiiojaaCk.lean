/- has, Check, runs, performed: contracts. -/
import Derived.Test.YtalkbccofiiojaaSe
namespace Go.Proofs.Ytalkbccofiiojaa
open Go.RowKit

theorem head_no {d : Dk} (h : headB d = false) : (d.secs.length : Int) < 1 ∨ (¬ (d.secs.length : Int) < 1 ∧ (4096 : Int) < d.secs.length) ∨ (¬ (d.secs.length : Int) < 1 ∧ ¬ (4096 : Int) < d.secs.length ∧ (4096 : Int) < d.pend.length) ∨
    (¬ (d.secs.length : Int) < 1 ∧ ¬ (4096 : Int) < d.secs.length ∧ ¬ (4096 : Int) < d.pend.length ∧ d.left < -1) ∨ (¬ (d.secs.length : Int) < 1 ∧ ¬ (4096 : Int) < d.secs.length ∧ ¬ (4096 : Int) < d.pend.length ∧ ¬ d.left < -1 ∧ (65536 : Int) < d.left) := by
  unfold headB at h
  simp only [Bool.and_eq_false_iff, decide_eq_false_iff_not] at h
  omega
theorem head_yes {d : Dk} (h : headB d = true) : ¬ (d.secs.length : Int) < 1 ∧ ¬ (4096 : Int) < d.secs.length ∧ ¬ (4096 : Int) < d.pend.length ∧ ¬ d.left < -1 ∧ ¬ (65536 : Int) < d.left := by
  unfold headB at h
  simp only [Bool.and_eq_true, decide_eq_true_eq] at h
  omega
theorem chk_head {d : Dk} (h : headB d = false) : chk d = 40 := by unfold chk chkB; rw [h]; rfl
theorem chk_secs {d : Dk} (h : d.secs.all secB = false) : chk d = 40 := by unfold chk chkB; rw [h]; simp
theorem chk_pend {d : Dk} (h : d.pend.all (wrB d) = false) : chk d = 40 := by unfold chk chkB; rw [h]; simp
theorem chk_good {d : Dk} (h : headB d = true) (h1 : d.secs.all secB = true) (h2 : d.pend.all (wrB d) = true) : chk d = 0 := by unfold chk chkB; rw [h, h1, h2]; rfl
theorem all_take {α : Type} (p : α → Bool) (l : List α) (k : Nat) (h : k < l.length) : (l.take (k + 1)).all p = ((l.take k).all p && p l[k]) := by
  rw [List.take_succ_eq_append_getElem h, List.all_append]; simp
theorem all_no {α : Type} (p : α → Bool) (l : List α) (k : Nat) (h : k < l.length) (hp : p l[k] = false) : l.all p = false := by
  rw [List.all_eq_false]; exact ⟨l[k], List.getElem_mem h, by rw [hp]; decide⟩

set_option maxRecDepth 100000 in
set_option maxHeartbeats 400000 in
theorem has_any (d : Dk) (a : Int) (w : World) (A A' : Option Addr) (c c' : Nat) :
    Calls Try.prog 30 #[.agg #[.slice A d.secs.length c, .slice A' d.pend.length c', .int .i64 d.left, .bool d.stop], .int .i64 a] w fun e w' => e = .returned (.bool (hasB d a)) ∧ Below w.heap.size w w' := by
  have hB := Lib.hid (bnew w (.cells #[.slice A d.secs.length c, .slice A' d.pend.length c', .int .i64 d.left, .bool d.stop] 25))
  by_cases h0 : 0 ≤ a
  · have hv := Lib.hid (show hasB d a = decide (a < (d.secs.length : Int)) by unfold hasB; simp [h0])
    go_enter Try.func30, Try.ntmps30
    go_wp2_with fail
    go_ret
    exact ⟨retB hv.out.symm, hB.out⟩
  · have hv := Lib.hid (show hasB d a = false by unfold hasB; simp [h0])
    go_enter Try.func30, Try.ntmps30
    go_wp2_with fail
    go_ret
    exact ⟨retB hv.out.symm, hB.out⟩

/-- One sector of a list in memory. -/
theorem SR.at_ {w : World} {S : Nat → Prop} {A : Option Addr} {ls : List (List UInt8)} (h : SR w S A ls) {i : Nat} (hi : i < ls.length) :
    ∃ b off A1 c1, A = some ⟨b, off, none⟩ ∧ S b ∧ w.cell? ⟨b, off + i, none⟩ = some (.slice A1 ls[i].length c1) ∧ ls[i].length ≤ c1 ∧ c1 ≤ maxLen ∧ RBs w S A1 ls[i] := by
  obtain ⟨b, off, e, hs, hc⟩ := h (by omega)
  obtain ⟨v, h1, A1, c1, rfl, h2, h3, h4⟩ := hc i hi
  exact ⟨b, off, A1, c1, e, hs, h1, h2, h3, h4⟩
theorem PR.at_ {w : World} {S : Nat → Prop} {A : Option Addr} {ps : List Wr} (h : PR w S A ps) {i : Nat} (hi : i < ps.length) :
    ∃ b off A1 c1, A = some ⟨b, off, none⟩ ∧ S b ∧ w.cell? ⟨b, off + i * 2, none⟩ = some (.int .i64 ps[i].pl) ∧ w.cell? ⟨b, off + i * 2 + 1, none⟩ = some (.slice A1 ps[i].data.length c1) ∧ ps[i].data.length ≤ c1 ∧ c1 ≤ maxLen ∧ RBs w S A1 ps[i].data ∧ I64 ps[i].pl := by
  obtain ⟨b, off, e, hs, hc⟩ := h (by omega)
  obtain ⟨v, h0, h1, ⟨A1, c1, rfl, h2, h3, h4⟩, h5⟩ := hc i hi
  exact ⟨b, off, A1, c1, e, hs, h0, h1, h2, h3, h4, h5⟩

set_option maxRecDepth 100000 in
set_option maxHeartbeats 800000 in
theorem Check_any (d : Dk) (w : World) (A A' : Option Addr) (c c' : Nat) (B : Nat) (hBw : B ≤ w.heap.size) (hd : DR w (· < B) A c A' c' d) :
    Calls Try.prog 15 #[.agg #[.slice A d.secs.length c, .slice A' d.pend.length c', .int .i64 d.left, .bool d.stop]] w fun e w' => e = .returned (.int .i64 (chk d)) ∧ Below w.heap.size w w' := by
  have hB := Lib.hid (bnew w (.cells #[.slice A d.secs.length c, .slice A' d.pend.length c', .int .i64 d.left, .bool d.stop] 25))
  cases hh : headB d with
  | false =>
    have hv := Lib.hid (chk_head hh)
    rcases head_no hh with h | ⟨h1, h⟩ | ⟨h1, h2, h⟩ | ⟨h1, h2, h3, h⟩ | ⟨h1, h2, h3, h4, h⟩
    all_goals
      clear hh
      go_enter Try.func15, Try.ntmps15
      go_wp2_with fail
      go_ret
      exact ⟨retI hv.out.symm, hB.out⟩
  | true =>
    obtain ⟨h1, h2, h3, h4, h5⟩ := head_yes hh
    have hh' := Lib.hid hh
    have hd' := Lib.hid hd
    clear hh hd
    go_enter Try.func15, Try.ntmps15
    go_wp2_with fail
    go_loopw [4, 36] (fun _ i wr => ∃ k : Nat, k ≤ d.secs.length ∧ i = .int .i64 k ∧ Hid ((d.secs.take k).all secB = true) ∧ Below (w.heap.size + 1) (w.alloc (.cells #[.slice A d.secs.length c, .slice A' d.pend.length c', .int .i64 d.left, .bool d.stop] 25)) wr) (fun _ i _ => d.secs.length - (intOf i).toNat)
    case atStart => exact ⟨0, Nat.zero_le _, rfl, rfl, Below.refl _ _⟩
    case round =>
      obtain ⟨k, hk, rfl, hall, hb⟩ := hrel
      by_cases hlt : k < d.secs.length
      · obtain ⟨b, off, A1, c1, rfl, hs, hc, hl1, hl2, -⟩ := ((hd'.out.secs.keep (Kept.below (hB.out.mono hBw))).keep (Kept.below (hb.mono (by omega)))).at_ hlt
        have hn := Lib.hid (all_take secB d.secs k hlt)
        have ho := Lib.hid (all_no secB d.secs k hlt)
        have hsb := Lib.hid (@secB_iff d.secs[k])
        by_cases h128 : d.secs[k].length = 128
        · have h128' : (((d.secs[k].length : Int)) != 128) = false := by rw [h128]; rfl
          have h128h := Lib.hid h128
          clear h128
          go_wp2_with fail
          go_roundw
          case rel => exact ⟨k + 1, by omega, by go_num, show _ = _ by rw [hn.out, hall.out, hsb.out.2 h128h.out]; rfl, hb⟩
          case measure => simp [intOf]; omega
        · have h128' : (((d.secs[k].length : Int)) != 128) = true := by simp only [bne_iff_ne, ne_eq]; omega
          have hv := Lib.hid (chk_secs (ho.out (by rw [Bool.eq_false_iff]; exact fun h => h128 (hsb.out.1 h))))
          clear h128
          go_wp2_with fail
          go_ret
          exact ⟨retI hv.out.symm, unbox hb⟩
      · have hall' := Lib.hid (show d.secs.all secB = true by have := hall.out; rwa [List.take_of_length_le (by omega)] at this)
        have hle : ¬ ((k : Int) < d.secs.length) := by omega
        have hbox := box4 hb
        obtain ⟨x0, x1, x2, x3⟩ := hbox
        have hb' := Lib.hid hb
        clear hlt hall hb
        go_wp2_with fail
        go_loopw [6, 47] (fun _ i wr => ∃ k : Nat, k ≤ d.pend.length ∧ i = .int .i64 k ∧ Hid ((d.pend.take k).all (wrB d) = true) ∧ Below (w.heap.size + 1) (w.alloc (.cells #[.slice A d.secs.length c, .slice A' d.pend.length c', .int .i64 d.left, .bool d.stop] 25)) wr) (fun _ i _ => d.pend.length - (intOf i).toNat)
        case atStart => exact ⟨0, Nat.zero_le _, rfl, rfl, hb'.out⟩
        case round =>

          obtain ⟨q, hq, rfl, hall, hb⟩ := hrel
          clear x0 x1 x2 x3
          by_cases hlt : q < d.pend.length
          · have hz := hb.size
            simp only [World.size_alloc] at hz
            obtain ⟨b, off, A1, c1, rfl, hs, hc0, hc1, hl1, hl2, -, hI⟩ := ((hd'.out.pend.keep (Kept.below (hB.out.mono hBw))).keep (Kept.below (hb.mono (by omega)))).at_ hlt
            have hn := Lib.hid (all_take (wrB d) d.pend q hlt)
            have ho := Lib.hid (all_no (wrB d) d.pend q hlt)
            have hbn := Lib.hid (hb.trans ((bnew wr (.cells #[.int .i64 d.pend[q].pl, .slice A1 d.pend[q].data.length c1] 54)).mono (by omega)))
            have hwb := Lib.hid (show wrB d d.pend[q] = (hasB d d.pend[q].pl && secB d.pend[q].data) from rfl)
            have hsb := Lib.hid (@secB_iff d.pend[q].data)
            obtain ⟨y0, y1, y2, y3⟩ := box4 hb
            have hI0 := hI
            clear hb
            have hz2 : w.heap.size < wr.heap.size := by omega
            go_wp2_with fail
            refine (has_any d d.pend[q].pl _ A (some ⟨b, off, none⟩) c c').mono ?_
            rintro e w1 ⟨rfl, hb1⟩
            simp only [World.size_alloc] at hb1
            have hb2 := Lib.hid (hbn.out.trans (hb1.mono (by omega)))
            obtain ⟨z0, z1⟩ := bcell hb1
            cases hhas : hasB d d.pend[q].pl with
            | false =>
              have hv := Lib.hid (chk_pend (ho.out (by rw [hwb.out, hhas]; rfl)))
              clear hb1
              go_wp2_with fail
              go_ret
              exact ⟨retI hv.out.symm, unbox hb2.out⟩
            | true =>
              by_cases h128 : d.pend[q].data.length = 128
              · have h128' : (((d.pend[q].data.length : Int)) != 128) = false := by rw [h128]; rfl
                have hnx := Lib.hid (show (d.pend.take (q + 1)).all (wrB d) = true by rw [hn.out, hall.out, hwb.out, hhas, hsb.out.2 h128]; rfl)
                clear h128 hhas hb1
                go_wp2_with fail
                go_roundw
                case rel => exact ⟨q + 1, by omega, by go_num, hnx.out, hb2.out⟩
                case measure => simp [intOf]; omega
              · have h128' : (((d.pend[q].data.length : Int)) != 128) = true := by simp only [bne_iff_ne, ne_eq]; omega
                have hv := Lib.hid (chk_pend (ho.out (by rw [hwb.out, hhas, Bool.true_and, Bool.eq_false_iff]; exact fun h => h128 (hsb.out.1 h))))
                clear h128 hhas hb1
                go_wp2_with fail
                go_ret
                exact ⟨retI hv.out.symm, unbox hb2.out⟩
          · have hv := Lib.hid (chk_good hh'.out hall'.out (by have := hall.out; rwa [List.take_of_length_le (by omega)] at this))
            have hle : ¬ ((q : Int) < d.pend.length) := by omega
            clear hlt hall
            go_wp2_with fail
            go_ret
            exact ⟨retI hv.out.symm, unbox hb⟩

theorem chk_eq (d : Dk) : (chkB d = true ∧ chk d = 0) ∨ (chkB d = false ∧ chk d = 40) := by
  unfold chk
  cases chkB d with
  | true => exact .inl ⟨rfl, rfl⟩
  | false => exact .inr ⟨rfl, rfl⟩

set_option maxRecDepth 100000 in
set_option maxHeartbeats 800000 in
theorem runs_any (d : Dk) (w : World) (A A' : Option Addr) (c c' : Nat) (B : Nat) (hBw : B ≤ w.heap.size) (hd : DR w (· < B) A c A' c' d) :
    Calls Try.prog 31 #[.agg #[.slice A d.secs.length c, .slice A' d.pend.length c', .int .i64 d.left, .bool d.stop]] w fun e w' => e = .returned (.bool (runB d)) ∧ Below w.heap.size w w' := by
  have hB := Lib.hid (bnew w (.cells #[.slice A d.secs.length c, .slice A' d.pend.length c', .int .i64 d.left, .bool d.stop] 25))
  have hC := Lib.hid (Check_any d (w.alloc (.cells #[.slice A d.secs.length c, .slice A' d.pend.length c', .int .i64 d.left, .bool d.stop] 25)) A A' c c' B (by simp; omega) (hd.keep (Kept.below (hB.out.mono hBw))))
  have hr := Lib.hid (show runB d = (chkB d && !d.stop) from rfl)
  clear hd
  go_enter Try.func31, Try.ntmps31
  go_wp2_with fail
  refine hC.out.mono ?_
  rintro e w1 ⟨rfl, hb1⟩
  simp only [World.size_alloc] at hb1
  obtain ⟨y0, y1, y2, y3⟩ := box4 hb1
  rcases chk_eq d with ⟨h1, h2⟩ | ⟨h1, h2⟩
  · rw [h2]
    have h1' := Lib.hid h1
    clear h1 h2
    cases hs : d.stop with
    | true =>
      rw [hs] at y3 hr
      go_wp2_with fail
      go_ret
      exact ⟨retB (by rw [hr.out, h1'.out]; rfl), unbox hb1⟩
    | false =>
      rw [hs] at y3 hr
      go_wp2_with fail
      go_ret
      exact ⟨retB (by rw [hr.out, h1'.out]; rfl), unbox hb1⟩
  · rw [h2]
    have h1' := Lib.hid h1
    clear h1 h2
    go_wp2_with fail
    go_ret
    exact ⟨retB (by rw [hr.out, h1'.out]; rfl), unbox hb1⟩

set_option maxRecDepth 100000 in
set_option maxHeartbeats 800000 in
theorem rCheck_any (d : Dk) (w : World) (A A' : Option Addr) (c c' : Nat) (B : Nat) (hBw : B ≤ w.heap.size) (hd : DR w (· < B) A c A' c' d) :
    Calls Try.prog 16 #[.agg #[.slice A d.secs.length c, .slice A' d.pend.length c', .int .i64 d.left, .bool d.stop]] w fun e w' => e = .returned (.int .i64 (chk d)) ∧ Below w.heap.size w w' := by
  have hB := Lib.hid (bnew w (.cells #[.slice A d.secs.length c, .slice A' d.pend.length c', .int .i64 d.left, .bool d.stop] 25))
  cases hh : headB d with
  | false =>
    have hv := Lib.hid (chk_head hh)
    rcases head_no hh with h | ⟨h1, h⟩ | ⟨h1, h2, h⟩ | ⟨h1, h2, h3, h⟩ | ⟨h1, h2, h3, h4, h⟩
    all_goals
      clear hh
      go_enter Try.func16, Try.ntmps16
      go_wp2_with fail
      go_ret
      exact ⟨retI hv.out.symm, hB.out⟩
  | true =>
    obtain ⟨h1, h2, h3, h4, h5⟩ := head_yes hh
    have hh' := Lib.hid hh
    have hd' := Lib.hid hd
    clear hh hd
    go_enter Try.func16, Try.ntmps16
    go_wp2_with fail
    go_loopw [4] (fun i wr => ∃ k : Nat, k ≤ d.secs.length ∧ i = .int .i64 k ∧ Hid ((d.secs.take k).all secB = true) ∧ Below (w.heap.size + 1) (w.alloc (.cells #[.slice A d.secs.length c, .slice A' d.pend.length c', .int .i64 d.left, .bool d.stop] 25)) wr) (fun i _ => d.secs.length - (intOf i).toNat)
    case atStart => exact ⟨0, Nat.zero_le _, rfl, rfl, Below.refl _ _⟩
    case round =>
      obtain ⟨k, hk, rfl, hall, hb⟩ := hrel
      by_cases hlt : k < d.secs.length
      · obtain ⟨b, off, A1, c1, rfl, hs, hc, hl1, hl2, -⟩ := ((hd'.out.secs.keep (Kept.below (hB.out.mono hBw))).keep (Kept.below (hb.mono (by omega)))).at_ hlt
        have hn := Lib.hid (all_take secB d.secs k hlt)
        have ho := Lib.hid (all_no secB d.secs k hlt)
        have hsb := Lib.hid (@secB_iff d.secs[k])
        obtain ⟨y0, y1, y2, y3⟩ := box4 hb
        by_cases h128 : d.secs[k].length = 128
        · have h128' : (((d.secs[k].length : Int)) != 128) = false := by rw [h128]; rfl
          have h128h := Lib.hid h128
          clear h128
          go_wp2_with fail
          go_roundw
          case rel => exact ⟨k + 1, by omega, by go_num, show _ = _ by rw [hn.out, hall.out, hsb.out.2 h128h.out]; rfl, hb⟩
          case measure => simp [intOf]; omega
        · have h128' : (((d.secs[k].length : Int)) != 128) = true := by simp only [bne_iff_ne, ne_eq]; omega
          have hv := Lib.hid (chk_secs (ho.out (by rw [Bool.eq_false_iff]; exact fun h => h128 (hsb.out.1 h))))
          clear h128
          go_wp2_with fail
          go_ret
          exact ⟨retI hv.out.symm, unbox hb⟩
      · have hall' := Lib.hid (show d.secs.all secB = true by have := hall.out; rwa [List.take_of_length_le (by omega)] at this)
        have hle : ¬ ((k : Int) < d.secs.length) := by omega
        have hb' := Lib.hid hb
        clear hlt hall hb
        go_wp2_with fail
        go_loopw [5, 6] (fun i _ wr => ∃ k : Nat, k ≤ d.pend.length ∧ i = .int .i64 k ∧ Hid ((d.pend.take k).all (wrB d) = true) ∧ Below (w.heap.size + 1) (w.alloc (.cells #[.slice A d.secs.length c, .slice A' d.pend.length c', .int .i64 d.left, .bool d.stop] 25)) wr) (fun i _ _ => d.pend.length - (intOf i).toNat)
        case atStart => exact ⟨0, Nat.zero_le _, rfl, rfl, hb'.out⟩
        case round =>
          obtain ⟨q, hq, rfl, hall, hb⟩ := hrel
          by_cases hlt : q < d.pend.length
          · have hz := hb.size
            simp only [World.size_alloc] at hz
            obtain ⟨b, off, A1, c1, rfl, hs, hc0, hc1, hl1, hl2, -, hI⟩ := ((hd'.out.pend.keep (Kept.below (hB.out.mono hBw))).keep (Kept.below (hb.mono (by omega)))).at_ hlt
            have hn := Lib.hid (all_take (wrB d) d.pend q hlt)
            have ho := Lib.hid (all_no (wrB d) d.pend q hlt)
            have hbn := Lib.hid (hb.trans ((bnew wr (.cells #[.int .i64 d.pend[q].pl, .slice A1 d.pend[q].data.length c1] 54)).mono (by omega)))
            have hwb := Lib.hid (show wrB d d.pend[q] = (decide (0 ≤ d.pend[q].pl) && decide (d.pend[q].pl < (d.secs.length : Int)) && secB d.pend[q].data) from rfl)
            have hsb := Lib.hid (@secB_iff d.pend[q].data)
            obtain ⟨y0, y1, y2, y3⟩ := box4 hb
            have hz2 : w.heap.size < wr.heap.size := by omega
            clear hb
            by_cases h0 : d.pend[q].pl < 0
            · have hv := Lib.hid (chk_pend (ho.out (by rw [hwb.out, decide_eq_false (by omega)]; rfl)))
              go_wp2_with fail
              go_ret
              exact ⟨retI hv.out.symm, unbox hbn.out⟩
            · by_cases hN : (d.secs.length : Int) ≤ d.pend[q].pl
              · have hv := Lib.hid (chk_pend (ho.out (by rw [hwb.out, decide_eq_false (p := d.pend[q].pl < (d.secs.length : Int)) (by omega)]; simp)))
                go_wp2_with fail
                go_ret
                exact ⟨retI hv.out.symm, unbox hbn.out⟩
              · by_cases h128 : d.pend[q].data.length = 128
                · have h128' : (((d.pend[q].data.length : Int)) != 128) = false := by rw [h128]; rfl
                  have hnx := Lib.hid (show (d.pend.take (q + 1)).all (wrB d) = true by rw [hn.out, hall.out, hwb.out, hsb.out.2 h128, decide_eq_true (by omega), decide_eq_true (by omega)]; rfl)
                  clear h128
                  go_wp2_with fail
                  go_roundw
                  case rel => exact ⟨q + 1, by omega, by go_num, hnx.out, hbn.out⟩
                  case measure => simp [intOf]; omega
                · have h128' : (((d.pend[q].data.length : Int)) != 128) = true := by simp only [bne_iff_ne, ne_eq]; omega
                  have hv := Lib.hid (chk_pend (ho.out (by rw [hwb.out, Bool.and_eq_false_iff]; right; rw [Bool.eq_false_iff]; exact fun h => h128 (hsb.out.1 h))))
                  clear h128
                  go_wp2_with fail
                  go_ret
                  exact ⟨retI hv.out.symm, unbox hbn.out⟩
          · have hv := Lib.hid (chk_good hh'.out hall'.out (by have := hall.out; rwa [List.take_of_length_le (by omega)] at this))
            have hle : ¬ ((q : Int) < d.pend.length) := by omega
            obtain ⟨y0, y1, y2, y3⟩ := box4 hb
            clear hlt hall
            go_wp2_with fail
            go_ret
            exact ⟨retI hv.out.symm, unbox hb⟩
end Go.Proofs.Ytalkbccofiiojaa
