/- Check, both: contracts. -/
import Derived.Test.YtpmmahlmfcbbbaaNc
namespace Go.Proofs.Ytpmmahlmfcbbbaa
open Go.RowKit

theorem nchk_no {n : Nt} (h : ntB n = false) : nchk n = 60 := by unfold nchk; rw [h]; rfl
theorem all_takeN {α : Type} (p : α → Bool) (l : List α) (k : Nat) (h : k < l.length) : (l.take (k + 1)).all p = ((l.take k).all p && p l[k]) := by
  rw [List.take_succ_eq_append_getElem h, List.all_append]; simp
theorem all_noN {α : Type} (p : α → Bool) (l : List α) (k : Nat) (h : k < l.length) (hp : p l[k] = false) : l.all p = false := by
  rw [List.all_eq_false]; exact ⟨l[k], List.getElem_mem h, by rw [hp]; decide⟩
theorem ntB_big {n : Nt} (h : (4096 : Int) < n.q.length) : ntB n = false := by unfold ntB; rw [decide_eq_false (by omega)]; rfl
theorem ntB_ap {n : Nt} (h : apB n.ap = false) : ntB n = false := by unfold ntB; rw [h]; simp
theorem ntB_q {n : Nt} (h : n.q.all pkB = false) : ntB n = false := by unfold ntB; rw [h]; simp
theorem ntB_yes {n : Nt} (h : ¬ (4096 : Int) < n.q.length) (h2 : apB n.ap = true) (h3 : n.q.all pkB = true) : ntB n = true := by unfold ntB; rw [h2, h3, decide_eq_true (by omega)]; rfl

set_option maxRecDepth 100000 in
set_option maxHeartbeats 800000 in
theorem Check_any (n : Nt) (w : World) (A A' : Option Addr) (c c' : Nat) (B : Nat) (hBw : B ≤ w.heap.size) (h : NR w (· < B) A c A' c' n) :
    Calls Try.prog 13 #[.agg #[.slice A n.q.length c, .slice A' n.ap.length c']] w fun e w' => e = .returned (.int .i64 (nchk n)) ∧ Below w.heap.size w w' := by
  have hB := Lib.hid (bnew w (.cells #[.slice A n.q.length c, .slice A' n.ap.length c'] 25))
  have hm := h.cap'
  have hm' := h.max'
  unfold maxLen at hm'
  have hp := Lib.hid (arePairs_any n.ap (by omega) (w.alloc (.cells #[.slice A n.q.length c, .slice A' n.ap.length c'] 25)) A' c' ((h.ap.keep (Kept.below (hB.out.mono hBw))).mono fun b hb => by simp; omega))
  have hh := Lib.hid h
  clear h hm hm'
  by_cases h0 : (4096 : Int) < n.q.length
  · have hv := Lib.hid (nchk_no (ntB_big h0))
    go_enter Try.func13, Try.ntmps13
    go_wp2_with fail
    go_ret
    exact ⟨retI hv.out.symm, hB.out⟩
  · go_enter Try.func13, Try.ntmps13
    go_wp2_with fail
    refine hp.out.mono ?_
    rintro e w1 ⟨rfl, hb1⟩
    simp only [World.size_alloc] at hb1
    cases hap : apB n.ap with
    | false =>
      have hv := Lib.hid (nchk_no (ntB_ap hap))
      clear hap
      go_wp2_with fail
      go_ret
      exact ⟨retI hv.out.symm, unbox hb1⟩
    | true =>
      have hap' := Lib.hid hap
      obtain ⟨y0, y1⟩ := box2 hb1
      have hb' := Lib.hid hb1
      clear hap hp hb1
      go_wp2_with fail
      clear y0 y1
      go_loopw [4, 18] (fun _ i wr => ∃ k : Nat, k ≤ n.q.length ∧ i = .int .i64 k ∧ Hid ((n.q.take k).all pkB = true) ∧ Below (w.heap.size + 1) (w.alloc (.cells #[.slice A n.q.length c, .slice A' n.ap.length c'] 25)) wr) (fun _ i _ => n.q.length - (intOf i).toNat)
      case atStart => exact ⟨0, Nat.zero_le _, rfl, rfl, hb'.out⟩
      case round =>
        obtain ⟨k, hk, rfl, hall, hb⟩ := hrel
        by_cases hlt : k < n.q.length
        · obtain ⟨b, off, A1, c1, rfl, hs, hc0, hc1, hc2, hl1, hl2, -, hI⟩ := ((hh.out.q.keep (Kept.below (hB.out.mono hBw))).keep (Kept.below (hb.mono (by omega)))).at_ hlt
          have hn := Lib.hid (all_takeN pkB n.q k hlt)
          have ho := Lib.hid (all_noN pkB n.q k hlt)
          have hsz := hb.size
          simp only [World.size_alloc] at hsz
          have hbx := Lib.hid (hb.trans ((bnew wr (.cells #[.int .i64 n.q[k].frm, .int .i64 n.q[k].to, .slice A1 n.q[k].data.length c1] 28)).mono (by omega)))
          have hP := Lib.hid (fun W => isPacket_any n.q[k] W A1 c1)
          clear hb
          go_wp2_with fail
          refine (hP.out _).mono ?_
          rintro e w2 ⟨rfl, hb2⟩
          simp only [World.size_alloc] at hb2
          have hb3 := Lib.hid (hbx.out.trans (hb2.mono (by omega)))
          cases hx : pkB n.q[k] with
          | false =>
            have hv := Lib.hid (nchk_no (ntB_q (ho.out hx)))
            clear hx hb2
            go_wp2_with fail
            go_ret
            exact ⟨retI hv.out.symm, unbox hb3.out⟩
          | true =>
            have hnx := Lib.hid (show (n.q.take (k + 1)).all pkB = true by rw [hn.out, hall.out, hx]; rfl)
            clear hx hb2
            go_wp2_with fail
            go_roundw
            case rel => exact ⟨k + 1, by omega, by go_num, hnx.out, hb3.out⟩
            case measure => simp [intOf]; omega
        · have hv := Lib.hid (show nchk n = 0 by unfold nchk; rw [ntB_yes (by omega) hap'.out (by have := hall.out; rwa [List.take_of_length_le (by omega)] at this)]; rfl)
          have hle : ¬ ((k : Int) < n.q.length) := by omega
          have hb4 := Lib.hid (unbox hb)
          clear hlt hall hb
          go_wp2_with fail
          go_ret
          exact ⟨retI hv.out.symm, hb4.out⟩
end Go.Proofs.Ytpmmahlmfcbbbaa
