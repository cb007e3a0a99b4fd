/- The reference's Read; Stop, both. -/
import Derived.Test.YtalkbccofiiojaaNw
namespace Go.Proofs.Ytalkbccofiiojaa
open Go.RowKit

theorem lastW_take (ps : List Wr) (a : Int) (b0 : List UInt8) (k : Nat) (h : k < ps.length) : lastW (ps.take (k + 1)) a b0 = if ps[k].pl = a then ps[k].data else lastW (ps.take k) a b0 := by
  rw [List.take_succ_eq_append_getElem h]
  unfold lastW
  rw [List.foldl_append]
  rfl

def rReadPost (d : Dk) (a : Int) (w : World) (e : Ending) (w' : World) : Prop :=
  Below w.heap.size w w' ∧ if (runB d && hasB d a) = true then ∃ A c, e = .returned (.tuple #[.slice A (readL d a).length c, .int .i64 0]) ∧ (readL d a).length ≤ c ∧ c ≤ maxLen ∧ RBs w' (· < w.heap.size) A (readL d a)
  else e = .returned (.tuple #[.slice none 0 0, .int .i64 40])

theorem has_no {d : Dk} {a : Int} (h : hasB d a = false) : a < 0 ∨ (¬ a < 0 ∧ (d.secs.length : Int) ≤ a) := by
  unfold hasB at h
  simp only [Bool.and_eq_false_iff, decide_eq_false_iff_not] at h
  omega

set_option maxRecDepth 100000 in
set_option maxHeartbeats 2000000 in
theorem rRead_any (d : Dk) (a : Int) (w : World) (A A' : Option Addr) (c c' : Nat) (hd : DR w (· < w.heap.size) A c A' c' d) :
    Calls Try.prog 22 #[.agg #[.slice A d.secs.length c, .slice A' d.pend.length c', .int .i64 d.left, .bool d.stop], .int .i64 a] w (rReadPost d a w) := by
  have hB := Lib.hid (bnew w (.cells #[.slice A d.secs.length c, .slice A' d.pend.length c', .int .i64 d.left, .bool d.stop] 25))
  have hd1 := hd.keep (Kept.below hB.out)
  have hC := Lib.hid (rCheck_any d (w.alloc (.cells #[.slice A d.secs.length c, .slice A' d.pend.length c', .int .i64 d.left, .bool d.stop] 25)) A A' c c' w.heap.size (by simp) hd1)
  have hdh := Lib.hid hd
  clear hd hd1
  go_enter Try.func22, Try.ntmps22
  go_wp2_with fail
  refine hC.out.mono ?_
  rintro e w1 ⟨rfl, hb1⟩
  simp only [World.size_alloc] at hb1
  obtain ⟨y0, y1, y2, y3⟩ := box4 hb1
  have hb := Lib.hid hb1
  clear hb1
  rcases chk_eq d with ⟨h1, h2⟩ | ⟨h1, h2⟩
  · rw [h2]
    have h1' := Lib.hid h1
    clear h1 h2
    cases hs : d.stop with
    | true =>
      have hv := Lib.hid (show runB d = false by unfold runB; rw [hs]; simp)
      rw [hs] at y3
      clear hs
      go_wp2_with fail
      go_ret2
      exact ⟨unbox hb.out, by rw [hv.out]; rfl⟩
    | false =>
      have hv := Lib.hid (show runB d = true by unfold runB; rw [hs, h1'.out]; rfl)
      rw [hs] at y3
      have hs' := Lib.hid hs
      clear hs
      cases hh : hasB d a with
      | false =>
        have hh' := Lib.hid hh
        rcases has_no hh with h0 | ⟨h0, hN⟩
        all_goals
          clear hh
          go_wp2_with fail
          go_ret2
          exact ⟨unbox hb.out, by rw [hv.out, hh'.out]; rfl⟩
      | true =>
        have hh' := Lib.hid hh
        obtain ⟨a0, a1⟩ := hasB_iff.1 hh
        have g0 : ¬ a < 0 := by omega
        have g1 : ¬ (d.secs.length : Int) ≤ a := by omega
        have hat : a.toNat < d.secs.length := by omega
        have hp4 := (chkB_iff.1 h1'.out).2.2.1
        obtain ⟨b1, off1, A1, c1, rfl, hs1, hc1, hl1, hl2, hrow⟩ := (hdh.out.secs.keep (Kept.below (unbox hb.out))).at_ (i := a.toNat) hat
        have hr0 : Hid (Row w1 (· < w.heap.size) (.slice A1 d.secs[a.toNat].length c1) (lastW (d.pend.take 0) a (d.secs.getD a.toNat []))) := by
          show Row _ _ _ _
          rw [List.getD_eq_getElem?_getD, List.getElem?_eq_getElem hat]
          exact ⟨A1, c1, rfl, hl1, hl2, hrow⟩
        clear hh hrow
        go_wp2_with fail
        clear y0 y1 y2 y3
        go_loopw [6, 7] (fun v i wr => wr = w1 ∧ ∃ k : Nat, k ≤ d.pend.length ∧ i = .int .i64 k ∧ Row w1 (· < w.heap.size) v (lastW (d.pend.take k) a (d.secs.getD a.toNat []))) (fun _ i _ => d.pend.length - (intOf i).toNat)
        case atStart => exact ⟨rfl, 0, Nat.zero_le _, rfl, hr0.out⟩
        case round =>
          obtain ⟨rfl, k, hk, rfl, hv⟩ := hrel
          obtain ⟨y0, y1, y2, y3⟩ := box4 hb.out
          by_cases hlt : k < d.pend.length
          · obtain ⟨b2, off2, A2, c2, rfl, hs2, hp0, hp1, hq1, hq2, hrw, hI⟩ := (hdh.out.pend.keep (Kept.below (unbox hb.out))).at_ (i := k) hlt
            have hn := Lib.hid (lastW_take d.pend a (d.secs.getD a.toNat []) k hlt)
            have hv' := Lib.hid hv
            have hrw' := Lib.hid hrw
            clear hv hrw
            by_cases hpl : d.pend[k].pl = a
            · have hq : (d.pend[k].pl == a) = true := by rw [hpl]; simp
              have hpl' := Lib.hid hpl
              clear hpl
              go_wp2_with fail
              go_roundw
              case rel => exact ⟨by trivial, k + 1, by omega, by go_num, by rw [hn.out, if_pos hpl'.out]; exact ⟨A2, c2, rfl, hq1, hq2, hrw'.out⟩⟩
              case measure => simp [intOf]; omega
            · have hq : (d.pend[k].pl == a) = false := by simpa using hpl
              have hpl' := Lib.hid hpl
              clear hpl
              go_wp2_with fail
              go_roundw
              case rel => exact ⟨by trivial, k + 1, by omega, by go_num, by rw [hn.out, if_neg hpl'.out]; exact hv'.out⟩
              case measure => simp [intOf]; omega
          · have hle : ¬ ((k : Int) < d.pend.length) := by omega
            rw [List.take_of_length_le (by omega), show lastW d.pend a (d.secs.getD a.toNat []) = readL d a from rfl] at hv
            obtain ⟨A2, c2, rfl, q1, q2, q3⟩ := hv
            have hf := Lib.hid (show RBs wr (· < w.heap.size) A2 (readL d a) from q3)
            have hl := Lib.hid (show (readL d a).length ≤ c2 ∧ c2 ≤ maxLen from ⟨q1, q2⟩)
            clear hlt q1 q2 q3
            go_wp2_with fail
            go_ret2
            exact ⟨unbox hb.out, by rw [hv.out, hh'.out]; exact ⟨A2, c2, rfl, hl.out.1, hl.out.2, hf.out⟩⟩
  · rw [h2]
    have h1' := Lib.hid h1
    have hv := Lib.hid (show runB d = false by unfold runB; rw [h1]; rfl)
    clear h1 h2
    go_wp2_with fail
    go_ret2
    exact ⟨unbox hb.out, by rw [hv.out]; rfl⟩

end Go.Proofs.Ytalkbccofiiojaa
