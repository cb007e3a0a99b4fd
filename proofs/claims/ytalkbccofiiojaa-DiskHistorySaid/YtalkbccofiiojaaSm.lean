/- Same, of two readings of one disk: the contract. -/
import Derived.Test.YtalkbccofiiojaaSy
import Derived.Test.YtalkbccofiiojaaDb
namespace Go.Proofs.Ytalkbccofiiojaa
open Go.RowKit

theorem conv_str {w : World} {S : Nat → Prop} {c : Nat} {A : Option Addr} {bs : List UInt8} (h : RBs w S A bs) : (convert 35 9 (.slice A bs.length c)).run Try.prog w = .ok (.string ⟨bs.toArray⟩) w := by
  rcases Nat.eq_zero_or_pos bs.length with h0 | h0
  · have hb : bs = [] := List.eq_nil_of_length_eq_zero h0
    subst hb
    cases A with
    | none => exact run_convert_bytes_nil (P := Try.prog) w 35 5 Try.underlying35 Try.underlying5 0 c 9 Try.underlying9
    | some a =>
      have hl := run_loadCells_list (P := Try.prog) w a [] (by simp)
      show (convert 35 9 (.slice (some a) 0 c)).run Try.prog w = _
      rw [run_convert_bytes_string w 35 9 5 (some a) 0 c Try.underlying35 Try.underlying5 Try.underlying9, run_bytesToString w a 0 c [] hl]
      rfl
  · obtain ⟨b, off, rfl, hb, hc⟩ := h h0
    rw [run_convert_bytes_arg (P := Try.prog) w 35 5 Try.underlying35 Try.underlying5 b off bs.length c (bs.map fun b => (b.toNat : Int)) (by simp) (fun i hi => by rw [hc i hi]; simp [List.getD, hi]) 9 Try.underlying9]
    congr 2
    simp [strOfNums, Function.comp_def]
theorem conv_drew {w : World} {S : Nat → Prop} {c : Nat} {A : Option Addr} {bs : List UInt8} (h : RBs w S A bs) (n : Nat) : (convert 35 9 (.slice A bs.length c)).run Try.prog (w.drewN n) = .ok (.string ⟨bs.toArray⟩) (w.drewN n) :=
  conv_str (h.keep (w' := w.drewN n) fun _ _ _ => rfl)

set_option maxRecDepth 100000 in
set_option maxHeartbeats 2000000 in
theorem Same_any (d : Dk) (w : World) (A A' A2 A2' : Option Addr) (c c' c2 c2' : Nat) (hd : DR w (· < w.heap.size) A c A' c' d) (he : DR w (· < w.heap.size) A2 c2 A2' c2' d) :
    Calls Try.prog 14 #[.agg #[.slice A d.secs.length c, .slice A' d.pend.length c', .int .i64 d.left, .bool d.stop], .agg #[.slice A2 d.secs.length c2, .slice A2' d.pend.length c2', .int .i64 d.left, .bool d.stop]] w fun e w' => e = .returned (.bool true) ∧ Below w.heap.size w w' := by
  have hB := Lib.hid (((Below.refl _ w).alloc (Nat.le_refl _) (.cells #[.slice A d.secs.length c, .slice A' d.pend.length c', .int .i64 d.left, .bool d.stop] 25)).alloc (by simp) (.cells #[.slice A2 d.secs.length c2, .slice A2' d.pend.length c2', .int .i64 d.left, .bool d.stop] 25))
  have hdh := Lib.hid hd
  have heh := Lib.hid he
  have hm1 := hd.max
  have hm2 := hd.cap
  have hm3 := hd.max'
  have hm4 := hd.cap'
  unfold maxLen at hm1 hm3
  clear hd he
  go_enter Try.func14, Try.ntmps14
  go_wp2_with fail
  go_loopw [5] (fun i wr => ∃ k : Nat, k ≤ d.secs.length ∧ i = .int .i64 k ∧ Below (w.heap.size + 2) ((w.alloc (.cells #[.slice A d.secs.length c, .slice A' d.pend.length c', .int .i64 d.left, .bool d.stop] 25)).alloc (.cells #[.slice A2 d.secs.length c2, .slice A2' d.pend.length c2', .int .i64 d.left, .bool d.stop] 25)) wr) (fun i _ => d.secs.length - (intOf i).toNat)
  case atStart => exact ⟨0, Nat.zero_le _, rfl, Below.refl _ _⟩
  case round =>
    obtain ⟨k, hk, rfl, hb⟩ := hrel
    have hbw := Lib.hid (hB.out.trans (hb.mono (by omega)))
    obtain ⟨y0, y1, y2, y3⟩ := box4_2 hb
    obtain ⟨⟨x0, x1, x2, x3⟩, -⟩ := box4_snd hb
    have hb' := Lib.hid hb
    clear hb
    by_cases hlt : k < d.secs.length
    · obtain ⟨b1, off1, B1, e1, rfl, hs1, hc1, hl1, hl2, hr1⟩ := (hdh.out.secs.keep (Kept.below hbw.out)).at_ hlt
      obtain ⟨b2, off2, B2, e2, rfl, hs2, hc2, hl3, hl4, hr2⟩ := (heh.out.secs.keep (Kept.below hbw.out)).at_ hlt
      have k1 := conv_drew (c := e1) hr1
      have k2 := conv_drew (c := e2) hr2
      clear hr1 hr2
      generalize d.secs[k] = l at *
      go_wp2_with fail
      go_quiet (fail)
      go_wp2_with fail
      go_roundw
      case rel => exact ⟨k + 1, by omega, by go_num, dN hb'.out _⟩
      case measure => simp [intOf]; omega
    · have hle : ¬ ((k : Int) < d.secs.length) := by omega
      clear hlt
      go_wp2_with fail
      go_loopw [6] (fun i wr => ∃ k : Nat, k ≤ d.pend.length ∧ i = .int .i64 k ∧ Below (w.heap.size + 2) ((w.alloc (.cells #[.slice A d.secs.length c, .slice A' d.pend.length c', .int .i64 d.left, .bool d.stop] 25)).alloc (.cells #[.slice A2 d.secs.length c2, .slice A2' d.pend.length c2', .int .i64 d.left, .bool d.stop] 25)) wr) (fun i _ => d.pend.length - (intOf i).toNat)
      case atStart => exact ⟨0, Nat.zero_le _, rfl, hb'.out⟩
      case round =>
        clear x0 x1 x2 x3 y0 y1 y2 y3 hbw
        obtain ⟨q, hq, rfl, hb⟩ := hrel
        have hbw := Lib.hid (hB.out.trans (hb.mono (by omega)))
        obtain ⟨y0, y1, y2, y3⟩ := box4_2 hb
        obtain ⟨⟨x0, x1, x2, x3⟩, -⟩ := box4_snd hb
        have hb' := Lib.hid hb
        clear hb
        by_cases hlt : q < d.pend.length
        · obtain ⟨b1, off1, B1, e1, rfl, hs1, hc1, hd1, hl1, hl2, hr1, -⟩ := (hdh.out.pend.keep (Kept.below hbw.out)).at_ hlt
          obtain ⟨b2, off2, B2, e2, rfl, hs2, hc2, hd2, hl3, hl4, hr2, -⟩ := (heh.out.pend.keep (Kept.below hbw.out)).at_ hlt
          have k1 := conv_drew (c := e1) hr1
          have k2 := conv_drew (c := e2) hr2
          clear hr1 hr2
          generalize d.pend[q].data = l at *
          generalize d.pend[q].pl = z at *
          have hzz : (z != z) = false := by simp
          go_wp2_with fail
          go_quiet (fail)
          go_wp2_with fail
          go_roundw
          case rel => exact ⟨q + 1, by omega, by go_num, dN hb'.out _⟩
          case measure => simp [intOf]; omega
        · have hle : ¬ ((q : Int) < d.pend.length) := by omega
          clear hlt
          go_wp2_with fail
          go_ret
          exact ⟨rfl, hbw.out⟩
end Go.Proofs.Ytalkbccofiiojaa
