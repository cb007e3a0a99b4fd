/- The reference's Same: contract. -/
import Derived.Test.YtaninbklippdaaaSm
import Derived.StillTailTactics
namespace Go.Proofs.Ytaninbklippdaaa
open Go.RowKit

set_option maxRecDepth 100000 in
set_option maxHeartbeats 800000 in
theorem rSame_any (x : GV) : SameAt Try.prog 7 x := by
  induction x using GV.ind with
  | h k n s l ih =>
    intro y w B v v' hB hv hv'
    obtain ⟨k', n', s', l'⟩ := y
    obtain ⟨a, cap, rfl, hk, hn, hs, hby, hl⟩ := hv.parts
    obtain ⟨a', cap', rfl, hk', hn', hs', hby', hl'⟩ := hv'.parts
    simp only [GV.kind, GV.num, GV.str, GV.els] at *
    have ih' := Lib.hid ih
    have hm : l.length ≤ 9223372036854775807 := by omega
    have hm' : l'.length ≤ 9223372036854775807 := by omega
    clear ih hv hv' hs hs' hk hk' hn hn' hby hby'
    have hB2 : Below w.heap.size w ((w.alloc (.cells #[.int .i64 k, .int .i64 n, .string s, .slice a l.length cap] 26)).alloc (.cells #[.int .i64 k', .int .i64 n', .string s', .slice a' l'.length cap'] 26)) := ((Below.refl _ _).alloc (Nat.le_refl _) _).alloc (by simp) _
    by_cases h1 : (k == k') = true
    · have g1 : (k != k') = false := by simpa using h1
      by_cases h2 : (n == n') = true
      · have g2 : (n != n') = false := by simpa using h2
        by_cases h3 : s.toList = s'.toList
        · by_cases h4 : l.length = l'.length
          · have g4 : ((l.length : Int) != (l'.length : Int)) = false := by simp [h4]
            have hfin : Hid (same (.mk k n s l) (.mk k' n' s' l') = sameAll l l') := by rw [same, h1, h2, decide_eq_true h3, h4]; simp [Hid]
            have hq := Lib.hid h4
            clear h4
            go_enter Try.func7, Try.ntmps7
            go_wp2_with fail
            go_loopw [5] (fun i wr => ∃ j : Nat, j ≤ l.length ∧ i = .int .i64 j ∧ sameAll l l' = sameAll (l.drop j) (l'.drop j) ∧ Below (w.heap.size + 2) ((w.alloc (.cells #[.int .i64 k, .int .i64 n, .string s, .slice a l.length cap] 26)).alloc (.cells #[.int .i64 k', .int .i64 n', .string s', .slice a' l'.length cap'] 26)) wr) (fun i _ => l.length - (intOf i).toNat)
            case atStart => exact ⟨0, Nat.zero_le _, rfl, rfl, Below.refl _ _⟩
            case round =>
              obtain ⟨j, hj, rfl, hf, hb⟩ := hrel
              have hf' := Lib.hid hf
              clear hf
              obtain ⟨⟨_, _, _, hx3⟩, ⟨_, _, _, hy3⟩⟩ := box8 hb
              by_cases hlt : j < l.length
              · have hlt' : j < l'.length := by have := hq.out; omega
                have hbw := unbox2 hb
                obtain ⟨b, off, a1, c1, rfl, hbB, hv, c0, c1, c2, c3⟩ := (hl.under hbw hB).at_ hlt
                obtain ⟨b', off', a2, c2, rfl, hbB', hv', d0, d1, d2, d3⟩ := (hl'.under hbw hB).at_ hlt'
                have hd := Lib.hid (sameAll_drop l l' j hlt hlt')
                have hz := hb.size
                simp only [World.size_alloc] at hz
                go_wp2_with fail
                go_still_tail 10, (by kernel_rfl)
                change wpList _ _ _ _ _ wr.drew
                go_wp2_with fail
                refine (ih'.out l[j] (List.getElem_mem hlt) l'[j] _ B _ _ (by simp; omega) hv.drew hv'.drew).mono ?_
                rintro e w1 ⟨rfl, hb1⟩
                have hb2 := hb.trans ((unD hb1).mono (by simp; omega))
                by_cases hx : same l[j] l'[j] = true
                · go_wp2_with fail
                  go_roundw
                  case rel => exact ⟨j + 1, by omega, by go_num, by rw [hf'.out, hd.out, hx, Bool.true_and], hb2⟩
                  case measure => simp [intOf]; omega
                · have hx' : same l[j] l'[j] = false := by simpa using hx
                  clear hx
                  go_wp2_with fail
                  go_ret
                  exact ⟨retB (by rw [hfin.out, hf'.out, hd.out, hx', Bool.false_and]), unbox2 hb2⟩
              · go_wp2_with fail
                go_ret
                exact ⟨retB (by rw [hfin.out, hf'.out, List.drop_of_length_le (by omega), sameAll]), unbox2 hb⟩
          · have g4 : ((l.length : Int) != (l'.length : Int)) = true := bne_iff_ne.2 (by omega)
            have h4' : (l.length == l'.length) = false := beq_eq_false_iff_ne.2 h4
            have hfin : Hid (same (.mk k n s l) (.mk k' n' s' l') = false) := by rw [same, h1, h2, decide_eq_true h3, h4']; simp [Hid]
            go_enter Try.func7, Try.ntmps7
            go_wp2_with fail
            go_ret
            exact ⟨retB hfin.out.symm, hB2⟩
        · have g3 : ¬ s.toList = s'.toList := h3
          have hfin : Hid (same (.mk k n s l) (.mk k' n' s' l') = false) := by rw [same, h1, h2, decide_eq_false h3]; simp [Hid]
          go_enter Try.func7, Try.ntmps7
          go_wp2_with fail
          go_ret
          exact ⟨retB hfin.out.symm, hB2⟩
      · have h2' : (n == n') = false := by simpa using h2
        have g2 : (n != n') = true := bne_iff_ne.2 (by simpa using h2)
        clear h2
        have hfin : Hid (same (.mk k n s l) (.mk k' n' s' l') = false) := by rw [same, h1, h2']; simp [Hid]
        go_enter Try.func7, Try.ntmps7
        go_wp2_with fail
        go_ret
        exact ⟨retB hfin.out.symm, hB2⟩
    · have h1' : (k == k') = false := by simpa using h1
      have g1 : (k != k') = true := bne_iff_ne.2 (by simpa using h1)
      clear h1
      have hfin : Hid (same (.mk k n s l) (.mk k' n' s' l') = false) := by rw [same, h1']; simp [Hid]
      go_enter Try.func7, Try.ntmps7
      go_wp2_with fail
      go_ret
      exact ⟨retB hfin.out.symm, hB2⟩
end Go.Proofs.Ytaninbklippdaaa
