/- The reference's reader: number. -/
import Derived.Test.YtaninbklippdaaaRr
namespace Go.Proofs.Ytaninbklippdaaa
open Go.RowKit

theorem pow7 {j : Nat} (h : j ≤ 9) : 2 ^ (7 * j) ≤ 9223372036854775808 := by
  have : 2 ^ (7 * j) ≤ 2 ^ 63 := Nat.pow_le_pow_right (by omega) (by omega)
  have h3 : (2 ^ 63 : Nat) = 9223372036854775808 := rfl
  omega
theorem drop_cons {bs : List UInt8} {k : Nat} (h : k < bs.length) : bs.drop k = bs[k] :: bs.drop (k + 1) := List.drop_eq_getElem_cons h
theorem add_digit (acc b sh : Nat) (hd : b % 128 * 2 ^ sh < 18446744073709551616) (h : acc + b % 128 * 2 ^ sh < 18446744073709551616) :
    IntKind.u64.wrap ((acc : Int) + IntKind.u64.wrap ((b : Int) % 128 * 2 ^ sh)) = ((acc + b % 128 * 2 ^ sh : Nat) : Int) := by
  have e := shl_nat (b % 128) sh
  rw [Nat.mod_eq_of_lt hd] at e
  have e2 : ((b % 128 : Nat) : Int) = (b : Int) % 128 := by omega
  rw [e2] at e
  rw [e, IntKind.wrap_u64]
  generalize b % 128 * 2 ^ sh = z at *
  omega
/-- A digit at place j fits. -/
theorem digit_fits {acc b j : Nat} (hj : j ≤ 9) (ha : acc < 2 ^ (7 * j)) (h9 : j = 9 → b ≤ 1) : b % 128 * 2 ^ (7 * j) < 18446744073709551616 ∧ acc + b % 128 * 2 ^ (7 * j) < 2 ^ (7 * j + 7) ∧ acc + b % 128 * 2 ^ (7 * j) < 18446744073709551616 := by
  have hp := pow7 hj
  have hd : b % 128 * 2 ^ (7 * j) < 18446744073709551616 := by
    by_cases h : j = 9
    · have hb := h9 h
      have : b % 128 * 2 ^ (7 * j) ≤ 1 * 2 ^ (7 * j) := Nat.mul_le_mul_right _ (by omega)
      omega
    · have h1 : 2 ^ (7 * j) ≤ 2 ^ 56 := Nat.pow_le_pow_right (by omega) (by omega)
      have h2 : (2 ^ 56 : Nat) = 72057594037927936 := rfl
      have : b % 128 * 2 ^ (7 * j) ≤ 127 * 2 ^ (7 * j) := Nat.mul_le_mul_right _ (by omega)
      omega
  have := acc_more ha (Nat.mod_lt b (by omega)) hd (by omega)
  exact ⟨hd, this.1, this.2⟩

set_option maxRecDepth 100000 in
set_option maxHeartbeats 6400000 in
theorem rnumber_any (w : World) (B R : Nat) (bs : List UInt8) (k : Nat) (hB : B ≤ R) (hlen : bs.length ≤ 1000000) (hk : k ≤ bs.length) (h : RS w B R bs k false) :
    Calls Try.prog 31 #[.pointer (some ⟨R, 0, none⟩)] w (NumP bs k w B R) := by
  have hNo := Lib.hid (fun (W : World) (k : Nat) (hk : k = bs.length) (h : RS W B R bs k false) => rnext_no W B R bs k false hB hlen hk h)
  have hYe := Lib.hid (fun (W : World) (k : Nat) (hk : k < bs.length) (h : RS W B R bs k false) => rnext_yes W B R bs k false hB hlen hk h)
  have hH := Lib.hid h
  clear h
  go_enter Try.func31, Try.ntmps31
  go_wp2_with fail
  go_loopw [3, 4] (fun a i wr => ∃ (j acc k' : Nat), i = .int .i64 j ∧ a = .int .u64 acc ∧ j ≤ 9 ∧ Hid (acc < 2 ^ (7 * j)) ∧ k ≤ k' ∧ k' ≤ bs.length ∧ Hid (RS wr B R bs k' false) ∧ Hid (Upd w wr R) ∧ Hid (wr.heap.size = w.heap.size) ∧ Hid (∀ u r, rnum (bs.drop k) 0 0 = some (u, r) → rnum (bs.drop k') (7 * j) acc = some (u, r))) (fun _ i _ => 10 - (intOf i).toNat)
  case atStart => exact ⟨0, 0, k, rfl, rfl, by omega, by show (0 : Nat) < 2 ^ (7 * 0); simp, Nat.le_refl _, hk, hH, Upd.refl _ _, rfl, fun u r h => h⟩
  case round =>
    obtain ⟨j, acc, k', rfl, rfl, hj, hacc, hkk, hkl, hst, hup, hsz, hstr⟩ := hrel
    clear hH
    have hflag := hst.out.c2
    by_cases hlt : k' < bs.length
    · have hY := Lib.hid (hYe.out wr k' hlt hst.out)
      have hdc := Lib.hid (drop_cons hlt)
      clear hYe hNo
      generalize bs[k'] = b at *
      have hb255 : (b.toNat : Int) ≤ 255 := by have := b.toNat_lt; omega
      by_cases hbad1 : j = 9 ∧ 1 < b.toNat
      · obtain ⟨rfl, hb1⟩ := hbad1
        have hb1' : (1 : Int) < b.toNat := by omega
        go_wp2_with fail
        refine hY.out.mono ?_
        rintro e w1 ⟨rfl, hst1', hup1', hsz1'⟩
        have hst1 := Lib.hid hst1'
        have hup1 := Lib.hid hup1'
        have hsz1 := Lib.hid hsz1'
        clear hflag hst1' hup1' hsz1'
        have g2 := hst1.out.c2
        have gf := hst1.out.free 2
        go_wp2_with fail
        go_ret
        exact ⟨0, k' + 1, true, rfl, by omega, by omega, by omega, hst1.out.set2 hB true, (hup.out.trans hup1.out).trans (Upd.set1 _ _ _ _), by rw [set_size, hsz1.out, hsz.out], fun u r hr => by
          have := hstr.out u r hr
          rw [hdc.out, rnum_63 hb1] at this
          cases this⟩
      · by_cases hbad2 : 0 < j ∧ b.toNat = 0
        · obtain ⟨hj0, hb0⟩ := hbad2
          have hj0' : (0 : Int) < j := by omega
          have hb0' : ((b.toNat : Int) == 0) = true := by rw [hb0]; rfl
          have hb1' : ¬ (1 : Int) < b.toNat := by omega
          have hb0H := Lib.hid hb0
          clear hbad1 hb0
          go_wp2_with fail
          refine hY.out.mono ?_
          rintro e w1 ⟨rfl, hst1', hup1', hsz1'⟩
          have hst1 := Lib.hid hst1'
          have hup1 := Lib.hid hup1'
          have hsz1 := Lib.hid hsz1'
          clear hflag hst1' hup1' hsz1'
          have g2 := hst1.out.c2
          have gf := hst1.out.free 2
          go_wp2_with fail
          all_goals
            go_ret
            exact ⟨0, k' + 1, true, rfl, by omega, by omega, by omega, hst1.out.set2 hB true, (hup.out.trans hup1.out).trans (Upd.set1 _ _ _ _), by rw [set_size, hsz1.out, hsz.out], fun u r hr => by
              have := hstr.out u r hr
              rw [hdc.out, rnum_zero (by rw [hb0H.out]; omega) (by rw [hb0H.out]; omega) hb0H.out (by omega)] at this
              cases this⟩
        · have hfit := digit_fits (b := b.toNat) hj hacc.out (fun h => by omega)
          have hfit1 := Lib.hid hfit.1
          have hfit2 := Lib.hid hfit.2.1
          have hfit3 := Lib.hid hfit.2.2
          have had := Lib.hid (add_digit acc b.toNat (7 * j) hfit.1 hfit.2.2)
          clear hfit
          by_cases h128 : b.toNat < 128
          · have h128' : (b.toNat : Int) < 128 := by omega
            have hdone : Hid (rnum (bs.drop k') (7 * j) acc = some (acc + b.toNat % 128 * 2 ^ (7 * j), bs.drop (k' + 1))) := by
              show _ = _
              rw [hdc.out]
              exact rnum_done (by have := hfit1.out; omega) (by omega) (by omega)
            by_cases hj9 : j = 9
            · have hj9' : ((j : Int) == 9) = true := by rw [hj9]; rfl
              have hb1' : ¬ (1 : Int) < b.toNat := by omega
              have hj0' : (0 : Int) < j := by omega
              have hb0' : ((b.toNat : Int) == 0) = false := by rw [beq_eq_false_iff_ne]; omega
              clear hbad1 hbad2 hj9
              go_wp2_with fail
              refine hY.out.mono ?_
              rintro e w1 ⟨rfl, hst1', hup1', hsz1'⟩
              have hst1 := Lib.hid hst1'
              have hup1 := Lib.hid hup1'
              have hsz1 := Lib.hid hsz1'
              clear hflag hst1' hup1' hsz1'
              go_wp2_with fail
              go_ret
              rw [had.out]
              exact ⟨_, k' + 1, false, rfl, hfit3.out, by omega, by omega, hst1.out, hup.out.trans hup1.out, by rw [hsz1.out, hsz.out], fun u r hr => by
                have := hstr.out u r hr
                rw [hdone.out] at this
                injection this with this
                injection this with e1 e2
                exact ⟨e1, rfl, e2⟩⟩
            · have hj9' : ((j : Int) == 9) = false := by rw [beq_eq_false_iff_ne]; omega
              by_cases hj0 : j = 0
              · have hj0' : ¬ (0 : Int) < j := by omega
                clear hbad1 hbad2 hj9 hj0
                go_wp2_with fail
                refine hY.out.mono ?_
                rintro e w1 ⟨rfl, hst1', hup1', hsz1'⟩
                have hst1 := Lib.hid hst1'
                have hup1 := Lib.hid hup1'
                have hsz1 := Lib.hid hsz1'
                clear hflag hst1' hup1' hsz1'
                go_wp2_with fail
                go_ret
                rw [had.out]
                exact ⟨_, k' + 1, false, rfl, hfit3.out, by omega, by omega, hst1.out, hup.out.trans hup1.out, by rw [hsz1.out, hsz.out], fun u r hr => by
                  have := hstr.out u r hr
                  rw [hdone.out] at this
                  injection this with this
                  injection this with e1 e2
                  exact ⟨e1, rfl, e2⟩⟩
              · have hj0' : (0 : Int) < j := by omega
                have hb0' : ((b.toNat : Int) == 0) = false := by rw [beq_eq_false_iff_ne]; omega
                clear hbad1 hbad2 hj9 hj0
                go_wp2_with fail
                refine hY.out.mono ?_
                rintro e w1 ⟨rfl, hst1', hup1', hsz1'⟩
                have hst1 := Lib.hid hst1'
                have hup1 := Lib.hid hup1'
                have hsz1 := Lib.hid hsz1'
                clear hflag hst1' hup1' hsz1'
                go_wp2_with fail
                go_ret
                rw [had.out]
                exact ⟨_, k' + 1, false, rfl, hfit3.out, by omega, by omega, hst1.out, hup.out.trans hup1.out, by rw [hsz1.out, hsz.out], fun u r hr => by
                  have := hstr.out u r hr
                  rw [hdone.out] at this
                  injection this with this
                  injection this with e1 e2
                  exact ⟨e1, rfl, e2⟩⟩
          · have h128' : ¬ (b.toNat : Int) < 128 := by omega
            have hmore : Hid (rnum (bs.drop k') (7 * j) acc = rnum (bs.drop (k' + 1)) (7 * (j + 1)) (acc + b.toNat % 128 * 2 ^ (7 * j))) := by
              show _ = _
              rw [hdc.out, rnum_more (by have := hfit1.out; omega) (by omega)]
              congr 1
            have hj9 : ¬ j = 9 := by omega
            have hj9' : ((j : Int) == 9) = false := by rw [beq_eq_false_iff_ne]; omega
            by_cases hj0 : j = 0
            · have hj0' : ¬ (0 : Int) < j := by omega
              clear hbad1 hbad2 hj0
              go_wp2_with fail
              refine hY.out.mono ?_
              rintro e w1 ⟨rfl, hst1', hup1', hsz1'⟩
              have hst1 := Lib.hid hst1'
              have hup1 := Lib.hid hup1'
              have hsz1 := Lib.hid hsz1'
              clear hflag hst1' hup1' hsz1'
              have hflag := hst1.out.c2
              go_wp2_with fail
              rw [had.out]
              go_roundw
              case rel => exact ⟨j + 1, _, k' + 1, by go_num, rfl, by omega, hfit2, by omega, by omega, hst1, hup.out.trans hup1.out, by show _ = _; rw [hsz1.out, hsz.out], fun u r hr => by rw [← hmore.out]; exact hstr.out u r hr⟩
              case measure => simp [intOf]; omega
            · have hj0' : (0 : Int) < j := by omega
              have hb0' : ((b.toNat : Int) == 0) = false := by rw [beq_eq_false_iff_ne]; omega
              clear hbad1 hbad2 hj0
              go_wp2_with fail
              refine hY.out.mono ?_
              rintro e w1 ⟨rfl, hst1', hup1', hsz1'⟩
              have hst1 := Lib.hid hst1'
              have hup1 := Lib.hid hup1'
              have hsz1 := Lib.hid hsz1'
              clear hflag hst1' hup1' hsz1'
              have hflag := hst1.out.c2
              go_wp2_with fail
              rw [had.out]
              go_roundw
              case rel => exact ⟨j + 1, _, k' + 1, by go_num, rfl, by omega, hfit2, by omega, by omega, hst1, hup.out.trans hup1.out, by show _ = _; rw [hsz1.out, hsz.out], fun u r hr => by rw [← hmore.out]; exact hstr.out u r hr⟩
              case measure => simp [intOf]; omega
    · have hke : k' = bs.length := by omega
      have hN := Lib.hid (hNo.out wr k' hke hst.out)
      have hdn : Hid (bs.drop k' = []) := List.drop_of_length_le (by omega)
      have hno : Hid (∀ u r, ¬ rnum (bs.drop k) 0 0 = some (u, r)) := fun u r hr => by
        have := hstr.out u r hr
        rw [hdn.out] at this
        cases this
      have hkk2 := Lib.hid hkk
      clear hYe hNo hstr hkk
      by_cases hj0 : j = 0
      · have hj0' : ¬ (0 : Int) < j := by omega
        have hj9' : ((j : Int) == 9) = false := by rw [beq_eq_false_iff_ne]; omega
        have ha0 : acc = 0 := by have := hacc.out; rw [hj0] at this; simp at this; exact this
        subst ha0
        clear hj0
        go_wp2_with fail
        refine hN.out.mono ?_
        rintro e w1 ⟨rfl, hst1', hup1', hsz1'⟩
        have hst1 := Lib.hid hst1'
        have hup1 := Lib.hid hup1'
        have hsz1 := Lib.hid hsz1'
        clear hflag hst1' hup1' hsz1'
        go_wp2_with fail
        go_ret
        exact ⟨0, k', true, by simp, by omega, hkk2.out, hkl, hst1.out, hup.out.trans hup1.out, by rw [hsz1.out, hsz.out], fun u r hr => (hno.out u r hr).elim⟩
      · have hj0' : (0 : Int) < j := by omega
        clear hj0
        go_wp2_with fail
        refine hN.out.mono ?_
        rintro e w1 ⟨rfl, hst1', hup1', hsz1'⟩
        have hst1 := Lib.hid hst1'
        have hup1 := Lib.hid hup1'
        have hsz1 := Lib.hid hsz1'
        clear hflag hst1' hup1' hsz1'
        have g2 := hst1.out.c2
        have gf := hst1.out.free 2
        go_wp2_with fail
        all_goals
          go_ret
          exact ⟨0, k', true, rfl, by omega, hkk2.out, hkl, hst1.out.set2 hB true, (hup.out.trans hup1.out).trans (Upd.set1 _ _ _ _), by rw [set_size, hsz1.out, hsz.out], fun u r hr => (hno.out u r hr).elim⟩
end Go.Proofs.Ytaninbklippdaaa
