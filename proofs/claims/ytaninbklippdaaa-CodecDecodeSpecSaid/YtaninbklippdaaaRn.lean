/- The reader: end, numeral. -/
import Derived.Test.YtaninbklippdaaaTk
namespace Go.Proofs.Ytaninbklippdaaa
open Go.RowKit

/-- What the reader makes of the digits: the number and what remains. -/
def rnum : List UInt8 → Nat → Nat → Option (Nat × List UInt8)
  | [], _, _ => none
  | b :: r, sh, acc =>
    if 18446744073709551616 ≤ b.toNat % 128 * 2 ^ sh then none
    else if 128 ≤ b.toNat then rnum r (sh + 7) (acc + b.toNat % 128 * 2 ^ sh)
    else if b.toNat = 0 ∧ 0 < sh then none
    else some (acc + b.toNat % 128 * 2 ^ sh, r)

def NumPost (res : Option (Nat × List UInt8)) (w : World) (B R : Nat) (e : Ending) (w' : World) : Prop :=
  match res with
  | some (u, r) => e = .returned (.int .u64 u) ∧ St w' B R r ∧ Upd w w' R ∧ w'.heap.size = w.heap.size
  | none => e = .panicked boom ∧ Upd w w' R ∧ w'.heap.size = w.heap.size

theorem Upd.refl (w : World) (R : Nat) : Upd w w R := ⟨rfl, rfl, rfl, Nat.le_refl _, fun _ _ _ => rfl⟩
theorem Upd.trans {w w1 w2 : World} {R : Nat} (h : Upd w w1 R) (k : Upd w1 w2 R) : Upd w w2 R :=
  ⟨k.os.trans h.os, k.tape.trans h.tape, k.output.trans h.output, Nat.le_trans h.size k.size, fun i hi hne => (k.block i (Nat.lt_of_lt_of_le hi h.size) hne).trans (h.block i hi hne)⟩
theorem Upd.cell {w w' : World} {R : Nat} (h : Upd w w' R) {b o : Nat} (hb : b < w.heap.size) (hne : b ≠ R) : w'.cell? ⟨b, o, none⟩ = w.cell? ⟨b, o, none⟩ :=
  World.grownBy.cell_far h ⟨b, o, none⟩ hb (by intro e; injection e with e; exact hne e)

theorem shl_nat (d m : Nat) : IntKind.u64.wrap ((d : Int) * 2 ^ m) = ((d * 2 ^ m % 18446744073709551616 : Nat) : Int) := by
  rw [IntKind.wrap_u64]
  have h : (d : Int) * 2 ^ m = ((d * 2 ^ m : Nat) : Int) := by simp
  rw [h]
  omega
theorem shl_back (d m : Nat) : IntKind.u64.wrap ((d : Int) * 2 ^ m) / 2 ^ m = ((d * 2 ^ m % 18446744073709551616 / 2 ^ m : Nat) : Int) := by
  rw [shl_nat]
  simp
/-- The test for more than 64 bits. -/
theorem shl_test (d sh : Nat) : (IntKind.u64.wrap ((d : Int) * 2 ^ min sh 64) / 2 ^ min sh 64 != (d : Int)) = decide (18446744073709551616 ≤ d * 2 ^ sh) := by
  rw [shl_back]
  by_cases h64 : sh ≤ 64
  · rw [Nat.min_eq_left h64]
    have hp : 0 < 2 ^ sh := Nat.pow_pos (by omega)
    by_cases h : 18446744073709551616 ≤ d * 2 ^ sh
    · rw [decide_eq_true h, bne_iff_ne]
      have h1 : d * 2 ^ sh % 18446744073709551616 < d * 2 ^ sh := Nat.lt_of_lt_of_le (Nat.mod_lt _ (by omega)) h
      have h2 : d * 2 ^ sh % 18446744073709551616 / 2 ^ sh < d := by rw [Nat.div_lt_iff_lt_mul hp]; exact h1
      omega
    · rw [decide_eq_false h, Nat.mod_eq_of_lt (by omega), Nat.mul_div_cancel _ hp]
      simp
  · rw [Nat.min_eq_right (by omega)]
    have e : d * 2 ^ 64 % 18446744073709551616 = 0 := Nat.mul_mod_left d _
    rw [e, Nat.zero_div]
    by_cases hd : d = 0
    · subst hd; simp
    · have h : 18446744073709551616 ≤ d * 2 ^ sh := by
        have h1 : 2 ^ 64 ≤ 2 ^ sh := Nat.pow_le_pow_right (by omega) (by omega)
        have h2 : 2 ^ sh ≤ d * 2 ^ sh := Nat.le_mul_of_pos_left _ (by omega)
        have h3 : (2 ^ 64 : Nat) = 18446744073709551616 := rfl
        omega
      rw [decide_eq_true h, bne_iff_ne]
      omega
/-- A further digit. -/
theorem or_digit (acc d sh : Nat) (ha : acc < 2 ^ sh) (ha2 : acc < 18446744073709551616) (hd : d * 2 ^ sh < 18446744073709551616) :
    bits .or .u64 (acc : Int) (IntKind.u64.wrap ((d : Int) * 2 ^ min sh 64)) = ((acc + d * 2 ^ sh : Nat) : Int) := by
  have e : d * 2 ^ min sh 64 % 18446744073709551616 = d * 2 ^ sh := by
    by_cases h64 : sh ≤ 64
    · rw [Nat.min_eq_left h64, Nat.mod_eq_of_lt hd]
    · have h0 : d = 0 := by
        rcases Nat.eq_zero_or_pos d with h | h
        · exact h
        · have h1 : 2 ^ 64 ≤ 2 ^ sh := Nat.pow_le_pow_right (by omega) (by omega)
          have h2 : 2 ^ sh ≤ d * 2 ^ sh := Nat.le_mul_of_pos_left _ h
          have h3 : (2 ^ 64 : Nat) = 18446744073709551616 := rfl
          omega
      subst h0; simp
  rw [shl_nat, e, u64_or_nat _ _ ha2 hd, Nat.or_comm, Nat.mul_comm d, ← Nat.two_pow_add_eq_or_of_lt ha, Nat.add_comm]

theorem shl_test' (b sh : Nat) : (IntKind.u64.wrap ((b : Int) % 128 * 2 ^ min sh 64) / 2 ^ min sh 64 != (b : Int) % 128) = decide (18446744073709551616 ≤ b % 128 * 2 ^ sh) := by
  have h := shl_test (b % 128) sh
  simpa using h
theorem or_digit' (acc b sh : Nat) (ha : acc < 2 ^ sh) (ha2 : acc < 18446744073709551616) (hd : ¬ 18446744073709551616 ≤ b % 128 * 2 ^ sh) :
    bits .or .u64 (acc : Int) (IntKind.u64.wrap ((b : Int) % 128 * 2 ^ min sh 64)) = ((acc + b % 128 * 2 ^ sh : Nat) : Int) := by
  have h := or_digit acc (b % 128) sh ha ha2 (by omega)
  simpa using h
theorem rnum_over {b : UInt8} {r : List UInt8} {sh acc : Nat} (h : 18446744073709551616 ≤ b.toNat % 128 * 2 ^ sh) : rnum (b :: r) sh acc = none := by rw [rnum, if_pos h]
theorem rnum_more {b : UInt8} {r : List UInt8} {sh acc : Nat} (h : ¬ 18446744073709551616 ≤ b.toNat % 128 * 2 ^ sh) (h1 : 128 ≤ b.toNat) : rnum (b :: r) sh acc = rnum r (sh + 7) (acc + b.toNat % 128 * 2 ^ sh) := by rw [rnum, if_neg h, if_pos h1]
theorem rnum_zero {b : UInt8} {r : List UInt8} {sh acc : Nat} (h : ¬ 18446744073709551616 ≤ b.toNat % 128 * 2 ^ sh) (h1 : ¬ 128 ≤ b.toNat) (h2 : b.toNat = 0) (h3 : 0 < sh) : rnum (b :: r) sh acc = none := by rw [rnum, if_neg h, if_neg h1, if_pos ⟨h2, h3⟩]
theorem rnum_done {b : UInt8} {r : List UInt8} {sh acc : Nat} (h : ¬ 18446744073709551616 ≤ b.toNat % 128 * 2 ^ sh) (h1 : ¬ 128 ≤ b.toNat) (h2 : ¬ (b.toNat = 0 ∧ 0 < sh)) : rnum (b :: r) sh acc = some (acc + b.toNat % 128 * 2 ^ sh, r) := by rw [rnum, if_neg h, if_neg h1, if_neg h2]
theorem acc_more {acc d sh : Nat} (h : acc < 2 ^ sh) (hd : d < 128) (hd2 : d * 2 ^ sh < 18446744073709551616) (h2 : acc < 18446744073709551616) : acc + d * 2 ^ sh < 2 ^ (sh + 7) ∧ acc + d * 2 ^ sh < 18446744073709551616 := by
  have e : 2 ^ (sh + 7) = 2 ^ sh * 128 := by rw [Nat.pow_add]
  have h1 : d * 2 ^ sh ≤ 127 * 2 ^ sh := Nat.mul_le_mul_right _ (by omega)
  refine ⟨by omega, ?_⟩
  by_cases h64 : sh ≤ 64
  · have hp : (2 : Nat) ^ 64 = 2 ^ sh * 2 ^ (64 - sh) := by rw [← Nat.pow_add]; congr 1; omega
    have h3 : (2 ^ 64 : Nat) = 18446744073709551616 := rfl
    have h4 : d < 2 ^ (64 - sh) := by
      rcases Nat.lt_or_ge d (2 ^ (64 - sh)) with h5 | h5
      · exact h5
      · have h6 : 2 ^ (64 - sh) * 2 ^ sh ≤ d * 2 ^ sh := Nat.mul_le_mul_right _ h5
        rw [Nat.mul_comm, ← hp] at h6
        omega
    have h7 : (d + 1) * 2 ^ sh ≤ 2 ^ (64 - sh) * 2 ^ sh := Nat.mul_le_mul_right _ h4
    rw [Nat.mul_comm (2 ^ (64 - sh)), ← hp, Nat.add_mul] at h7
    omega
  · have h0 : d = 0 := by
      rcases Nat.eq_zero_or_pos d with h | h
      · exact h
      · have h1 : 2 ^ 64 ≤ 2 ^ sh := Nat.pow_le_pow_right (by omega) (by omega)
        have h2 : 2 ^ sh ≤ d * 2 ^ sh := Nat.le_mul_of_pos_left _ h
        have h3 : (2 ^ 64 : Nat) = 18446744073709551616 := rfl
        omega
    subst h0
    simpa using h2

set_option maxRecDepth 100000 in
set_option maxHeartbeats 800000 in
theorem end_any (w : World) (B R : Nat) (bs : List UInt8) (hlen : bs.length ≤ 1000000) (h : St w B R bs) :
    Calls Try.prog 17 #[.pointer (some ⟨R, 0, none⟩)] w fun e w' => e = (if bs.length = 0 then .returned (.tuple #[]) else .panicked boom) ∧ w = w' := by
  obtain ⟨⟨A, hc, hr⟩, hf⟩ := h
  clear hr
  by_cases hp : bs.length = 0
  · have hq : decide (0 < bs.length) = false := by simpa using hp
    rw [if_pos hp]
    have hp' := Lib.hid hp
    clear hp
    go_enter Try.func17, Try.ntmps17
    go_wp2_with fail
    go_end0
    exact ⟨rfl, rfl⟩
  · have hp0 : 0 < bs.length := by omega
    rw [if_neg hp]
    clear hp
    go_enter Try.func17, Try.ntmps17
    go_wp2_with fail
    exact ⟨rfl, rfl, rfl⟩

set_option maxRecDepth 100000 in
set_option maxHeartbeats 1600000 in
theorem numeral_rd (w : World) (B R : Nat) (bs : List UInt8) (hlen : bs.length ≤ 1000000) (hB : B ≤ R) (_hR : R < w.heap.size) (h : St w B R bs) :
    Calls Try.prog 28 #[.pointer (some ⟨R, 0, none⟩)] w (NumPost (rnum bs 0 0) w B R) := by
  go_enter Try.func28, Try.ntmps28
  go_wp2_with fail
  go_loopw [2, 3] (fun u s wr => ∃ (bs' : List UInt8) (sh acc : Nat), u = .int .u64 acc ∧ s = .int .i64 sh ∧ acc < 2 ^ sh ∧ acc < 18446744073709551616 ∧ rnum bs 0 0 = rnum bs' sh acc ∧ St wr B R bs' ∧ Upd w wr R ∧ wr.heap.size = w.heap.size ∧ sh + 7 * bs'.length ≤ 7000000) (fun _ s _ => 7000000 - (intOf s).toNat)
  case atStart => exact ⟨bs, 0, 0, rfl, rfl, by simp, by omega, rfl, h, Upd.refl _ _, rfl, by omega⟩
  case round =>
    obtain ⟨bs', sh, acc, rfl, rfl, hacc, hacc2, hres, hst, hup, hsz, hshl⟩ := hrel
    have hres' := Lib.hid hres
    have hacc' := Lib.hid hacc
    have hsz' := Lib.hid hsz
    clear hres hacc hsz
    cases bs' with
    | nil =>
      go_wp2_with fail
      refine (take_no _ B R [] 1 (by simp) (by omega) (by simp) hst).mono ?_
      rintro e w1 ⟨rfl, rfl⟩
      go_wp2_with fail
      refine ⟨rfl, ?_⟩
      rw [hres'.out]
      exact ⟨rfl, hup, hsz'.out⟩
    | cons b r =>
      obtain ⟨⟨A, hc, hr⟩, hf⟩ := hst
      obtain ⟨b0, off, rfl, hb0, hcell⟩ := hr (by simp)
      have hc0 := hcell 0 (by simp)
      simp only [Nat.add_zero, List.getElem_cons_zero] at hc0
      have hlt := World.block_lt_of_cell? _ _ hc0
      go_wp2_with fail
      refine (take_yes _ B R (b :: r) 1 (by simp) (by simp at hshl ⊢; omega) hB _ hc hf hr).mono ?_
      rintro e w1 ⟨rfl, hst1, hup1, hsz1⟩
      have hc1 : w1.cell? ⟨b0, off, none⟩ = some (.int .u8 (b.toNat : Int)) := by rw [hup1.cell hlt (by omega)]; exact hc0
      have hb255 : (b.toNat : Int) ≤ 255 := by have := b.toNat_lt; omega
      have hsz1' := Lib.hid hsz1
      clear hsz1 hcell hc hr hf hc0
      have ht := shl_test' b.toNat sh
      by_cases hov : 18446744073709551616 ≤ b.toNat % 128 * 2 ^ sh
      · rw [decide_eq_true hov] at ht
        have hov' := Lib.hid hov
        clear hov
        go_wp2_with fail
        refine ⟨rfl, ?_⟩
        rw [hres'.out, rnum_over hov'.out]
        exact ⟨rfl, hup.trans hup1, by rw [hsz1'.out, hsz'.out]⟩
      · rw [decide_eq_false hov] at ht
        have hor := Lib.hid (or_digit' acc b.toNat sh hacc'.out hacc2 hov)
        have ham := acc_more hacc'.out (Nat.mod_lt b.toNat (by omega)) (by omega) hacc2
        have ham1 := Lib.hid ham.1
        have ham2 := Lib.hid ham.2
        have hov' := Lib.hid hov
        clear hov ham
        by_cases h128 : 128 ≤ b.toNat
        · have hrm := Lib.hid (rnum_more (r := r) (acc := acc) hov'.out h128)
          go_wp2_with fail
          rw [hor.out]
          go_roundw
          case rel => exact ⟨r, sh + 7, _, rfl, by go_num, ham1.out, ham2.out, by rw [hres'.out, hrm.out], hst1, hup.trans hup1, by rw [hsz1'.out, hsz'.out], by simp at hshl; omega⟩
          case measure => simp [intOf]; simp at hshl; omega
        · by_cases hz : b.toNat = 0 ∧ 0 < sh
          · have hrm := Lib.hid (rnum_zero (r := r) (acc := acc) hov'.out h128 hz.1 hz.2)
            obtain ⟨hz1, hz2⟩ := hz
            go_wp2_with fail
            refine ⟨rfl, ?_⟩
            rw [hres'.out, hrm.out]
            exact ⟨rfl, hup.trans hup1, by rw [hsz1'.out, hsz'.out]⟩
          · have hrm := Lib.hid (rnum_done (r := r) (acc := acc) hov'.out h128 hz)
            by_cases hb0 : b.toNat = 0
            · have hs0 : ¬ 0 < sh := fun h => hz ⟨hb0, h⟩
              have hb0' := Lib.hid hb0
              clear hz
              go_wp2_with fail
              go_ret
              rw [hres'.out, hrm.out]
              have ho : bits .or .u64 (acc : Int) 0 = acc := by
                have h := bits_or_u64_nat acc 0 hacc2 (by omega)
                simpa using h
              refine ⟨?_, hst1, hup.trans hup1, by rw [hsz1'.out, hsz'.out]⟩
              show Ending.returned (.int .u64 (bits .or .u64 (acc : Int) 0)) = _
              rw [ho, hb0]
              simp
            · clear hz
              go_wp2_with fail
              go_ret
              rw [hor.out, hres'.out, hrm.out]
              exact ⟨rfl, hst1, hup.trans hup1, by rw [hsz1'.out, hsz'.out]⟩
end Go.Proofs.Ytaninbklippdaaa
