/- The reference's reader: a list at the last depth; Value, whole. -/
import Derived.Test.YtaninbklippdaaaRy
namespace Go.Proofs.Ytaninbklippdaaa
open Go.RowKit

attribute [local irreducible] Calls
set_option maxRecDepth 100000 in
set_option maxHeartbeats 6400000 in
theorem rlist_zero (w : World) (B R : Nat) (bs : List UInt8) (k : Nat) (hlen : bs.length ≤ 1000000) (hB : B ≤ R) (hR : R < w.heap.size) (hlt : k < bs.length) (hc : bs[k] = 3) (h : RS w B R bs k false) :
    Calls Try.prog 18 #[.pointer (some ⟨R, 0, none⟩), .int .i64 ((16 : Int) - (0 : Nat))] w (RValP 0 bs k w B R) := by
  have hst0 := Lib.hid (h.alloc hB hR (.cells #[.int .i64 0, .int .i64 0, .string ⟨#[]⟩, .slice none 0 0] 26))
  have hne1 : ¬ R = w.heap.size := by omega
  have hne2 : ¬ w.heap.size = R := by omega
  have hdc : Hid (bs.drop k = 3 :: bs.drop (k + 1)) := by show _ = _; rw [drop_cons hlt, hc]
  have hno := Lib.hid (strong0 hdc.out)
  have hY := rnext_yes _ B R bs k false hB hlen hlt hst0.out
  rw [hc] at hY
  have hY := Lib.hid hY
  obtain ⟨z, hz⟩ : ∃ z : Int, z = 16 - ((0 : Nat) : Int) := ⟨_, rfl⟩
  rw [← hz]
  have hz16 : (z == 16) = true := by rw [beq_iff_eq]; omega
  clear h hc
  have hzH := Lib.hid hz
  clear hz
  go_enter Try.func18, Try.ntmps18
  go_wp2_with fail
  refine hY.out.mono ?_
  rintro e w1 ⟨rfl, hst1, hup1, hsz1⟩
  have hN := Lib.hid (rnumber_any w1 B R bs (k + 1) hB hlen (by omega) hst1)
  have hup1 := Lib.hid hup1
  clear hst1 hY hsz1
  go_wp2_with fail
  refine hN.out.mono ?_
  rintro e w2 ⟨u, k', bad', rfl, hu, hkk, hkl, hst2, hup2, hsz2, hstr⟩
  have hup := hup1.out.trans hup2
  obtain ⟨⟨g0, g1, g2, g3⟩, f0, f1, f2, f3⟩ := res4 hup hR
  obtain ⟨⟨A, cp, s0, sc, sb⟩, s1, s2, sf⟩ := hst2
  have sf1 := sf 1
  have sf2 := sf 2
  have hst2 : Hid (RS w2 B R bs k' bad') := ⟨⟨A, cp, s0, sc, sb⟩, s1, s2, sf⟩
  have hup := Lib.hid hup
  clear hup2 hsz2 sf sb hN hup1 hst0 hstr
  have hwr : IntKind.u64.wrap ((bs.length : Int) - k') = (bs.length : Int) - k' := by rw [IntKind.wrap_u64]; omega
  cases bad' with
  | true =>
    go_wp2_with fail
    go_quiet (fail)
    go_wp2_with fail
    exact bodyPost_ret (v := .agg #[.int .i64 0, .int .i64 0, .string ⟨#[]⟩, .slice none 0 0]) (by simp [results, Try.results18, go_sem, *]) rfl
      ⟨.mk 0 0 ⟨#[]⟩ [], _, k', true, rfl, RVS.leaf (by unfold I64; omega) (by unfold I64; omega) (by simp [maxLen, ByteArray.size]), by omega, hkl, by rw [big_leaf, show (⟨#[]⟩ : ByteArray).size = 0 from rfl, if_pos rfl]; omega,
        (((((hst2.out.draw _).set2 hB true).set_ hB hR _).set_ hB hR _).set_ hB hR _).set_ hB hR _, (((((hup.out.draw _).trans (Upd.set1 _ _ _ _)).alloc.set_ (Nat.le_refl _) _).set_ (Nat.le_refl _) _).set_ (Nat.le_refl _) _).set_ (Nat.le_refl _) _,
        fun y r hy => (hno.out y r hy).elim⟩
  | false =>
    by_cases hbig : bs.length - k' < u
    · have hbig' : (bs.length : Int) - k' < u := by omega
      go_wp2_with fail
      go_quiet (fail)
      go_wp2_with fail
      exact bodyPost_ret (v := .agg #[.int .i64 0, .int .i64 0, .string ⟨#[]⟩, .slice none 0 0]) (by simp [results, Try.results18, go_sem, *]) rfl
        ⟨.mk 0 0 ⟨#[]⟩ [], _, k', true, rfl, RVS.leaf (by unfold I64; omega) (by unfold I64; omega) (by simp [maxLen, ByteArray.size]), by omega, hkl, by rw [big_leaf, show (⟨#[]⟩ : ByteArray).size = 0 from rfl, if_pos rfl]; omega,
          (((((hst2.out.draw _).set2 hB true).set_ hB hR _).set_ hB hR _).set_ hB hR _).set_ hB hR _, (((((hup.out.draw _).trans (Upd.set1 _ _ _ _)).alloc.set_ (Nat.le_refl _) _).set_ (Nat.le_refl _) _).set_ (Nat.le_refl _) _).set_ (Nat.le_refl _) _,
          fun y r hy => (hno.out y r hy).elim⟩
    · have hbig' : decide ((bs.length : Int) - k' < u) = false := decide_eq_false (by omega)
      go_wp2_with fail
      go_quiet (fail)
      go_wp2_with fail
      exact bodyPost_ret (v := .agg #[.int .i64 0, .int .i64 0, .string ⟨#[]⟩, .slice none 0 0]) (by simp [results, Try.results18, go_sem, *]) rfl
        ⟨.mk 0 0 ⟨#[]⟩ [], _, k', true, rfl, RVS.leaf (by unfold I64; omega) (by unfold I64; omega) (by simp [maxLen, ByteArray.size]), by omega, hkl, by rw [big_leaf, show (⟨#[]⟩ : ByteArray).size = 0 from rfl, if_pos rfl]; omega,
          (((((hst2.out.draw _).set2 hB true).set_ hB hR _).set_ hB hR _).set_ hB hR _).set_ hB hR _, (((((hup.out.draw _).trans (Upd.set1 _ _ _ _)).alloc.set_ (Nat.le_refl _) _).set_ (Nat.le_refl _) _).set_ (Nat.le_refl _) _).set_ (Nat.le_refl _) _,
          fun y r hy => (hno.out y r hy).elim⟩

theorem rvalue_any (d : Nat) : d ≤ 16 → ∀ (w : World) (B R : Nat) (bs : List UInt8) (k : Nat), bs.length ≤ 1000000 → B ≤ R → R < w.heap.size → k ≤ bs.length → RS w B R bs k false →
    Calls Try.prog 18 #[.pointer (some ⟨R, 0, none⟩), .int .i64 ((16 : Int) - d)] w (RValP d bs k w B R) := by
  induction d with
  | zero => exact fun hd w B R bs k hlen hB hR hk h => rvalue_of 0 hd w B R bs k hlen hB hR hk h fun hlt hc => rlist_zero w B R bs k hlen hB hR hlt hc h
  | succ d ih => exact fun hd w B R bs k hlen hB hR hk h => rvalue_of (d + 1) hd w B R bs k hlen hB hR hk h fun hlt hc => rlist_of d hd (ih (by omega)) w B R bs k hlen hB hR hlt hc h
end Go.Proofs.Ytaninbklippdaaa
