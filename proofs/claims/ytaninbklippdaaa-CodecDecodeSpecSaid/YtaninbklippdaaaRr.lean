/- The reference's reader: next, number. -/
import Derived.Test.YtaninbklippdaaaVl
import Derived.BigQuiet
import Derived.Deep.QuietTactic
namespace Go.Proofs.Ytaninbklippdaaa
open Go.RowKit

/-- The state of a reader of the reference in block R: all bytes, the place, and whether it is bad. -/
structure RS (w : World) (B R : Nat) (bs : List UInt8) (k : Nat) (bad : Bool) : Prop where
  c0 : ∃ A c, w.cell? ⟨R, 0, none⟩ = some (.slice A bs.length c) ∧ bs.length ≤ c ∧ RBs w B A bs
  c1 : w.cell? ⟨R, 1, none⟩ = some (.int .i64 k)
  c2 : w.cell? ⟨R, 2, none⟩ = some (.bool bad)
  free : ∀ i, w.frozen? ⟨R, i, none⟩ = false
theorem RS.keep {w w' : World} {B R : Nat} {bs : List UInt8} {k : Nat} {bad : Bool} (h : RS w B R bs k bad) (hc : ∀ o, w'.cell? ⟨R, o, none⟩ = w.cell? ⟨R, o, none⟩) (hf : ∀ i, w'.frozen? ⟨R, i, none⟩ = w.frozen? ⟨R, i, none⟩)
    (hk : ∀ b o, b < B → w'.cell? ⟨b, o, none⟩ = w.cell? ⟨b, o, none⟩) : RS w' B R bs k bad := by
  obtain ⟨⟨A, c, h1, h2, h3⟩, h4, h5, h6⟩ := h
  refine ⟨⟨A, c, (hc 0).trans h1, h2, fun hp => ?_⟩, (hc 1).trans h4, (hc 2).trans h5, fun i => (hf i).trans (h6 i)⟩
  obtain ⟨b, off, e, hb, hcell⟩ := h3 hp
  exact ⟨b, off, e, hb, fun j hj => (hk b _ hb).trans (hcell j hj)⟩
theorem RS.draw {w : World} {B R : Nat} {bs : List UInt8} {k : Nat} {bad : Bool} (h : RS w B R bs k bad) (n : Nat) : RS (w.drewN n) B R bs k bad := h.keep (fun _ => rfl) (fun _ => rfl) (fun _ _ _ => rfl)
theorem RS.set1 {w : World} {B R : Nat} {bs : List UInt8} {k : Nat} {bad : Bool} (h : RS w B R bs k bad) (hB : B ≤ R) (k' : Nat) : RS (w.setCell ⟨R, 1, none⟩ (.int .i64 k')) B R bs k' bad := by
  obtain ⟨⟨A, c, h1, h2, h3⟩, h4, h5, h6⟩ := h
  have n : ∀ i j : Nat, i ≠ j → (⟨R, i, none⟩ : Addr) ≠ ⟨R, j, none⟩ := fun i j h e => by injection e with _ e2; exact h e2
  refine ⟨⟨A, c, by rw [World.cell?_setCell_other _ _ _ _ (n 1 0 (by omega))]; exact h1, h2, fun hp => ?_⟩, World.cell?_setCell_same _ _ _ h4, by rw [World.cell?_setCell_other _ _ _ _ (n 1 2 (by omega))]; exact h5, fun i => by rw [World.frozen?_setCell]; exact h6 i⟩
  obtain ⟨b, off, e, hb, hcell⟩ := h3 hp
  exact ⟨b, off, e, hb, fun j hj => by rw [World.cell?_setCell_other _ _ _ _ (by intro e; injection e with e; omega)]; exact hcell j hj⟩
theorem RS.set2 {w : World} {B R : Nat} {bs : List UInt8} {k : Nat} {bad : Bool} (h : RS w B R bs k bad) (hB : B ≤ R) (b' : Bool) : RS (w.setCell ⟨R, 2, none⟩ (.bool b')) B R bs k b' := by
  obtain ⟨⟨A, c, h1, h2, h3⟩, h4, h5, h6⟩ := h
  have n : ∀ i j : Nat, i ≠ j → (⟨R, i, none⟩ : Addr) ≠ ⟨R, j, none⟩ := fun i j h e => by injection e with _ e2; exact h e2
  refine ⟨⟨A, c, by rw [World.cell?_setCell_other _ _ _ _ (n 2 0 (by omega))]; exact h1, h2, fun hp => ?_⟩, by rw [World.cell?_setCell_other _ _ _ _ (n 2 1 (by omega))]; exact h4, World.cell?_setCell_same _ _ _ h5, fun i => by rw [World.frozen?_setCell]; exact h6 i⟩
  obtain ⟨b, off, e, hb, hcell⟩ := h3 hp
  exact ⟨b, off, e, hb, fun j hj => by rw [World.cell?_setCell_other _ _ _ _ (by intro e; injection e with e; omega)]; exact hcell j hj⟩
theorem Upd.set1 (w : World) (R j : Nat) (u : Value) : Upd w (w.setCell ⟨R, j, none⟩ u) R := ⟨rfl, rfl, rfl, by simp, fun k _ hne => Below.heap_setCell w ⟨R, j, none⟩ _ k (by intro e; exact hne (by rw [e]))⟩
theorem Upd.draw {w w1 : World} {R : Nat} (h : Upd w w1 R) (n : Nat) : Upd w (w1.drewN n) R := ⟨h.os, h.tape, h.output, h.size, h.block⟩
theorem set_size (w : World) (a : Addr) (u : Value) : (w.setCell a u).heap.size = w.heap.size := by simp

set_option maxRecDepth 100000 in
set_option maxHeartbeats 800000 in
theorem rnext_no (w : World) (B R : Nat) (bs : List UInt8) (k : Nat) (bad : Bool) (hB : B ≤ R) (hlen : bs.length ≤ 1000000) (hk : k = bs.length) (h : RS w B R bs k bad) :
    Calls Try.prog 30 #[.pointer (some ⟨R, 0, none⟩)] w fun e w' => e = .returned (.int .u8 0) ∧ RS w' B R bs k true ∧ Upd w w' R ∧ w'.heap.size = w.heap.size := by
  have hH := Lib.hid h
  obtain ⟨⟨A, c, g0, gc, gb⟩, g1, g2, gf⟩ := h
  have gf2 := gf 2
  clear gb gf
  subst hk
  go_enter Try.func30, Try.ntmps30
  go_wp2_with fail
  go_quiet (fail)
  go_wp2_with fail
  go_ret
  exact ⟨rfl, (hH.out.draw _).set2 hB true, ((Upd.refl w R).draw _).trans (Upd.set1 _ _ _ _), set_size _ _ _⟩

set_option maxRecDepth 100000 in
set_option maxHeartbeats 800000 in
theorem rnext_yes (w : World) (B R : Nat) (bs : List UInt8) (k : Nat) (bad : Bool) (hB : B ≤ R) (hlen : bs.length ≤ 1000000) (hk : k < bs.length) (h : RS w B R bs k bad) :
    Calls Try.prog 30 #[.pointer (some ⟨R, 0, none⟩)] w fun e w' => e = .returned (.int .u8 (bs[k].toNat : Int)) ∧ RS w' B R bs (k + 1) bad ∧ Upd w w' R ∧ w'.heap.size = w.heap.size := by
  have hH := Lib.hid h
  obtain ⟨⟨A, c, g0, gc, gb⟩, g1, g2, gf⟩ := h
  have gf1 := gf 1
  clear gb gf g2
  have hk' : ¬ (bs.length : Int) ≤ k := by omega
  go_enter Try.func30, Try.ntmps30
  go_wp2_with fail
  go_quiet (fail)
  go_wp2_with fail
  have hS := (hH.out.draw nq).set1 hB (k + 1)
  have hU := ((Upd.refl w R).draw nq).trans (Upd.set1 (w.drewN nq) R 1 (.int .i64 ((k + 1 : Nat) : Int)))
  have hz := set_size (w.drewN nq) ⟨R, 1, none⟩ (.int .i64 ((k + 1 : Nat) : Int))
  have hc : (((k + 1 : Nat) : Int)) = (k : Int) + 1 := rfl
  rw [hc] at hS hU hz
  clear hc g0 g1 gf1 hH
  generalize (w.drewN nq).setCell ⟨R, 1, none⟩ (.int .i64 ((k : Int) + 1)) = W1 at *
  have hSH := Lib.hid hS
  obtain ⟨⟨A, c, g0, gc, gb⟩, g1, g2, gf⟩ := hS
  obtain ⟨b0, off, rfl, hb0, hcell⟩ := gb (by omega)
  have hck := hcell k hk
  clear hcell gf g2
  go_quiet (fail)
  go_wp2_with fail
  go_ret
  exact ⟨rfl, hSH.out.draw _, hU.draw _, hz⟩

def NumP (bs : List UInt8) (k : Nat) (w : World) (B R : Nat) (e : Ending) (w' : World) : Prop :=
  ∃ (u k' : Nat) (bad' : Bool), e = .returned (.int .u64 u) ∧ u < 18446744073709551616 ∧ k ≤ k' ∧ k' ≤ bs.length ∧ RS w' B R bs k' bad' ∧ Upd w w' R ∧ w'.heap.size = w.heap.size ∧ ∀ u' r, rnum (bs.drop k) 0 0 = some (u', r) → u = u' ∧ bad' = false ∧ bs.drop k' = r

theorem rnum_64 (r : List UInt8) : ∀ (sh acc : Nat), 64 ≤ sh → rnum r sh acc = none := by
  induction r with
  | nil => intro sh acc _; rfl
  | cons b r ih =>
    intro sh acc h
    by_cases hd : b.toNat % 128 = 0
    · by_cases h1 : 128 ≤ b.toNat
      · rw [rnum_more (by rw [hd]; omega) h1]
        exact ih _ _ (by omega)
      · exact rnum_zero (by rw [hd]; omega) h1 (by omega) (by omega)
    · refine rnum_over ?_
      have h1 : 2 ^ 64 ≤ 2 ^ sh := Nat.pow_le_pow_right (by omega) h
      have h2 : 1 * 2 ^ sh ≤ b.toNat % 128 * 2 ^ sh := Nat.mul_le_mul_right _ (by omega)
      have h3 : (2 ^ 64 : Nat) = 18446744073709551616 := rfl
      omega
theorem rnum_63 {b : UInt8} {r : List UInt8} {acc : Nat} (h : 1 < b.toNat) : rnum (b :: r) 63 acc = none := by
  have h3 : (2 ^ 63 : Nat) = 9223372036854775808 := rfl
  by_cases ho : 18446744073709551616 ≤ b.toNat % 128 * 2 ^ 63
  · exact rnum_over ho
  · rw [rnum_more ho (by omega)]
    exact rnum_64 _ _ _ (by omega)
end Go.Proofs.Ytaninbklippdaaa
