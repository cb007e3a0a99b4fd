/- The reader: take, end. -/
import Derived.Test.YtaninbklippdaaaSm
import Derived.StillTailTactics
import Derived.WalkLawsBesides
namespace Go.Proofs.Ytaninbklippdaaa
open Go.RowKit

/-- A slice at address A holds the bytes, below block B. -/
def RBs (w : World) (B : Nat) (A : Option Addr) (bs : List UInt8) : Prop :=
  0 < bs.length → ∃ b off, A = some ⟨b, off, none⟩ ∧ b < B ∧ ∀ j (h : j < bs.length), w.cell? ⟨b, off + j, none⟩ = some (.int .u8 (bs[j].toNat : Int))

/-- Only block R, and what is new, has turned. -/
def Upd (w w' : World) (R : Nat) : Prop := w.grownBy w' (some R)

/-- The state of a reader in block R: the bytes that remain. -/
structure St (w : World) (B R : Nat) (bs : List UInt8) : Prop where
  cell : ∃ A, w.cell? ⟨R, 0, none⟩ = some (.slice A bs.length bs.length) ∧ RBs w B A bs
  free : w.frozen? ⟨R, 0, none⟩ = false

def boom : List PanicEntry := [{ v := .iface 27 (.int .i64 10), recovered := false }]

theorem RBs.drop {w w' : World} {B n : Nat} {A : Option Addr} {bs : List UInt8} (h : RBs w B A bs) (hk : ∀ b o, b < B → w'.cell? ⟨b, o, none⟩ = w.cell? ⟨b, o, none⟩) : RBs w' B (A.map (·.add n)) (bs.drop n) := by
  intro hp
  rw [List.length_drop] at hp
  obtain ⟨b, off, rfl, hb, hc⟩ := h (by omega)
  refine ⟨b, off + n, ?_, hb, fun j hj => ?_⟩
  · show some ((⟨b, off, none⟩ : Addr).add n) = _
    unfold Addr.add
    split
    · subst n; rfl
    · rfl
  · rw [List.length_drop] at hj
    rw [hk b _ hb, Nat.add_assoc, hc (n + j) (by omega), List.getElem_drop]
theorem RBs.nil (w : World) (B : Nat) (A : Option Addr) : RBs w B A [] := fun h => by simp at h

theorem St.after {w : World} {B R : Nat} {A : Option Addr} {bs : List UInt8} {u : Value} (hR : w.cell? ⟨R, 0, none⟩ = some u) (hf : w.frozen? ⟨R, 0, none⟩ = false) (hB : B ≤ R) (h : RBs w B A bs) (m : Nat) (hm : bs.length = m) :
    St (w.setCell ⟨R, 0, none⟩ (.slice A m m)).drew B R bs ∧ Upd w (w.setCell ⟨R, 0, none⟩ (.slice A m m)).drew R ∧ (w.setCell ⟨R, 0, none⟩ (.slice A m m)).drew.heap.size = w.heap.size := by
  subst hm
  refine ⟨⟨⟨A, ?_, ?_⟩, ?_⟩, ⟨rfl, rfl, rfl, by simp, fun k _ hne => ?_⟩, by simp⟩
  · rw [World.cell?_drew]
    exact World.cell?_setCell_same _ _ _ hR
  · intro hp
    obtain ⟨b, off, e, hb, hc⟩ := h hp
    refine ⟨b, off, e, hb, fun j hj => ?_⟩
    rw [World.cell?_drew, World.cell?_setCell_other _ _ _ _ (by intro e; injection e with e; omega)]
    exact hc j hj
  · rw [World.frozen?_drew, World.frozen?_setCell]
    exact hf
  · exact Below.heap_setCell w ⟨R, 0, none⟩ _ k (by intro e; exact hne (by rw [e]))

set_option maxRecDepth 100000 in
set_option maxHeartbeats 800000 in
theorem take_no (w : World) (B R : Nat) (bs : List UInt8) (n : Int) (hn : (bs.length : Int) < n) (_hn2 : n ≤ 18446744073709551615) (hlen : bs.length ≤ 1000000) (h : St w B R bs) :
    Calls Try.prog 26 #[.pointer (some ⟨R, 0, none⟩), .int .u64 n] w fun e w' => e = .panicked boom ∧ w = w' := by
  obtain ⟨⟨A, hc, hr⟩, hf⟩ := h
  go_enter Try.func26, Try.ntmps26
  go_wp2_with fail
  exact ⟨rfl, rfl, rfl⟩

set_option maxRecDepth 100000 in
set_option maxHeartbeats 800000 in
theorem take_yes (w : World) (B R : Nat) (bs : List UInt8) (n : Nat) (hn : n ≤ bs.length) (hlen : bs.length ≤ 1000000) (hB : B ≤ R) (A : Option Addr) (hc : w.cell? ⟨R, 0, none⟩ = some (.slice A bs.length bs.length)) (hf : w.frozen? ⟨R, 0, none⟩ = false) (hr : RBs w B A bs) :
    Calls Try.prog 26 #[.pointer (some ⟨R, 0, none⟩), .int .u64 n] w fun e w' => e = .returned (.slice A n n) ∧ St w' B R (bs.drop n) ∧ Upd w w' R ∧ w'.heap.size = w.heap.size := by
  have hr1 := Lib.hid (hr.drop (n := n) (w' := w) fun _ _ _ => rfl)
  by_cases he : bs.length = n
  · have hd : Hid (bs.drop n = []) := List.drop_of_length_le (by omega)
    go_enter Try.func26, Try.ntmps26
    go_wp2_with fail
    go_still_tail 19, (by kernel_rfl)
    change wpList _ _ _ _ _ w.drew
    go_wp2_with fail
    go_ret
    rw [hd.out]
    exact ⟨rfl, St.after hc hf hB (RBs.nil _ _ _) _ (by simp)⟩
  · go_enter Try.func26, Try.ntmps26
    go_wp2_with fail
    go_still_tail 19, (by kernel_rfl)
    change wpList _ _ _ _ _ w.drew
    go_wp2_with fail
    go_ret
    exact ⟨rfl, St.after hc hf hB hr1.out _ (by simp)⟩
end Go.Proofs.Ytaninbklippdaaa
