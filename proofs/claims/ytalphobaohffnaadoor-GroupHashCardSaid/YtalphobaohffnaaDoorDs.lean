/- SHA-256 over words, in Lean's own words. -/
import Derived.WalkKit
import Derived.Deep.QuietTactic
import Derived.Lib.Hide
namespace Go.Proofs.YtalphobaohffnaaDoor
open Go.RowKit

/-- A word, as the model's numbers say it. -/
def U (x : UInt32) : Int := x.toNat
theorem U_nonneg (x : UInt32) : 0 ≤ U x := by unfold U; omega
theorem U_lt (x : UInt32) : U x < 4294967296 := by unfold U; have := x.toNat_lt; omega
theorem U_ofNat (n : Nat) : U (UInt32.ofNat n) = ((n % 4294967296 : Nat) : Int) := by unfold U; rw [UInt32.toNat_ofNat']

def rotr (x : UInt32) (n : Nat) : UInt32 := UInt32.ofNat (x.toNat / 2 ^ n) ||| UInt32.ofNat (x.toNat * 2 ^ (32 - n))
theorem U_add (a b : UInt32) : IntKind.u32.wrap (U a + U b) = U (a + b) := by
  rw [IntKind.wrap_u32']; unfold U; rw [UInt32.toNat_add]; omega
theorem U_xor (a b : UInt32) : bits .xor .u32 (U a) (U b) = U (a ^^^ b) := by
  have := u32_xor (U a) (U b) (U_nonneg _) (U_lt _) (U_nonneg _) (U_lt _)
  rw [this]; unfold U; rw [UInt32.toNat_xor]; simp
theorem U_and (a b : UInt32) : bits .and .u32 (U a) (U b) = U (a &&& b) := by
  have := u32_and (U a) (U b) (U_nonneg _) (U_lt _) (U_nonneg _) (U_lt _)
  rw [this]; unfold U; rw [UInt32.toNat_and]; simp
theorem U_or (a b : UInt32) : bits .or .u32 (U a) (U b) = U (a ||| b) := by
  have := u32_or (U a) (U b) (U_nonneg _) (U_lt _) (U_nonneg _) (U_lt _)
  rw [this]; unfold U; rw [UInt32.toNat_or]; simp
theorem U_shr (a : UInt32) (n : Nat) : U a / 2 ^ n = U (UInt32.ofNat (a.toNat / 2 ^ n)) := by
  rw [U_ofNat]; unfold U
  have h : a.toNat / 2 ^ n < 4294967296 := Nat.lt_of_le_of_lt (Nat.div_le_self _ _) a.toNat_lt
  rw [Nat.mod_eq_of_lt h]; simp
theorem U_shl (a : UInt32) (n : Nat) : IntKind.u32.wrap (U a * 2 ^ n) = U (UInt32.ofNat (a.toNat * 2 ^ n)) := by
  rw [U_ofNat, IntKind.wrap_u32']; unfold U; simp

/-! The words of a block -/
def shr (x : UInt32) (n : Nat) : UInt32 := UInt32.ofNat (x.toNat / 2 ^ n)
def wacc (b : List UInt8) (t : Nat) : Nat → UInt32
  | 0 => 0
  | i + 1 => UInt32.ofNat ((wacc b t i).toNat * 2 ^ 8) ||| UInt32.ofNat (b.getD (4 * t + i) 0).toNat
def w0 (b : List UInt8) (t : Nat) : List UInt32 := (List.range t).map (fun j => wacc b j 4) ++ List.replicate (64 - t) 0
theorem U_div8 (x : UInt32) : U x / 8 = U (shr x 3) := U_shr x 3
theorem U_div1024 (x : UInt32) : U x / 1024 = U (shr x 10) := U_shr x 10
def sig0 (x : UInt32) : UInt32 := rotr x 7 ^^^ rotr x 18 ^^^ shr x 3
def sig1 (y : UInt32) : UInt32 := rotr y 17 ^^^ rotr y 19 ^^^ shr y 10
def nxt (ws : List UInt32) (t : Nat) : UInt32 := ws.getD (t - 16) 0 + sig0 (ws.getD (t - 15) 0) + ws.getD (t - 7) 0 + sig1 (ws.getD (t - 2) 0)
def stepW (t : Nat) (ws : List UInt32) : List UInt32 := ws.set t (nxt ws t)
def sch (b : List UInt8) : Nat → List UInt32
  | 0 => w0 b 16
  | k + 1 => stepW (16 + k) (sch b k)

theorem w0_length (b : List UInt8) (t : Nat) (h : t ≤ 64) : (w0 b t).length = 64 := by simp [w0]; omega
theorem sch_length (b : List UInt8) (k : Nat) : (sch b k).length = 64 := by
  induction k with
  | zero => exact w0_length b 16 (by omega)
  | succ k ih => rw [sch, stepW, List.length_set, ih]
theorem w0_zero (b : List UInt8) (t : Nat) (_h : t < 64) : (w0 b t).set t 0 = w0 b t := by
  apply List.ext_getElem
  · simp
  · intro i h1 h2
    rw [List.getElem_set]
    split
    · subst i
      simp [w0]
    · rfl
theorem w0_succ (b : List UInt8) (t : Nat) (h : t < 64) : (w0 b t).set t (wacc b t 4) = w0 b (t + 1) := by
  have e : List.replicate (64 - t) (0 : UInt32) = 0 :: List.replicate (64 - (t + 1)) 0 := by rw [← List.replicate_succ]; congr 1; omega
  unfold w0
  rw [e, List.range_succ, List.map_append, List.set_append_right _ _ (by simp)]
  simp

/-! The rounds -/
def Ktab : List UInt32 := [0x428a2f98, 0x71374491, 0xb5c0fbcf, 0xe9b5dba5, 0x3956c25b, 0x59f111f1, 0x923f82a4, 0xab1c5ed5, 0xd807aa98, 0x12835b01, 0x243185be, 0x550c7dc3, 0x72be5d74, 0x80deb1fe, 0x9bdc06a7, 0xc19bf174, 0xe49b69c1, 0xefbe4786, 0x0fc19dc6, 0x240ca1cc, 0x2de92c6f, 0x4a7484aa, 0x5cb0a9dc, 0x76f988da, 0x983e5152, 0xa831c66d, 0xb00327c8, 0xbf597fc7, 0xc6e00bf3, 0xd5a79147, 0x06ca6351, 0x14292967, 0x27b70a85, 0x2e1b2138, 0x4d2c6dfc, 0x53380d13, 0x650a7354, 0x766a0abb, 0x81c2c92e, 0x92722c85, 0xa2bfe8a1, 0xa81a664b, 0xc24b8b70, 0xc76c51a3, 0xd192e819, 0xd6990624, 0xf40e3585, 0x106aa070, 0x19a4c116, 0x1e376c08, 0x2748774c, 0x34b0bcb5, 0x391c0cb3, 0x4ed8aa4a, 0x5b9cca4f, 0x682e6ff3, 0x748f82ee, 0x78a5636f, 0x84c87814, 0x8cc70208, 0x90befffa, 0xa4506ceb, 0xbef9a3f7, 0xc67178f2]
structure S8 where
  (a b c d e f g h : UInt32)
def S8.list (s : S8) : List UInt32 := [s.a, s.b, s.c, s.d, s.e, s.f, s.g, s.h]
def S8.of (l : List UInt32) : S8 := ⟨l.getD 0 0, l.getD 1 0, l.getD 2 0, l.getD 3 0, l.getD 4 0, l.getD 5 0, l.getD 6 0, l.getD 7 0⟩
def pp (s : S8) (k w : UInt32) : UInt32 := s.h + (rotr s.e 6 ^^^ rotr s.e 11 ^^^ rotr s.e 25) + ((s.e &&& s.f) ^^^ (~~~s.e &&& s.g)) + k + w
def qq (s : S8) : UInt32 := (rotr s.a 2 ^^^ rotr s.a 13 ^^^ rotr s.a 22) + ((s.a &&& s.b) ^^^ (s.a &&& s.c) ^^^ (s.b &&& s.c))
def S8.next (s : S8) (p q : UInt32) : S8 := ⟨p + q, s.a, s.b, s.c, s.d + p, s.e, s.f, s.g⟩
def rnd (k w : UInt32) (s : S8) : S8 := s.next (pp s k w) (qq s)
def rnds (ws : List UInt32) : Nat → S8 → S8
  | 0, s => s
  | t + 1, s => rnd (Ktab.getD t 0) (ws.getD t 0) (rnds ws t s)
/-- The words of a state, the first i of them added to. -/
def addTo (ss xs : List UInt32) : Nat → List UInt32
  | 0 => ss
  | i + 1 => (addTo ss xs i).set i ((addTo ss xs i).getD i 0 + xs.getD i 0)
def blockSt (bs : List UInt8) (ss : List UInt32) : List UInt32 := addTo ss (rnds (sch bs 48) 64 (S8.of ss)).list 8
theorem addTo_length (ss xs : List UInt32) (i : Nat) : (addTo ss xs i).length = ss.length := by
  induction i with
  | zero => rfl
  | succ i ih => rw [addTo, List.length_set, ih]
theorem blockSt_length (bs : List UInt8) (ss : List UInt32) : (blockSt bs ss).length = ss.length := addTo_length _ _ _

/-- Words, as values. -/
def WV (ws : List UInt32) : List Value := ws.map fun x => .int .u32 (U x)
theorem WV_length (ws : List UInt32) : (WV ws).length = ws.length := by simp [WV]
/-- A block of words. -/
def WB (w : World) (g : Nat) (T : TypeId) (ws : List UInt32) : Prop := w.heap[g]? = some (.cells (WV ws).toArray T (0, 0))
theorem WB.cell {w : World} {g i : Nat} {T : TypeId} {ws : List UInt32} (h : WB w g T ws) (hi : i < ws.length) : w.cell? ⟨g, i, none⟩ = some (.int .u32 (U (ws.getD i 0))) := by
  rw [cell_of_row w g i _ T _ h]
  simp [WV, hi]
theorem WB.frozen {w : World} {g : Nat} {T : TypeId} {ws : List UInt32} (h : WB w g T ws) (i : Nat) : w.frozen? ⟨g, i, none⟩ = false := frozen_of_row w g i _ T h
theorem WB.set {w : World} {g i : Nat} {T : TypeId} {ws : List UInt32} (h : WB w g T ws) (x : UInt32) : WB (w.setCell ⟨g, i, none⟩ (.int .u32 (U x))) g T (ws.set i x) := by
  have := heap_setCell_same w g i _ T (.int .u32 (U x)) h
  unfold WB
  rw [this]
  congr 2
  apply Array.toList_inj.1
  simp [WV, List.map_set]
theorem WB.far {w : World} {g : Nat} {T : TypeId} {ws : List UInt32} (h : WB w g T ws) {p : Addr} (hp : g ≠ p.block) (v : Value) : WB (w.setCell p v) g T ws := by
  unfold WB; rw [heap_setCell_other w p g v hp]; exact h
theorem WV_one (ws : List UInt32) : (WV ws).toArray.all (·.oneCell') = true := by
  rw [Array.all_eq_true_iff_forall_mem]
  intro x hx
  simp only [List.mem_toArray, WV, List.mem_map] at hx
  obtain ⟨a, -, rfl⟩ := hx
  rfl
theorem WB.lt {w : World} {g : Nat} {T : TypeId} {ws : List UInt32} (h : WB w g T ws) : g < w.heap.size := (Array.getElem?_eq_some_iff.1 h).1
theorem WB.below {w w' : World} {g B : Nat} {T : TypeId} {ws : List UInt32} (h : WB w g T ws) (hb : Below B w w') (hg : g < B) : WB w' g T ws := by
  unfold WB; rw [hb.block g hg]; exact h
/-- Nothing but a count of the draws has changed. -/
def Sm (a b : World) : Prop := b.heap = a.heap ∧ b.os = a.os ∧ b.tape = a.tape ∧ b.output = a.output
theorem Sm.refl (a : World) : Sm a a := ⟨rfl, rfl, rfl, rfl⟩
theorem Sm.drewN {a b : World} (h : Sm a b) (n : Nat) : Sm a (b.drewN n) := h
theorem Sm.drew {a b : World} (h : Sm a b) : Sm a b.drew := h
theorem Sm.wb {a b : World} (h : Sm a b) {g : Nat} {T : TypeId} {ws : List UInt32} (hw : WB a g T ws) : WB b g T ws := by unfold WB; rw [h.1]; exact hw
theorem Sm.cell {a b : World} (h : Sm a b) (p : Addr) : b.cell? p = a.cell? p := by unfold World.cell?; rw [h.1]
theorem Sm.below {a b : World} (h : Sm a b) {B : Nat} {w : World} (hb : Below B w a) : Below B w b :=
  ⟨h.2.1.trans hb.os, h.2.2.1.trans hb.tape, h.2.2.2.trans hb.output, by rw [h.1]; exact hb.size, fun k hk => by rw [h.1]; exact hb.block k hk⟩
end Go.Proofs.YtalphobaohffnaaDoor
