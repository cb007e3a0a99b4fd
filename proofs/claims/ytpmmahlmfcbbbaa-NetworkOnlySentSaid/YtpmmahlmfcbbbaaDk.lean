/- Disks: plainly, and how they read in memory. -/
import Derived.WalkKit
import Derived.Deep.Draws
import Derived.Lib.Hide
namespace Go.Proofs.Ytpmmahlmfcbbbaa
open Go.RowKit

structure Wr where
  pl : Int
  data : List UInt8
structure Dk where
  secs : List (List UInt8)
  pend : List Wr
  left : Int
  stop : Bool

def zeroDk : Dk := ⟨[], [], 0, false⟩
def hasB (d : Dk) (a : Int) : Bool := decide (0 ≤ a) && decide (a < (d.secs.length : Int))
def secB (s : List UInt8) : Bool := decide (s.length = 128)
def wrB (d : Dk) (x : Wr) : Bool := hasB d x.pl && secB x.data
def headB (d : Dk) : Bool := decide (1 ≤ d.secs.length) && decide (d.secs.length ≤ 4096) && decide (d.pend.length ≤ 4096) && decide (-1 ≤ d.left) && decide (d.left ≤ 65536)
def chkB (d : Dk) : Bool := headB d && d.secs.all secB && d.pend.all (wrB d)
def chk (d : Dk) : Int := if chkB d = true then 0 else 40
def runB (d : Dk) : Bool := chkB d && !d.stop
def pad (b : List UInt8) : List UInt8 := b.take 128 ++ List.replicate (128 - b.length) 0
def lastW (l : List Wr) (a : Int) (b : List UInt8) : List UInt8 := l.foldl (fun b x => if x.pl = a then x.data else b) b
def readL (d : Dk) (a : Int) : List UInt8 := lastW d.pend a (d.secs.getD a.toNat [])
def writeD (d : Dk) (a : Int) (b : List UInt8) : Dk × Int :=
  if (runB d && hasB d a) = false then (zeroDk, 40) else if 128 < b.length then (zeroDk, 1) else if d.pend.length = 4096 then (zeroDk, 2) else (⟨d.secs, d.pend ++ [⟨a, pad b⟩], d.left, d.stop⟩, 0)
def applyW (s : List (List UInt8)) (l : List Wr) : List (List UInt8) := l.foldl (fun s x => s.set x.pl.toNat x.data) s
def perfN (d : Dk) : Nat := if d.left = -1 then d.pend.length else min d.left.toNat d.pend.length
def tornS (s : List (List UInt8)) (x : Wr) : List (List UInt8) := s.set x.pl.toNat (x.data.take 64 ++ (s.getD x.pl.toNat []).drop 64)
def lessD (l : Int) (n : Nat) : Int := if l = -1 then -1 else l - n
def syncD (d : Dk) : Dk × Int :=
  if runB d = false then (zeroDk, 40)
  else if perfN d = d.pend.length then (⟨applyW d.secs d.pend, [], lessD d.left d.pend.length, false⟩, 0)
  else (⟨tornS (applyW d.secs (d.pend.take (perfN d))) (d.pend.getD (perfN d) ⟨0, []⟩), [], 0, true⟩, 40)
def stopD (d : Dk) (l : Int) : Dk × Int :=
  if runB d = false then (zeroDk, 40) else if l < 0 ∨ 65536 < l then (zeroDk, 1) else (⟨d.secs, d.pend, l, d.stop⟩, 0)
def restD (d : Dk) : Dk := ⟨d.secs, [], -1, false⟩
def zero128 : List UInt8 := List.replicate 128 0
def newD (n : Int) : Dk × Int := if n < 1 ∨ 4096 < n then (zeroDk, 1) else (⟨List.replicate n.toNat zero128, [], -1, false⟩, 0)

theorem secB_iff {s : List UInt8} : secB s = true ↔ s.length = 128 := by unfold secB; exact decide_eq_true_iff
theorem hasB_iff {d : Dk} {a : Int} : hasB d a = true ↔ 0 ≤ a ∧ a < d.secs.length := by unfold hasB; simp
theorem chkB_iff {d : Dk} : chkB d = true ↔ 1 ≤ d.secs.length ∧ d.secs.length ≤ 4096 ∧ d.pend.length ≤ 4096 ∧ -1 ≤ d.left ∧ d.left ≤ 65536 ∧ (∀ s ∈ d.secs, s.length = 128) ∧ ∀ x ∈ d.pend, (0 ≤ x.pl ∧ x.pl < d.secs.length) ∧ x.data.length = 128 := by
  unfold chkB headB wrB hasB secB
  simp only [Bool.and_eq_true, decide_eq_true_eq, List.all_eq_true, and_assoc]
theorem runB_iff {d : Dk} : runB d = true ↔ chkB d = true ∧ d.stop = false := by unfold runB; simp
theorem pad_length (b : List UInt8) : (pad b).length = 128 := by unfold pad; simp; omega
theorem pad_full {b : List UInt8} (h : b.length = 128) : pad b = b := by unfold pad; rw [h, List.take_of_length_le (by omega)]; simp
theorem pad_nil : pad [] = zero128 := rfl

/-! Readings; S: which blocks may be read. -/
def I64 (n : Int) : Prop := -9223372036854775808 ≤ n ∧ n ≤ 9223372036854775807
/-- Bytes that are read at an address. -/
def RBs (w : World) (S : Nat → Prop) (A : Option Addr) (bs : List UInt8) : Prop :=
  0 < bs.length → ∃ b off, A = some ⟨b, off, none⟩ ∧ S b ∧ ∀ j (h : j < bs.length), w.cell? ⟨b, off + j, none⟩ = some (.int .u8 (bs[j].toNat : Int))
/-- A slice of bytes. -/
def Row (w : World) (S : Nat → Prop) (v : Value) (bs : List UInt8) : Prop :=
  ∃ A c, v = .slice A bs.length c ∧ bs.length ≤ c ∧ c ≤ maxLen ∧ RBs w S A bs
/-- Sectors. -/
def SR (w : World) (S : Nat → Prop) (A : Option Addr) (ls : List (List UInt8)) : Prop :=
  0 < ls.length → ∃ b off, A = some ⟨b, off, none⟩ ∧ S b ∧ ∀ i (h : i < ls.length), ∃ v, w.cell? ⟨b, off + i, none⟩ = some v ∧ Row w S v ls[i]
/-- Writes. -/
def PR (w : World) (S : Nat → Prop) (A : Option Addr) (ps : List Wr) : Prop :=
  0 < ps.length → ∃ b off, A = some ⟨b, off, none⟩ ∧ S b ∧ ∀ i (h : i < ps.length), ∃ v, w.cell? ⟨b, off + i * 2, none⟩ = some (.int .i64 ps[i].pl) ∧ w.cell? ⟨b, off + i * 2 + 1, none⟩ = some v ∧ Row w S v ps[i].data ∧ I64 ps[i].pl
structure DR (w : World) (S : Nat → Prop) (A : Option Addr) (c : Nat) (A' : Option Addr) (c' : Nat) (d : Dk) : Prop where
  cap : d.secs.length ≤ c
  max : c ≤ maxLen
  cap' : d.pend.length ≤ c'
  max' : c' ≤ maxLen
  secs : SR w S A d.secs
  pend : PR w S A' d.pend
  left : I64 d.left
def dkV (A : Option Addr) (c : Nat) (A' : Option Addr) (c' : Nat) (d : Dk) : Value := .agg #[.slice A d.secs.length c, .slice A' d.pend.length c', .int .i64 d.left, .bool d.stop]

/-- What a step keeps. -/
def Kept (S : Nat → Prop) (w w' : World) : Prop := ∀ b o, S b → w'.cell? ⟨b, o, none⟩ = w.cell? ⟨b, o, none⟩
theorem Kept.refl (S : Nat → Prop) (w : World) : Kept S w w := fun _ _ _ => rfl
theorem Kept.trans {S : Nat → Prop} {w w1 w2 : World} (h : Kept S w w1) (k : Kept S w1 w2) : Kept S w w2 := fun b o hb => (k b o hb).trans (h b o hb)
theorem Kept.below {B : Nat} {w w' : World} (hb : Below B w w') : Kept (· < B) w w' := fun b o h => hb.cell (p := ⟨b, o, none⟩) h
theorem RBs.keep {w w' : World} {S : Nat → Prop} {A : Option Addr} {bs : List UInt8} (hk : Kept S w w') (h : RBs w S A bs) : RBs w' S A bs := fun hp => by
  obtain ⟨b, off, e, hs, hc⟩ := h hp
  exact ⟨b, off, e, hs, fun j hj => (hk _ _ hs).trans (hc j hj)⟩
theorem RBs.mono {w : World} {S S' : Nat → Prop} (hS : ∀ b, S b → S' b) {A : Option Addr} {bs : List UInt8} (h : RBs w S A bs) : RBs w S' A bs := fun hp => by
  obtain ⟨b, off, e, hs, hc⟩ := h hp
  exact ⟨b, off, e, hS b hs, hc⟩
theorem Row.keep {w w' : World} {S : Nat → Prop} {v : Value} {bs : List UInt8} (hk : Kept S w w') (h : Row w S v bs) : Row w' S v bs := by
  obtain ⟨A, c, e, h1, h2, h3⟩ := h
  exact ⟨A, c, e, h1, h2, h3.keep hk⟩
theorem Row.mono {w : World} {S S' : Nat → Prop} (hS : ∀ b, S b → S' b) {v : Value} {bs : List UInt8} (h : Row w S v bs) : Row w S' v bs := by
  obtain ⟨A, c, e, h1, h2, h3⟩ := h
  exact ⟨A, c, e, h1, h2, h3.mono hS⟩
theorem SR.keep {w w' : World} {S : Nat → Prop} {A : Option Addr} {ls : List (List UInt8)} (hk : Kept S w w') (h : SR w S A ls) : SR w' S A ls := fun hp => by
  obtain ⟨b, off, e, hs, hc⟩ := h hp
  refine ⟨b, off, e, hs, fun i hi => ?_⟩
  obtain ⟨v, h1, h2⟩ := hc i hi
  exact ⟨v, (hk _ _ hs).trans h1, h2.keep hk⟩
theorem SR.mono {w : World} {S S' : Nat → Prop} (hS : ∀ b, S b → S' b) {A : Option Addr} {ls : List (List UInt8)} (h : SR w S A ls) : SR w S' A ls := fun hp => by
  obtain ⟨b, off, e, hs, hc⟩ := h hp
  refine ⟨b, off, e, hS b hs, fun i hi => ?_⟩
  obtain ⟨v, h1, h2⟩ := hc i hi
  exact ⟨v, h1, h2.mono hS⟩
theorem PR.keep {w w' : World} {S : Nat → Prop} {A : Option Addr} {ps : List Wr} (hk : Kept S w w') (h : PR w S A ps) : PR w' S A ps := fun hp => by
  obtain ⟨b, off, e, hs, hc⟩ := h hp
  refine ⟨b, off, e, hs, fun i hi => ?_⟩
  obtain ⟨v, h0, h1, h2, h3⟩ := hc i hi
  exact ⟨v, (hk _ _ hs).trans h0, (hk _ _ hs).trans h1, h2.keep hk, h3⟩
theorem PR.mono {w : World} {S S' : Nat → Prop} (hS : ∀ b, S b → S' b) {A : Option Addr} {ps : List Wr} (h : PR w S A ps) : PR w S' A ps := fun hp => by
  obtain ⟨b, off, e, hs, hc⟩ := h hp
  refine ⟨b, off, e, hS b hs, fun i hi => ?_⟩
  obtain ⟨v, h0, h1, h2, h3⟩ := hc i hi
  exact ⟨v, h0, h1, h2.mono hS, h3⟩
theorem DR.keep {w w' : World} {S : Nat → Prop} {A A' : Option Addr} {c c' : Nat} {d : Dk} (hk : Kept S w w') (h : DR w S A c A' c' d) : DR w' S A c A' c' d := ⟨h.cap, h.max, h.cap', h.max', h.secs.keep hk, h.pend.keep hk, h.left⟩
theorem DR.mono {w : World} {S S' : Nat → Prop} (hS : ∀ b, S b → S' b) {A A' : Option Addr} {c c' : Nat} {d : Dk} (h : DR w S A c A' c' d) : DR w S' A c A' c' d := ⟨h.cap, h.max, h.cap', h.max', h.secs.mono hS, h.pend.mono hS, h.left⟩
/-- Behind a step that only makes memory. -/
theorem Row.step {w w' : World} {v : Value} {bs : List UInt8} (h : Row w (· < w.heap.size) v bs) (hb : Below w.heap.size w w') : Row w' (· < w'.heap.size) v bs := (h.keep (Kept.below hb)).mono fun _ hlt => Nat.lt_of_lt_of_le hlt hb.size
theorem SR.step {w w' : World} {A : Option Addr} {ls : List (List UInt8)} (h : SR w (· < w.heap.size) A ls) (hb : Below w.heap.size w w') : SR w' (· < w'.heap.size) A ls := (h.keep (Kept.below hb)).mono fun _ hlt => Nat.lt_of_lt_of_le hlt hb.size
theorem PR.step {w w' : World} {A : Option Addr} {ls : List Wr} (h : PR w (· < w.heap.size) A ls) (hb : Below w.heap.size w w') : PR w' (· < w'.heap.size) A ls := (h.keep (Kept.below hb)).mono fun _ hlt => Nat.lt_of_lt_of_le hlt hb.size
theorem DR.step {w w' : World} {A A' : Option Addr} {c c' : Nat} {d : Dk} (h : DR w (· < w.heap.size) A c A' c' d) (hb : Below w.heap.size w w') : DR w' (· < w'.heap.size) A c A' c' d := (h.keep (Kept.below hb)).mono fun _ hlt => Nat.lt_of_lt_of_le hlt hb.size
/-- Below a mark. -/
theorem Row.under {B B' : Nat} {w w' : World} {v : Value} {bs : List UInt8} (h : Row w (· < B) v bs) (hb : Below B' w w') (hB : B ≤ B') : Row w' (· < B) v bs := h.keep fun b o hlt => hb.cell (p := ⟨b, o, none⟩) (Nat.lt_of_lt_of_le hlt hB)
theorem DR.under {B B' : Nat} {w w' : World} {A A' : Option Addr} {c c' : Nat} {d : Dk} (h : DR w (· < B) A c A' c' d) (hb : Below B' w w') (hB : B ≤ B') : DR w' (· < B) A c A' c' d := h.keep fun b o hlt => hb.cell (p := ⟨b, o, none⟩) (Nat.lt_of_lt_of_le hlt hB)
theorem DR.upto {B B' : Nat} {w : World} {A A' : Option Addr} {c c' : Nat} {d : Dk} (h : DR w (· < B) A c A' c' d) (hB : B ≤ B') : DR w (· < B') A c A' c' d := h.mono fun _ hlt => Nat.lt_of_lt_of_le hlt hB

theorem DR.zero (w : World) (S : Nat → Prop) : DR w S none 0 none 0 zeroDk :=
  ⟨Nat.le_refl _, Nat.zero_le _, Nat.le_refl _, Nat.zero_le _, fun h => absurd h (Nat.lt_irrefl 0), fun h => absurd h (Nat.lt_irrefl 0), by unfold I64 zeroDk; simp⟩
theorem DR.rest {w : World} {S : Nat → Prop} {A A' : Option Addr} {c c' : Nat} {d : Dk} (h : DR w S A c A' c' d) : DR w S A c none 0 (restD d) :=
  ⟨h.cap, h.max, Nat.le_refl _, Nat.zero_le _, h.secs, fun h => absurd h (Nat.lt_irrefl 0), by unfold I64 restD; simp⟩

/-! Small words. -/
theorem retB {a b : Bool} (h : a = b) : Ending.returned (.bool a) = .returned (.bool b) := by rw [h]
theorem retI {k : IntKind} {a b : Int} (h : a = b) : Ending.returned (.int k a) = .returned (.int k b) := by rw [h]
theorem dN {B : Nat} {a w : World} (h : Below B a w) (n : Nat) : Below B a (w.drewN n) := ⟨h.os, h.tape, h.output, h.size, h.block⟩
theorem unD {B : Nat} {w w' : World} (h : Below B w.drew w') : Below B w w' := ⟨h.os, h.tape, h.output, h.size, h.block⟩
theorem unDN {B n : Nat} {w w' : World} (h : Below B (w.drewN n) w') : Below B w w' := ⟨h.os, h.tape, h.output, h.size, h.block⟩
theorem unbox {w wr : World} {o : Obj} (hb : Below (w.heap.size + 1) (w.alloc o) wr) : Below w.heap.size w wr :=
  ((Below.refl _ _).alloc (Nat.le_refl _) o).trans (hb.mono (by simp))
theorem bnew (w : World) (o : Obj) : Below w.heap.size w (w.alloc o) := (Below.refl _ _).alloc (Nat.le_refl _) o
theorem bcell {B : Nat} {W w1 : World} (hb : Below B W w1) : (∀ b o, b < B → w1.cell? ⟨b, o, none⟩ = W.cell? ⟨b, o, none⟩) ∧ (∀ b o, b < B → w1.frozen? ⟨b, o, none⟩ = W.frozen? ⟨b, o, none⟩) :=
  ⟨fun b o h => hb.cell (p := ⟨b, o, none⟩) h, fun b o h => hb.frozen (p := ⟨b, o, none⟩) h⟩
theorem add_none (b o i : Nat) : (⟨b, o, none⟩ : Addr).add i = ⟨b, o + i, none⟩ := by unfold Addr.add; split <;> simp_all
theorem list_data (l : List UInt8) : (⟨l.toArray⟩ : ByteArray).data.toList = l := by simp
theorem data_list (s : ByteArray) : (⟨s.data.toList.toArray⟩ : ByteArray) = s := by cases s; simp
/-- The four cells of a box, made first, behind whatever leaves it alone. -/
theorem box4 {w wr : World} {x0 x1 x2 x3 : Value} {t : TypeId} (hb : Below (w.heap.size + 1) (w.alloc (.cells #[x0, x1, x2, x3] t)) wr) :
    wr.cell? ⟨w.heap.size, 0, none⟩ = some x0 ∧ wr.cell? ⟨w.heap.size, 1, none⟩ = some x1 ∧ wr.cell? ⟨w.heap.size, 2, none⟩ = some x2 ∧ wr.cell? ⟨w.heap.size, 3, none⟩ = some x3 := by
  refine ⟨?_, ?_, ?_, ?_⟩ <;> (rw [hb.cell (by simp), World.cell?_alloc_at _ _ _ _ rfl]; rfl)
theorem box4_2 {w wr : World} {x0 x1 x2 x3 : Value} {t : TypeId} {o : Obj} (hb : Below (w.heap.size + 2) ((w.alloc (.cells #[x0, x1, x2, x3] t)).alloc o) wr) :
    wr.cell? ⟨w.heap.size, 0, none⟩ = some x0 ∧ wr.cell? ⟨w.heap.size, 1, none⟩ = some x1 ∧ wr.cell? ⟨w.heap.size, 2, none⟩ = some x2 ∧ wr.cell? ⟨w.heap.size, 3, none⟩ = some x3 := by
  refine ⟨?_, ?_, ?_, ?_⟩ <;> (rw [hb.cell (by simp), World.cell?_alloc_past _ _ _ (by simp), World.cell?_alloc_at _ _ _ _ rfl]; rfl)
end Go.Proofs.Ytpmmahlmfcbbbaa
