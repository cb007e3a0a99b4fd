/- Trees of values (kind, number, text, elements), how they read in memory, and that a reading is kept where memory below a block is kept. -/
import Derived.WalkKit
import Derived.Deep.Draws
import Derived.Lib.Hide
namespace Go.Proofs.YtbhpmeljmkoebaaDoor.K
open Go.RowKit

inductive GV where
  | mk (k n : Int) (s : ByteArray) (l : List GV)

namespace GV
def kind : GV → Int | .mk k _ _ _ => k
def num : GV → Int | .mk _ n _ _ => n
def str : GV → ByteArray | .mk _ _ s _ => s
def els : GV → List GV | .mk _ _ _ l => l
end GV

theorem GV.lt_of_mem {k n : Int} {s : ByteArray} {l : List GV} {x : GV} (h : x ∈ l) : SizeOf.sizeOf x < SizeOf.sizeOf (GV.mk k n s l) := by
  have := List.sizeOf_lt_of_mem h
  simp only [GV.mk.sizeOf_spec]
  omega

theorem GV.ind {P : GV → Prop} (h : ∀ k n s l, (∀ x ∈ l, P x) → P (.mk k n s l)) : ∀ v, P v
  | .mk k n s l => h k n s l fun x hx => have _hlt := GV.lt_of_mem (k := k) (n := n) (s := s) hx; GV.ind h x
termination_by v => SizeOf.sizeOf v
decreasing_by exact _hlt

theorem retB {a b : Bool} (h : a = b) : Ending.returned (.bool a) = .returned (.bool b) := by rw [h]
theorem retI {k : IntKind} {a b : Int} (h : a = b) : Ending.returned (.int k a) = .returned (.int k b) := by rw [h]
theorem cast_beq0 (n : Nat) : ((n : Int) == 0) = (n == 0) := by
  cases n with
  | zero => rfl
  | succ n =>
    rw [show (n + 1 == 0) = false from rfl, beq_eq_false_iff_ne]
    omega

/-- Four cells in a row. -/
def Cells4 (w : World) (b o : Nat) (v : Value) : Prop :=
  ∃ x0 x1 x2 x3, v = .agg #[x0, x1, x2, x3] ∧ w.cell? ⟨b, o, none⟩ = some x0 ∧ w.cell? ⟨b, o + 1, none⟩ = some x1 ∧ w.cell? ⟨b, o + 2, none⟩ = some x2 ∧ w.cell? ⟨b, o + 3, none⟩ = some x3

def I64 (n : Int) : Prop := -9223372036854775808 ≤ n ∧ n ≤ 9223372036854775807

/-- The value x reads, in world w, as the tree; all its memory lies below block B. -/
inductive RV (w : World) (B : Nat) : GV → Value → Prop
  | mk (k n : Int) (s : ByteArray) (l : List GV) (a : Option Addr) (cap b off : Nat) (V : Nat → Value)
      (hk : I64 k) (hn : I64 n) (hs : s.size ≤ maxLen) (hcap : l.length ≤ cap) (hmax : cap ≤ maxLen) (hbyte : l.length ≤ 9223372036854775807)
      (ha : 0 < l.length → a = some ⟨b, off, none⟩ ∧ b < B)
      (hV : ∀ i (h : i < l.length), RV w B l[i] (V i))
      (hc : ∀ i, i < l.length → Cells4 w b (off + i * 4) (V i)) :
      RV w B (.mk k n s l) (.agg #[.int .i64 k, .int .i64 n, .string s, .slice a l.length cap])

/-- A slice of trees. -/
def RL (w : World) (B : Nat) (l : List GV) (a : Option Addr) (cap : Nat) : Prop :=
  l.length ≤ cap ∧ cap ≤ maxLen ∧ ∃ (b off : Nat) (V : Nat → Value), (0 < l.length → a = some ⟨b, off, none⟩ ∧ b < B) ∧ (∀ i (h : i < l.length), RV w B l[i] (V i)) ∧ ∀ i, i < l.length → Cells4 w b (off + i * 4) (V i)

theorem Cells4.keep {w w' : World} {b o : Nat} {v : Value} (hk : ∀ o, w'.cell? ⟨b, o, none⟩ = w.cell? ⟨b, o, none⟩) (h : Cells4 w b o v) : Cells4 w' b o v := by
  obtain ⟨x0, x1, x2, x3, e, h0, h1, h2, h3⟩ := h
  exact ⟨x0, x1, x2, x3, e, (hk _).trans h0, (hk _).trans h1, (hk _).trans h2, (hk _).trans h3⟩

theorem RV.keep {w w' : World} {B : Nat} (hk : ∀ b o, b < B → w'.cell? ⟨b, o, none⟩ = w.cell? ⟨b, o, none⟩) {v : GV} {x : Value} (h : RV w B v x) : RV w' B v x := by
  induction h with
  | mk k n s l a cap b off V hk' hn hs hcap hmax hbyte ha hV hc ih =>
    exact RV.mk k n s l a cap b off V hk' hn hs hcap hmax hbyte ha ih fun i hi => (hc i hi).keep fun o => hk b o (ha (by omega)).2

theorem RV.mono {w : World} {B B' : Nat} (hB : B ≤ B') {v : GV} {x : Value} (h : RV w B v x) : RV w B' v x := by
  induction h with
  | mk k n s l a cap b off V hk' hn hs hcap hmax hbyte ha hV hc ih =>
    exact RV.mk k n s l a cap b off V hk' hn hs hcap hmax hbyte (fun h => ⟨(ha h).1, Nat.lt_of_lt_of_le (ha h).2 hB⟩) ih hc

theorem RV.under {w w' : World} {B B' : Nat} (hb : Below B' w w') (hB : B ≤ B') {v : GV} {x : Value} (h : RV w B v x) : RV w' B v x :=
  h.keep fun b o hbB => hb.cell (p := ⟨b, o, none⟩) (Nat.lt_of_lt_of_le hbB hB)

theorem RV.alloc {w : World} {B : Nat} {v : GV} {x : Value} (h : RV w B v x) (hB : B ≤ w.heap.size) (o : Obj) : RV (w.alloc o) B v x :=
  h.keep fun b o' hb => World.cell?_alloc_lt w o ⟨b, o', none⟩ (by simpa using Nat.lt_of_lt_of_le hb hB)

theorem RV.drew {w : World} {B : Nat} {v : GV} {x : Value} (h : RV w B v x) : RV w.drew B v x := RV.keep (w := w) (w' := w.drew) (fun _ _ _ => rfl) h

theorem RL.keep {w w' : World} {B : Nat} (hk : ∀ b o, b < B → w'.cell? ⟨b, o, none⟩ = w.cell? ⟨b, o, none⟩) {l : List GV} {a : Option Addr} {cap : Nat} (h : RL w B l a cap) : RL w' B l a cap := by
  obtain ⟨h1, h2, b, off, V, ha, hV, hc⟩ := h
  exact ⟨h1, h2, b, off, V, ha, fun i hi => (hV i hi).keep hk, fun i hi => (hc i hi).keep fun o => hk b o (ha (by omega)).2⟩
theorem RL.under {w w' : World} {B B' : Nat} (hb : Below B' w w') (hB : B ≤ B') {l : List GV} {a : Option Addr} {cap : Nat} (h : RL w B l a cap) : RL w' B l a cap :=
  h.keep fun b o hbB => hb.cell (p := ⟨b, o, none⟩) (Nat.lt_of_lt_of_le hbB hB)
theorem RL.mono {w : World} {B B' : Nat} (hB : B ≤ B') {l : List GV} {a : Option Addr} {cap : Nat} (h : RL w B l a cap) : RL w B' l a cap := by
  obtain ⟨h1, h2, b, off, V, ha, hV, hc⟩ := h
  exact ⟨h1, h2, b, off, V, fun h => ⟨(ha h).1, Nat.lt_of_lt_of_le (ha h).2 hB⟩, fun i hi => (hV i hi).mono hB, hc⟩

/-- The parts of a reading. -/
theorem RV.parts {w : World} {B : Nat} {v : GV} {x : Value} (h : RV w B v x) :
    ∃ a cap, x = .agg #[.int .i64 v.kind, .int .i64 v.num, .string v.str, .slice a v.els.length cap] ∧ I64 v.kind ∧ I64 v.num ∧ v.str.size ≤ maxLen ∧ v.els.length ≤ 9223372036854775807 ∧ RL w B v.els a cap := by
  cases h with
  | mk k n s l a cap b off V hk' hn hs hcap hmax hbyte ha hV hc => exact ⟨a, cap, rfl, hk', hn, hs, hbyte, hcap, hmax, b, off, V, ha, hV, hc⟩

/-- One element of a slice of trees: where it lies, and how it reads. -/
theorem RL.at_ {w : World} {B : Nat} {l : List GV} {a : Option Addr} {cap i : Nat} (h : RL w B l a cap) (hi : i < l.length) :
    ∃ b off a' c', a = some ⟨b, off, none⟩ ∧ b < B ∧ RV w B l[i] (.agg #[.int .i64 l[i].kind, .int .i64 l[i].num, .string l[i].str, .slice a' l[i].els.length c']) ∧
      w.cell? ⟨b, off + i * 4, none⟩ = some (.int .i64 l[i].kind) ∧ w.cell? ⟨b, off + i * 4 + 1, none⟩ = some (.int .i64 l[i].num) ∧
      w.cell? ⟨b, off + i * 4 + 2, none⟩ = some (.string l[i].str) ∧ w.cell? ⟨b, off + i * 4 + 3, none⟩ = some (.slice a' l[i].els.length c') := by
  obtain ⟨h1, h2, b, off, V, ha, hV, hc⟩ := h
  obtain ⟨e, hb⟩ := ha (by omega)
  have hv := hV i hi
  obtain ⟨a', c', ex, _⟩ := hv.parts
  obtain ⟨x0, x1, x2, x3, e4, c0, c1, c2, c3⟩ := hc i hi
  rw [ex] at e4 hv
  simp only [Value.agg.injEq, Array.mk.injEq, List.cons.injEq, and_true] at e4
  obtain ⟨rfl, rfl, rfl, rfl⟩ := e4
  exact ⟨b, off, a', c', e, hb, hv, c0, c1, c2, c3⟩

theorem RL.of_mem {w : World} {B : Nat} {l : List GV} {a : Option Addr} {cap : Nat} (h : RL w B l a cap) {x : GV} (hx : x ∈ l) : ∃ v, RV w B x v := by
  obtain ⟨i, hi, rfl⟩ := List.getElem_of_mem hx
  obtain ⟨_, _, _, _, _, _, hv, _⟩ := h.at_ hi
  exact ⟨_, hv⟩

theorem dN {B : Nat} {a w : World} (h : Below B a w) (n : Nat) : Below B a (w.drewN n) := ⟨h.os, h.tape, h.output, h.size, h.block⟩

theorem unD {B : Nat} {w w' : World} (h : Below B w.drew w') : Below B w w' := ⟨h.os, h.tape, h.output, h.size, h.block⟩
theorem unDN {B n : Nat} {w w' : World} (h : Below B (w.drewN n) w') : Below B w w' := ⟨h.os, h.tape, h.output, h.size, h.block⟩

/-- The four cells of a box, made first, behind whatever leaves it alone. -/
theorem box4 {w wr : World} {x0 x1 x2 x3 : Value} {t : TypeId} (hb : Below (w.heap.size + 1) (w.alloc (.cells #[x0, x1, x2, x3] t)) wr) :
    wr.cell? ⟨w.heap.size, 0, none⟩ = some x0 ∧ wr.cell? ⟨w.heap.size, 1, none⟩ = some x1 ∧ wr.cell? ⟨w.heap.size, 2, none⟩ = some x2 ∧ wr.cell? ⟨w.heap.size, 3, none⟩ = some x3 := by
  refine ⟨?_, ?_, ?_, ?_⟩ <;> (rw [hb.cell (by simp), World.cell?_alloc_at _ _ _ _ rfl]; rfl)

theorem unbox {w wr : World} {o : Obj} (hb : Below (w.heap.size + 1) (w.alloc o) wr) : Below w.heap.size w wr :=
  ((Below.refl _ _).alloc (Nat.le_refl _) _).trans (hb.mono (Nat.le_succ _))

/-! Sizes -/
mutual
def big : GV → Nat
  | .mk _ _ s l => 1 + s.size + bigAll l
def bigAll : List GV → Nat
  | [] => 0
  | x :: r => big x + bigAll r
end
mutual
def dep : GV → Nat
  | .mk k _ _ l => if k = 3 then 1 + depAll l else 0
def depAll : List GV → Nat
  | [] => 0
  | x :: r => max (dep x) (depAll r)
end
theorem big_pos (x : GV) : 1 ≤ big x := by cases x; simp only [big]; omega
theorem bigAll_mem {l : List GV} {x : GV} (h : x ∈ l) : big x ≤ bigAll l := by
  induction l with
  | nil => cases h
  | cons y r ih =>
    rw [bigAll]
    rcases List.mem_cons.1 h with rfl | h
    · omega
    · have := ih h; omega
theorem bigAll_length (l : List GV) : l.length ≤ bigAll l := by
  induction l with
  | nil => simp
  | cons y r ih => rw [bigAll]; have := big_pos y; simp; omega
theorem big_mem {k n : Int} {s : ByteArray} {l : List GV} {x : GV} (h : x ∈ l) : big x < big (.mk k n s l) := by
  have := bigAll_mem h; rw [big]; omega
theorem dep_le (x : GV) : dep x ≤ big x := by
  induction x using GV.ind with
  | h k n s l ih =>
    have h : depAll l ≤ bigAll l := by
      clear n s k
      induction l with
      | nil => simp [depAll]
      | cons y r ihl =>
        rw [depAll, bigAll]
        have h1 := ih y (by simp)
        have h2 := ihl fun x hx => ih x (by simp [hx])
        omega
    rw [dep, big]
    split <;> omega
theorem depAll_snoc (l : List GV) (x : GV) : depAll (l ++ [x]) = max (depAll l) (dep x) := by
  induction l with
  | nil => simp [depAll]
  | cons y r ih => rw [List.cons_append, depAll, depAll, ih]; omega
theorem depAll_take (l : List GV) (k : Nat) (h : k < l.length) : depAll (l.take (k + 1)) = max (depAll (l.take k)) (dep l[k]) := by
  rw [List.take_succ_eq_append_getElem h, depAll_snoc]
theorem depAll_take_le (l : List GV) (k : Nat) : depAll (l.take k) ≤ depAll l := by
  induction l generalizing k with
  | nil => simp
  | cons y r ih =>
    cases k with
    | zero => simp [depAll]
    | succ k => rw [List.take_succ_cons, depAll, depAll]; have := ih k; omega
theorem bigAll_append (l m : List GV) : bigAll (l ++ m) = bigAll l + bigAll m := by
  induction l with
  | nil => simp [bigAll]
  | cons y r ih => rw [List.cons_append, bigAll, bigAll, ih]; omega
theorem bigAll_snoc (l : List GV) (x : GV) : bigAll (l ++ [x]) = bigAll l + big x := by
  induction l with
  | nil => simp [bigAll]
  | cons y r ih => rw [List.cons_append, bigAll, bigAll, ih]; omega
theorem bigAll_take (l : List GV) (k : Nat) (h : k < l.length) : bigAll (l.take (k + 1)) = bigAll (l.take k) + big l[k] := by
  rw [List.take_succ_eq_append_getElem h, bigAll_snoc]
theorem bigAll_drop (l : List GV) (k : Nat) (h : k < l.length) : bigAll (l.drop k) = big l[k] + bigAll (l.drop (k + 1)) := by
  rw [List.drop_eq_getElem_cons h, bigAll]
theorem depAll_le (l : List GV) : depAll l ≤ bigAll l := by
  have h := dep_le (.mk 3 0 .empty l)
  rw [dep, big] at h
  have : ByteArray.empty.size = 0 := rfl
  simp only [if_true] at h
  omega

/-- Cells and marks below a block, as rules for a walk. -/
theorem bcell {B : Nat} {W w1 : World} (hb : Below B W w1) : (∀ b o, b < B → w1.cell? ⟨b, o, none⟩ = W.cell? ⟨b, o, none⟩) ∧ (∀ b o, b < B → w1.frozen? ⟨b, o, none⟩ = W.frozen? ⟨b, o, none⟩) :=
  ⟨fun b o h => hb.cell (p := ⟨b, o, none⟩) h, fun b o h => hb.frozen (p := ⟨b, o, none⟩) h⟩
end Go.Proofs.YtbhpmeljmkoebaaDoor.K
