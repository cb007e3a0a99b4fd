/- sane: what the examples give, plainly. -/
import Derived.Test.YtalkbccofiiojaaWr
import Derived.Test.YtalkbccofiiojaaNx
import Derived.Test.YtalkbccofiiojaaRe
import Derived.Test.YtalkbccofiiojaaDb
import Derived.Test.YtalkbccofiiojaaRj
namespace Go.Proofs.Ytalkbccofiiojaa
open Go.RowKit

def kA : Dk := ⟨[zero128, zero128], [], -1, false⟩
def kB : Dk := ⟨[zero128, zero128], [⟨1, pad [7]⟩], -1, false⟩
def kC : Dk := ⟨[zero128, zero128], [⟨1, pad [7]⟩], 1, false⟩
def kE : Dk := ⟨[zero128, zero128], [⟨1, pad [7]⟩, ⟨0, pad (dbl 8)⟩], 1, false⟩
def half8 : List UInt8 := (pad (dbl 8)).take 64 ++ zero128.drop 64
def kX : Dk := ⟨[half8, pad [7]], [], 0, true⟩
theorem p0 : newD 0 = (zeroDk, 1) := by kernel_rfl
theorem p1 : newD 2 = (kA, 0) := by kernel_rfl
theorem p2 : writeD kA 1 [7] = (kB, 0) := by kernel_rfl
theorem p3 : (runB kB && hasB kB 1) = true := by kernel_rfl
theorem p3' : readL kB 1 = pad [7] := by kernel_rfl
theorem p4 : (runB kA && hasB kA 2) = false := by kernel_rfl
theorem p5 : writeD kA 0 (List.replicate 129 0) = (zeroDk, 1) := by kernel_rfl
theorem p6 : stopD kB 1 = (kC, 0) := by kernel_rfl
theorem p7 : writeD kC 0 (dbl 8) = (kE, 0) := by kernel_rfl
theorem p8 : syncD kE = (kX, 40) := by kernel_rfl
theorem p9 : (runB (restD kX) && hasB (restD kX) 1) = true := by kernel_rfl
theorem p9' : readL (restD kX) 1 = pad [7] := by kernel_rfl
theorem p10 : (runB (restD kX) && hasB (restD kX) 0) = true := by kernel_rfl
theorem p10' : readL (restD kX) 0 = half8 := by kernel_rfl
theorem p11 : (runB (restD kB) && hasB (restD kB) 1) = true := by kernel_rfl
theorem p11' : readL (restD kB) 1 = zero128 := by kernel_rfl
theorem p12 : chk zeroDk = 40 := by kernel_rfl

theorem ReadPost.yes {d : Dk} {a : Int} {w w' : World} {e : Ending} {l : List UInt8} (p : ReadPost d a w e w') (h : (runB d && hasB d a) = true) (hl : readL d a = l) :
    ∃ g, e = .returned (.tuple #[.slice (some ⟨g, 0, none⟩) 128 128, .int .i64 0]) ∧ w.heap.size ≤ g ∧ DB w' g l ∧ Below w.heap.size w w' := by
  obtain ⟨hb, h'⟩ := p
  rw [h] at h'
  obtain ⟨g, h1, h2, h3⟩ := h'
  exact ⟨g, h1, h2, hl ▸ h3, hb⟩
theorem ReadPost.no {d : Dk} {a : Int} {w w' : World} {e : Ending} (p : ReadPost d a w e w') (h : (runB d && hasB d a) = false) :
    e = .returned (.tuple #[.slice none 0 0, .int .i64 40]) ∧ Below w.heap.size w w' := by
  obtain ⟨hb, h'⟩ := p
  rw [h] at h'
  exact ⟨h', hb⟩
/-- A box that holds a disk. -/
def KB (w : World) (b : Nat) (A : Option Addr) (c : Nat) (A' : Option Addr) (c' : Nat) (d : Dk) : Prop := w.heap[b]? = some (.cells #[.slice A d.secs.length c, .slice A' d.pend.length c', .int .i64 d.left, .bool d.stop] 25 (0, 0))
theorem KB.lt {w : World} {b : Nat} {A A' : Option Addr} {c c' : Nat} {d : Dk} (h : KB w b A c A' c' d) : b < w.heap.size := (Array.getElem?_eq_some_iff.1 h).1
theorem KB.step {w w' : World} {b : Nat} {A A' : Option Addr} {c c' : Nat} {d : Dk} (h : KB w b A c A' c' d) (hb : Below w.heap.size w w') : KB w' b A c A' c' d := blk_step h hb
theorem KB.new (w : World) (A A' : Option Addr) (c c' : Nat) (d : Dk) : KB (w.alloc (.cells #[.slice A d.secs.length c, .slice A' d.pend.length c', .int .i64 d.left, .bool d.stop] 25)) w.heap.size A c A' c' d := heap_alloc_new w _
theorem KB.cells {w : World} {b : Nat} {A A' : Option Addr} {c c' : Nat} {d : Dk} (h : KB w b A c A' c' d) : w.cell? ⟨b, 0, none⟩ = some (.slice A d.secs.length c) ∧ w.cell? ⟨b, 1, none⟩ = some (.slice A' d.pend.length c') ∧ w.cell? ⟨b, 2, none⟩ = some (.int .i64 d.left) ∧ w.cell? ⟨b, 3, none⟩ = some (.bool d.stop) :=
  ⟨cell_of_row w b 0 _ _ _ h, cell_of_row w b 1 _ _ _ h, cell_of_row w b 2 _ _ _ h, cell_of_row w b 3 _ _ _ h⟩
theorem KB.fz {w : World} {b : Nat} {A A' : Option Addr} {c c' : Nat} {d : Dk} (h : KB w b A c A' c' d) (i : Nat) : w.frozen? ⟨b, i, none⟩ = false := frozen_of_row w b i _ _ h
theorem KB.other {w w' : World} {b x : Nat} {A A' : Option Addr} {c c' : Nat} {d : Dk} (h : KB w b A c A' c' d) (hg : w.grownBy w' (some x)) (hne : b ≠ x) : KB w' b A c A' c' d := (hg.block b h.lt (fun e => hne (by injection e))).trans h
theorem DB.step {w w' : World} {g : Nat} {l : List UInt8} (h : DB w g l) (hb : Below w.heap.size w w') : DB w' g l := h.below hb h.lt
theorem DB.other {w w' : World} {g x : Nat} {l : List UInt8} (h : DB w g l) (hg : w.grownBy w' (some x)) (hne : g ≠ x) : DB w' g l := (hg.block g h.lt (fun e => hne (by injection e))).trans h
/-- Onward. -/
theorem bgo {B : Nat} {w w1 w2 : World} (h : Below B w w1) (hB : B ≤ w1.heap.size) (o : Obj) (k : Below (w1.alloc o).heap.size (w1.alloc o) w2) : Below B w w2 := (h.alloc hB o).trans (k.mono (by simp; omega))
theorem bon {w1 w2 : World} (o : Obj) (k : Below (w1.alloc o).heap.size (w1.alloc o) w2) : Below w1.heap.size w1 w2 := (bnew w1 o).trans (k.mono (by simp))
theorem grown4 (W : World) (g : Nat) (a b c e : Value) : W.grownBy ((((W.setCell ⟨g, 0, none⟩ a).setCell ⟨g, 1, none⟩ b).setCell ⟨g, 2, none⟩ c).setCell ⟨g, 3, none⟩ e) (some g) :=
  ⟨rfl, rfl, rfl, by simp, fun k _ hk => by
    have hne : k ≠ g := fun e => hk (by rw [e])
    rw [heap_setCell_other _ _ _ _ hne, heap_setCell_other _ _ _ _ hne, heap_setCell_other _ _ _ _ hne, heap_setCell_other _ _ _ _ hne]⟩
/-- Some box of a disk. -/
def IsBox (W : World) (b : Nat) : Prop := ∃ x0 x1 x2 x3, W.heap[b]? = some (.cells #[x0, x1, x2, x3] 25 (0, 0))
theorem IsBox.keep {W W' : World} {g : Nat} (h : IsBox W g) (hb : ∀ b, b < W.heap.size → W'.heap[b]? = W.heap[b]? ∨ (IsBox W b ∧ IsBox W' b)) : IsBox W' g := by
  obtain ⟨x0, x1, x2, x3, h1⟩ := h
  rcases hb g (Array.getElem?_eq_some_iff.1 h1).1 with h2 | h2
  · exact ⟨x0, x1, x2, x3, h2.trans h1⟩
  · exact h2.2
theorem DB.unboxed {W W' : World} {g : Nat} {l : List UInt8} (h : DB W g l) (hb : ∀ b, b < W.heap.size → W'.heap[b]? = W.heap[b]? ∨ (IsBox W b ∧ IsBox W' b)) : DB W' g l := by
  rcases hb g h.lt with h2 | ⟨⟨x0, x1, x2, x3, h3⟩, -⟩
  · exact h2.trans h
  · rw [show W.heap[g]? = _ from h] at h3
    injection h3 with h3
    injection h3 with _ h4 _
    exact absurd h4 (by decide)
theorem make129 (W : World) : (Instr.makeSlice 35 (.int .i64 129) (.int .i64 129)).run Try.prog W = .ok (.slice (some ⟨W.heap.size, 0, none⟩) 129 129) (W.alloc (.cells (BV (List.replicate 129 0)).toArray 5)) := by
  obtain ⟨i0, hi0, hz0, hz1, hz2⟩ := info_parts Try.info8
  have h := run_make (P := Try.prog) W 35 5 i0 (.int .u8 0) Try.underlying35 hi0 hz0 .i64 .i64 129 129 (by omega) (by omega) (by rw [hz2]; omega) (by omega)
  rw [hz1, show (Value.int .u8 0).cells = #[.int .u8 0] from rfl, show (Int.toNat 129) * 1 = 129 from rfl, made_bytes] at h
  exact h
end Go.Proofs.Ytalkbccofiiojaa
