/- weight: the value of the polynomial that is 1 at one point and 0 at the others. (Written by genfh.py.) -/
import Derived.Test.YtfblkkdoijfpfaaFg
import Derived.Test.YtfblkkdoijfpfaaSo
namespace Go.Proofs.Ytfblkkdoijfpfaa
open Go.RowKit Go.Shelf

/-- The product of the first k differences to the others. -/
def abF (l : List (Int × Int)) (i : Nat) (t : Int) : Nat → Int
  | 0 => 1
  | k + 1 => mulF (abF l i t k) (subF t (l.getD (oth i k) (0, 0)).1)
def wtF (l : List (Int × Int)) (i : Nat) (t : Int) : Int := mulF (abF l i t (l.length - 1)) (invV (abF l i (l.getD i (0, 0)).1 (l.length - 1)))
/-- The boxes of the function. -/
structure WB (w : World) (sl : Value) (i : Nat) (t u v : Int) (W : World) : Prop where
  b0 : W.heap[w.heap.size]? = some (.cells #[sl] 31 (0, 0))
  b1 : W.heap[w.heap.size + 1]? = some (.cells #[.int .i64 (i : Int)] 3 (0, 0))
  b2 : W.heap[w.heap.size + 1 + 1]? = some (.cells #[.int .i64 t] 3 (0, 0))
  b3 : W.heap[w.heap.size + 1 + 1 + 1]? = some (.cells #[.int .i64 u] 3 (0, 0))
  b4 : W.heap[w.heap.size + 1 + 1 + 1 + 1]? = some (.cells #[.int .i64 v] 3 (0, 0))
  bel : Below w.heap.size w W
  sz : w.heap.size + 7 ≤ W.heap.size
theorem WB.step {w : World} {sl : Value} {i : Nat} {t u v : Int} {W W' : World} (h : WB w sl i t u v W) (hb : Below W.heap.size W W') : WB w sl i t u v W' :=
  ⟨blk_at h.b0 hb, blk_at h.b1 hb, blk_at h.b2 hb, blk_at h.b3 hb, blk_at h.b4 hb, h.bel.trans (hb.mono h.bel.size), Nat.le_trans h.sz hb.size⟩
theorem WB.up {w : World} {sl : Value} {i : Nat} {t u v : Int} {W : World} (h : WB w sl i t u v W) (x : Int) : WB w sl i t x v (W.setCell ⟨w.heap.size + 1 + 1 + 1, 0, none⟩ (.int .i64 x)) :=
  ⟨(setOther 0 (by omega)).trans h.b0, (setOther 0 (by omega)).trans h.b1, (setOther 0 (by omega)).trans h.b2, setOne h.b3, (setOther 0 (by omega)).trans h.b4, h.bel.setCell (p := ⟨w.heap.size + 1 + 1 + 1, 0, none⟩) (by simp; omega) _, by simp; exact h.sz⟩
theorem WB.vp {w : World} {sl : Value} {i : Nat} {t u v : Int} {W : World} (h : WB w sl i t u v W) (x : Int) : WB w sl i t u x (W.setCell ⟨w.heap.size + 1 + 1 + 1 + 1, 0, none⟩ (.int .i64 x)) :=
  ⟨(setOther 0 (by omega)).trans h.b0, (setOther 0 (by omega)).trans h.b1, (setOther 0 (by omega)).trans h.b2, (setOther 0 (by omega)).trans h.b3, setOne h.b4, h.bel.setCell (p := ⟨w.heap.size + 1 + 1 + 1 + 1, 0, none⟩) (by simp; omega) _, by simp; exact h.sz⟩
theorem WB.own {w : World} {sl : Value} {i B : Nat} {t : Int} (u v : Nat → Int) (hB : w.heap.size ≤ B) : OwnFrom B (fun k W => WB w sl i t (u k) (v k) W) := fun k X Y row hs hg hr => by
  have hne : ∀ {g : Nat} {cs : Array Value} {ty : TypeId}, X.heap[g]? = some (.cells cs ty (0, 0)) → Y.heap[g]? = some (.cells cs ty (0, 0)) := fun {g cs ty} h => cellsOwn (β := Unit) g (fun _ => cs) ty () X Y row h hg (fun r e => (hr r e).2)
  exact ⟨hne hs.b0, hne hs.b1, hne hs.b2, hne hs.b3, hne hs.b4, (ownFrom_below (Nat.le_refl _) hB) () X Y row hs.bel hg hr, Nat.le_trans hs.sz hg.size⟩
/-- The box of a round's point. -/
def PtAx (l : List (Int × Int)) (i lo : Nat) (f : Nat → Nat → Array Value) (k : Nat) (a' : Act) (W : World) : Prop :=
  ∃ Bx, lo ≤ Bx ∧ W.heap[Bx]? = some (.cells #[.int .i64 (l.getD (oth i k) (0, 0)).1, .int .i64 (l.getD (oth i k) (0, 0)).2] 35 (0, 0)) ∧ a' = { tmps := f k Bx, defers := [] }
theorem ptAx_own {l : List (Int × Int)} {i lo B : Nat} {f : Nat → Nat → Array Value} (k : Nat) (a' : Act) : OwnFrom B (fun (_ : Unit) W => PtAx l i lo f k a' W) := fun _ X Y row hs hg hr => by
  obtain ⟨Bx, e1, e2, e3⟩ := hs
  exact ⟨Bx, e1, cellsOwn (β := Unit) _ (fun _ => _) _ () X Y row e2 hg (fun r e => (hr r e).2), e3⟩

theorem dN {B : Nat} {a w : World} (h : Below B a w) (n : Nat) : Below B a (w.drewN n) := ⟨h.os, h.tape, h.output, h.size, h.block⟩
theorem seven (w : World) (o0 o1 o2 o3 o4 o5 o6 : Obj) : (((((((w.alloc o0).alloc o1).alloc o2).alloc o3).alloc o4).alloc o5).alloc o6).heap[w.heap.size]? = some o0 ∧ (((((((w.alloc o0).alloc o1).alloc o2).alloc o3).alloc o4).alloc o5).alloc o6).heap[w.heap.size + 1]? = some o1 ∧
    (((((((w.alloc o0).alloc o1).alloc o2).alloc o3).alloc o4).alloc o5).alloc o6).heap[w.heap.size + 1 + 1]? = some o2 ∧ (((((((w.alloc o0).alloc o1).alloc o2).alloc o3).alloc o4).alloc o5).alloc o6).heap[w.heap.size + 1 + 1 + 1]? = some o3 ∧
    (((((((w.alloc o0).alloc o1).alloc o2).alloc o3).alloc o4).alloc o5).alloc o6).heap[w.heap.size + 1 + 1 + 1 + 1]? = some o4 ∧ (((((((w.alloc o0).alloc o1).alloc o2).alloc o3).alloc o4).alloc o5).alloc o6).heap[w.heap.size + 1 + 1 + 1 + 1 + 1]? = some o5 ∧
    (((((((w.alloc o0).alloc o1).alloc o2).alloc o3).alloc o4).alloc o5).alloc o6).heap[w.heap.size + 1 + 1 + 1 + 1 + 1 + 1]? = some o6 ∧ Below w.heap.size w (((((((w.alloc o0).alloc o1).alloc o2).alloc o3).alloc o4).alloc o5).alloc o6) ∧ (((((((w.alloc o0).alloc o1).alloc o2).alloc o3).alloc o4).alloc o5).alloc o6).heap.size = w.heap.size + 7 := by
  obtain ⟨w1, e1⟩ : ∃ x, w.alloc o0 = x := ⟨_, rfl⟩
  rw [e1]
  obtain ⟨w2, e2⟩ : ∃ x, w1.alloc o1 = x := ⟨_, rfl⟩
  rw [e2]
  obtain ⟨w3, e3⟩ : ∃ x, w2.alloc o2 = x := ⟨_, rfl⟩
  rw [e3]
  obtain ⟨w4, e4⟩ : ∃ x, w3.alloc o3 = x := ⟨_, rfl⟩
  rw [e4]
  obtain ⟨w5, e5⟩ : ∃ x, w4.alloc o4 = x := ⟨_, rfl⟩
  rw [e5]
  obtain ⟨w6, e6⟩ : ∃ x, w5.alloc o5 = x := ⟨_, rfl⟩
  rw [e6]
  obtain ⟨w7, e7⟩ : ∃ x, w6.alloc o6 = x := ⟨_, rfl⟩
  rw [e7]
  have b1 : Below w.heap.size w w1 := e1 ▸ bel1 w o0
  have b2 : Below w1.heap.size w1 w2 := e2 ▸ bel1 w1 o1
  have b3 : Below w2.heap.size w2 w3 := e3 ▸ bel1 w2 o2
  have b4 : Below w3.heap.size w3 w4 := e4 ▸ bel1 w3 o3
  have b5 : Below w4.heap.size w4 w5 := e5 ▸ bel1 w4 o4
  have b6 : Below w5.heap.size w5 w6 := e6 ▸ bel1 w5 o5
  have b7 : Below w6.heap.size w6 w7 := e7 ▸ bel1 w6 o6
  have s1 : w1.heap.size = w.heap.size + 1 := by rw [← e1]; simp
  have s2 : w2.heap.size = w.heap.size + 1 + 1 := by rw [← e2, ← s1]; simp
  have s3 : w3.heap.size = w.heap.size + 1 + 1 + 1 := by rw [← e3, ← s2]; simp
  have s4 : w4.heap.size = w.heap.size + 1 + 1 + 1 + 1 := by rw [← e4, ← s3]; simp
  have s5 : w5.heap.size = w.heap.size + 1 + 1 + 1 + 1 + 1 := by rw [← e5, ← s4]; simp
  have s6 : w6.heap.size = w.heap.size + 1 + 1 + 1 + 1 + 1 + 1 := by rw [← e6, ← s5]; simp
  have s7 : w7.heap.size = w.heap.size + 7 := by rw [← e7]; simp [s6]
  have n1 : w1.heap[w.heap.size]? = some o0 := e1 ▸ heap_alloc_new w o0
  have n2 : w2.heap[w1.heap.size]? = some o1 := e2 ▸ heap_alloc_new w1 o1
  have n3 : w3.heap[w2.heap.size]? = some o2 := e3 ▸ heap_alloc_new w2 o2
  have n4 : w4.heap[w3.heap.size]? = some o3 := e4 ▸ heap_alloc_new w3 o3
  have n5 : w5.heap[w4.heap.size]? = some o4 := e5 ▸ heap_alloc_new w4 o4
  have n6 : w6.heap[w5.heap.size]? = some o5 := e6 ▸ heap_alloc_new w5 o5
  have n7 : w7.heap[w6.heap.size]? = some o6 := e7 ▸ heap_alloc_new w6 o6
  rw [s1] at n2
  rw [s2] at n3
  rw [s3] at n4
  rw [s4] at n5
  rw [s5] at n6
  rw [s6] at n7
  refine ⟨blk_at (blk_at (blk_at (blk_at (blk_at (blk_at n1 b2) b3) b4) b5) b6) b7, blk_at (blk_at (blk_at (blk_at (blk_at n2 b3) b4) b5) b6) b7, blk_at (blk_at (blk_at (blk_at n3 b4) b5) b6) b7, blk_at (blk_at (blk_at n4 b5) b6) b7, blk_at (blk_at n5 b6) b7, blk_at n6 b7, n7, ?_, s7⟩
  exact (((((b1.trans (b2.mono (by omega))).trans (b3.mono (by omega))).trans (b4.mono (by omega))).trans (b5.mono (by omega))).trans (b6.mono (by omega))).trans (b7.mono (by omega))
theorem Kx.mono {B B' : Nat} {E : Nat → Prop} {W W' : World} (h : Kx B E W W') (hb : B' ≤ B) : Kx B' E W W' := ⟨h.1, fun b h1 h2 => h.2 b (by omega) h2⟩
/-- All blocks of V but two boxes of the call stay. -/
def Fr2 (w V W : World) : Prop := KeepsOthers V W ∧ Kx V.heap.size (fun g => g = w.heap.size + 1 + 1 + 1 ∨ g = w.heap.size + 1 + 1 + 1 + 1) V W
theorem Fr2.one {w V W : World} {v : Value} (h : Below V.heap.size V W) : Fr2 w V (W.setCell ⟨w.heap.size + 1 + 1 + 1, 0, none⟩ v) :=
  ⟨(keepsBel h).trans (KeepsOthers.setCell _ _ _), (Kx.below h).trans (Kx.set _ _ _ _ (.inl rfl))⟩
theorem Fr2.two {w V W : World} {v : Value} (h : Below V.heap.size V W) : Fr2 w V (W.setCell ⟨w.heap.size + 1 + 1 + 1 + 1, 0, none⟩ v) :=
  ⟨(keepsBel h).trans (KeepsOthers.setCell _ _ _), (Kx.below h).trans (Kx.set _ _ _ _ (.inr rfl))⟩
theorem Fr2.trans {w X Y Z : World} (h : Fr2 w X Y) (h' : Fr2 w Y Z) : Fr2 w X Z := ⟨h.1.trans h'.1, h.2.trans (h'.2.mono h.2.1)⟩

attribute [local go_sem] Oper.semAt_some
set_option maxRecDepth 100000 in
set_option maxHeartbeats 2000000 in
theorem weight_any (l : List (Int × Int)) (ix : Nat) (hi : ix < l.length) (hm : l.length ≤ 1000000) (t : Int) (ht : I64 t) (w : World) (a : Option Addr) (cap : Nat) (hR : PR w (· < w.heap.size) a l) :
    Calls Try.prog 24 #[.slice a l.length cap, .int .i64 (ix : Int), .int .i64 t] w fun e w' => e = .returned (.int .i64 (wtF l ix t)) ∧ Below w.heap.size w w' := by
  refine (callsIn_wide (n := 6)).1 ?_
  have hro : Fence.wide.round = none := rfl
  refine callsIn_of_wp_marks Try.func24 rfl trivial ?_ hro
  simp only [Try.ntmps24, List.size_toArray, List.length_cons, List.length_nil, Nat.reduceAdd, Nat.reduceSub, Array.replicate_succ, Array.replicate_zero, List.push_toArray, List.append_toArray, List.nil_append, List.cons_append]
  gi_wp2_with (refine ⟨trivial, ?_⟩; gi_at_call 26; refine (callsIn_wide.2 (others_any _ _ _ _ _)).mono ?_)
  rintro e w3 ⟨rfl, rfl⟩
  gi_wp2
  obtain ⟨k0, k1, k2, k3, k4, k5, k6, hB, hs⟩ := seven w (.cells #[.slice a l.length cap] 31) (.cells #[.int .i64 (ix : Int)] 3) (.cells #[.int .i64 t] 3) (.cells #[.int .i64 1] 3) (.cells #[.int .i64 1] 3) (.cells #[.slice a l.length cap] 31) (.cells #[.int .i64 (ix : Int)] 3)
  generalize ((((((w.alloc (.cells #[.slice a l.length cap] 31)).alloc (.cells #[.int .i64 (ix : Int)] 3)).alloc (.cells #[.int .i64 t] 3)).alloc (.cells #[.int .i64 1] 3)).alloc (.cells #[.int .i64 1] 3)).alloc (.cells #[.slice a l.length cap] 31)).alloc (.cells #[.int .i64 (ix : Int)] 3) = W0 at k0 k1 k2 k3 k4 k5 k6 hB hs ⊢
  obtain ⟨b, off, ha, hbB, hb0, -, hxi, -⟩ := hR.at_ hi
  subst ha
  have hgi : (l.getD ix (0, 0)).1 = l[ix].1 := by simp [List.getD, hi]
  have hwt := Lib.hid (show wtF l ix t = mulF (abF l ix t (l.length - 1)) (invV (abF l ix l[ix].1 (l.length - 1))) by unfold wtF; rw [hgi])
  clear hgi
  generalize l[ix].1 = xi at *
  replace hxi := Lib.hid hxi
  replace ht := Lib.hid ht
  replace hwt := hwt
  have i0 : (0 : Int) ≤ ix := by omega
  have i1 : (ix : Int) < l.length := by omega
  have hR' := Lib.hid hR
  refine wpIn_rangeFunc_at hro (by omega) (gf := 29) (lb := #[.pointer (some ⟨w.heap.size + 1 + 1 + 1 + 1 + 1, 0, none⟩), .pointer (some ⟨w.heap.size + 1 + 1 + 1 + 1 + 1 + 1, 0, none⟩)]) rfl trivial (enters_of Try.func29 (by kernel_rfl) rfl)
    (others_gives Fence.wide _ trivial hro (by omega) (w.heap.size + 1 + 1 + 1 + 1 + 1) (w.heap.size + 1 + 1 + 1 + 1 + 1 + 1) l ix hi hm (some ⟨b, off, none⟩) cap W0 (fun g => g = w.heap.size + 1 + 1 + 1 ∨ g = w.heap.size + 1 + 1 + 1 + 1) (by omega) (by omega) (by omega) (by omega) ((hR.keep (Kept.below hB)).mono (fun g hg => by omega)) (cellAt (i := 0) k5 rfl) (cellAt (i := 0) k6 rfl))
    Kx.trans (fun W g o o' hi _ _ _ => Kx.put W g o' hi) (Below.refl _ _) (fun _ _ => rfl)
    (fun k W => WB w (.slice (some ⟨b, off, none⟩) l.length cap) ix t (abF l ix t k) (abF l ix xi k) W) (fun _ _ _ => False)
    (WB.own (abF l ix t) (abF l ix xi) (by omega))
    (fun _ _ _ _ _ hs _ _ => hs) ⟨k0, k1, k2, k3, k4, hB, by omega⟩
    (PtAx l ix (w.heap.size + 7) (fun k Bx => #[.slice (some ⟨b, off, none⟩) l.length cap, .int .i64 (ix : Int), .int .i64 t, .pointer (some ⟨w.heap.size, 0, none⟩), .pointer (some ⟨w.heap.size + 1, 0, none⟩), .pointer (some ⟨w.heap.size + 1 + 1, 0, none⟩), .int .i64 0, .pointer (some ⟨w.heap.size + 1 + 1 + 1, 0, none⟩), .pointer (some ⟨w.heap.size + 1 + 1 + 1 + 1, 0, none⟩), .pointer (some ⟨Bx, 0, none⟩), undef, undef, .slice (some ⟨b, off, none⟩) l.length cap, .int .i64 (ix : Int), .func (.func 29) #[] #[.pointer (some ⟨w.heap.size + 1 + 1 + 1 + 1 + 1, 0, none⟩), .pointer (some ⟨w.heap.size + 1 + 1 + 1 + 1 + 1 + 1, 0, none⟩)], .agg #[.int .i64 (l.getD (oth ix k) (0, 0)).1, .int .i64 (l.getD (oth ix k) (0, 0)).2], undef, undef, undef, undef, undef, undef, undef, undef, undef, undef, undef, undef, undef, undef, undef, undef, undef, undef, undef, undef, undef, undef, undef, undef]))
    (fun k a' => ptAx_own k a') ?assign ?body ?done ?stop
  case assign =>
    rintro lf k W K hk hI hK
    unfold othV
    gi_wp2
    exact hK _ _ ((KeepsOthers.alloc _ _).from _) (Kx.below ((bel1 _ _).mono (by have := hI.sz; omega))) (hI.step (bel1 _ _)) ⟨W.heap.size, hI.sz, heap_alloc_new W _, rfl⟩
  case body =>
    rintro lf k a' V hlf - hk hI ⟨Bx, hBx, bX, rfl⟩
    have hx := Lib.hid (show abF l ix t (k + 1) = mulF (abF l ix t k) (subF t (l.getD (oth ix k) (0, 0)).1) ∧ abF l ix xi (k + 1) = mulF (abF l ix xi k) (subF xi (l.getD (oth ix k) (0, 0)).1) from ⟨rfl, rfl⟩)
    have hbw : b < V.heap.size := Nat.lt_of_lt_of_le hbB hI.bel.size
    have hA : Hid (∀ W, Below V.heap.size V W → W.cell? ⟨b, off + ix * 2, none⟩ = some (.int .i64 xi)) := fun W hW => (hW.cell (p := ⟨b, off + ix * 2, none⟩) hbw).trans ((hI.bel.cell (p := ⟨b, off + ix * 2, none⟩) hbB).trans hb0)
    have hX : Hid (∀ W, Below V.heap.size V W → W.cell? ⟨Bx, 0, none⟩ = some (.int .i64 (l.getD (oth ix k) (0, 0)).1)) := fun W hW => cellAt (i := 0) (blk_at bX hW) rfl
    have hbxl := (Array.getElem?_eq_some_iff.1 bX).1
    generalize (l.getD (oth ix k) (0, 0)).1 = x at *
    generalize (l.getD (oth ix k) (0, 0)).2 = y at *
    generalize abF l ix t k = u at *
    generalize abF l ix xi k = vv at *
    have hC : Hid (∀ W, Below V.heap.size V W → WB w (.slice (some ⟨b, off, none⟩) l.length cap) ix t u vv W) := fun W hW => hI.step hW
    have hbB' := Lib.hid hbB
    have hsz := Lib.hid hI.sz
    have hb0' := Lib.hid hb0
    have hBw := Lib.hid hI.bel
    clear hI k0 k1 k2 k3 k4 k5 k6 hb0
    gi_wp2
    refine wpIn_region_pre lf _ ?_ (by kernel_rfl) 6 1 (fun W => Below V.heap.size V W) (fun W W' => Below W.heap.size W W')
      (fun i v W => match i with
        | 0 => v = .int .i64 u
        | 1 => v = .int .i64 t
        | 2 => v = .pointer (some ⟨Bx, 0, none⟩)
        | 3 => v = .int .i64 x
        | 4 => v = .int .i64 (subF t x)
        | 5 => v = .int .i64 (mulF u (subF t x))
        | _ => True) (fun _ => false)
      (by kernel_rfl) (by kernel_rfl) (by kernel_rfl) (by kernel_rfl) (by kernel_rfl) (by kernel_rfl) (by kernel_rfl) ?_ (fun _ _ h => h.size) (dN (Below.refl _ _) 1) ?_ ?_
    · rintro ⟨_, _, h⟩; exact h
    · intro i v W W' hb hF
      match i, hF with
      | 0, h => exact h
      | 1, h => exact h
      | 2, h => exact h
      | 3, h => exact h
      | 4, h => exact h
      | 5, h => exact h
      | _ + 6, _ => trivial
    · refine ⟨?_, ?_, ?_, ?_, ?_, ?_, trivial⟩
      · refine stepJ_any rfl fun ac W hAA hG hDD K hK => ?_
        have h7 := hAA.getD (t := 7) (by kernel_rfl)
        simp only [Array.getD_eq_getD_getElem?] at h7
        have k0 := cellAt (i := 0) (hC.out W hG).b3 rfl
        rw [if_pos (by rfl)]
        exact wp_val (v := .int .i64 u) (w' := W) (by simp [execOp, Act.eval, h7, go_sem, k0]) (hK _ _ hG (Below.refl _ _) rfl (fun h => by cases h))
      · refine stepJ_any rfl fun ac W hAA hG hDD K hK => ?_
        have h5 := hAA.getD (t := 5) (by kernel_rfl)
        simp only [Array.getD_eq_getD_getElem?] at h5
        have k0 := cellAt (i := 0) (hC.out W hG).b2 rfl
        rw [if_pos (by rfl)]
        exact wp_val (v := .int .i64 t) (w' := W) (by simp [execOp, Act.eval, h5, go_sem, k0]) (hK _ _ hG (Below.refl _ _) rfl (fun h => by cases h))
      · refine stepJ_any rfl fun ac W hAA hG hDD K hK => ?_
        have h9 := hAA.getD (t := 9) (by kernel_rfl)
        simp only [Array.getD_eq_getD_getElem?] at h9
        rw [if_pos (by rfl)]
        exact wp_val (v := .pointer (some ⟨Bx, 0, none⟩)) (w' := W) (by simp [execOp, Act.eval, h9, go_sem]) (hK _ _ hG (Below.refl _ _) rfl (fun h => by cases h))
      · refine stepJ_any rfl fun ac W hAA hG hDD K hK => ?_
        have h18 := hDD.get 2 18 _ rfl rfl (by kernel_rfl)
        simp only [Array.getD_eq_getD_getElem?] at h18
        have k0 := hX.out W hG
        rw [if_pos (by rfl)]
        exact wp_val (v := .int .i64 x) (w' := W) (by simp [execOp, Act.eval, h18, go_sem, k0]) (hK _ _ hG (Below.refl _ _) rfl (fun h => by cases h))
      · refine stepJ_any rfl fun ac W hAA hG hDD K hK => ?_
        have h17 := hDD.get 1 17 _ rfl rfl (by kernel_rfl)
        have h19 := hDD.get 3 19 _ rfl rfl (by kernel_rfl)
        simp only [Array.getD_eq_getD_getElem?] at h17 h19
        rw [if_pos (by rfl)]
        refine wp_call (f := 27) (args := #[.int .i64 t, .int .i64 x]) (by simp [execOp, Act.eval, h17, h19, go_sem]) ((minus_any t x ht.out W).mono fun e W9 he => ?_)
        obtain ⟨rfl, hbw⟩ := he
        exact hK _ _ (hG.trans (hbw.mono hG.size)) hbw rfl (fun h => by cases h)
      · refine stepJ_any rfl fun ac W hAA hG hDD K hK => ?_
        have h16 := hDD.get 0 16 _ rfl rfl (by kernel_rfl)
        have h20 := hDD.get 4 20 _ rfl rfl (by kernel_rfl)
        simp only [Array.getD_eq_getD_getElem?] at h16 h20
        rw [if_pos (by rfl)]
        refine wp_call (f := 14) (args := #[.int .i64 u, .int .i64 (subF t x)]) (by simp [execOp, Act.eval, h16, h20, go_sem]) ((Mul_any u (subF t x) W).mono fun e W9 he => ?_)
        obtain ⟨rfl, hbe⟩ := he
        have hbw : Below W.heap.size W W9 := hbe ▸ Below.refl _ _
        exact hK _ _ (hG.trans (hbw.mono hG.size)) hbw rfl (fun h => by cases h)
    intro fu T w5 hG hF hne hltb
    have e16 : T 16 = .int .i64 u := hF 0 _ rfl (by omega)
    have e17 : T 17 = .int .i64 t := hF 1 _ rfl (by omega)
    have e18 : T 18 = .pointer (some ⟨Bx, 0, none⟩) := hF 2 _ rfl (by omega)
    have e19 : T 19 = .int .i64 x := hF 3 _ rfl (by omega)
    have e20 : T 20 = .int .i64 (subF t x) := hF 4 _ rfl (by omega)
    have e21 : T 21 = .int .i64 (mulF u (subF t x)) := hF 5 _ rfl (by omega)
    clear hF hne hltb
    simp only [List.take, fillT, List.setIfInBounds_toArray, List.set_cons_zero, List.set_cons_succ, e16, e17, e18, e19, e20, e21]
    clear e16 e17 e18 e19 e20 e21
    have hC5 := hC.out w5 hG
    refine wpAny_ready (rs := [6]) (by kernel_rfl) (by simp) (AllReady.cons (o := ⟨none, (Op.store 3 (Operand.tmp 7) (Operand.tmp 21)), _, _, _, none⟩) rfl (fun K1 hK1 => ?_) AllReady.nil)
    rw [if_pos (by rfl)]
    refine wp_store_one 3 (.tmp 7) (.tmp 21) rfl (w.heap.size + 1 + 1 + 1) 0 rfl (.int .i64 (mulF u (subF t x))) rfl rfl rfl Try.sizeOf3 _ (cellAt (i := 0) hC5.b3 rfl) (frozenAt hC5.b3 0) ?_
    refine hK1 _ _ ?_
    clear hK1 K1
    refine wpAny_done (by kernel_rfl) ?_ _
    simp only [Act.put, List.setIfInBounds_toArray, List.set_cons_zero, List.set_cons_succ]
    have hK1 : Fr2 w V (w5.setCell ⟨w.heap.size + 1 + 1 + 1, 0, none⟩ (.int .i64 (mulF u (subF t x)))) := Fr2.one hG
    have hC6 := hC5.up (mulF u (subF t x))
    have hbX6 : (w5.setCell ⟨w.heap.size + 1 + 1 + 1, 0, none⟩ (.int .i64 (mulF u (subF t x)))).heap[Bx]? = some (.cells #[.int .i64 x, .int .i64 y] 35 (0, 0)) := (setOther 0 (by omega)).trans (blk_at bX hG)
    replace hG := Lib.hid hG
    obtain ⟨V', hV'⟩ : ∃ V', w5.setCell ⟨w.heap.size + 1 + 1 + 1, 0, none⟩ (.int .i64 (mulF u (subF t x))) = V' := ⟨_, rfl⟩
    rw [hV'] at hK1 hC6 hbX6 ⊢
    clear hV' hC hA hX hC5
    have hC : Hid (∀ W, Below V'.heap.size V' W → WB w (.slice (some ⟨b, off, none⟩) l.length cap) ix t (mulF u (subF t x)) vv W) := fun W hW => hC6.step hW
    have hA : Hid (∀ W, Below V'.heap.size V' W → W.cell? ⟨b, off + ix * 2, none⟩ = some (.int .i64 xi)) := fun W hW => (hW.cell (p := ⟨b, off + ix * 2, none⟩) (Nat.lt_of_lt_of_le hbB'.out hC6.bel.size)).trans ((hC6.bel.cell (p := ⟨b, off + ix * 2, none⟩) hbB'.out).trans hb0'.out)
    have hX : Hid (∀ W, Below V'.heap.size V' W → W.cell? ⟨Bx, 0, none⟩ = some (.int .i64 x)) := fun W hW => cellAt (i := 0) (blk_at hbX6 hW) rfl
    have hK1' := Lib.hid hK1
    clear hC6 hbX6 hK1
    gi_wp2
    refine wpIn_region_pre lf _ ?_ (by kernel_rfl) 10 1 (fun W => Below V'.heap.size V' W) (fun W W' => Below W.heap.size W W')
      (fun i v W => match i with
        | 0 => v = .int .i64 vv
        | 1 => v = .slice (some ⟨b, off, none⟩) l.length cap
        | 2 => v = .int .i64 (ix : Int)
        | 3 => v = .pointer (some ⟨b, off + ix * 2, none⟩)
        | 4 => v = .pointer (some ⟨b, off + ix * 2, none⟩)
        | 5 => v = .int .i64 xi
        | 6 => v = .pointer (some ⟨Bx, 0, none⟩)
        | 7 => v = .int .i64 x
        | 8 => v = .int .i64 (subF xi x)
        | 9 => v = .int .i64 (mulF vv (subF xi x))
        | _ => True) (fun _ => false)
      (by kernel_rfl) (by kernel_rfl) (by kernel_rfl) (by kernel_rfl) (by kernel_rfl) (by kernel_rfl) (by kernel_rfl) ?_ (fun _ _ h => h.size) (dN (Below.refl _ _) 1) ?_ ?_
    · rintro ⟨_, _, h⟩; exact h
    · intro i v W W' hb hF
      match i, hF with
      | 0, h => exact h
      | 1, h => exact h
      | 2, h => exact h
      | 3, h => exact h
      | 4, h => exact h
      | 5, h => exact h
      | 6, h => exact h
      | 7, h => exact h
      | 8, h => exact h
      | 9, h => exact h
      | _ + 10, _ => trivial
    · refine ⟨?_, ?_, ?_, ?_, ?_, ?_, ?_, ?_, ?_, ?_, trivial⟩
      · refine stepJ_any rfl fun ac W hAA hG hDD K hK => ?_
        have h8 := hAA.getD (t := 8) (by kernel_rfl)
        simp only [Array.getD_eq_getD_getElem?] at h8
        have k0 := cellAt (i := 0) (hC.out W hG).b4 rfl
        rw [if_pos (by rfl)]
        exact wp_val (v := .int .i64 vv) (w' := W) (by simp [execOp, Act.eval, h8, go_sem, k0]) (hK _ _ hG (Below.refl _ _) rfl (fun h => by cases h))
      · refine stepJ_any rfl fun ac W hAA hG hDD K hK => ?_
        have h3 := hAA.getD (t := 3) (by kernel_rfl)
        simp only [Array.getD_eq_getD_getElem?] at h3
        have k0 := cellAt (i := 0) (hC.out W hG).b0 rfl
        rw [if_pos (by rfl)]
        exact wp_val (v := .slice (some ⟨b, off, none⟩) l.length cap) (w' := W) (by simp [execOp, Act.eval, h3, go_sem, k0]) (hK _ _ hG (Below.refl _ _) rfl (fun h => by cases h))
      · refine stepJ_any rfl fun ac W hAA hG hDD K hK => ?_
        have h4 := hAA.getD (t := 4) (by kernel_rfl)
        simp only [Array.getD_eq_getD_getElem?] at h4
        have k0 := cellAt (i := 0) (hC.out W hG).b1 rfl
        rw [if_pos (by rfl)]
        exact wp_val (v := .int .i64 (ix : Int)) (w' := W) (by simp [execOp, Act.eval, h4, go_sem, k0]) (hK _ _ hG (Below.refl _ _) rfl (fun h => by cases h))
      · refine stepJ_any rfl fun ac W hAA hG hDD K hK => ?_
        have h23 := hDD.get 1 23 _ rfl rfl (by kernel_rfl)
        have h24 := hDD.get 2 24 _ rfl rfl (by kernel_rfl)
        simp only [Array.getD_eq_getD_getElem?] at h23 h24
        rw [if_pos (by rfl)]
        exact wp_val (v := .pointer (some ⟨b, off + ix * 2, none⟩)) (w' := W) (by simp [execOp, Act.eval, h23, h24, go_sem, i0, i1]) (hK _ _ hG (Below.refl _ _) rfl (fun h => by cases h))
      · refine stepJ_any rfl fun ac W hAA hG hDD K hK => ?_
        have h25 := hDD.get 3 25 _ rfl rfl (by kernel_rfl)
        simp only [Array.getD_eq_getD_getElem?] at h25
        rw [if_pos (by rfl)]
        exact wp_val (v := .pointer (some ⟨b, off + ix * 2, none⟩)) (w' := W) (by simp [execOp, Act.eval, h25, go_sem]) (hK _ _ hG (Below.refl _ _) rfl (fun h => by cases h))
      · refine stepJ_any rfl fun ac W hAA hG hDD K hK => ?_
        have h26 := hDD.get 4 26 _ rfl rfl (by kernel_rfl)
        simp only [Array.getD_eq_getD_getElem?] at h26
        have k0 := hA.out W hG
        rw [if_pos (by rfl)]
        exact wp_val (v := .int .i64 xi) (w' := W) (by simp [execOp, Act.eval, h26, go_sem, k0]) (hK _ _ hG (Below.refl _ _) rfl (fun h => by cases h))
      · refine stepJ_any rfl fun ac W hAA hG hDD K hK => ?_
        have h9 := hAA.getD (t := 9) (by kernel_rfl)
        simp only [Array.getD_eq_getD_getElem?] at h9
        rw [if_pos (by rfl)]
        exact wp_val (v := .pointer (some ⟨Bx, 0, none⟩)) (w' := W) (by simp [execOp, Act.eval, h9, go_sem]) (hK _ _ hG (Below.refl _ _) rfl (fun h => by cases h))
      · refine stepJ_any rfl fun ac W hAA hG hDD K hK => ?_
        have h28 := hDD.get 6 28 _ rfl rfl (by kernel_rfl)
        simp only [Array.getD_eq_getD_getElem?] at h28
        have k0 := hX.out W hG
        rw [if_pos (by rfl)]
        exact wp_val (v := .int .i64 x) (w' := W) (by simp [execOp, Act.eval, h28, go_sem, k0]) (hK _ _ hG (Below.refl _ _) rfl (fun h => by cases h))
      · refine stepJ_any rfl fun ac W hAA hG hDD K hK => ?_
        have h27 := hDD.get 5 27 _ rfl rfl (by kernel_rfl)
        have h29 := hDD.get 7 29 _ rfl rfl (by kernel_rfl)
        simp only [Array.getD_eq_getD_getElem?] at h27 h29
        rw [if_pos (by rfl)]
        refine wp_call (f := 27) (args := #[.int .i64 xi, .int .i64 x]) (by simp [execOp, Act.eval, h27, h29, go_sem]) ((minus_any xi x hxi.out W).mono fun e W9 he => ?_)
        obtain ⟨rfl, hbw⟩ := he
        exact hK _ _ (hG.trans (hbw.mono hG.size)) hbw rfl (fun h => by cases h)
      · refine stepJ_any rfl fun ac W hAA hG hDD K hK => ?_
        have h22 := hDD.get 0 22 _ rfl rfl (by kernel_rfl)
        have h30 := hDD.get 8 30 _ rfl rfl (by kernel_rfl)
        simp only [Array.getD_eq_getD_getElem?] at h22 h30
        rw [if_pos (by rfl)]
        refine wp_call (f := 14) (args := #[.int .i64 vv, .int .i64 (subF xi x)]) (by simp [execOp, Act.eval, h22, h30, go_sem]) ((Mul_any vv (subF xi x) W).mono fun e W9 he => ?_)
        obtain ⟨rfl, hbe⟩ := he
        have hbw : Below W.heap.size W W9 := hbe ▸ Below.refl _ _
        exact hK _ _ (hG.trans (hbw.mono hG.size)) hbw rfl (fun h => by cases h)
    intro fu T w5 hG hF hne hltb
    have e22 : T 22 = .int .i64 vv := hF 0 _ rfl (by omega)
    have e23 : T 23 = .slice (some ⟨b, off, none⟩) l.length cap := hF 1 _ rfl (by omega)
    have e24 : T 24 = .int .i64 (ix : Int) := hF 2 _ rfl (by omega)
    have e25 : T 25 = .pointer (some ⟨b, off + ix * 2, none⟩) := hF 3 _ rfl (by omega)
    have e26 : T 26 = .pointer (some ⟨b, off + ix * 2, none⟩) := hF 4 _ rfl (by omega)
    have e27 : T 27 = .int .i64 xi := hF 5 _ rfl (by omega)
    have e28 : T 28 = .pointer (some ⟨Bx, 0, none⟩) := hF 6 _ rfl (by omega)
    have e29 : T 29 = .int .i64 x := hF 7 _ rfl (by omega)
    have e30 : T 30 = .int .i64 (subF xi x) := hF 8 _ rfl (by omega)
    have e31 : T 31 = .int .i64 (mulF vv (subF xi x)) := hF 9 _ rfl (by omega)
    clear hF hne hltb
    simp only [List.take, fillT, List.setIfInBounds_toArray, List.set_cons_zero, List.set_cons_succ, e22, e23, e24, e25, e26, e27, e28, e29, e30, e31]
    clear e22 e23 e24 e25 e26 e27 e28 e29 e30 e31
    have hC5 := hC.out w5 hG
    refine wpAny_ready (rs := [10]) (by kernel_rfl) (by simp) (AllReady.cons (o := ⟨none, (Op.store 3 (Operand.tmp 8) (Operand.tmp 31)), _, _, _, none⟩) rfl (fun K1 hK1 => ?_) AllReady.nil)
    rw [if_pos (by rfl)]
    refine wp_store_one 3 (.tmp 8) (.tmp 31) rfl (w.heap.size + 1 + 1 + 1 + 1) 0 rfl (.int .i64 (mulF vv (subF xi x))) rfl rfl rfl Try.sizeOf3 _ (cellAt (i := 0) hC5.b4 rfl) (frozenAt hC5.b4 0) ?_
    refine hK1 _ _ ?_
    clear hK1 K1
    refine wpAny_done (by kernel_rfl) ?_ _
    simp only [Act.put, List.setIfInBounds_toArray, List.set_cons_zero, List.set_cons_succ]
    gi_wp2
    refine ⟨(hK1'.out.trans (Fr2.two hG)).1.from _, (hK1'.out.trans (Fr2.two hG)).2.mono (by have := hsz.out; omega), ?_⟩
    show WB _ _ _ _ (abF l ix t (k + 1)) (abF l ix xi (k + 1)) _
    rw [hx.out.1, hx.out.2]
    exact hC5.vp (mulF vv (subF xi x))
  case done =>
    rintro DD W hD hI hK
    have r3 := cellAt (i := 0) hI.b3 rfl
    have r4 := cellAt (i := 0) hI.b4 rfl
    have hI' := Lib.hid hI
    have hK' := Lib.hid hK
    clear hI hK k0 k1 k2 k3 k4 k5 k6 hb0
    gi_wp2_with (refine ⟨trivial, ?_⟩; gi_at_call 8; refine (callsIn_wide.2 (Inverse_any _ _)).mono ?_)
    rintro e w5 ⟨rfl, rfl⟩
    gi_wp2_with (refine ⟨trivial, ?_⟩; gi_at_call 14; refine (callsIn_wide.2 (Mul_any _ _ _)).mono ?_)
    rintro e w5 ⟨rfl, rfl⟩
    gi_wp2
    refine ⟨by simp, .inl ⟨_, _, rfl, run_takeDeferred hK'.out, ?_⟩⟩
    refine ⟨.int .i64 (mulF (abF l ix t (l.length - 1)) (invV (abF l ix xi (l.length - 1)))), ?_, by rw [hwt.out], hI'.out.bel.trans (belowK_b (w := w) (Nat.le_refl _) _ DD _ _ (by omega) hK'.out rfl rfl)⟩
    simp [results, Try.results24, go_sem]
  case stop =>
    rintro DD c k W _ _ h _
    exact h.elim
end Go.Proofs.Ytfblkkdoijfpfaa
