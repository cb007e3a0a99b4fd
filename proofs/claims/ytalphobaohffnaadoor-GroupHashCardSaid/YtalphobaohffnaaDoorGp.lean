/- squares: a number, its square, the square of this square, and so on; power: contracts. -/
import Derived.Test.YtalphobaohffnaaDoorGd
import Derived.Test.YtalphobaohffnaaDoorIe
import Derived.RangeFuncBox
import Derived.Shelf.Abstract
namespace Go.Proofs.YtalphobaohffnaaDoor
open Go.RowKit Go.Shelf

theorem bel1 (w : World) (o : Obj) : Below w.heap.size w (w.alloc o) := (Below.refl _ w).alloc (Nat.le_refl _) o
theorem heap_alloc_new (w : World) (o : Obj) : (w.alloc o).heap[w.heap.size]? = some o := World.alloc_heap_new w o
theorem blk_at {W W' : World} {g : Nat} {o : Obj} (h : W.heap[g]? = some o) (hb : Below W.heap.size W W') : W'.heap[g]? = some o := (hb.block g (Array.getElem?_eq_some_iff.1 h).1).trans h
theorem cellsOwn {β : Type} (B : Nat) (f : β → Array Value) (t : TypeId) : Own (fun (k : β) W => W.heap[B]? = some (.cells (f k) t (0, 0))) := fun _ X Y row hs hg hrow =>
  (hg.block B (Array.getElem?_eq_some_iff.1 hs).1 (fun e' => by obtain ⟨o, ho, hc⟩ := hrow B e'.symm; rw [hs] at ho; cases ho; cases hc)).trans hs
theorem cellAt {W : World} {B i : Nat} {cs : Array Value} {t : TypeId} {v : Value} (h : W.heap[B]? = some (.cells cs t (0, 0))) (hv : cs[i]? = some v) : W.cell? ⟨B, i, none⟩ = some v := (cell_of_row W B i cs t _ h).trans hv
theorem frozenAt {W : World} {B : Nat} {cs : Array Value} {t : TypeId} (h : W.heap[B]? = some (.cells cs t (0, 0))) (i : Nat) : W.frozen? ⟨B, i, none⟩ = false := frozen_of_row W B i _ t h
theorem setOne {W : World} {B : Nat} {v u : Value} {t : TypeId} (h : W.heap[B]? = some (.cells #[v] t (0, 0))) : (W.setCell ⟨B, 0, none⟩ u).heap[B]? = some (.cells #[u] t (0, 0)) := by
  rw [heap_setCell_same W B 0 _ t u h]; rfl
theorem setOther {W : World} {B B' : Nat} (o : Nat) {u : Value} (h : B ≠ B') : (W.setCell ⟨B', o, none⟩ u).heap[B]? = W.heap[B]? := heap_setCell_other W ⟨B', o, none⟩ B u h
theorem keepsBel {W W' : World} (h : Below W.heap.size W W') : KeepsOthers W W' := ⟨h.size, fun k _ hk _ => (h.block k (Array.getElem?_eq_some_iff.1 hk).1).trans hk⟩
/-- All blocks below B but those of E stay as they are. -/
def Kx (B : Nat) (E : Nat → Prop) (W W' : World) : Prop := W.heap.size ≤ W'.heap.size ∧ ∀ b, b < B → ¬ E b → W'.heap[b]? = W.heap[b]?
theorem Kx.trans {B : Nat} {E : Nat → Prop} {X Y Z : World} (h : Kx B E X Y) (h' : Kx B E Y Z) : Kx B E X Z := ⟨Nat.le_trans h.1 h'.1, fun b hb he => (h'.2 b hb he).trans (h.2 b hb he)⟩
theorem Kx.below {B : Nat} {E : Nat → Prop} {X Y : World} (h : Below B X Y) : Kx B E X Y := ⟨h.size, fun b hb _ => h.block b hb⟩
theorem Kx.refl (B : Nat) (E : Nat → Prop) (X : World) : Kx B E X X := ⟨Nat.le_refl _, fun _ _ _ => rfl⟩
theorem Kx.put {B : Nat} {E : Nat → Prop} (W : World) (l : Nat) (o' : Obj) (hl : B ≤ l) : Kx B E W (W.putObj l o') := ⟨by simp, fun b hb _ => World.putObj_heap_other (by omega)⟩
theorem Kx.set {B : Nat} {E : Nat → Prop} (W : World) (g o : Nat) (v : Value) (hg : E g) : Kx B E W (W.setCell ⟨g, o, none⟩ v) := ⟨by simp, fun b _ he => heap_setCell_other W ⟨g, o, none⟩ b v (fun e => he (e ▸ hg))⟩
theorem Kx.cell {B : Nat} {E : Nat → Prop} {W W' : World} (h : Kx B E W W') {b o : Nat} (hb : b < B) (he : ¬ E b) : W'.cell? ⟨b, o, none⟩ = W.cell? ⟨b, o, none⟩ := World.cell?_of_block (h.2 b hb he)

theorem squares_any (x : Int) (w : World) : Calls Tryd.prog 33 #[.int .i64 x] w fun e w' => e = .returned (.func (.func 40) #[] #[.pointer (some ⟨w.heap.size, 0, none⟩)]) ∧
    w' = w.alloc (.cells #[.int .i64 x] 3) := by
  go_enter Tryd.func33, Tryd.ntmps33
  go_wp2_with fail
  go_ret
  exact ⟨rfl, rfl⟩

/-- The k-th of the squares. -/
def sqN (x : Nat) : Nat → Nat
  | 0 => x
  | k + 1 => sqN x k * sqN x k % 2147483579
theorem sqN_lt {x : Nat} (hx : x < 2147483579) : ∀ k, sqN x k < 2147483579
  | 0 => hx
  | _ + 1 => Nat.mod_lt _ (by omega)
theorem max_ex (p : Nat → Prop) : ∀ N : Nat, ∃ m, ∀ k, k ≤ N → p k → k ≤ m ∧ m ≤ N ∧ p m := by
  intro N
  induction N with
  | zero => exact ⟨0, fun k hk hp => by obtain rfl : k = 0 := by omega
                                        exact ⟨Nat.le_refl _, Nat.le_refl _, hp⟩⟩
  | succ N ih =>
    by_cases h : p (N + 1)
    · exact ⟨N + 1, fun k hk _ => ⟨hk, Nat.le_refl _, h⟩⟩
    · obtain ⟨m, hm⟩ := ih
      refine ⟨m, fun k hk hp => ?_⟩
      have hk' : k ≤ N := by
        rcases Nat.lt_or_ge N k with c | c
        · exact absurd ((by omega : k = N + 1) ▸ hp) h
        · exact c
      obtain ⟨h1, h2, h3⟩ := hm k hk' hp
      exact ⟨h1, by omega, h3⟩
theorem max_fn {α β : Type} (p : α → β → Nat → Prop) (N : Nat) : ∃ f : α → β → Nat, ∀ a b k, k ≤ N → p a b k → k ≤ f a b ∧ f a b ≤ N ∧ p a b (f a b) :=
  ⟨fun a b => Classical.choose (max_ex (p a b) N), fun a b => Classical.choose_spec (max_ex (p a b) N)⟩
def sqV (x : Nat) (k : Nat) : Array Value := #[.int .i64 ((sqN x k : Nat) : Int)]
set_option maxRecDepth 100000 in
set_option maxHeartbeats 2000000 in
theorem squares_gives (q : Nat) (hq : 1 ≤ q) (Bl : Nat) (x : Nat) (hx : x < 2147483579) (N : Nat) (w : World) (E : Nat → Prop) (hBl : Bl < w.heap.size) (hE : ¬ E Bl)
    (c0 : w.cell? ⟨Bl, 0, none⟩ = some (.int .i64 (x : Int))) :
    GivesOn Fence.wide q Tryd.prog 40 #[.pointer (some ⟨Bl, 0, none⟩)] (sqV x) (Kx w.heap.size E) N w := fun lf J Jx W hW hJ _ hnev hY hJ0 => by
  have d0 := (hW.cell (p := ⟨Bl, 0, none⟩) hBl).trans c0
  replace c0 := Lib.hid c0
  refine callsIn_of_wp Tryd.func40 rfl trivial ?_ rfl
  simp only [Tryd.ntmps40, List.size_toArray, List.length_cons, List.length_nil, Nat.reduceAdd, Nat.reduceSub, Array.replicate_succ, Array.replicate_zero, List.push_toArray, List.append_toArray, List.nil_append, List.cons_append]
  gi_wp2
  clear d0
  obtain ⟨mu, hmu⟩ := max_fn (fun (y : Value) (wr : World) k => y = .int .i64 ((sqN x k : Nat) : Int) ∧ J k wr) N
  gi_loopw [3] (fun y wr => ∃ k : Nat, k ≤ N ∧ y = .int .i64 ((sqN x k : Nat) : Int) ∧ J k wr) (fun y wr => N - mu y wr)
  case atStart => exact ⟨0, Nat.zero_le _, rfl, hJ0⟩
  case round =>
    obtain ⟨k0, hk0, hy0, hJ0'⟩ := hrel
    obtain ⟨-, hk, hyk, hJk⟩ := hmu u3 wr k0 hk0 ⟨hy0, hJ0'⟩
    clear hy0 hJ0' hk0
    obtain ⟨k, hkm⟩ : ∃ k, k = mu u3 wr := ⟨_, rfl⟩
    rw [← hkm] at hk hyk hJk
    have hkN : k < N := Nat.lt_of_le_of_ne hk (fun e => hnev wr (e ▸ hJk))
    have hmu' := Lib.hid (show ∀ W3, J (k + 1) W3 → N - mu (.int .i64 ((sqN x (k + 1) : Nat) : Int)) W3 < N - mu u3 wr from fun W3 h3 => by
      have := hmu _ W3 (k + 1) hkN ⟨rfl, h3⟩
      omega)
    clear hmu hkm
    subst hyk
    obtain ⟨fn, tmps, assign, body, hy, hRd⟩ := hY k wr hkN hJk
    have hl := sqN_lt hx k
    have hnx := Lib.hid (show ((sqN x k : Nat) : Int) * ((sqN x k : Nat) : Int) % 2147483579 = ((sqN x (k + 1) : Nat) : Int) from rfl)
    unfold sqV at hy
    generalize sqN x k = y at *
    gi_wp2
    refine hRd.mono ?_
    rintro e W3 (⟨rfl, hJ3, hk3⟩ | ⟨rfl, hJx3⟩)
    · clear hk3
      gi_wp2_with (refine ⟨trivial, ?_⟩; gi_at_call 22; refine (callsIn_wide.2 (product_any y y hl hl _)).mono ?_)
      rintro e w5 ⟨rfl, rfl⟩
      gi_wp2
      go_roundw
      case rel => exact ⟨k + 1, hkN, by rw [hnx.out], hJ3⟩
      case measure => rw [hnx.out]; exact hmu'.out _ hJ3
    · gi_wp2
      go_end0
      exact ⟨⟨_, rfl⟩, k, hkN, hJx3⟩

/-- What is left of the exponent before round k, and the product so far. -/
def eN (n : Nat) : Nat → Nat
  | 0 => n
  | k + 1 => eN n k / 2
def acN (x n : Nat) : Nat → Nat
  | 0 => 1
  | k + 1 => if eN n k % 2 = 1 then acN x n k * sqN x k % 2147483579 else acN x n k
theorem acN_lt (x n : Nat) : ∀ k, acN x n k < 2147483579
  | 0 => by simp [acN]
  | k + 1 => by
    simp only [acN]
    split
    · exact Nat.mod_lt _ (by omega)
    · exact acN_lt x n k
theorem eN_pow (n : Nat) : ∀ k, eN n k * 2 ^ k ≤ n
  | 0 => by simp [eN]
  | k + 1 => by
    have h := eN_pow n k
    have : eN n k / 2 * 2 ^ (k + 1) ≤ eN n k * 2 ^ k := by
      rw [Nat.pow_succ, show eN n k / 2 * (2 ^ k * 2) = (eN n k / 2 * 2) * 2 ^ k by rw [Nat.mul_assoc, Nat.mul_comm 2 (2 ^ k)]]
      exact Nat.mul_le_mul_right _ (by omega)
    exact Nat.le_trans this h
theorem eN_30 {n k : Nat} (hn : n < 1073741824) (h : eN n k ≠ 0) : k < 30 := by
  rcases Nat.lt_or_ge k 30 with c | c
  · exact c
  · have h1 := eN_pow n k
    have h2 : 2 ^ 30 ≤ 2 ^ k := Nat.pow_le_pow_right (by omega) c
    have h3 : 1 * 2 ^ k ≤ eN n k * 2 ^ k := Nat.mul_le_mul_right _ (by omega)
    have h4 : (2 : Nat) ^ 30 = 1073741824 := by decide
    omega
theorem acN_inv {x : Nat} (hx : x < 2147483579) (n : Nat) : ∀ k, acN x n k * pw (sqN x k) (eN n k) % 2147483579 = pw x n
  | 0 => by simp only [acN, eN, sqN, Nat.one_mul]; exact Nat.mod_eq_of_lt (pw_lt _ _)
  | k + 1 => by
    rw [← acN_inv hx n k]
    have hsq : pw (sqN x (k + 1)) (eN n (k + 1)) = pw (sqN x k) (eN n k / 2 + eN n k / 2) := by
      show pw (sqN x k * sqN x k % 2147483579) (eN n k / 2) = _
      rw [pw_base, pw_add]
    rw [hsq]
    simp only [acN]
    by_cases h : eN n k % 2 = 1
    · rw [if_pos h]
      have e : eN n k = eN n k / 2 + eN n k / 2 + 1 := by omega
      have e2 : pw (sqN x k) (eN n k) = pw (sqN x k) (eN n k / 2 + eN n k / 2) * sqN x k % 2147483579 := by
        conv => lhs; rw [e]
        rw [pw_add, pw_one _ (sqN_lt hx k)]
      rw [e2]
      generalize pw (sqN x k) (eN n k / 2 + eN n k / 2) = u
      generalize sqN x k = v
      generalize acN x n k = t
      rw [Nat.mul_mod, Nat.mod_mod, ← Nat.mul_mod, Nat.mul_mod t (u * v % 2147483579), Nat.mod_mod, ← Nat.mul_mod]
      rw [Nat.mul_assoc, Nat.mul_comm v u]
    · rw [if_neg h]
      have e : eN n k = eN n k / 2 + eN n k / 2 := by omega
      rw [← e]
theorem acN_end {x n k : Nat} (hx : x < 2147483579) (h : eN n k = 0) : acN x n k = pw x n := by
  rw [← acN_inv hx n k, h, pw_zero, Nat.mul_one, Nat.mod_eq_of_lt (acN_lt x n k)]

theorem and_bit (i : Nat) (hi : i < 9223372036854775808) : bits BinOp.and IntKind.i64 (i : Int) 1 = ((i % 2 : Nat) : Int) := by
  have p : (2 : Int) ^ 63 = 9223372036854775808 := by decide
  have h := bits_mask .i64 63 (by decide) (fun n h0 h1 => by rw [p] at h1; rw [IntKind.wrap_i64]; omega) 1 (by decide) (i : Int) (by omega) (by rw [p]; omega)
  have e : ((2 : Int) ^ 1 - 1) = 1 := by decide
  rw [e] at h
  rw [h]
  omega

/-- The boxes of power before round k. -/
def PwB (w : World) (x n k : Nat) (W : World) : Prop :=
  (W.heap[w.heap.size]? = some (.cells #[.int .i64 ((eN n k : Nat) : Int)] 3 (0, 0)) ∧ W.heap[w.heap.size + 1]? = some (.cells #[.int .i64 ((acN x n k : Nat) : Int)] 3 (0, 0))) ∧ (Below w.heap.size w W ∧ w.heap.size + 3 ≤ W.heap.size) ∧ k ≤ 30
theorem PwB.own {w : World} {x n B : Nat} (hB : w.heap.size ≤ B) : OwnFrom B (fun k W => PwB w x n k W) :=
  OwnFrom.and (OwnFrom.and (Own.from (cellsOwn _ (fun k => #[.int .i64 ((eN n k : Nat) : Int)]) _) _) (Own.from (cellsOwn _ (fun k => #[.int .i64 ((acN x n k : Nat) : Int)]) _) _)) (OwnFrom.and (OwnFrom.and (ownFrom_below (Nat.le_refl _) hB) (fun _ _ _ _ hs hg _ => Nat.le_trans hs hg.size)) (ownFrom_pure B (fun k => k ≤ 30)))

attribute [local go_sem] Oper.semAt_some
set_option maxRecDepth 100000 in
set_option maxHeartbeats 2000000 in
theorem power_any (x n : Nat) (hx : x < 2147483579) (hn : n < 1073741824) (w : World) :
    Calls Tryd.prog 21 #[.int .i64 (x : Int), .int .i64 (n : Int)] w fun e w' => e = .returned (.int .i64 ((pw x n : Nat) : Int)) ∧ Below w.heap.size w w' := by
  refine (callsIn_wide (n := 6)).1 ?_
  have hro : Fence.wide.round = none := rfl
  refine callsIn_of_wp_marks Tryd.func21 rfl trivial ?_ hro
  simp only [Tryd.ntmps21, List.size_toArray, List.length_cons, List.length_nil, Nat.reduceAdd, Nat.reduceSub, Array.replicate_succ, Array.replicate_zero, List.push_toArray, List.append_toArray, List.nil_append, List.cons_append]
  gi_wp2_with (refine ⟨trivial, ?_⟩; gi_at_call 33; refine (callsIn_wide.2 (squares_any _ _)).mono ?_)
  rintro e w3 ⟨rfl, rfl⟩
  gi_wp2
  have hb1 := bel1 w (.cells #[.int .i64 (n : Int)] 3)
  have hb2 := bel1 (w.alloc (.cells #[.int .i64 (n : Int)] 3)) (.cells #[.int .i64 1] 3)
  have hb3 := bel1 ((w.alloc (.cells #[.int .i64 (n : Int)] 3)).alloc (.cells #[.int .i64 1] 3)) (.cells #[.int .i64 (x : Int)] 3)
  have k1 := blk_at (blk_at (heap_alloc_new w (.cells #[.int .i64 (n : Int)] 3)) hb2) hb3
  have k2 := blk_at (heap_alloc_new (w.alloc (.cells #[.int .i64 (n : Int)] 3)) (.cells #[.int .i64 1] 3)) hb3
  have k3 := heap_alloc_new ((w.alloc (.cells #[.int .i64 (n : Int)] 3)).alloc (.cells #[.int .i64 1] 3)) (.cells #[.int .i64 (x : Int)] 3)
  simp only [World.size_alloc] at k2 k3 ⊢
  have hB := (hb1.trans (hb2.mono hb1.size)).trans (hb3.mono (hb1.trans (hb2.mono hb1.size)).size)
  have hs : (((w.alloc (.cells #[.int .i64 (n : Int)] 3)).alloc (.cells #[.int .i64 1] 3)).alloc (.cells #[.int .i64 (x : Int)] 3)).heap.size = w.heap.size + 3 := by simp
  generalize ((w.alloc (.cells #[.int .i64 (n : Int)] 3)).alloc (.cells #[.int .i64 1] 3)).alloc (.cells #[.int .i64 (x : Int)] 3) = W0 at k1 k2 k3 hB hs ⊢
  clear hb1 hb2 hb3
  refine wpIn_rangeFunc_on hro (by omega) (gf := 40) (lb := #[.pointer (some ⟨w.heap.size + 1 + 1, 0, none⟩)]) rfl trivial (enters_of Tryd.func40 (by kernel_rfl) rfl)
    (squares_gives _ (by omega) (w.heap.size + 1 + 1) x hx 31 W0 (fun b => b = w.heap.size ∨ b = w.heap.size + 1) (by omega) (by omega) (cellAt (i := 0) k3 rfl))
    Kx.trans (fun W i o o' hi _ _ _ => Kx.put W i o' hi) (Below.refl _ _) (fun _ _ => rfl)
    (PwB w x n) (fun c k W => (c = .exit 0 ∧ eN n k = 0) ∧ PwB w x n k W)
    (PwB.own (by omega))
    (fun c => OwnFrom.and (ownFrom_pure _ _) (PwB.own (by omega))) ⟨⟨k1, k2⟩, ⟨hB, by omega⟩, by omega⟩
    (fun k a' _ => a' = { tmps := #[.int .i64 (x : Int), .int .i64 (n : Int), undef, .pointer (some ⟨w.heap.size, 0, none⟩), .pointer (some ⟨w.heap.size + 1, 0, none⟩), .int .i64 ((sqN x k : Nat) : Int), .int .i64 (x : Int), .func (.func 40) #[] #[.pointer (some ⟨w.heap.size + 1 + 1, 0, none⟩)], .int .i64 ((sqN x k : Nat) : Int), undef, undef, undef, undef, undef, undef, undef, undef, undef, undef, undef], defers := [] })
    (fun k a' _ _ _ _ hs _ _ => hs) ?assign ?body (fun W h => by have := h.2.2; omega) ?stop
  case assign =>
    rintro lf k W K hk hI hK
    unfold sqV
    gi_wp2
    exact hK _ _ ((keepsBel (Below.refl _ _)).from _) (Kx.refl _ _ _) hI rfl
  case body =>
    rintro lf k a' W hlf - hk hPB rfl
    obtain ⟨⟨hI1, hI2⟩, ⟨hI3, hI4⟩, hk30⟩ := id hPB
    replace hPB := Lib.hid hPB
    have r3 := cellAt (i := 0) hI1 rfl
    have f3 := frozenAt hI1 0
    have r4 := cellAt (i := 0) hI2 rfl
    have f4 := frozenAt hI2 0
    have hlt := sqN_lt hx k
    have hla := acN_lt x n k
    by_cases h0 : eN n k = 0
    · rw [h0] at r3
      clear hI1 hI2 hI3
      gi_wp2
      exact ⟨(keepsBel (Below.refl _ _)).from _, ⟨rfl, h0⟩, hPB.out⟩
    · have hk1 := eN_30 hn h0
      have hne : (((eN n k : Nat) : Int) == 0) = false := by simp; omega
      have hel : eN n k < 9223372036854775808 := by
        have h1 := eN_pow n k
        have h2 := Nat.le_mul_of_pos_right (eN n k) (Nat.two_pow_pos k)
        omega
      have hhalf := Lib.hid (show ((eN n k : Nat) : Int) / 2 = ((eN n (k + 1) : Nat) : Int) by show _ = ((eN n k / 2 : Nat) : Int); omega)
      have hI1' := Lib.hid hI1
      have hI2' := Lib.hid hI2
      have hI3' := Lib.hid hI3
      by_cases hodd : eN n k % 2 = 1
      · have hbit : bits BinOp.and IntKind.i64 ((eN n k : Nat) : Int) 1 = 1 := by rw [and_bit _ hel, hodd]; rfl
        have hac := Lib.hid (show ((acN x n k * sqN x k % 2147483579 : Nat) : Int) = ((acN x n (k + 1) : Nat) : Int) by simp only [acN]; rw [if_pos hodd])
        clear hI1 hI2 hI3 h0 hPB hn
        generalize eN n k = ev at *
        generalize acN x n k = av at *
        generalize sqN x k = sv at *
        gi_wp2_with (refine ⟨trivial, ?_⟩; gi_at_call 22; refine (CallsIn.inRound lf (callsIn_wide.2 (product_any _ _ hla hlt _))).mono ?_)
        rintro e w5 ⟨rfl, rfl⟩
        rw [hac.out]
        clear hac hbit hne r3 f3 hla hlt
        generalize hav : acN x n (k + 1) = av' at *
        replace hav := Lib.hid hav
        have g1 : (w5.setCell ⟨w.heap.size + 1, 0, none⟩ (.int .i64 (av' : Int))).heap[w.heap.size]? = some (.cells #[.int .i64 (ev : Int)] 3 (0, 0)) := (setOther 0 (by omega)).trans hI1'.out
        have g2 := setOne (u := .int .i64 (av' : Int)) hI2'.out
        have g3 : Below w.heap.size w (w5.setCell ⟨w.heap.size + 1, 0, none⟩ (.int .i64 (av' : Int))) := hI3'.out.setCell (p := ⟨w.heap.size + 1, 0, none⟩) (by simp) _
        have g4 := KeepsOthers.setCell w5 ⟨w.heap.size + 1, 0, none⟩ (.int .i64 (av' : Int))
        have g5 : Kx W0.heap.size (fun b => b = w.heap.size ∨ b = w.heap.size + 1) w5 (w5.setCell ⟨w.heap.size + 1, 0, none⟩ (.int .i64 (av' : Int))) := Kx.set _ _ _ _ (.inr rfl)
        have r3 := cellAt (i := 0) g1 rfl
        have f3 := frozenAt g1 0
        have g6 : w.heap.size + 3 ≤ (w5.setCell ⟨w.heap.size + 1, 0, none⟩ (.int .i64 (av' : Int))).heap.size := by simp; omega
        have g1' := Lib.hid g1
        have g2' := Lib.hid g2
        have g3' := Lib.hid g3
        have g4' := Lib.hid g4
        have g5' := Lib.hid g5
        have g6' := Lib.hid g6
        clear g1 g2 g3 g4 g5 g6
        gi_wp2
        rw [hhalf.out]
        have hav := hav.out
        subst hav
        refine ⟨(g4'.out.trans (KeepsOthers.setCell _ _ _)).from _, g5'.out.trans (Kx.set _ _ _ _ (.inl rfl)), ⟨setOne g1'.out, (setOther 0 (by omega)).trans g2'.out⟩, ⟨g3'.out.setCell (p := ⟨w.heap.size, 0, none⟩) (by simp) _, by simpa using g6'.out⟩, by omega⟩
      · have hbit : bits BinOp.and IntKind.i64 ((eN n k : Nat) : Int) 1 = 0 := by rw [and_bit _ hel, show eN n k % 2 = 0 by omega]; rfl
        have hac := Lib.hid (show acN x n k = acN x n (k + 1) by simp only [acN]; rw [if_neg hodd])
        rw [hac.out] at hI2'
        clear hI1 hI2 hI3 h0 hPB hn
        generalize eN n k = ev at *
        gi_wp2
        rw [hhalf.out]
        refine ⟨(KeepsOthers.setCell _ _ _).from _, Kx.set _ _ _ _ (.inl rfl), ⟨setOne hI1'.out, (setOther 0 (by omega)).trans hI2'.out⟩, ⟨hI3'.out.setCell (p := ⟨w.heap.size, 0, none⟩) (by simp) _, by simp; omega⟩, by omega⟩
  case stop =>
    rintro DD c k W hD hk ⟨⟨rfl, h0⟩, ⟨hI1, hI2⟩, ⟨hI3, hI4⟩, -⟩ hK
    rw [acN_end hx h0] at hI2
    have r0 := cellAt (i := 0) hI2 rfl
    have rf := frozenAt hI2 0
    have hI2' := Lib.hid hI2
    have hK' := Lib.hid hK
    clear hI1 hI2 hK
    gi_wp2
    have hkk := (KeepsOthers.setCell W ⟨w.heap.size + 1, 0, none⟩ (.int .i64 ((pw x n : Nat) : Int))).same DD _ hK'.out rfl
    have hr := setOne (u := .int .i64 ((pw x n : Nat) : Int)) hI2'.out
    refine ⟨by simp, .inl ⟨_, _, rfl, run_takeDeferred hkk, ?_⟩⟩
    have hc := cell_kept (cellAt (i := 0) hr rfl) (grownBy_putObj' _ DD (.deferred none)) (fun r e => by cases e; exact ⟨_, hkk, rfl⟩)
    have hBf := hI3.setCell (p := ⟨w.heap.size + 1, 0, none⟩) (by simp) (.int .i64 ((pw x n : Nat) : Int))
    refine ⟨.int .i64 ((pw x n : Nat) : Int), ?_, rfl, hBf.trans (belowK_b (w := w) (Nat.le_refl _) _ DD _ _ (by omega) hkk rfl rfl)⟩
    simp [results, Tryd.results21, go_sem, hc]
end Go.Proofs.YtalphobaohffnaaDoor
