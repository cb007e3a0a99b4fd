/- Links: plain, and how they read in memory. -/
import Derived.Test.YtbhpmeljmkoebaaDoorTg
import Derived.Test.YtbhpmeljmkoebaaDoorRj
import Derived.Test.YtbhpmeljmkoebaaDoorAr
import Derived.Deep.MidRow
import Derived.Deep.DeepCutAuto
import Derived.Stop.BytesEq
namespace Go.Proofs.YtbhpmeljmkoebaaDoor
open Go.RowKit

theorem DV_size {d : List UInt8} (h : d.length = 32) : (BV d).toArray.size = 32 := by rw [List.size_toArray, BV_length, h]
theorem blk_at {w w' : World} {g : Nat} {o : Obj} (h : w.heap[g]? = some o) (hb : Below w.heap.size w w') : w'.heap[g]? = some o := (hb.block g (Array.getElem?_eq_some_iff.1 h).1).trans h
theorem bel1 (w : World) (o : Obj) : Below w.heap.size w (w.alloc o) := (Below.refl _ w).alloc (Nat.le_refl _) o
theorem below_row {w w' : World} {B g : Nat} (h : Below B w w') (c : Array Value) (hg : B ≤ g) (hB : B ≤ w'.heap.size) : Below B w (w'.setRow g c) := h.grown (grownBy_setRow _ _ _) hB (fun k e => by injection e with e; omega)
def zeroD : List UInt8 := List.replicate 32 0
theorem zero_new (w : World) : (w.alloc (.cells #[.int .u8 0, .int .u8 0, .int .u8 0, .int .u8 0, .int .u8 0, .int .u8 0, .int .u8 0, .int .u8 0, .int .u8 0, .int .u8 0, .int .u8 0, .int .u8 0, .int .u8 0, .int .u8 0, .int .u8 0, .int .u8 0, .int .u8 0, .int .u8 0, .int .u8 0, .int .u8 0, .int .u8 0, .int .u8 0, .int .u8 0, .int .u8 0, .int .u8 0, .int .u8 0, .int .u8 0, .int .u8 0, .int .u8 0, .int .u8 0, .int .u8 0, .int .u8 0] 35)).heap[w.heap.size]? = some (.cells (BV zeroD).toArray 35 (0, 0)) := heap_alloc_new w _
theorem RBs.lift {w w' : World} {B B' : Nat} {A : Option Addr} {bs : List UInt8} (h : RBs w B A bs) (hb : Below B w w') (hB : B ≤ B') : RBs w' B' A bs := by
  intro hp
  obtain ⟨b, off, e, hlt, hc⟩ := h hp
  exact ⟨b, off, e, Nat.lt_of_lt_of_le hlt hB, fun j hj => by rw [hb.cell (p := ⟨b, off + j, none⟩) hlt]; exact hc j hj⟩
theorem range_reads {W : World} {B b off : Nat} {d : List UInt8} (hb : b < B) (hr : W.rangeAt b off (BV d)) : RBs W B (some ⟨b, off, none⟩) d := fun _ => ⟨b, off, rfl, hb, fun j hj => hr j _ (by simp [BV, hj])⟩
theorem range_of {W : World} {g : Nat} {T : TypeId} {cs : List Value} (h : W.heap[g]? = some (.cells cs.toArray T (0, 0))) : W.rangeAt g 0 cs := fun j v hv => by
  rw [cell_of_row W g (0 + j) _ _ _ h]; simpa using hv
theorem conv_str {w : World} {B c : Nat} {A : Option Addr} {bs : List UInt8} (h : RBs w B A bs) : (convert 23 9 (.slice A bs.length c)).run Tryd.prog w = .ok (.string ⟨bs.toArray⟩) w := by
  rcases Nat.eq_zero_or_pos bs.length with h0 | h0
  · have hb : bs = [] := List.eq_nil_of_length_eq_zero h0
    subst hb
    cases A with
    | none => exact run_convert_bytes_nil (P := Tryd.prog) w 23 5 Tryd.underlying23 Tryd.underlying5 0 c 9 Tryd.underlying9
    | some a =>
      have hl := run_loadCells_list (P := Tryd.prog) w a [] (by simp)
      show (convert 23 9 (.slice (some a) 0 c)).run Tryd.prog w = _
      rw [run_convert_bytes_string w 23 9 5 (some a) 0 c Tryd.underlying23 Tryd.underlying5 Tryd.underlying9, run_bytesToString w a 0 c [] hl]
      rfl
  · obtain ⟨b, off, rfl, hb, hc⟩ := h h0
    rw [run_convert_bytes_arg (P := Tryd.prog) w 23 5 Tryd.underlying23 Tryd.underlying5 b off bs.length c (bs.map fun b => (b.toNat : Int)) (by simp) (fun i hi => by rw [hc i hi]; simp [List.getD, hi]) 9 Tryd.underlying9]
    congr 2
    simp [strOfNums, Function.comp_def]
theorem eq_digest (a b : List UInt8) (ha : a.length = 32) (hb : b.length = 32) (W : World) : (Op.equalIn 10000 35 (.agg (BV a).toArray) (.agg (BV b).toArray)).run Tryd.prog W = .ok (a == b) W :=
  run_equalIn_bytes W 9998 35 5 32 (by kernel_rfl) (by kernel_rfl) (fun w => by kernel_rfl) a b ha hb
theorem bytesEqual_any (a b : List UInt8) (w : World) (A B : Option Addr) (c d n m : Nat) (ha : RBs w n A a) (hb : RBs w m B b) :
    Calls Tryd.prog 37 #[.slice A a.length c, .slice B b.length d] w fun e w' => e = .returned (.bool (a == b)) ∧ Below w.heap.size w w' := by
  have h1 := conv_str (c := c) ha
  have h2 := conv_str (c := d) hb
  have hB := Below.refl w.heap.size w
  clear ha hb
  go_enter Tryd.func37, Tryd.ntmps37
  go_wp2_with fail
  go_ret
  exact ⟨rfl, hB⟩

structure Lk where
  node : Int
  no : Int
  prev : List UInt8
  data : List UInt8
def I64 (n : Int) : Prop := -9223372036854775808 ≤ n ∧ n ≤ 9223372036854775807
structure Lk.Fine (x : Lk) : Prop where
  node : I64 x.node
  no : I64 x.no
  prev : x.prev.length = 32
def sameL (x y : Lk) : Bool := x.node == y.node && x.no == y.no && x.prev == y.prev && x.data == y.data
theorem sameL_iff {x y : Lk} : sameL x y = true ↔ x = y := by
  cases x; cases y
  simp [sameL, and_assoc]
theorem sameL_false {x y : Lk} : sameL x y = false ↔ x ≠ y := by
  rw [Ne, ← sameL_iff]; simp
theorem sameL_refl (x : Lk) : sameL x x = true := sameL_iff.2 rfl
/-- The cells of a link. -/
def LW (x : Lk) (a : Option Addr) (c : Nat) : List Value := .int .i64 x.node :: .int .i64 x.no :: (BV x.prev ++ [.slice a x.data.length c])
theorem LW_length {x : Lk} {a : Option Addr} {c : Nat} (h : x.prev.length = 32) : (LW x a c).length = 35 := by simp [LW, BV_length, h]
theorem LW_size {x : Lk} {a : Option Addr} {c : Nat} (h : x.prev.length = 32) : (LW x a c).toArray.size = 35 := by simp [LW_length h]
theorem LW_one (x : Lk) (a : Option Addr) (c : Nat) : ∀ u ∈ LW x a c, u.oneCell' = true := by
  intro u h
  simp only [LW, List.mem_cons, List.mem_append, List.not_mem_nil, or_false] at h
  rcases h with rfl | rfl | h | rfl
  · rfl
  · rfl
  · exact BV_one _ u h
  · rfl
theorem LW_all (x : Lk) (a : Option Addr) (c : Nat) : (LW x a c).toArray.all (·.oneCell') = true := by
  rw [Array.all_eq_true_iff_forall_mem]
  intro u hu
  exact LW_one x a c u (by simpa using hu)
theorem LW_0 (x : Lk) (a : Option Addr) (c : Nat) : (LW x a c)[0]? = some (.int .i64 x.node) := rfl
theorem LW_1 (x : Lk) (a : Option Addr) (c : Nat) : (LW x a c)[1]? = some (.int .i64 x.no) := rfl
theorem LW_2 (x : Lk) (a : Option Addr) (c : Nat) {j : Nat} {v : Value} (h : (BV x.prev)[j]? = some v) : (LW x a c)[2 + j]? = some v := by
  have hj : j < (BV x.prev).length := (List.getElem?_eq_some_iff.1 h).1
  rw [LW, show 2 + j = (j + 1) + 1 by omega, List.getElem?_cons_succ, List.getElem?_cons_succ, List.getElem?_append_left hj]
  exact h
theorem LW_34 {x : Lk} (a : Option Addr) (c : Nat) (h : x.prev.length = 32) : (LW x a c)[34]? = some (.slice a x.data.length c) := by
  rw [LW, List.getElem?_cons_succ, List.getElem?_cons_succ, List.getElem?_append_right (by rw [BV_length, h]; omega), BV_length, h]
  rfl
/-- A range with the cells of a link: its parts. -/
theorem range_parts {W : World} {b o : Nat} {x : Lk} {a : Option Addr} {c : Nat} (hx : x.prev.length = 32) (h : W.rangeAt b o (LW x a c)) :
    W.cell? ⟨b, o, none⟩ = some (.int .i64 x.node) ∧ W.cell? ⟨b, o + 1, none⟩ = some (.int .i64 x.no) ∧ W.rangeAt b (o + 2) (BV x.prev) ∧ W.cell? ⟨b, o + 34, none⟩ = some (.slice a x.data.length c) :=
  ⟨h 0 _ (LW_0 x a c), h 1 _ (LW_1 x a c), fun j v hv => by rw [Nat.add_assoc]; exact h (2 + j) v (LW_2 x a c hv), h 34 _ (LW_34 a c hx)⟩
/-- The bytes of a link's data. -/
structure Dt (w : World) (B : Nat) (x : Lk) (a : Option Addr) (c : Nat) : Prop where
  read : RBs w B a x.data
  none : a = none → x.data = []
  cap : x.data.length ≤ c
  max : c ≤ 9223372036854775807
theorem Dt.lift {w w' : World} {B B' : Nat} {x : Lk} {a : Option Addr} {c : Nat} (h : Dt w B x a c) (hb : Below B w w') (hB : B ≤ B') : Dt w' B' x a c := ⟨h.read.lift hb hB, h.none, h.cap, h.max⟩
/-- A slice of links, below block B: element i at 35 cells from off + 35 i on. -/
def QL (w : World) (B : Nat) (l : List Lk) (a : Option Addr) (cap : Nat) : Prop :=
  l.length ≤ cap ∧ cap ≤ 9223372036854775807 ∧ (∀ x ∈ l, x.Fine) ∧ (a = none → l = []) ∧
  ∃ b off, (0 < l.length → a = some ⟨b, off, none⟩ ∧ b < B) ∧ ∀ i (h : i < l.length), ∃ da dc, w.rangeAt b (off + i * 35) (LW l[i] da dc) ∧ Dt w B l[i] da dc
theorem QL.lift {w w' : World} {B B' : Nat} {l : List Lk} {a : Option Addr} {cap : Nat} (h : QL w B l a cap) (hb : Below B w w') (hB : B ≤ B') : QL w' B' l a cap := by
  obtain ⟨h1, h2, h3, h4, b, off, h5, h6⟩ := h
  refine ⟨h1, h2, h3, h4, b, off, fun hp => ⟨(h5 hp).1, Nat.lt_of_lt_of_le (h5 hp).2 hB⟩, fun i hi => ?_⟩
  obtain ⟨da, dc, r, d⟩ := h6 i hi
  refine ⟨da, dc, fun j v hv => ?_, d.lift hb hB⟩
  rw [hb.cell (p := ⟨b, off + i * 35 + j, none⟩) (h5 (by omega)).2]
  exact r j v hv
theorem QL.below {w w' : World} {l : List Lk} {a : Option Addr} {cap : Nat} (h : QL w w.heap.size l a cap) (hb : Below w.heap.size w w') : QL w' w'.heap.size l a cap := h.lift hb hb.size
theorem QL.nil (w : World) (B : Nat) : QL w B [] none 0 := ⟨Nat.le_refl _, by omega, fun x h => by simp at h, fun _ => rfl, 0, 0, fun h => by simp at h, fun i h => by simp at h⟩
theorem QL.at_ {w : World} {B i : Nat} {l : List Lk} {a : Option Addr} {cap : Nat} (h : QL w B l a cap) (hi : i < l.length) : ∃ b off da dc, a = some ⟨b, off, none⟩ ∧ b < B ∧ w.rangeAt b (off + i * 35) (LW l[i] da dc) ∧ Dt w B l[i] da dc := by
  obtain ⟨h1, h2, h3, h4, b, off, h5, h6⟩ := h
  obtain ⟨e, hb⟩ := h5 (by omega)
  obtain ⟨da, dc, r, d⟩ := h6 i hi
  exact ⟨b, off, da, dc, e, hb, r, d⟩
theorem QL.fine {w : World} {B : Nat} {l : List Lk} {a : Option Addr} {cap : Nat} (h : QL w B l a cap) : ∀ x ∈ l, x.Fine := h.2.2.1
theorem Tryd.sizeL : ∀ w, (Go.sizeOf 37).run Tryd.prog w = .ok 35 w := fun _ => by kernel_rfl
theorem Tryd.tyL : Tryd.prog.underlying 22 = some (.slice (Tryd.prog.elem 22)) := by kernel_rfl
theorem Tryd.elL : Tryd.prog.elem 22 = 37 := by kernel_rfl
theorem add_zero_ (p : Addr) : p.add 0 = p := by
  unfold Addr.add
  split <;> simp_all
/-- 'l[:k]'. -/
theorem slice_to (a : Option Addr) (len cap k : Nat) (h : k ≤ cap) (W : World) : (Instr.slice 22 (.slice a len cap) none (some (.int .i64 (k : Int))) none).run Tryd.prog W = .ok (.slice a k cap) W := by
  rw [run_slice_h W _ _ _ _ Tryd.tyL .i64 _ (by omega) (by omega), Tryd.elL, Tryd.sizeL]
  simp [Result.andThen, sliced]
  intro _
  cases a <;> simp [add_zero_]
/-- 'l[:k:k]'. -/
theorem slice_toto (a : Option Addr) (len cap k : Nat) (h : k ≤ cap) (W : World) : (Instr.slice 22 (.slice a len cap) none (some (.int .i64 (k : Int))) (some (.int .i64 (k : Int)))).run Tryd.prog W = .ok (.slice a k k) W := by
  rw [run_slice_hm W _ _ _ _ Tryd.tyL .i64 .i64 _ _ (by omega) (by omega) (by omega), Tryd.elL, Tryd.sizeL]
  simp [Result.andThen, sliced]
  intro _
  cases a <;> simp [add_zero_]
theorem QL.cut {w : World} {B : Nat} {l : List Lk} {a a' : Option Addr} {cap k c' : Nat} (h : QL w B l a cap) (hk : k ≤ l.length) (hc : k ≤ c') (hm : c' ≤ cap) (ha : a' = none → a = none) (hs : a' = a ∨ a' = a.map (·.add 0)) : QL w B (l.take k) a' c' := by
  obtain ⟨h1, h2, h3, h4, b, off, h5, h6⟩ := h
  refine ⟨by rw [List.length_take]; omega, by omega, fun d hd => h3 d (List.mem_of_mem_take hd), fun e => ?_, b, off, fun hp => ?_, fun i hi => ?_⟩
  · rw [h4 (ha e)]; simp
  · have hl : 0 < l.length := by rw [List.length_take] at hp; omega
    obtain ⟨e, hb⟩ := h5 hl
    refine ⟨?_, hb⟩
    rcases hs with rfl | rfl
    · exact e
    · rw [e]; simp [add_none]
  · have hi' : i < l.length := by rw [List.length_take] at hi; omega
    obtain ⟨da, dc, r, d⟩ := h6 i hi'
    rw [List.getElem_take]
    exact ⟨da, dc, r, d⟩
theorem QL.to {w : World} {B : Nat} {l : List Lk} {a : Option Addr} {cap k : Nat} (h : QL w B l a cap) (hk : k ≤ l.length) : ∃ a', (∀ W, (Instr.slice 22 (.slice a l.length cap) none (some (.int .i64 (k : Int))) none).run Tryd.prog W = .ok (.slice a' k cap) W) ∧ QL w B (l.take k) a' cap :=
  ⟨_, fun W => slice_to a l.length cap k (Nat.le_trans hk h.1) W, h.cut hk (Nat.le_trans hk h.1) (Nat.le_refl _) id (.inl rfl)⟩
theorem QL.toto {w : World} {B : Nat} {l : List Lk} {a : Option Addr} {cap k : Nat} (h : QL w B l a cap) (hk : k ≤ l.length) : ∃ a', (∀ W, (Instr.slice 22 (.slice a l.length cap) none (some (.int .i64 (k : Int))) (some (.int .i64 (k : Int)))).run Tryd.prog W = .ok (.slice a' k k) W) ∧ QL w B (l.take k) a' k :=
  ⟨_, fun W => slice_toto a l.length cap k (Nat.le_trans hk h.1) W, h.cut hk (Nat.le_refl _) (Nat.le_trans hk h.1) id (.inl rfl)⟩
/-- 'l[k:]'. -/
theorem QL.from_ {w : World} {B : Nat} {l : List Lk} {a : Option Addr} {cap k : Nat} (h : QL w B l a cap) (hk : k ≤ l.length) : ∃ a', (∀ W, (Instr.slice 22 (.slice a l.length cap) (some (.int .i64 (k : Int))) none none).run Tryd.prog W = .ok (.slice a' (l.length - k) (cap - k)) W) ∧ QL w B (l.drop k) a' (cap - k) := by
  obtain ⟨h1, h2, h3, h4, b, off, h5, h6⟩ := h
  refine ⟨if cap = k then a else a.map (·.add (k * 35)), fun W => ?_, by rw [List.length_drop]; omega, by omega, fun d hd => h3 d (List.mem_of_mem_drop hd), fun e => ?_, b, off + k * 35, fun hp => ?_, fun i hi => ?_⟩
  · rw [run_slice_l W _ _ _ _ Tryd.tyL .i64 _ (by omega) (by omega), Tryd.elL, Tryd.sizeL]
    simp [Result.andThen, sliced]
  · have : a = none := by
      split at e
      · exact e
      · simpa using e
    rw [h4 this]; simp
  · rw [List.length_drop] at hp
    obtain ⟨e, hb⟩ := h5 (by omega)
    refine ⟨?_, hb⟩
    rw [if_neg (by omega), e]
    simp [add_none]
  · have hi' : k + i < l.length := by rw [List.length_drop] at hi; omega
    obtain ⟨da, dc, r, d⟩ := h6 (k + i) hi'
    rw [List.getElem_drop]
    rw [show off + (k + i) * 35 = off + k * 35 + i * 35 by omega] at r
    exact ⟨da, dc, r, d⟩
/-- A part of a row is loaded by an operation that has a guard. -/
theorem wpList_load_part {ops : Array Oper} {rest : List Oper} {o : Oper} {a : Act} {w : World} {Q : Exit → Act → World → Prop} {P : Program} (hw : Region.wanted o (yielded ops a.tmps) = true) (ty : TypeId) (x : Operand) (ho : o.op = .load ty x)
    (b off : Nat) (hx : a.eval x = .pointer (some ⟨b, off, none⟩)) (cs : List Value) (d : TypeDesc) (hc : w.rangeAt b off cs)
    (hu : P.underlying ty = some d) (hd : d.isRow = true) (hi : (P.info? ty).map (·.size) = some cs.length)
    (h : wpList P ops Q rest (a.put o.dst (.agg cs.toArray)) w) : wpList P ops Q (o :: rest) a w :=
  wpList_step fun K hK => by
    rw [if_pos hw]
    exact wp_load_mid ty x ho b off hx cs d hc hu hd hi (hK _ _ h)
end Go.Proofs.YtbhpmeljmkoebaaDoor
