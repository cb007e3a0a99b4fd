/- Lists of digests, lists of leaves. -/
import Derived.Test.YtgddfdejkmnfkaaDoorMp
import Derived.Test.YtgddfdejkmnfkaaDoorAr
import Derived.Laws.AppendOwnNone
namespace Go.Proofs.YtgddfdejkmnfkaaDoor
open Go.RowKit

/-- A slice of digests, below block B: element i at 32 cells from off + 32 i on. -/
def RD (w : World) (B : Nat) (l : List (List UInt8)) (a : Option Addr) (cap : Nat) : Prop :=
  l.length ≤ cap ∧ cap ≤ 9223372036854775807 ∧ (∀ d ∈ l, d.length = 32) ∧ (a = none → l = []) ∧
  ∃ b off, (0 < l.length → a = some ⟨b, off, none⟩ ∧ b < B) ∧ ∀ i (h : i < l.length), w.rangeAt b (off + i * 32) (BV l[i])

theorem RD.under {w w' : World} {B B' : Nat} {l : List (List UInt8)} {a : Option Addr} {cap : Nat} (h : RD w B l a cap) (hb : Below B w w') (hB : B ≤ B') : RD w' B' l a cap := by
  obtain ⟨h1, h2, h3, h4, b, off, h5, h6⟩ := h
  refine ⟨h1, h2, h3, h4, b, off, fun hp => ⟨(h5 hp).1, Nat.lt_of_lt_of_le (h5 hp).2 hB⟩, fun i hi j v hv => ?_⟩
  rw [hb.cell (p := ⟨b, off + i * 32 + j, none⟩) (h5 (by omega)).2]
  exact h6 i hi j v hv
theorem RD.below {w w' : World} {l : List (List UInt8)} {a : Option Addr} {cap : Nat} (h : RD w w.heap.size l a cap) (hb : Below w.heap.size w w') : RD w' w'.heap.size l a cap := h.under hb hb.size
theorem Tryd.size24 : ∀ w, (Go.sizeOf 30).run Tryd.prog w = .ok 32 w := fun _ => by kernel_rfl
/-- 'l[:k]'. -/
theorem slice_to (a : Option Addr) (len cap k : Nat) (h : k ≤ cap) (W : World) : (Instr.slice 25 (.slice a len cap) none (some (.int .i64 (k : Int))) none).run Tryd.prog W = .ok (.slice (if cap = 0 then a else a.map (·.add 0)) k cap) W := by
  have ht : Tryd.prog.underlying 25 = some (.slice (Tryd.prog.elem 25)) := by kernel_rfl
  have he : Tryd.prog.elem 25 = 30 := by kernel_rfl
  rw [run_slice_h W _ _ _ _ ht .i64 _ (by omega) (by omega), he, Tryd.size24]
  simp [Result.andThen, sliced]
theorem RD.to {w : World} {B : Nat} {l : List (List UInt8)} {a : Option Addr} {cap k : Nat} (h : RD w B l a cap) (hk : k ≤ l.length) : ∃ a', (∀ W, (Instr.slice 25 (.slice a l.length cap) none (some (.int .i64 (k : Int))) none).run Tryd.prog W = .ok (.slice a' k cap) W) ∧ RD w B (l.take k) a' cap := by
  obtain ⟨h1, h2, h3, h4, b, off, h5, h6⟩ := h
  refine ⟨_, fun W => slice_to a l.length cap k (by omega) W, by rw [List.length_take]; omega, h2, fun d hd => h3 d (List.mem_of_mem_take hd), fun e => ?_, b, off, fun hp => ?_, fun i hi => ?_⟩
  · have : a = none := by
      split at e
      · exact e
      · simpa using e
    rw [h4 this]; simp
  · have hl : 0 < l.length := by rw [List.length_take] at hp; omega
    obtain ⟨e, hb⟩ := h5 hl
    refine ⟨?_, hb⟩
    rw [if_neg (by omega), e]
    simp [add_none]
  · have hi' : i < l.length := by rw [List.length_take] at hi; omega
    rw [List.getElem_take]
    exact h6 i hi'
/-- 'l[k:]'. -/
theorem RD.from_ {w : World} {B : Nat} {l : List (List UInt8)} {a : Option Addr} {cap k : Nat} (h : RD w B l a cap) (hk : k ≤ l.length) : ∃ a', (∀ W, (Instr.slice 25 (.slice a l.length cap) (some (.int .i64 (k : Int))) none none).run Tryd.prog W = .ok (.slice a' (l.length - k) (cap - k)) W) ∧ RD w B (l.drop k) a' (cap - k) := by
  have ht : Tryd.prog.underlying 25 = some (.slice (Tryd.prog.elem 25)) := by kernel_rfl
  have he : Tryd.prog.elem 25 = 30 := by kernel_rfl
  obtain ⟨h1, h2, h3, h4, b, off, h5, h6⟩ := h
  refine ⟨if cap = k then a else a.map (·.add (k * 32)), fun W => ?_, by rw [List.length_drop]; omega, by omega, fun d hd => h3 d (List.mem_of_mem_drop hd), fun e => ?_, b, off + k * 32, fun hp => ?_, fun i hi => ?_⟩
  · rw [run_slice_l W _ _ _ _ ht .i64 _ (by omega) (by omega), he, Tryd.size24]
    simp [Result.andThen, sliced]
  · have : a = none := by
      split at e
      · exact e
      · simpa using e
    rw [h4 this]; simp
  · rw [List.length_drop] at hp
    obtain ⟨e, hb⟩ := h5 (by omega)
    refine ⟨?_, hb⟩
    rw [if_neg (by omega), e]
    simp [add_none]
  · have hi' : k + i < l.length := by rw [List.length_drop] at hi; omega
    rw [List.getElem_drop]
    have := h6 (k + i) hi'
    rw [show off + (k + i) * 32 = off + k * 32 + i * 32 by omega] at this
    exact this
theorem RD.to_at {w : World} {B : Nat} {l : List (List UInt8)} {a a1 : Option Addr} {cap k : Nat} (h : RD w B l a cap) (hk : k ≤ l.length) (h1 : ∀ W, (Instr.slice 25 (.slice a l.length cap) none (some (.int .i64 (k : Int))) none).run Tryd.prog W = .ok (.slice a1 k cap) W) : RD w B (l.take k) a1 cap := by
  obtain ⟨a', h2, h3⟩ := h.to hk
  have e := (h1 w).symm.trans (h2 w)
  injection e with e
  injection e with e
  rw [e]; exact h3
theorem RD.from_at {w : World} {B : Nat} {l : List (List UInt8)} {a a1 : Option Addr} {cap k : Nat} (h : RD w B l a cap) (hk : k ≤ l.length) (h1 : ∀ W, (Instr.slice 25 (.slice a l.length cap) (some (.int .i64 (k : Int))) none none).run Tryd.prog W = .ok (.slice a1 (l.length - k) (cap - k)) W) : RD w B (l.drop k) a1 (cap - k) := by
  obtain ⟨a', h2, h3⟩ := h.from_ hk
  have e := (h1 w).symm.trans (h2 w)
  injection e with e
  injection e with e
  rw [e]; exact h3
/-- One element. -/
theorem RD.at_ {w : World} {B i : Nat} {l : List (List UInt8)} {a : Option Addr} {cap : Nat} (h : RD w B l a cap) (hi : i < l.length) : ∃ b off, a = some ⟨b, off, none⟩ ∧ b < B ∧ w.rangeAt b (off + i * 32) (BV l[i]) := by
  obtain ⟨h1, h2, h3, h4, b, off, h5, h6⟩ := h
  obtain ⟨e, hb⟩ := h5 (by omega)
  exact ⟨b, off, e, hb, h6 i hi⟩

/-- A row of digests of the call's own. -/
def OD (w : World) (B : Nat) (v : Value) (l : List (List UInt8)) : Prop := w.ownsRow B 30 32 v l.length (l.flatMap BV)
theorem Tryd.infoD : (Tryd.prog.info? 30).map (fun i => (i.zero, i.size, i.bytes)) = some (some (.agg #[.int .u8 0, .int .u8 0, .int .u8 0, .int .u8 0, .int .u8 0, .int .u8 0, .int .u8 0, .int .u8 0, .int .u8 0, .int .u8 0, .int .u8 0, .int .u8 0, .int .u8 0, .int .u8 0, .int .u8 0, .int .u8 0, .int .u8 0, .int .u8 0, .int .u8 0, .int .u8 0, .int .u8 0, .int .u8 0, .int .u8 0, .int .u8 0, .int .u8 0, .int .u8 0, .int .u8 0, .int .u8 0, .int .u8 0, .int .u8 0, .int .u8 0, .int .u8 0]), 32, 32) := by kernel_rfl
theorem OD.nil (w : World) (B : Nat) : OD w B (.slice none 0 0) [] := World.ownsRow_nil w B _ 32
theorem flat_length (l : List (List UInt8)) (h : ∀ d ∈ l, d.length = 32) : (l.flatMap BV).length = l.length * 32 := by
  induction l with
  | nil => rfl
  | cons d r ih => rw [List.flatMap_cons, List.length_append, ih (fun x hx => h x (by simp [hx])), BV_length, h d (by simp), List.length_cons]; omega
theorem flat_get (l : List (List UInt8)) (h : ∀ d ∈ l, d.length = 32) : ∀ (i : Nat) (hi : i < l.length) (j : Nat), j < 32 → (l.flatMap BV)[i * 32 + j]? = (BV l[i])[j]? := by
  induction l with
  | nil => intro i hi; simp at hi
  | cons d r ih =>
    intro i hi j hj
    have hd : (BV d).length = 32 := by rw [BV_length, h d (by simp)]
    rw [List.flatMap_cons]
    cases i with
    | zero => rw [List.getElem?_append_left (by omega)]; simp
    | succ i =>
      rw [List.getElem?_append_right (by omega), show (i + 1) * 32 + j - (BV d).length = i * 32 + j by omega]
      simpa using ih (fun x hx => h x (by simp [hx])) i (by simpa using hi) j hj
theorem OD.reads {w : World} {B : Nat} {v : Value} {l : List (List UInt8)} (h : OD w B v l) (h32 : ∀ d ∈ l, d.length = 32) : ∃ a cap, v = .slice a l.length cap ∧ RD w w.heap.size l a cap := by
  rcases h.2 with ⟨rfl, h0⟩ | ⟨g, cap, cur, rfl, hb, hg, hnc, hcm, hcs, ht⟩
  · have hl : l = [] := List.eq_nil_of_length_eq_zero h0
    subst hl
    exact ⟨none, 0, rfl, Nat.le_refl _, by omega, h32, fun _ => rfl, 0, 0, fun h => by simp at h, fun i hi => by simp at hi⟩
  · have hlt : g < w.heap.size := (Array.getElem?_eq_some_iff.1 hg).1
    refine ⟨_, cap, rfl, hnc, by unfold maxLen at hcm; omega, h32, fun h => (by cases h), g, 0, fun _ => ⟨rfl, hlt⟩, fun i hi j u hu => ?_⟩
    have hj : j < 32 := by
      have := (List.getElem?_eq_some_iff.1 hu).1
      rwa [BV_length, h32 _ (List.getElem_mem hi)] at this
    rw [cell_of_row w g _ _ _ _ hg, Nat.zero_add, ← hu, ← flat_get l h32 i hi j hj, ← ht, List.getElem?_take_of_lt (by omega), Array.getElem?_toList]
theorem ownsRow_mono {w : World} {B B' : Nat} {v : Value} {l : List (List UInt8)} (h : OD w B v l) (hB : B' ≤ B) : OD w B' v l := by
  refine ⟨h.1, ?_⟩
  rcases h.2 with h' | ⟨g, cap, cur, e, hb, r⟩
  · exact .inl h'
  · exact .inr ⟨g, cap, cur, e, Nat.le_trans hB hb, r⟩
theorem OD.below {w w' : World} {B : Nat} {v : Value} {l : List (List UInt8)} (h : OD w B v l) (hb : Below w.heap.size w w') : OD w' B v l :=
  World.ownsRow.kept (row := none) h ⟨hb.os, hb.tape, hb.output, hb.size, fun k hk _ => hb.block k hk⟩ (by cases hv : v.ownBlock <;> simp)

theorem RBs.under {w w' : World} {B : Nat} {A : Option Addr} {bs : List UInt8} (h : RBs w B A bs) (hb : Below B w w') : RBs w' B A bs := by
  intro hp
  obtain ⟨b, off, e, hlt, hc⟩ := h hp
  exact ⟨b, off, e, hlt, fun j hj => by rw [hb.cell (p := ⟨b, off + j, none⟩) hlt]; exact hc j hj⟩
theorem fold_zip (l : List Value) : ∀ (k : Nat) (z : Array Value), z.size = k + l.length → (l.zipIdx k).foldl (fun cs x => cs.setIfInBounds x.snd x.fst) z = (z.toList.take k ++ l).toArray := by
  induction l with
  | nil =>
    intro k z h
    apply Array.toList_inj.1
    simp only [List.zipIdx_nil, List.foldl_nil, List.append_nil]
    rw [List.take_of_length_le (by simp at h; simp [h])]
  | cons x l ih =>
    intro k z h
    rw [List.zipIdx_cons, List.foldl_cons, ih (k + 1) _ (by simp at h ⊢; omega)]
    apply Array.toList_inj.1
    simp only [Array.toList_setIfInBounds]
    have hk : k < z.toList.length := by simp at h ⊢; omega
    rw [List.take_add_one, List.take_set_of_le (Nat.le_refl _), List.getElem?_set_self hk]
    simp
/-- A slice of one digest is built: its cells. -/
theorem one_cells {d : List UInt8} (h : d.length = 32) : (BV d).zipIdx.foldl (fun cs x => cs.setIfInBounds x.snd x.fst) #[.int .u8 0, .int .u8 0, .int .u8 0, .int .u8 0, .int .u8 0, .int .u8 0, .int .u8 0, .int .u8 0, .int .u8 0, .int .u8 0, .int .u8 0, .int .u8 0, .int .u8 0, .int .u8 0, .int .u8 0, .int .u8 0, .int .u8 0, .int .u8 0, .int .u8 0, .int .u8 0, .int .u8 0, .int .u8 0, .int .u8 0, .int .u8 0, .int .u8 0, .int .u8 0, .int .u8 0, .int .u8 0, .int .u8 0, .int .u8 0, .int .u8 0, .int .u8 0] = (BV d).toArray := by
  rw [fold_zip (BV d) 0 _ (by rw [BV_length, h]; rfl)]
  rfl
theorem range_reads {W : World} {B b off : Nat} {d : List UInt8} (hb : b < B) (hr : W.rangeAt b off (BV d)) : RBs W B (some ⟨b, off, none⟩) d := fun _ => ⟨b, off, rfl, hb, fun j hj => hr j _ (by simp [BV, hj])⟩

theorem OD.form {w : World} {B : Nat} {v : Value} {l : List (List UInt8)} (h : OD w B v l) : ∃ a c, v = .slice a l.length c := by
  rcases h.2 with ⟨rfl, h0⟩ | ⟨q, cap, cur, rfl, -⟩
  · exact ⟨none, 0, by rw [h0]⟩
  · exact ⟨_, cap, rfl⟩
/-- append of one digest that lies in a block of its own. -/
theorem OD.app {W : World} {B : Nat} {v : Value} {l : List (List UInt8)} (ho : OD W B v l) (ty : TypeId) (s : Nat) (d : List UInt8) (hd : DB W s 30 d) (h32 : d.length = 32) (hl : l.length ≤ 1000000) (hB : B ≤ W.heap.size) :
    ∃ a c W', (Builtin.append_ #[25, 25] ty #[v, .slice (some ⟨s, 0, none⟩) 1 1]).run Tryd.prog W = .ok (.slice a (l ++ [d]).length c) W' ∧ OD W' B (.slice a (l ++ [d]).length c) (l ++ [d]) ∧ W.grownBy W' v.ownBlock ∧ ((Value.slice a (l ++ [d]).length c).ownBlock = v.ownBlock ∨ (Value.slice a (l ++ [d]).length c).ownBlock = some W.heap.size) := by
  obtain ⟨i0, hi0, hz0, hz1, hz2⟩ := info_parts Tryd.infoD
  obtain ⟨v', W', hr, ho', hg, hv⟩ := run_append_src_row (P := Tryd.prog) W B 25 25 ty 30 i0 _ 32 32 Tryd.underlying25 hi0 hz0 hz1 hz2 rfl v l.length (l.flatMap BV) ho (.slice (some ⟨s, 0, none⟩) 1 1) 1 (BV d)
    (Src.ofRow Tryd.underlying25 W (some ⟨s, 0, none⟩) 1 1 (BV d) (by rw [BV_length, h32]) (by decide) (fun _ => ⟨_, rfl, fun j u hu => by rw [add_none, Nat.zero_add, cell_of_row W s j _ _ _ hd]; simpa using hu⟩) (BV_one d)) (by omega) (by omega) hB
  have ho2 : OD W' B v' (l ++ [d]) := by
    unfold OD
    rw [List.length_append, List.flatMap_append, List.flatMap_singleton]
    exact ho'
  obtain ⟨a, c, rfl⟩ := ho2.form
  exact ⟨a, c, W', hr, ho2, hg, hv⟩
theorem OD.app_below {W W' : World} {B : Nat} {v : Value} {l : List (List UInt8)} (ho : OD W B v l) (hg : W.grownBy W' v.ownBlock) (hB : B ≤ W.heap.size) : Below B W W' :=
  (Below.refl B W).grown hg hB fun k e => (World.ownsRow.lt ho k e).1

/-- A list of leaves that is read. -/
def LL (w : World) (B : Nat) (ls : List (List UInt8)) (A : Option Addr) : Prop := 0 < ls.length → ∃ b off, A = some ⟨b, off, none⟩ ∧ b < B ∧ ∀ i (h : i < ls.length), ∃ a c, w.cell? ⟨b, off + i, none⟩ = some (.slice a ls[i].length c) ∧ RBs w B a ls[i] ∧ (a = none → ls[i] = []) ∧ ls[i].length ≤ c
theorem RBs.lift {w w' : World} {B B' : Nat} {A : Option Addr} {bs : List UInt8} (h : RBs w B A bs) (hb : Below B w w') (hB : B ≤ B') : RBs w' B' A bs := by
  intro hp
  obtain ⟨b, off, e, hlt, hc⟩ := h hp
  exact ⟨b, off, e, Nat.lt_of_lt_of_le hlt hB, fun j hj => by rw [hb.cell (p := ⟨b, off + j, none⟩) hlt]; exact hc j hj⟩
theorem LL.lift {w w' : World} {B B' : Nat} {ls : List (List UInt8)} {A : Option Addr} (h : LL w B ls A) (hb : Below B w w') (hB : B ≤ B') : LL w' B' ls A := fun hp => by
  obtain ⟨b, off, e, hlt, hc⟩ := h hp
  refine ⟨b, off, e, Nat.lt_of_lt_of_le hlt hB, fun i hi => ?_⟩
  obtain ⟨a, c, h1, h2, h3, h4⟩ := hc i hi
  exact ⟨a, c, (hb.cell (p := ⟨b, off + i, none⟩) hlt).trans h1, h2.lift hb hB, h3, h4⟩
theorem LL.nil (w : World) (B : Nat) (A : Option Addr) : LL w B [] A := fun h => absurd h (by simp)
theorem LL.at_ {w : World} {B : Nat} {ls : List (List UInt8)} {A : Option Addr} (h : LL w B ls A) {i : Nat} (hi : i < ls.length) : ∃ b off a c, A = some ⟨b, off, none⟩ ∧ b < B ∧ w.cell? ⟨b, off + i, none⟩ = some (.slice a ls[i].length c) ∧ RBs w B a ls[i] ∧ (a = none → ls[i] = []) ∧ ls[i].length ≤ c := by
  obtain ⟨b, off, e, hlt, hc⟩ := h (by omega)
  obtain ⟨a, c, h1⟩ := hc i hi
  exact ⟨b, off, a, c, e, hlt, h1⟩
/-- Leaves that are short enough for the model's bounds. -/
def Small (ls : List (List UInt8)) : Prop := ∀ x ∈ ls, x.length ≤ 800000
end Go.Proofs.YtgddfdejkmnfkaaDoor
