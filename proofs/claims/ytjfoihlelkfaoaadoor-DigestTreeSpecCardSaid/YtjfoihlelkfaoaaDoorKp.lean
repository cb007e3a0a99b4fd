/- What the walks of the laws share: what stands through a law, two stores, an append of a digest. -/
import Derived.Test.YtjfoihlelkfaoaaDoorSn
import Derived.Test.YtjfoihlelkfaoaaDoorOf
import Derived.Deep.DeepCutAuto
import Derived.Deep.CutBlock
namespace Go.Proofs.YtjfoihlelkfaoaaDoor
open Go.RowKit

/-- What stands through a law: the memory that was there, and a list of digests of the law's own. -/
structure Keeps (w : World) (v : Value) (l : List (List UInt8)) (Q : World → Prop) : Prop where
  below : ∀ W, Q W → Below w.heap.size w W
  drew : ∀ W, Q W → Q W.drew
  alloc : ∀ W o, Q W → Q (W.alloc o)
  step : ∀ W W', Q W → Below W.heap.size W W' → Q W'
  own : ∀ W, Q W → OD W w.heap.size v l
  kt : ∀ W, Q W → KT W
  pos : ∀ W, Q W → 0 < W.heap.size
theorem keeps_of {w : World} {v : Value} {l : List (List UInt8)} (hK : KT w) (h0 : 0 < w.heap.size) : Keeps w v l (fun W => Below w.heap.size w W ∧ OD W w.heap.size v l) where
  below _ h := h.1
  drew _ h := ⟨dN h.1 1, h.2⟩
  alloc _ o h := ⟨h.1.alloc h.1.size o, h.2.below ((Below.refl _ _).alloc (Nat.le_refl _) o)⟩
  step _ _ h hb := ⟨h.1.trans (hb.mono h.1.size), h.2.below hb⟩
  own _ h := h.2
  kt _ h := hK.below h.1 h0
  pos _ h := Nat.lt_of_lt_of_le h0 h.1.size

theorem half_unique (n j : Nat) (h1 : 2 ^ j < n) (h2 : n ≤ 2 * 2 ^ j) (hm : n ≤ 2 ^ 63) : half n = 2 ^ j := by
  obtain ⟨a, b, -⟩ := half_bounds n (by have := Nat.two_pow_pos j; omega) hm
  obtain ⟨m, hm⟩ : ∃ m, half n = 2 ^ m := ⟨_, rfl⟩
  rw [hm] at a b ⊢
  rcases Nat.lt_trichotomy j m with h | h | h
  · have := Nat.pow_le_pow_right (n := 2) (by omega) (show j + 1 ≤ m by omega)
    rw [Nat.pow_succ] at this
    omega
  · rw [h]
  · have := Nat.pow_le_pow_right (n := 2) (by omega) (show m + 1 ≤ j by omega)
    rw [Nat.pow_succ] at this
    omega

/-- A row is loaded by an operation that has a guard. -/
theorem wpList_load_guarded {ops : Array Oper} {rest : List Oper} {o : Oper} {a : Act} {w : World} {Q : Exit → Act → World → Prop} {P : Program} (hw : Region.wanted o (yielded ops a.tmps) = true) (ty : TypeId) (x : Operand) (ho : o.op = .load ty x)
    (g : Nat) (hx : a.eval x = .pointer (some ⟨g, 0, none⟩)) (t : TypeId) (cs : Array Value) (fr : Nat × Nat) (d : TypeDesc) (hg : w.heap[g]? = some (.cells cs t fr))
    (hu : P.underlying ty = some d) (hd : (match d with | .struct _ | .array _ _ => true | _ => false) = true) (hi : (P.info? ty).map (·.size) = some cs.size)
    (h : wpList P ops Q rest (a.put o.dst (.agg cs)) w) : wpList P ops Q (o :: rest) a w :=
  wpList_step fun K hK => by
    rw [if_pos hw]
    exact wp_load_row ty x ho g hx t cs fr d hg hu hd hi (hK _ _ h)
/-- The type and the size of a digest, under names of their own: so a walk does not part a load of one. -/
def tD : TypeId := 24
def nD : Nat := 32
def asIs (o : Op) : Op := o
theorem asIs_eq (o : Op) : asIs o = o := rfl
theorem aD (W : World) : (isAgg tD).run Tryd.prog W = .ok true W := by kernel_rfl
theorem zD (W : World) : (sizeOf tD).run Tryd.prog W = .ok nD W := by kernel_rfl
theorem load_nD {W : World} {g : Nat} {d : List UInt8} {T : TypeId} (h : DB W g T d) (hd : d.length = 32) : (loadCellsFrom ⟨g, 0, none⟩ 0 nD #[]).run Tryd.prog W = .ok (BV d).toArray W := by
  have := run_loadCells_list (P := Tryd.prog) W ⟨g, 0, none⟩ (BV d) (fun j v hv => by rw [add_none, cell_of_row W g (0 + j) _ _ _ h]; simpa using hv)
  rw [BV_length, hd] at this
  show (loadCellsFrom ⟨g, 0, none⟩ 0 32 #[]).run Tryd.prog W = .ok (BV d).toArray W
  simpa [loadCells] using this
/-- The cells of a digest are loaded, as the walk leaves it. -/
theorem load_cells {W : World} {g : Nat} {d : List UInt8} {T : TypeId} (h : DB W g T d) (hd : d.length = 32) : (loadCellsFrom ⟨g, 0, none⟩ 0 32 #[]).run Tryd.prog W = .ok (BV d).toArray W := by
  have := run_loadCells_list (P := Tryd.prog) W ⟨g, 0, none⟩ (BV d) (fun j v hv => by rw [add_none, cell_of_row W g (0 + j) _ _ _ h]; simpa using hv)
  rw [BV_length, hd] at this
  simpa [loadCells] using this
theorem BV_length32 {d : List UInt8} (h : d.length = 32) : (BV d).length = 32 := by rw [BV_length, h]
/-- Two blocks of digests that are stored into, in whatever order. -/
structure Ready (w Y : World) (N p q : Nat) (a b : List UInt8) : Prop where
  fin1 : DB ((Y.setCells p 0 (BV a)).setCells q 0 (BV b)) p 24 a ∧ DB ((Y.setCells p 0 (BV a)).setCells q 0 (BV b)) q 24 b ∧ Below N w ((Y.setCells p 0 (BV a)).setCells q 0 (BV b))
  fin2 : DB ((Y.setCells q 0 (BV a)).setCells p 0 (BV b)) q 24 a ∧ DB ((Y.setCells q 0 (BV a)).setCells p 0 (BV b)) p 24 b ∧ Below N w ((Y.setCells q 0 (BV a)).setCells p 0 (BV b))
theorem two_there {w Y : World} {N p q : Nat} {a b : List UInt8} (ha : a.length = 32) (hb : b.length = 32) (hp : DB Y p 24 zeroD) (hq : DB Y q 24 zeroD) (hY : Below N w Y) (hpq : p ≠ q) (hNp : N ≤ p) (hNq : N ≤ q) :
    Y.there p 0 (BV a).length ∧ Y.there q 0 (BV a).length ∧ (Y.setCells p 0 (BV a)).there q 0 (BV b).length ∧ (Y.setCells q 0 (BV a)).there p 0 (BV b).length ∧ Ready w Y N p q a b := by
  have la : (BV a).length = zeroD.length := by rw [BV_length32 ha]; rfl
  have lb : (BV b).length = zeroD.length := by rw [BV_length32 hb]; rfl
  have e1 := setCells_row hp (l := a) (by decide) ha
  have e2 := setCells_row hq (l := a) (by decide) ha
  have f1 := hq.far (BV a).toArray (k := p) (by omega)
  have f2 := hp.far (BV a).toArray (k := q) (by omega)
  have e3 := setCells_row f1 (l := b) (by decide) hb
  have e4 := setCells_row f2 (l := b) (by decide) hb
  have lp := hp.lt
  have lq := hq.lt
  refine ⟨there_of hp (Nat.le_of_eq la), there_of hq (Nat.le_of_eq la), by rw [e1]; exact there_of f1 (Nat.le_of_eq lb), by rw [e2]; exact there_of f2 (Nat.le_of_eq lb), ?_, ?_⟩
  · rw [e1, e3]
    exact ⟨(hp.store (e := a)).far _ (by omega), f1.store, below_row (below_row hY _ hNp (by omega)) _ hNq (by simp; omega)⟩
  · rw [e2, e4]
    exact ⟨(hq.store (e := a)).far _ (by omega), f2.store, below_row (below_row hY _ hNq (by omega)) _ hNp (by simp; omega)⟩
theorem one_there {w Y : World} {N g : Nat} {d : List UInt8} (hd : d.length = 32) (hg : DB Y g 24 zeroD) (hY : Below N w Y) (hN : N ≤ g) : Y.there g 0 (BV d).length ∧ DB (Y.setCells g 0 (BV d)) g 24 d ∧ Below N w (Y.setCells g 0 (BV d)) := by
  have l1 : (BV d).length = zeroD.length := by rw [BV_length32 hd]; rfl
  have e1 := setCells_row hg (l := d) (by decide) hd
  have l2 := hg.lt
  exact ⟨there_of hg (Nat.le_of_eq l1), by rw [e1]; exact hg.store, by rw [e1]; exact below_row hY _ hN (by omega)⟩
theorem slice_digest (D off : Nat) (W : World) : (Instr.sliceAt 24 (.pointer (some ⟨D, off, none⟩)) none none none).run Tryd.prog W = .ok (.slice (some ⟨D, off, none⟩) 32 32) W := by kernel_rfl
theorem range_reads {W : World} {B b off : Nat} {d : List UInt8} (hb : b < B) (hr : W.rangeAt b off (BV d)) : RBs W B (some ⟨b, off, none⟩) d := fun _ => ⟨b, off, rfl, hb, fun j hj => hr j _ (by simp [BV, hj])⟩

/-- A digest is appended, at a step of a region that draws its order. -/
theorem step_digest {ops : Array Oper} {o : Oper} {a : Act} {K : Act → World → Prop} {Q : Exit → Act → World → Prop} {E : Prop} {w : World} (hgd : o.guard = none) (s x : Operand)
    (ho : o.op = .call { callee := .builtin .append, args := #[s, x], argTypes := #[22, 22] })
    (B : Nat) (v : Value) (l : List UInt8) (hs : a.eval s = v) (hown : OB w B v l) (g : Nat) (d : List UInt8) (hx : a.eval x = .slice (some ⟨g, 0, none⟩) 32 32) (hd : DB w g 24 d) (h32 : d.length = 32) (hlen : l.length ≤ 1000) (hB : B ≤ w.heap.size)
    (h : ∀ g' c w', OB w' B (.slice (some ⟨g', 0, none⟩) (l.length + 32) c) (l ++ d) → Below B w w' → K (a.put o.dst (.slice (some ⟨g', 0, none⟩) (l.length + 32) c)) w') : if Region.wanted o (yielded ops a.tmps) = true then Oper.wp Tryd.prog o a w K Q else E := by
  obtain ⟨i0, hi0, hz0, hz1, hz2⟩ := info_parts Tryd.info8
  have hc : ∀ j u, (BV d)[j]? = some u → w.cell? ((⟨g, 0, none⟩ : Addr).add j) = some u := fun j u hu => by rw [add_none, cell_of_row w g _ _ _ _ hd]; simpa using hu
  refine step_append_lies w hgd s x 22 ho B 5 i0 (.int .u8 0) 1 1 Tryd.underlying22 hi0 hz0 hz1 hz2 rfl (by decide) v l.length (BV l) hs hown ⟨g, 0, none⟩ 32 32 (BV d) hx (by rw [BV_length, h32]) hc (BV_one d) (by omega) (by unfold maxLen; omega) (by omega) hB _ rfl ?_
  intro g' cap w1 h1 h2 h3 _
  refine h g' cap w1 ?_ ((Below.refl B w).grown h2 hB (fun k e => ?_))
  · unfold OB
    rw [List.length_append, BV_append, h32]
    exact h1
  · exact (hown.lt k e).1
end Go.Proofs.YtjfoihlelkfaoaaDoor
