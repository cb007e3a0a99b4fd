/- Two boxes of digests, stored into in whatever order; an append of a digest in a region that draws its order. -/
import Derived.Test.YtgddfdejkmnfkaaDoorMl
import Derived.Deep.RegionHeld3
import Derived.Deep.DeepCutAuto
import Derived.Deep.CutBlock
namespace Go.Proofs.YtgddfdejkmnfkaaDoor
open Go.RowKit

theorem box_zero (w : World) (d : List UInt8) : DB ((w.alloc (.cells (BV d).toArray 30)).alloc (.cells #[.int .u8 0, .int .u8 0, .int .u8 0, .int .u8 0, .int .u8 0, .int .u8 0, .int .u8 0, .int .u8 0, .int .u8 0, .int .u8 0, .int .u8 0, .int .u8 0, .int .u8 0, .int .u8 0, .int .u8 0, .int .u8 0, .int .u8 0, .int .u8 0, .int .u8 0, .int .u8 0, .int .u8 0, .int .u8 0, .int .u8 0, .int .u8 0, .int .u8 0, .int .u8 0, .int .u8 0, .int .u8 0, .int .u8 0, .int .u8 0, .int .u8 0, .int .u8 0] 30)) w.heap.size 30 d ∧ DB ((w.alloc (.cells (BV d).toArray 30)).alloc (.cells #[.int .u8 0, .int .u8 0, .int .u8 0, .int .u8 0, .int .u8 0, .int .u8 0, .int .u8 0, .int .u8 0, .int .u8 0, .int .u8 0, .int .u8 0, .int .u8 0, .int .u8 0, .int .u8 0, .int .u8 0, .int .u8 0, .int .u8 0, .int .u8 0, .int .u8 0, .int .u8 0, .int .u8 0, .int .u8 0, .int .u8 0, .int .u8 0, .int .u8 0, .int .u8 0, .int .u8 0, .int .u8 0, .int .u8 0, .int .u8 0, .int .u8 0, .int .u8 0] 30)) (w.heap.size + 1) 30 (List.replicate 32 0) ∧
    Below w.heap.size w ((w.alloc (.cells (BV d).toArray 30)).alloc (.cells #[.int .u8 0, .int .u8 0, .int .u8 0, .int .u8 0, .int .u8 0, .int .u8 0, .int .u8 0, .int .u8 0, .int .u8 0, .int .u8 0, .int .u8 0, .int .u8 0, .int .u8 0, .int .u8 0, .int .u8 0, .int .u8 0, .int .u8 0, .int .u8 0, .int .u8 0, .int .u8 0, .int .u8 0, .int .u8 0, .int .u8 0, .int .u8 0, .int .u8 0, .int .u8 0, .int .u8 0, .int .u8 0, .int .u8 0, .int .u8 0, .int .u8 0, .int .u8 0] 30)) := by
  refine ⟨?_, ?_, ((Below.refl _ _).alloc (Nat.le_refl _) _).alloc (by simp) _⟩
  · unfold DB; rw [heap_alloc_old _ _ _ (by simp)]; exact heap_alloc_new w _
  · have := heap_alloc_new (w.alloc (.cells (BV d).toArray 30)) (.cells #[.int .u8 0, .int .u8 0, .int .u8 0, .int .u8 0, .int .u8 0, .int .u8 0, .int .u8 0, .int .u8 0, .int .u8 0, .int .u8 0, .int .u8 0, .int .u8 0, .int .u8 0, .int .u8 0, .int .u8 0, .int .u8 0, .int .u8 0, .int .u8 0, .int .u8 0, .int .u8 0, .int .u8 0, .int .u8 0, .int .u8 0, .int .u8 0, .int .u8 0, .int .u8 0, .int .u8 0, .int .u8 0, .int .u8 0, .int .u8 0, .int .u8 0, .int .u8 0] 30)
    rw [World.size_alloc] at this
    exact this
theorem box_new (w : World) : DB ((w.alloc (.cells #[.int .u8 0, .int .u8 0, .int .u8 0, .int .u8 0, .int .u8 0, .int .u8 0, .int .u8 0, .int .u8 0, .int .u8 0, .int .u8 0, .int .u8 0, .int .u8 0, .int .u8 0, .int .u8 0, .int .u8 0, .int .u8 0, .int .u8 0, .int .u8 0, .int .u8 0, .int .u8 0, .int .u8 0, .int .u8 0, .int .u8 0, .int .u8 0, .int .u8 0, .int .u8 0, .int .u8 0, .int .u8 0, .int .u8 0, .int .u8 0, .int .u8 0, .int .u8 0] 30)).alloc (.cells #[.int .u8 0, .int .u8 0, .int .u8 0, .int .u8 0, .int .u8 0, .int .u8 0, .int .u8 0, .int .u8 0, .int .u8 0, .int .u8 0, .int .u8 0, .int .u8 0, .int .u8 0, .int .u8 0, .int .u8 0, .int .u8 0, .int .u8 0, .int .u8 0, .int .u8 0, .int .u8 0, .int .u8 0, .int .u8 0, .int .u8 0, .int .u8 0, .int .u8 0, .int .u8 0, .int .u8 0, .int .u8 0, .int .u8 0, .int .u8 0, .int .u8 0, .int .u8 0] 30)) w.heap.size 30 zeroD ∧ DB ((w.alloc (.cells #[.int .u8 0, .int .u8 0, .int .u8 0, .int .u8 0, .int .u8 0, .int .u8 0, .int .u8 0, .int .u8 0, .int .u8 0, .int .u8 0, .int .u8 0, .int .u8 0, .int .u8 0, .int .u8 0, .int .u8 0, .int .u8 0, .int .u8 0, .int .u8 0, .int .u8 0, .int .u8 0, .int .u8 0, .int .u8 0, .int .u8 0, .int .u8 0, .int .u8 0, .int .u8 0, .int .u8 0, .int .u8 0, .int .u8 0, .int .u8 0, .int .u8 0, .int .u8 0] 30)).alloc (.cells #[.int .u8 0, .int .u8 0, .int .u8 0, .int .u8 0, .int .u8 0, .int .u8 0, .int .u8 0, .int .u8 0, .int .u8 0, .int .u8 0, .int .u8 0, .int .u8 0, .int .u8 0, .int .u8 0, .int .u8 0, .int .u8 0, .int .u8 0, .int .u8 0, .int .u8 0, .int .u8 0, .int .u8 0, .int .u8 0, .int .u8 0, .int .u8 0, .int .u8 0, .int .u8 0, .int .u8 0, .int .u8 0, .int .u8 0, .int .u8 0, .int .u8 0, .int .u8 0] 30)) (w.heap.size + 1) 30 zeroD ∧
    Below w.heap.size w ((w.alloc (.cells #[.int .u8 0, .int .u8 0, .int .u8 0, .int .u8 0, .int .u8 0, .int .u8 0, .int .u8 0, .int .u8 0, .int .u8 0, .int .u8 0, .int .u8 0, .int .u8 0, .int .u8 0, .int .u8 0, .int .u8 0, .int .u8 0, .int .u8 0, .int .u8 0, .int .u8 0, .int .u8 0, .int .u8 0, .int .u8 0, .int .u8 0, .int .u8 0, .int .u8 0, .int .u8 0, .int .u8 0, .int .u8 0, .int .u8 0, .int .u8 0, .int .u8 0, .int .u8 0] 30)).alloc (.cells #[.int .u8 0, .int .u8 0, .int .u8 0, .int .u8 0, .int .u8 0, .int .u8 0, .int .u8 0, .int .u8 0, .int .u8 0, .int .u8 0, .int .u8 0, .int .u8 0, .int .u8 0, .int .u8 0, .int .u8 0, .int .u8 0, .int .u8 0, .int .u8 0, .int .u8 0, .int .u8 0, .int .u8 0, .int .u8 0, .int .u8 0, .int .u8 0, .int .u8 0, .int .u8 0, .int .u8 0, .int .u8 0, .int .u8 0, .int .u8 0, .int .u8 0, .int .u8 0] 30)) := box_zero w zeroD
theorem DB.store {w : World} {g : Nat} {d e : List UInt8} {T : TypeId} (h : DB w g T d) : DB (w.setRow g (BV e).toArray) g T e := setRow_heap w g _ (BV e).toArray _ _ h
theorem DB.far {w : World} {g k : Nat} {d : List UInt8} {T : TypeId} (h : DB w g T d) (c : Array Value) (hk : g ≠ k) : DB (w.setRow k c) g T d := by
  unfold DB; rw [setRow_other w k g c hk]; exact h
theorem there_of {w : World} {g n : Nat} {T : TypeId} {old : List UInt8} (h : DB w g T old) (hn : n ≤ old.length) : w.there g 0 n := fun j hj => by
  rw [Nat.zero_add]
  exact ⟨by rw [h.cell (by omega)]; rfl, h.frozen j⟩
theorem setCells_row {w : World} {g : Nat} {old l : List UInt8} (h : DB w g 30 old) (ho : old.length = 32) (hl : l.length = 32) : w.setCells g 0 (BV l) = w.setRow g (BV l).toArray := by
  have hi : (Tryd.prog.info? 30).map (·.size) = some (BV l).toArray.size := by rw [List.size_toArray, BV_length, hl]; kernel_rfl
  have h1 := run_storeVar_mid (P := Tryd.prog) w g 0 30 (BV l).toArray (there_of h (by rw [List.size_toArray, BV_length]; omega)) hi (BV_all l)
  have h2 := run_storeVar_row (P := Tryd.prog) w g _ 30 _ (BV l).toArray h hi (by rw [List.size_toArray, List.size_toArray, BV_length, BV_length]; omega) (BV_all l)
  rw [h1] at h2
  injection h2 with _ h2
theorem BV_length32 {d : List UInt8} (h : d.length = 32) : (BV d).length = 32 := by rw [BV_length, h]
structure Ready (w Y : World) (N p q : Nat) (a b : List UInt8) : Prop where
  fin1 : DB ((Y.setCells p 0 (BV a)).setCells q 0 (BV b)) p 30 a ∧ DB ((Y.setCells p 0 (BV a)).setCells q 0 (BV b)) q 30 b ∧ Below N w ((Y.setCells p 0 (BV a)).setCells q 0 (BV b))
  fin2 : DB ((Y.setCells q 0 (BV a)).setCells p 0 (BV b)) q 30 a ∧ DB ((Y.setCells q 0 (BV a)).setCells p 0 (BV b)) p 30 b ∧ Below N w ((Y.setCells q 0 (BV a)).setCells p 0 (BV b))
theorem two_there {w Y : World} {N p q : Nat} {a b : List UInt8} (ha : a.length = 32) (hb : b.length = 32) (hp : DB Y p 30 zeroD) (hq : DB Y q 30 zeroD) (hY : Below N w Y) (hpq : p ≠ q) (hNp : N ≤ p) (hNq : N ≤ q) :
    Y.there p 0 (BV a).length ∧ Y.there q 0 (BV a).length ∧ (Y.setCells p 0 (BV a)).there q 0 (BV b).length ∧ (Y.setCells q 0 (BV a)).there p 0 (BV b).length ∧ Ready w Y N p q a b := by
  have la : (BV a).length = zeroD.length := by rw [BV_length32 ha]; rfl
  have lb : (BV b).length = zeroD.length := by rw [BV_length32 hb]; rfl
  have e1 := setCells_row hp (l := a) (by decide) ha
  have e2 := setCells_row hq (l := a) (by decide) ha
  have f1 := hq.far (BV a).toArray (k := p) (by omega)
  have f2 := hp.far (BV a).toArray (k := q) (by omega)
  have e3 := setCells_row f1 (l := b) (by decide) hb
  have e4 := setCells_row f2 (l := b) (by decide) hb
  have lp := hp.lt
  have lq := hq.lt
  refine ⟨there_of hp (Nat.le_of_eq la), there_of hq (Nat.le_of_eq la), by rw [e1]; exact there_of f1 (Nat.le_of_eq lb), by rw [e2]; exact there_of f2 (Nat.le_of_eq lb), ?_, ?_⟩
  · rw [e1, e3]
    exact ⟨(hp.store (e := a)).far _ (by omega), f1.store, below_row (below_row hY _ hNp (by omega)) _ hNq (by simp; omega)⟩
  · rw [e2, e4]
    exact ⟨(hq.store (e := a)).far _ (by omega), f2.store, below_row (below_row hY _ hNq (by omega)) _ hNp (by simp; omega)⟩
theorem slice_digest (D off : Nat) (W : World) : (Instr.sliceAt 30 (.pointer (some ⟨D, off, none⟩)) none none none).run Tryd.prog W = .ok (.slice (some ⟨D, off, none⟩) 32 32) W := by kernel_rfl
theorem step_digest {ops : Array Oper} {o : Oper} {a : Act} {K : Act → World → Prop} {Q : Exit → Act → World → Prop} {E : Prop} {w : World} (hgd : o.guard = none) (s x : Operand)
    (ho : o.op = .call { callee := .builtin .append, args := #[s, x], argTypes := #[34, 34] })
    (B : Nat) (v : Value) (l : List UInt8) (hs : a.eval s = v) (hown : OB w B v l) (g : Nat) (d : List UInt8) (hx : a.eval x = .slice (some ⟨g, 0, none⟩) 32 32) (hd : DB w g 30 d) (h32 : d.length = 32) (hlen : l.length ≤ 1000) (hB : B ≤ w.heap.size)
    (h : ∀ g' c w', OB w' B (.slice (some ⟨g', 0, none⟩) (l.length + 32) c) (l ++ d) → Below B w w' → K (a.put o.dst (.slice (some ⟨g', 0, none⟩) (l.length + 32) c)) w') : if Region.wanted o (yielded ops a.tmps) = true then Oper.wp Tryd.prog o a w K Q else E := by
  obtain ⟨i0, hi0, hz0, hz1, hz2⟩ := info_parts Tryd.info8
  have hc : ∀ j u, (BV d)[j]? = some u → w.cell? ((⟨g, 0, none⟩ : Addr).add j) = some u := fun j u hu => by rw [add_none, cell_of_row w g _ _ _ _ hd]; simpa using hu
  refine step_append_lies w hgd s x 34 ho B 5 i0 (.int .u8 0) 1 1 Tryd.underlying34 hi0 hz0 hz1 hz2 rfl (by decide) v l.length (BV l) hs hown ⟨g, 0, none⟩ 32 32 (BV d) hx (by rw [BV_length, h32]) hc (BV_one d) (by omega) (by unfold maxLen; omega) (by omega) hB _ rfl ?_
  intro g' cap w1 h1 h2 h3 _
  refine h g' cap w1 ?_ ((Below.refl B w).grown h2 hB (fun k e => ?_))
  · unfold OB
    rw [List.length_append, BV_append, h32]
    exact h1
  · exact (hown.lt k e).1
end Go.Proofs.YtgddfdejkmnfkaaDoor
