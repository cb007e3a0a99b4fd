/- Lists of digests in memory. -/
import Derived.Test.YtjfoihlelkfaoaaDoorHf
namespace Go.Proofs.YtjfoihlelkfaoaaDoor
open Go.RowKit

/-- A slice of digests, below block B: element i at 32 cells from off + 32 i on. -/
def RD (w : World) (B : Nat) (l : List (List UInt8)) (a : Option Addr) (cap : Nat) : Prop :=
  l.length ≤ cap ∧ cap ≤ 9223372036854775807 ∧ (∀ d ∈ l, d.length = 32) ∧ (a = none → l = []) ∧
  ∃ b off, (0 < l.length → a = some ⟨b, off, none⟩ ∧ b < B) ∧ ∀ i (h : i < l.length), w.rangeAt b (off + i * 32) (BV l[i])

theorem RD.under {w w' : World} {B B' : Nat} {l : List (List UInt8)} {a : Option Addr} {cap : Nat} (h : RD w B l a cap) (hb : Below B w w') (hB : B ≤ B') : RD w' B' l a cap := by
  obtain ⟨h1, h2, h3, h4, b, off, h5, h6⟩ := h
  refine ⟨h1, h2, h3, h4, b, off, fun hp => ⟨(h5 hp).1, Nat.lt_of_lt_of_le (h5 hp).2 hB⟩, fun i hi j v hv => ?_⟩
  rw [hb.cell (p := ⟨b, off + i * 32 + j, none⟩) (h5 (by omega)).2]
  exact h6 i hi j v hv
theorem RD.below {w w' : World} {l : List (List UInt8)} {a : Option Addr} {cap : Nat} (h : RD w w.heap.size l a cap) (hb : Below w.heap.size w w') : RD w' w'.heap.size l a cap := h.under hb hb.size
theorem Tryd.size24 : ∀ w, (Go.sizeOf 24).run Tryd.prog w = .ok 32 w := fun _ => by kernel_rfl
/-- 'l[:k]'. -/
theorem slice_to (a : Option Addr) (len cap k : Nat) (h : k ≤ cap) (W : World) : (Instr.slice 26 (.slice a len cap) none (some (.int .i64 (k : Int))) none).run Tryd.prog W = .ok (.slice (if cap = 0 then a else a.map (·.add 0)) k cap) W := by
  have ht : Tryd.prog.underlying 26 = some (.slice (Tryd.prog.elem 26)) := by kernel_rfl
  have he : Tryd.prog.elem 26 = 24 := by kernel_rfl
  rw [run_slice_h W _ _ _ _ ht .i64 _ (by omega) (by omega), he, Tryd.size24]
  simp [Result.andThen, sliced]
theorem RD.to {w : World} {B : Nat} {l : List (List UInt8)} {a : Option Addr} {cap k : Nat} (h : RD w B l a cap) (hk : k ≤ l.length) : ∃ a', (∀ W, (Instr.slice 26 (.slice a l.length cap) none (some (.int .i64 (k : Int))) none).run Tryd.prog W = .ok (.slice a' k cap) W) ∧ RD w B (l.take k) a' cap := by
  obtain ⟨h1, h2, h3, h4, b, off, h5, h6⟩ := h
  refine ⟨_, fun W => slice_to a l.length cap k (by omega) W, by rw [List.length_take]; omega, h2, fun d hd => h3 d (List.mem_of_mem_take hd), fun e => ?_, b, off, fun hp => ?_, fun i hi => ?_⟩
  · have : a = none := by
      split at e
      · exact e
      · simpa using e
    rw [h4 this]; simp
  · have hl : 0 < l.length := by rw [List.length_take] at hp; omega
    obtain ⟨e, hb⟩ := h5 hl
    refine ⟨?_, hb⟩
    rw [if_neg (by omega), e]
    simp [add_none]
  · have hi' : i < l.length := by rw [List.length_take] at hi; omega
    rw [List.getElem_take]
    exact h6 i hi'
/-- 'l[k:]'. -/
theorem RD.from_ {w : World} {B : Nat} {l : List (List UInt8)} {a : Option Addr} {cap k : Nat} (h : RD w B l a cap) (hk : k ≤ l.length) : ∃ a', (∀ W, (Instr.slice 26 (.slice a l.length cap) (some (.int .i64 (k : Int))) none none).run Tryd.prog W = .ok (.slice a' (l.length - k) (cap - k)) W) ∧ RD w B (l.drop k) a' (cap - k) := by
  have ht : Tryd.prog.underlying 26 = some (.slice (Tryd.prog.elem 26)) := by kernel_rfl
  have he : Tryd.prog.elem 26 = 24 := by kernel_rfl
  obtain ⟨h1, h2, h3, h4, b, off, h5, h6⟩ := h
  refine ⟨if cap = k then a else a.map (·.add (k * 32)), fun W => ?_, by rw [List.length_drop]; omega, by omega, fun d hd => h3 d (List.mem_of_mem_drop hd), fun e => ?_, b, off + k * 32, fun hp => ?_, fun i hi => ?_⟩
  · rw [run_slice_l W _ _ _ _ ht .i64 _ (by omega) (by omega), he, Tryd.size24]
    simp [Result.andThen, sliced]
  · have : a = none := by
      split at e
      · exact e
      · simpa using e
    rw [h4 this]; simp
  · rw [List.length_drop] at hp
    obtain ⟨e, hb⟩ := h5 (by omega)
    refine ⟨?_, hb⟩
    rw [if_neg (by omega), e]
    simp [add_none]
  · have hi' : k + i < l.length := by rw [List.length_drop] at hi; omega
    rw [List.getElem_drop]
    have := h6 (k + i) hi'
    rw [show off + (k + i) * 32 = off + k * 32 + i * 32 by omega] at this
    exact this
theorem RD.to_at {w : World} {B : Nat} {l : List (List UInt8)} {a a1 : Option Addr} {cap k : Nat} (h : RD w B l a cap) (hk : k ≤ l.length) (h1 : ∀ W, (Instr.slice 26 (.slice a l.length cap) none (some (.int .i64 (k : Int))) none).run Tryd.prog W = .ok (.slice a1 k cap) W) : RD w B (l.take k) a1 cap := by
  obtain ⟨a', h2, h3⟩ := h.to hk
  have e := (h1 w).symm.trans (h2 w)
  injection e with e
  injection e with e
  rw [e]; exact h3
theorem RD.from_at {w : World} {B : Nat} {l : List (List UInt8)} {a a1 : Option Addr} {cap k : Nat} (h : RD w B l a cap) (hk : k ≤ l.length) (h1 : ∀ W, (Instr.slice 26 (.slice a l.length cap) (some (.int .i64 (k : Int))) none none).run Tryd.prog W = .ok (.slice a1 (l.length - k) (cap - k)) W) : RD w B (l.drop k) a1 (cap - k) := by
  obtain ⟨a', h2, h3⟩ := h.from_ hk
  have e := (h1 w).symm.trans (h2 w)
  injection e with e
  injection e with e
  rw [e]; exact h3
/-- One element. -/
theorem RD.at_ {w : World} {B i : Nat} {l : List (List UInt8)} {a : Option Addr} {cap : Nat} (h : RD w B l a cap) (hi : i < l.length) : ∃ b off, a = some ⟨b, off, none⟩ ∧ b < B ∧ w.rangeAt b (off + i * 32) (BV l[i]) := by
  obtain ⟨h1, h2, h3, h4, b, off, h5, h6⟩ := h
  obtain ⟨e, hb⟩ := h5 (by omega)
  exact ⟨b, off, e, hb, h6 i hi⟩
end Go.Proofs.YtjfoihlelkfaoaaDoor
