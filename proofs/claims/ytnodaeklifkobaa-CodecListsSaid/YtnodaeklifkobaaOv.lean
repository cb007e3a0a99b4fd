/- A value that came in, opened to a tree; a slice of bytes and a slice of values that came in, opened. -/
import Derived.Test.YtnodaeklifkobaaRw
namespace Go.Proofs.Ytnodaeklifkobaa
open Go.ChangeShapes Go.WideShapes Go.ChangeAt Go.RowKit Go.Deep

instance : Inhabited GV := ⟨.mk 0 0 ⟨#[]⟩ []⟩

theorem I64.wf {n : Int} (h : (Lit.int .i64 n).wf = true) : I64 n := by
  have h := bounds_i64 h
  unfold I64
  omega

theorem addr_none {w : World} {a : Addr} {v : Value} (h : w.cell? a = some v) : a.spot = none := by
  unfold World.cell? at h
  split at h
  · split at h
    · cases h
    · rename_i hs
      cases h' : a.spot with
      | none => rfl
      | some _ => simp [h'] at hs
  · cases h

theorem add_none (b o i : Nat) : (⟨b, o, none⟩ : Addr).add i = ⟨b, o + i, none⟩ := by unfold Addr.add; split <;> simp_all

/-- A slice of trees, of elements that open. -/
theorem RL.ofTrod {H : Type} {enc : TypeId × Value → H} {sp : Nat → Bool} {W : World} {n : Nat}
    (ih : ∀ cs x, DataW.trod enc Try.prog W 0 sp true n 24 cs = some x → ∃ g, RV W W.heap.size g (.agg cs.toArray))
    {cs : List Value} {x : DataW H × List MemPlace} (h : DataW.trod enc Try.prog W 0 sp true (n + 1) 22 cs = some x) :
    ∃ l a cap, cs = [.slice a l.length cap] ∧ RL W W.heap.size l a cap := by
  have hC : Try.prog.cellsOf 24 = 4 := by kernel_rfl
  rcases DataW.trod_slice Try.underlying22 h with ⟨rfl, -⟩ | ⟨a, len, cap, elems, rest, m, hm, rfl, -, -, hlc, hcm, hlen, hel, -, -⟩
  · exact ⟨[], none, 0, rfl, Nat.le_refl _, Nat.zero_le _, 0, 0, fun _ => .bool true, fun h => absurd h (Nat.lt_irrefl 0), fun i hi => absurd hi (Nat.not_lt_zero i), fun i hi => absurd hi (Nat.not_lt_zero i)⟩
  · obtain rfl : n = m := by omega
    rw [hC] at hel
    have hspot : 0 < len → a.spot = none := by
      intro hp
      have hb := hel 0 hp
      rw [List.getElem?_eq_getElem (by omega : 0 < elems.length), Option.bind_eq_some_iff] at hb
      obtain ⟨cs, hcs, -⟩ := hb
      obtain ⟨-, hl4, hc⟩ := World.cells?_some hcs
      match cs, hl4 with
      | [x0, x1, x2, x3], _ =>
        have h0 := hc 0 (by omega)
        obtain ⟨b, o, s⟩ := a
        exact addr_none (a := ⟨b, o, s⟩) (v := x0) (by simpa [Addr.add] using h0)
    have each : ∀ i, i < len → ∃ y : GV × Value, RV W W.heap.size y.1 y.2 ∧ a.spot = none ∧ a.block < W.heap.size ∧ Cells4 W a.block (a.off + i * 4) y.2 := by
      intro i hi
      have hs := hspot (by omega)
      have hb := hel i hi
      rw [List.getElem?_eq_getElem (by omega : i < elems.length), Option.bind_eq_some_iff] at hb
      obtain ⟨cs, hcs, ht⟩ := hb
      obtain ⟨g, hg⟩ := ih cs _ ht
      obtain ⟨-, hl4, hc⟩ := World.cells?_some hcs
      match cs, hl4 with
      | [x0, x1, x2, x3], _ =>
        have h0 := hc 0 (by omega)
        have h1 := hc 1 (by omega)
        have h2 := hc 2 (by omega)
        have h3 := hc 3 (by omega)
        obtain ⟨b, o, s⟩ := a
        simp only at hs
        subst hs
        simp only [add_none, Nat.add_zero] at h0 h1 h2 h3
        have h0' : W.cell? ⟨b, o + i * 4, none⟩ = some x0 := by simpa using h0
        exact ⟨(g, _), hg, rfl, World.block_lt_of_cell? W ⟨b, o + i * 4, none⟩ h0', x0, x1, x2, x3, rfl, h0', by simpa using h1, by simpa using h2, by simpa using h3⟩
    obtain ⟨F, hF⟩ := @choose_lt (GV × Value) ⟨(default, .bool true)⟩ len (fun i y => RV W W.heap.size y.1 y.2 ∧ a.spot = none ∧ a.block < W.heap.size ∧ Cells4 W a.block (a.off + i * 4) y.2) each
    have hll : ((List.range len).map fun i => (F i).1).length = len := by simp
    refine ⟨(List.range len).map fun i => (F i).1, some a, cap, by rw [hll], by rw [hll]; exact hlc, hcm, a.block, a.off, fun i => (F i).2, fun h => ?_, fun i hi => ?_, fun i hi => ?_⟩
    · rw [hll] at h
      obtain ⟨-, hs, hb, -⟩ := hF 0 h
      refine ⟨?_, hb⟩
      obtain ⟨b, o, s⟩ := a
      simp only at hs
      rw [hs]
    · rw [hll] at hi
      have := (hF i hi).1
      simpa using this
    · rw [hll] at hi
      exact (hF i hi).2.2.2

theorem trod_four {H : Type} {enc : TypeId × Value → H} {P : Program} {w : World} {base : Nat} {sp : Nat → Bool} {held : Bool} {t : TypeId} {f0 f1 f2 f3 : Field} {n : Nat} {x0 x1 x2 x3 : Value} {x : DataW H × List MemPlace}
    (ht : P.underlying t = some (.struct #[f0, f1, f2, f3])) (hone : oneCellFields P #[f0, f1, f2, f3] = true) (h : DataW.trod enc P w base sp held n t [x0, x1, x2, x3] = some x) :
    ∃ m y0 y1 y2 y3, n = m + 1 ∧ DataW.trod enc P w base sp held m f0.type [x0] = some y0 ∧ DataW.trod enc P w base sp held m f1.type [x1] = some y1 ∧ DataW.trod enc P w base sp held m f2.type [x2] = some y2 ∧ DataW.trod enc P w base sp held m f3.type [x3] = some y3 := by
  obtain ⟨xs, m, rfl, -, -, hlen, hf⟩ := DataW.trod_struct ht h
  obtain ⟨o0, k0⟩ := hone_of hone 0 f0 rfl
  obtain ⟨o1, k1⟩ := hone_of hone 1 f1 rfl
  obtain ⟨o2, k2⟩ := hone_of hone 2 f2 rfl
  obtain ⟨o3, k3⟩ := hone_of hone 3 f3 rfl
  match xs, hlen with
  | [y0, y1, y2, y3], _ => exact ⟨m, y0, y1, y2, y3, rfl, by simpa [o0, k0] using hf 0 f0 rfl, by simpa [o1, k1] using hf 1 f1 rfl, by simpa [o2, k2] using hf 2 f2 rfl, by simpa [o3, k3] using hf 3 f3 rfl⟩

/-- A tree, of a value that reads. -/
theorem RV.ofTrod {H : Type} {enc : TypeId × Value → H} {sp : Nat → Bool} {W : World} :
    ∀ (n : Nat) (cs : List Value) (x : DataW H × List MemPlace), DataW.trod enc Try.prog W 0 sp true n 24 cs = some x → ∃ g, RV W W.heap.size g (.agg cs.toArray) := by
  intro n
  induction n using Nat.strongRecOn with
  | ind n IH =>
    intro cs x h
    have hC : Try.prog.cellsOf 24 = 4 := by kernel_rfl
    have hl : cs.length = 4 := by
      obtain ⟨_, _, _, -, hl, -, -⟩ := DataW.trod_struct Try.underlying24 h
      rw [← hC]
      exact hl
    match cs, hl with
    | [x0, x1, x2, x3], _ =>
      obtain ⟨m, y0, y1, y2, y3, rfl, h0, h1, h2, h3⟩ := trod_four Try.underlying24 (by kernel_rfl) h
      obtain ⟨k, e0, -, hk⟩ := DataW.trod_int Try.underlying3 h0
      obtain ⟨v, e1, -, hv⟩ := DataW.trod_int Try.underlying3 h1
      obtain ⟨s, e2, -, hs⟩ := DataW.trod_string Try.underlying9 h2
      cases m with
      | zero => simp [DataW.trod] at h3
      | succ m =>
        obtain ⟨l, a, cap, e3, hL⟩ := RL.ofTrod (fun cs x h => IH m (by omega) cs x h) h3
        simp only [List.cons.injEq, and_true] at e0 e1 e2 e3
        subst e0 e1 e2 e3
        obtain ⟨hlc, hcm, b, off, V, ha, hV, hc⟩ := hL
        refine ⟨.mk k v s l, .mk k v s l a cap b off V (I64.wf hk) (I64.wf hv) hs hlc hcm ?_ ha hV hc⟩
        unfold maxLen at hcm
        omega

/-- An argument of the type of values. -/
theorem openV {H : Type} {enc : TypeId × Value → H} {sp : Nat → Bool} {r : Reach} {b0 : Nat} {W : World} {v : Value} {d : DataW H} {p : List MemPlace} (hv : Value.okWide Try.prog W r b0 24 v)
    (h : DataW.Trod enc Try.prog W 0 sp true 24 v d p) : ∃ g, RV W W.heap.size g v := by
  obtain ⟨cs, rfl, -⟩ := okWide_struct Try.underlying24 hv
  obtain ⟨n, hn⟩ := h
  simpa [Value.cells] using RV.ofTrod n _ _ hn

theorem okWide_sliceV {w : World} {P : Program} {r : Reach} {b0 : Nat} {t e : TypeId} {v : Value} (ht : P.underlying t = some (.slice e)) (h : Value.okWide P w r b0 t v) : v.cells = #[v] := by
  simp only [Value.okWide, ht, Cell.okWide] at h
  cases v <;> simp_all [Cell.ok, Value.cells]

/-- An argument of the type of slices of values. -/
theorem openL {H : Type} {enc : TypeId × Value → H} {sp : Nat → Bool} {r : Reach} {b0 : Nat} {W : World} {v : Value} {d : DataW H} {p : List MemPlace} (hv : Value.okWide Try.prog W r b0 22 v)
    (h : DataW.Trod enc Try.prog W 0 sp true 22 v d p) : ∃ l a cap, v = .slice a l.length cap ∧ RL W W.heap.size l a cap := by
  have hc := okWide_sliceV Try.underlying22 hv
  obtain ⟨n, hn⟩ := h
  cases n with
  | zero => simp [DataW.trod] at hn
  | succ n =>
    obtain ⟨l, a, cap, e, hL⟩ := RL.ofTrod (fun cs x h => RV.ofTrod n cs x h) hn
    rw [hc] at e
    simp only [List.cons.injEq, and_true] at e
    exact ⟨l, a, cap, e, hL⟩
end Go.Proofs.Ytnodaeklifkobaa
