/- Slices of tokens that came in, opened. -/
import Derived.Test.YtndfchnmajfmiaaDoorLz
namespace Go.Proofs.YtndfchnmajfmiaaDoor
open Go.ChangeShapes Go.WideShapes Go.ChangeAt Go.RowKit Go.Deep

theorem trod_four {H : Type} {enc : TypeId × Value → H} {P : Program} {w : World} {base : Nat} {sp : Nat → Bool} {held : Bool} {t : TypeId} {f0 f1 f2 f3 : Field} {n : Nat} {x0 x1 x2 x3 : Value} {x : DataW H × List MemPlace}
    (ht : P.underlying t = some (.struct #[f0, f1, f2, f3])) (hone : oneCellFields P #[f0, f1, f2, f3] = true) (h : DataW.trod enc P w base sp held n t [x0, x1, x2, x3] = some x) :
    ∃ m y0 y1 y2 y3, n = m + 1 ∧ DataW.trod enc P w base sp held m f0.type [x0] = some y0 ∧ DataW.trod enc P w base sp held m f1.type [x1] = some y1 ∧ DataW.trod enc P w base sp held m f2.type [x2] = some y2 ∧ DataW.trod enc P w base sp held m f3.type [x3] = some y3 := by
  obtain ⟨xs, m, rfl, -, -, hlen, hf⟩ := DataW.trod_struct ht h
  obtain ⟨o0, k0⟩ := hone_of hone 0 f0 rfl
  obtain ⟨o1, k1⟩ := hone_of hone 1 f1 rfl
  obtain ⟨o2, k2⟩ := hone_of hone 2 f2 rfl
  obtain ⟨o3, k3⟩ := hone_of hone 3 f3 rfl
  match xs, hlen with
  | [y0, y1, y2, y3], _ => exact ⟨m, y0, y1, y2, y3, rfl, by simpa [o0, k0] using hf 0 f0 rfl, by simpa [o1, k1] using hf 1 f1 rfl, by simpa [o2, k2] using hf 2 f2 rfl, by simpa [o3, k3] using hf 3 f3 rfl⟩

instance : Inhabited Tk := ⟨⟨0, [], 0, 0⟩⟩

/-- The cells of a token that reads. -/
theorem tk_ofTrod {H : Type} {enc : TypeId × Value → H} {sp : Nat → Bool} {W : World} {n : Nat} {x0 x1 x2 x3 : Value} {x : DataW H × List MemPlace}
    (h : DataW.trod enc Tryd.prog W 0 sp true n 35 [x0, x1, x2, x3] = some x) : ∃ t : Tk, OkT t ∧ x0 = .int .i64 t.k ∧ x1 = .string ⟨t.s.toArray⟩ ∧ x2 = .int .i64 t.n ∧ x3 = .int .i64 t.p := by
  obtain ⟨m, y0, y1, y2, y3, rfl, h0, h1, h2, h3⟩ := trod_four Tryd.underlying35 (by kernel_rfl) h
  obtain ⟨k, e0, -, hk⟩ := DataW.trod_int Tryd.underlying3 h0
  obtain ⟨s, e1, -, hs⟩ := DataW.trod_string Tryd.underlying9 h1
  obtain ⟨v, e2, -, hv⟩ := DataW.trod_int Tryd.underlying3 h2
  obtain ⟨p, e3, -, hp⟩ := DataW.trod_int Tryd.underlying3 h3
  simp only [List.cons.injEq, and_true] at e0 e1 e2 e3
  subst e0 e1 e2 e3
  have hb := bounds_i64 hv
  exact ⟨⟨k, s.data.toList, v, p⟩, ⟨hs, by omega⟩, rfl, by rw [data_list], rfl, rfl⟩

theorem TR.ofTrod {H : Type} {enc : TypeId × Value → H} {sp : Nat → Bool} {W : World} {n : Nat} {cs : List Value} {x : DataW H × List MemPlace} (h : DataW.trod enc Tryd.prog W 0 sp true n 23 cs = some x) :
    ∃ m A cap, cs = [.slice A m.length cap] ∧ m.length ≤ cap ∧ cap ≤ maxLen ∧ (∀ t ∈ m, OkT t) ∧ TR W W.heap.size A m := by
  have hC : Tryd.prog.cellsOf 35 = 4 := by kernel_rfl
  rcases DataW.trod_slice Tryd.underlying23 h with ⟨rfl, -⟩ | ⟨a, len, cap, elems, rest, k, hm, rfl, -, -, hlc, hcm, hlen, hel, -, -⟩
  · exact ⟨[], none, 0, rfl, Nat.le_refl _, Nat.zero_le _, (fun t h => by cases h), TR.nil _ _ _⟩
  · rw [hC] at hel
    have hspot : 0 < len → a.spot = none := by
      intro hp
      have hb := hel 0 hp
      rw [List.getElem?_eq_getElem (by omega : 0 < elems.length), Option.bind_eq_some_iff] at hb
      obtain ⟨cs, hcs, -⟩ := hb
      obtain ⟨-, hl4, hc⟩ := World.cells?_some hcs
      match cs, hl4 with
      | [x0, x1, x2, x3], _ =>
        have h0 := hc 0 (by omega)
        obtain ⟨b, o, s⟩ := a
        exact addr_none (a := ⟨b, o, s⟩) (v := x0) (by simpa [Addr.add] using h0)
    have each : ∀ i, i < len → ∃ t : Tk, OkT t ∧ a.spot = none ∧ a.block < W.heap.size ∧ W.cell? ⟨a.block, a.off + i * 4, none⟩ = some (.int .i64 t.k) ∧ W.cell? ⟨a.block, a.off + i * 4 + 1, none⟩ = some (.string ⟨t.s.toArray⟩) ∧
        W.cell? ⟨a.block, a.off + i * 4 + 2, none⟩ = some (.int .i64 t.n) ∧ W.cell? ⟨a.block, a.off + i * 4 + 3, none⟩ = some (.int .i64 t.p) := by
      intro i hi
      have hs := hspot (by omega)
      have hb := hel i hi
      rw [List.getElem?_eq_getElem (by omega : i < elems.length), Option.bind_eq_some_iff] at hb
      obtain ⟨cs, hcs, ht⟩ := hb
      obtain ⟨-, hl4, hc⟩ := World.cells?_some hcs
      match cs, hl4, ht with
      | [x0, x1, x2, x3], _, ht =>
        obtain ⟨t, ok, rfl, rfl, rfl, rfl⟩ := tk_ofTrod ht
        have h0 := hc 0 (by omega)
        have h1 := hc 1 (by omega)
        have h2 := hc 2 (by omega)
        have h3 := hc 3 (by omega)
        obtain ⟨b, o, s⟩ := a
        simp only at hs
        subst hs
        simp only [add_none, Nat.add_zero] at h0 h1 h2 h3
        have h0' : W.cell? ⟨b, o + i * 4, none⟩ = some (.int .i64 t.k) := by simpa using h0
        exact ⟨t, ok, rfl, World.block_lt_of_cell? W ⟨b, o + i * 4, none⟩ h0', h0', by simpa using h1, by simpa using h2, by simpa using h3⟩
    obtain ⟨F, hF⟩ := @choose_lt Tk ⟨default⟩ len _ each
    have hll : ((List.range len).map F).length = len := by simp
    refine ⟨(List.range len).map F, some a, cap, by rw [hll], by rw [hll]; exact hlc, hcm, fun t ht => ?_, fun hp => ?_⟩
    · obtain ⟨i, hi, rfl⟩ := List.mem_map.1 ht
      exact (hF i (List.mem_range.1 hi)).1
    · rw [hll] at hp
      obtain ⟨-, hs, hb, -⟩ := hF 0 hp
      obtain ⟨b, o, s⟩ := a
      simp only at hs
      subst hs
      refine ⟨b, o, rfl, hb, fun i hi => ?_⟩
      rw [hll] at hi
      obtain ⟨g0, g1, g2, g3⟩ := (hF i hi).2.2.2
      simp only [List.getElem_map, List.getElem_range]
      exact ⟨g0, g1, g2, g3⟩

set_option maxRecDepth 100000 in
/-- An argument of the type of slices of tokens. -/
theorem openT {H : Type} {enc : TypeId × Value → H} {sp : Nat → Bool} {r : Reach} {b0 : Nat} {W : World} {v : Value} {d : DataW H} {p : List MemPlace} (hv : Value.okWide Tryd.prog W r b0 23 v)
    (h : DataW.Trod enc Tryd.prog W 0 sp true 23 v d p) : ∃ m A cap, v = .slice A m.length cap ∧ m.length ≤ 9223372036854775807 ∧ (∀ t ∈ m, OkT t) ∧ TR W W.heap.size A m := by
  have hc := okWide_sliceV Tryd.underlying23 hv
  obtain ⟨n, hn⟩ := h
  obtain ⟨m, A, cap, e, h1, h2, h3, h4⟩ := TR.ofTrod hn
  rw [hc] at e
  simp only [List.cons.injEq, and_true] at e
  have h5 : m.length ≤ 9223372036854775807 := Nat.le_trans h1 (Nat.le_trans h2 (by decide))
  exact ⟨m, A, cap, e, h5, h3, h4⟩
end Go.Proofs.YtndfchnmajfmiaaDoor
