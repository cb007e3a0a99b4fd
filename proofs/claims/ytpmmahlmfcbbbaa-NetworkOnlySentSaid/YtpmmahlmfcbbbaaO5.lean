/- Moves that came in. -/
import Derived.Test.YtpmmahlmfcbbbaaO4
import Derived.Test.YtpmmahlmfcbbbaaN9
namespace Go.Proofs.Ytpmmahlmfcbbbaa
open Go.ChangeShapes Go.WideShapes Go.ChangeAt Go.RowKit Go.Deep

theorem trod_five {H : Type} {enc : TypeId × Value → H} {P : Program} {w : World} {base : Nat} {sp : Nat → Bool} {held : Bool} {t : TypeId} {f0 f1 f2 f3 f4 : Field} {n : Nat} {x0 x1 x2 x3 x4 : Value} {x : DataW H × List MemPlace}
    (ht : P.underlying t = some (.struct #[f0, f1, f2, f3, f4])) (hone : oneCellFields P #[f0, f1, f2, f3, f4] = true) (h : DataW.trod enc P w base sp held n t [x0, x1, x2, x3, x4] = some x) :
    ∃ m y0 y1 y2 y3 y4, n = m + 1 ∧ DataW.trod enc P w base sp held m f0.type [x0] = some y0 ∧ DataW.trod enc P w base sp held m f1.type [x1] = some y1 ∧ DataW.trod enc P w base sp held m f2.type [x2] = some y2 ∧ DataW.trod enc P w base sp held m f3.type [x3] = some y3 ∧ DataW.trod enc P w base sp held m f4.type [x4] = some y4 := by
  obtain ⟨xs, m, rfl, -, -, hlen, hf⟩ := DataW.trod_struct ht h
  obtain ⟨o0, k0⟩ := hone_of hone 0 f0 rfl
  obtain ⟨o1, k1⟩ := hone_of hone 1 f1 rfl
  obtain ⟨o2, k2⟩ := hone_of hone 2 f2 rfl
  obtain ⟨o3, k3⟩ := hone_of hone 3 f3 rfl
  obtain ⟨o4, k4⟩ := hone_of hone 4 f4 rfl
  match xs, hlen with
  | [y0, y1, y2, y3, y4], _ => exact ⟨m, y0, y1, y2, y3, y4, rfl, by simpa [o0, k0] using hf 0 f0 rfl, by simpa [o1, k1] using hf 1 f1 rfl, by simpa [o2, k2] using hf 2 f2 rfl, by simpa [o3, k3] using hf 3 f3 rfl, by simpa [o4, k4] using hf 4 f4 rfl⟩
/-- A move that came in. -/
theorem mv_ofTrod {H : Type} {enc : TypeId × Value → H} {sp : Nat → Bool} {W : World} {n : Nat} {cs : List Value} {x : DataW H × List MemPlace} (h : DataW.trod enc Try.prog W 0 sp true n 49 cs = some x) :
    ∃ m : Mv, cs = [.int .u8 (m.kind : Int), .int .u8 (m.at_ : Int), .int .u8 (m.a : Int), .int .u8 (m.b : Int), .int .u8 (m.data.toNat : Int)] ∧ m.ok := by
  have hC : Try.prog.cellsOf 49 = 5 := by kernel_rfl
  have hl : cs.length = 5 := by
    obtain ⟨_, _, _, -, hl, -, -⟩ := DataW.trod_struct Try.underlying49 h
    rw [← hC]
    exact hl
  match cs, hl with
  | [x0, x1, x2, x3, x4], _ =>
    obtain ⟨m, y0, y1, y2, y3, y4, rfl, h0, h1, h2, h3, h4⟩ := trod_five Try.underlying49 (by kernel_rfl) h
    obtain ⟨k0, e0, -, w0⟩ := DataW.trod_int Try.underlying5 h0
    obtain ⟨k1, e1, -, w1⟩ := DataW.trod_int Try.underlying5 h1
    obtain ⟨k2, e2, -, w2⟩ := DataW.trod_int Try.underlying5 h2
    obtain ⟨k3, e3, -, w3⟩ := DataW.trod_int Try.underlying5 h3
    obtain ⟨k4, e4, -, w4⟩ := DataW.trod_int Try.underlying5 h4
    simp only [List.cons.injEq, and_true] at e0 e1 e2 e3 e4
    subst e0 e1 e2 e3 e4
    have b0 := bounds_u8 w0
    have b1 := bounds_u8 w1
    have b2 := bounds_u8 w2
    have b3 := bounds_u8 w3
    have b4 := bounds_u8 w4
    have e : ∀ z : Int, 0 ≤ z → ((z.toNat : Nat) : Int) = z := fun z hz => by omega
    have e8 : ((UInt8.ofNat k4.toNat).toNat : Int) = k4 := by rw [UInt8.toNat_ofNat']; omega
    refine ⟨⟨k0.toNat, k1.toNat, k2.toNat, k3.toNat, UInt8.ofNat k4.toNat⟩, ?_, ⟨by dsimp only; omega, by dsimp only; omega, by dsimp only; omega, by dsimp only; omega⟩⟩
    rw [e8, e k0 (by omega), e k1 (by omega), e k2 (by omega), e k3 (by omega)]
/-- Moves that came in. -/
theorem MR.ofTrod {H : Type} {enc : TypeId × Value → H} {sp : Nat → Bool} {W : World} {n : Nat} {cs : List Value} {x : DataW H × List MemPlace}
    (h : DataW.trod enc Try.prog W 0 sp true (n + 1) 45 cs = some x) : ∃ ms A cap, cs = [.slice A ms.length cap] ∧ ms.length ≤ cap ∧ cap ≤ maxLen ∧ MR W A ms := by
  have hC : Try.prog.cellsOf 49 = 5 := by kernel_rfl
  rcases DataW.trod_slice Try.underlying45 h with ⟨rfl, -⟩ | ⟨a, len, cap, elems, rest, m, hm, rfl, -, -, hlc, hcm, hlen, hel, -, -⟩
  · exact ⟨[], none, 0, rfl, Nat.le_refl _, Nat.zero_le _, fun h => absurd h (Nat.lt_irrefl 0)⟩
  · rw [hC] at hel
    have hspot : 0 < len → a.spot = none := by
      intro hp
      have hb := hel 0 hp
      rw [List.getElem?_eq_getElem (by omega : 0 < elems.length), Option.bind_eq_some_iff] at hb
      obtain ⟨cs, hcs, ht⟩ := hb
      obtain ⟨mv, rfl, hz⟩ := mv_ofTrod ht
      obtain ⟨-, hl1, hc⟩ := World.cells?_some hcs
      have h0 := hc 0 (by simp)
      obtain ⟨b, o, s⟩ := a
      exact addr_none (a := ⟨b, o, s⟩) (v := .int .u8 (mv.kind : Int)) (by simpa [Addr.add] using h0)
    have each : ∀ i, i < len → ∃ y : Mv, a.spot = none ∧ a.block < W.heap.size ∧ y.ok ∧ W.cell? ⟨a.block, a.off + i * 5, none⟩ = some (.int .u8 (y.kind : Int)) ∧ W.cell? ⟨a.block, a.off + i * 5 + 1, none⟩ = some (.int .u8 (y.at_ : Int)) ∧ W.cell? ⟨a.block, a.off + i * 5 + 2, none⟩ = some (.int .u8 (y.a : Int)) ∧ W.cell? ⟨a.block, a.off + i * 5 + 3, none⟩ = some (.int .u8 (y.b : Int)) ∧ W.cell? ⟨a.block, a.off + i * 5 + 4, none⟩ = some (.int .u8 (y.data.toNat : Int)) := by
      intro i hi
      have hb := hel i hi
      rw [List.getElem?_eq_getElem (by omega : i < elems.length), Option.bind_eq_some_iff] at hb
      obtain ⟨cs, hcs, ht⟩ := hb
      obtain ⟨mv, rfl, hz⟩ := mv_ofTrod ht
      obtain ⟨-, hl1, hc⟩ := World.cells?_some hcs
      have h0 := hc 0 (by simp)
      have h1 := hc 1 (by simp)
      have h2 := hc 2 (by simp)
      have h3 := hc 3 (by simp)
      have h4 := hc 4 (by simp)
      have hs := hspot (by omega)
      obtain ⟨b, o, s⟩ := a
      simp only at hs
      subst hs
      simp only [add_none, Nat.add_zero] at h0 h1 h2 h3 h4
      have h0' : W.cell? ⟨b, o + i * 5, none⟩ = some (.int .u8 (mv.kind : Int)) := by simpa using h0
      exact ⟨mv, rfl, World.block_lt_of_cell? W ⟨b, o + i * 5, none⟩ h0', hz, h0', by simpa using h1, by simpa using h2, by simpa using h3, by simpa using h4⟩
    obtain ⟨F, hF⟩ := @choose_lt Mv ⟨⟨0, 0, 0, 0, 0⟩⟩ len (fun i y => a.spot = none ∧ a.block < W.heap.size ∧ y.ok ∧ W.cell? ⟨a.block, a.off + i * 5, none⟩ = some (.int .u8 (y.kind : Int)) ∧ W.cell? ⟨a.block, a.off + i * 5 + 1, none⟩ = some (.int .u8 (y.at_ : Int)) ∧ W.cell? ⟨a.block, a.off + i * 5 + 2, none⟩ = some (.int .u8 (y.a : Int)) ∧ W.cell? ⟨a.block, a.off + i * 5 + 3, none⟩ = some (.int .u8 (y.b : Int)) ∧ W.cell? ⟨a.block, a.off + i * 5 + 4, none⟩ = some (.int .u8 (y.data.toNat : Int))) each
    have hll : ((List.range len).map fun i => F i).length = len := by simp
    refine ⟨(List.range len).map fun i => F i, some a, cap, by rw [hll], by rw [hll]; exact hlc, hcm, fun h => ?_⟩
    rw [hll] at h
    obtain ⟨hs, hb, -⟩ := hF 0 h
    obtain ⟨b, o, s⟩ := a
    simp only at hs
    subst hs
    refine ⟨b, o, rfl, hb, fun i hi => ?_⟩
    rw [hll] at hi
    obtain ⟨-, -, q2, q3, q4, q5, q6, q7⟩ := hF i hi
    simp only [List.getElem_map, List.getElem_range]
    exact ⟨q3, q4, q5, q6, q7, q2⟩
theorem openM {H : Type} {enc : TypeId × Value → H} {sp : Nat → Bool} {r : Reach} {b0 : Nat} {W : World} {v : Value} {d : DataW H} {p : List MemPlace} (hv : Value.okWide Try.prog W r b0 45 v)
    (h : DataW.Trod enc Try.prog W 0 sp true 45 v d p) : ∃ (l : List Mv) (A : Option Addr) (cap : Nat), v = .slice A l.length cap ∧ (l.length ≤ cap ∧ cap ≤ maxLen) ∧ MR W A l := by
  have hc := okWide_sliceV Try.underlying45 hv
  obtain ⟨n, hn⟩ := h
  cases n with
  | zero => simp [DataW.trod] at hn
  | succ n =>
    obtain ⟨l, A, cap, e, h1, h2, h3⟩ := MR.ofTrod hn
    rw [hc] at e
    simp only [List.cons.injEq, and_true] at e
    exact ⟨l, A, cap, e, ⟨h1, h2⟩, h3⟩
end Go.Proofs.Ytpmmahlmfcbbbaa
