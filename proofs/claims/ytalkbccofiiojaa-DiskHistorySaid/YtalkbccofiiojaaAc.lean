/- Acts: how they read in memory, and as an argument that came in. -/
import Derived.Test.YtalkbccofiiojaaRw
import Derived.Test.YtalkbccofiiojaaTp
namespace Go.Proofs.Ytalkbccofiiojaa
open Go.ChangeShapes Go.WideShapes Go.ChangeAt Go.RowKit Go.Deep

/-- Acts that are read. -/
def AR (w : World) (S : Nat → Prop) (A : Option Addr) (ls : List Ac) : Prop :=
  0 < ls.length → ∃ b off, A = some ⟨b, off, none⟩ ∧ S b ∧ ∀ i (h : i < ls.length), w.cell? ⟨b, off + i * 3, none⟩ = some (.bool ls[i].sync) ∧ w.cell? ⟨b, off + i * 3 + 1, none⟩ = some (.int .u8 (ls[i].pl.toNat : Int)) ∧ w.cell? ⟨b, off + i * 3 + 2, none⟩ = some (.int .u8 (ls[i].by_.toNat : Int))
theorem AR.keep {w w' : World} {S : Nat → Prop} {A : Option Addr} {ls : List Ac} (hk : Kept S w w') (h : AR w S A ls) : AR w' S A ls := fun hp => by
  obtain ⟨b, off, e, hs, hc⟩ := h hp
  refine ⟨b, off, e, hs, fun i hi => ?_⟩
  obtain ⟨h0, h1, h2⟩ := hc i hi
  exact ⟨(hk _ _ hs).trans h0, (hk _ _ hs).trans h1, (hk _ _ hs).trans h2⟩
theorem AR.at_ {w : World} {S : Nat → Prop} {A : Option Addr} {ls : List Ac} (h : AR w S A ls) {i : Nat} (hi : i < ls.length) :
    ∃ b off, A = some ⟨b, off, none⟩ ∧ S b ∧ w.cell? ⟨b, off + i * 3, none⟩ = some (.bool ls[i].sync) ∧ w.cell? ⟨b, off + i * 3 + 1, none⟩ = some (.int .u8 (ls[i].pl.toNat : Int)) ∧ w.cell? ⟨b, off + i * 3 + 2, none⟩ = some (.int .u8 (ls[i].by_.toNat : Int)) := by
  obtain ⟨b, off, e, hs, hc⟩ := h (by omega)
  exact ⟨b, off, e, hs, hc i hi⟩

theorem trod_three {H : Type} {enc : TypeId × Value → H} {P : Program} {w : World} {base : Nat} {sp : Nat → Bool} {held : Bool} {t : TypeId} {f0 f1 f2 : Field} {n : Nat} {x0 x1 x2 : Value} {x : DataW H × List MemPlace}
    (ht : P.underlying t = some (.struct #[f0, f1, f2])) (hone : oneCellFields P #[f0, f1, f2] = true) (h : DataW.trod enc P w base sp held n t [x0, x1, x2] = some x) :
    ∃ m y0 y1 y2, n = m + 1 ∧ DataW.trod enc P w base sp held m f0.type [x0] = some y0 ∧ DataW.trod enc P w base sp held m f1.type [x1] = some y1 ∧ DataW.trod enc P w base sp held m f2.type [x2] = some y2 := by
  obtain ⟨xs, m, rfl, -, -, hlen, hf⟩ := DataW.trod_struct ht h
  obtain ⟨o0, k0⟩ := hone_of hone 0 f0 rfl
  obtain ⟨o1, k1⟩ := hone_of hone 1 f1 rfl
  obtain ⟨o2, k2⟩ := hone_of hone 2 f2 rfl
  match xs, hlen with
  | [y0, y1, y2], _ => exact ⟨m, y0, y1, y2, rfl, by simpa [o0, k0] using hf 0 f0 rfl, by simpa [o1, k1] using hf 1 f1 rfl, by simpa [o2, k2] using hf 2 f2 rfl⟩

theorem u8_of {k : Int} (hk : (Lit.int .u8 k).wf = true) : ∃ c : UInt8, k = (c.toNat : Int) := by
  have hw := bounds_u8 hk
  refine ⟨UInt8.ofNat k.toNat, ?_⟩
  rw [UInt8.toNat_ofNat']
  omega
/-- An act that came in. -/
theorem ac_ofTrod {H : Type} {enc : TypeId × Value → H} {sp : Nat → Bool} {W : World} {n : Nat} {cs : List Value} {x : DataW H × List MemPlace} (h : DataW.trod enc Try.prog W 0 sp true n 46 cs = some x) :
    ∃ a : Ac, cs = [.bool a.sync, .int .u8 (a.pl.toNat : Int), .int .u8 (a.by_.toNat : Int)] := by
  have hC : Try.prog.cellsOf 46 = 3 := by kernel_rfl
  have hl : cs.length = 3 := by
    obtain ⟨_, _, _, -, hl, -, -⟩ := DataW.trod_struct Try.underlying46 h
    rw [← hC]
    exact hl
  match cs, hl with
  | [x0, x1, x2], _ =>
    obtain ⟨m, y0, y1, y2, rfl, h0, h1, h2⟩ := trod_three Try.underlying46 (by kernel_rfl) h
    obtain ⟨t, e0, -⟩ := DataW.trod_bool Try.underlying4 h0
    obtain ⟨k1, e1, -, hk1⟩ := DataW.trod_int Try.underlying5 h1
    obtain ⟨k2, e2, -, hk2⟩ := DataW.trod_int Try.underlying5 h2
    simp only [List.cons.injEq, and_true] at e0 e1 e2
    subst e0 e1 e2
    obtain ⟨c1, rfl⟩ := u8_of hk1
    obtain ⟨c2, rfl⟩ := u8_of hk2
    exact ⟨⟨t, c1, c2⟩, rfl⟩

/-- Acts that came in. -/
theorem AR.ofTrod {H : Type} {enc : TypeId × Value → H} {sp : Nat → Bool} {W : World} {n : Nat} {cs : List Value} {x : DataW H × List MemPlace}
    (h : DataW.trod enc Try.prog W 0 sp true n 43 cs = some x) : ∃ ps A cap, cs = [.slice A ps.length cap] ∧ ps.length ≤ cap ∧ cap ≤ maxLen ∧ AR W (· < W.heap.size) A ps := by
  have hC : Try.prog.cellsOf 46 = 3 := by kernel_rfl
  rcases DataW.trod_slice Try.underlying43 h with ⟨rfl, -⟩ | ⟨a, len, cap, elems, rest, m, hm, rfl, -, -, hlc, hcm, hlen, hel, -, -⟩
  · exact ⟨[], none, 0, rfl, Nat.le_refl _, Nat.zero_le _, fun h => absurd h (Nat.lt_irrefl 0)⟩
  · rw [hC] at hel
    have hspot : 0 < len → a.spot = none := by
      intro hp
      have hb := hel 0 hp
      rw [List.getElem?_eq_getElem (by omega : 0 < elems.length), Option.bind_eq_some_iff] at hb
      obtain ⟨cs, hcs, ht⟩ := hb
      obtain ⟨y, rfl⟩ := ac_ofTrod ht
      obtain ⟨-, hl1, hc⟩ := World.cells?_some hcs
      have h0 := hc 0 (by simp)
      obtain ⟨b, o, s⟩ := a
      exact addr_none (a := ⟨b, o, s⟩) (v := .bool y.sync) (by simpa [Addr.add] using h0)
    have each : ∀ i, i < len → ∃ y : Ac, a.spot = none ∧ a.block < W.heap.size ∧ W.cell? ⟨a.block, a.off + i * 3, none⟩ = some (.bool y.sync) ∧ W.cell? ⟨a.block, a.off + i * 3 + 1, none⟩ = some (.int .u8 (y.pl.toNat : Int)) ∧ W.cell? ⟨a.block, a.off + i * 3 + 2, none⟩ = some (.int .u8 (y.by_.toNat : Int)) := by
      intro i hi
      have hb := hel i hi
      rw [List.getElem?_eq_getElem (by omega : i < elems.length), Option.bind_eq_some_iff] at hb
      obtain ⟨cs, hcs, ht⟩ := hb
      obtain ⟨y, rfl⟩ := ac_ofTrod ht
      obtain ⟨-, hl1, hc⟩ := World.cells?_some hcs
      have h0 := hc 0 (by simp)
      have h1 := hc 1 (by simp)
      have h2 := hc 2 (by simp)
      have hs := hspot (by omega)
      obtain ⟨b, o, s⟩ := a
      simp only at hs
      subst hs
      simp only [add_none, Nat.add_zero] at h0 h1 h2
      have h0' : W.cell? ⟨b, o + i * 3, none⟩ = some (.bool y.sync) := by simpa using h0
      exact ⟨y, rfl, World.block_lt_of_cell? W ⟨b, o + i * 3, none⟩ h0', h0', by simpa using h1, by simpa using h2⟩
    obtain ⟨F, hF⟩ := @choose_lt Ac ⟨⟨false, 0, 0⟩⟩ len (fun i y => a.spot = none ∧ a.block < W.heap.size ∧ W.cell? ⟨a.block, a.off + i * 3, none⟩ = some (.bool y.sync) ∧ W.cell? ⟨a.block, a.off + i * 3 + 1, none⟩ = some (.int .u8 (y.pl.toNat : Int)) ∧ W.cell? ⟨a.block, a.off + i * 3 + 2, none⟩ = some (.int .u8 (y.by_.toNat : Int))) each
    have hll : ((List.range len).map F).length = len := by simp
    refine ⟨(List.range len).map F, some a, cap, by rw [hll], by rw [hll]; exact hlc, hcm, fun h => ?_⟩
    rw [hll] at h
    obtain ⟨hs, hb, -⟩ := hF 0 h
    obtain ⟨b, o, s⟩ := a
    simp only at hs
    subst hs
    refine ⟨b, o, rfl, hb, fun i hi => ?_⟩
    rw [hll] at hi
    obtain ⟨-, -, q0, q1, q2⟩ := hF i hi
    exact ⟨by simpa using q0, by simpa using q1, by simpa using q2⟩
/-- A list of acts as an argument. -/
theorem openA {H : Type} {enc : TypeId × Value → H} {sp : Nat → Bool} {r : Reach} {b0 : Nat} {W : World} {v : Value} {d : DataW H} {p : List MemPlace} (hv : Value.okWide Try.prog W r b0 43 v)
    (h : DataW.Trod enc Try.prog W 0 sp true 43 v d p) : ∃ (l : List Ac) (A : Option Addr) (cap : Nat), v = .slice A l.length cap ∧ l.length ≤ cap ∧ cap ≤ maxLen ∧ AR W (· < W.heap.size) A l := by
  have hc := okWide_sliceV Try.underlying43 hv
  obtain ⟨n, hn⟩ := h
  cases n with
  | zero => simp [DataW.trod] at hn
  | succ n =>
    obtain ⟨ps, A, cap, e, h1, h2, h3⟩ := AR.ofTrod hn
    rw [hc] at e
    simp only [List.cons.injEq, and_true] at e
    exact ⟨ps, A, cap, e, h1, h2, h3⟩
end Go.Proofs.Ytalkbccofiiojaa
