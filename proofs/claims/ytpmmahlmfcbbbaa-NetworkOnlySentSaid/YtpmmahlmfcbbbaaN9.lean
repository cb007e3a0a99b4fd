/- From a contract 'true, and nothing that was there has turned' to a row; arguments that came in, opened to nets, packets, numbers. -/
import Derived.Test.YtpmmahlmfcbbbaaRows
import Derived.Test.YtpmmahlmfcbbbaaN8
import Derived.ProofKit
import Derived.OpenShut
import Derived.Lib.SmallJoins
import Derived.Deep.Slices
import Derived.Carry
namespace Go.Proofs.Ytpmmahlmfcbbbaa
open Go.ChangeShapes Go.WideShapes Go.ChangeAt Go.RowKit Go.Deep

theorem Try.own : ownKnob Try.prog.godebug = none := by kernel_rfl

/-- The arguments read behind a call that only makes memory as they read before it. -/
theorem trodAll_below {H : Type} {enc : TypeId × Value → H} {P : Program} (hl : laidOutB P = true) {W W' : World} (hb : Below W.heap.size W W') :
    ∀ (ts : List TypeId) (vs : List Value) (ds : List (DataW H)) (ps : List MemPlace), (∀ t ∈ ts, P.readableRec t = true ∧ t < P.types.size) → DataW.TrodAll enc P W 0 (fun _ => true) true ts vs ds ps → (∀ x ∈ ps, x.block < W.heap.size) →
      DataW.TrodAll enc P W' 0 (fun b => decide (b < W.heap.size)) true ts vs ds ps
  | [], [], [], _, _, h, _ => h
  | t :: ts, v :: vs, d :: ds, ps, hr, h, hlt => by
    obtain ⟨p, q, h1, h2, rfl⟩ := h
    exact ⟨p, q, Below.trod hl (hr t (by simp)).1 (hr t (by simp)).2 h1 hb (fun x hx => hlt x (by simp [hx])), trodAll_below hl hb ts vs ds q (fun t ht => hr t (by simp [ht])) h2 (fun x hx => hlt x (by simp [hx])), rfl⟩

/-- The row's last step. -/
theorem post_true {H : Type} {enc : TypeId × Value → H} {f : Func} {s : ChangeSpec} {W W' : World} {args : Array Value} {ds gs : List (DataW H)} {before : List MemPlace} {ap : Bool} (hl : laidOutB Try.prog = true)
    (hW : DataW.Whole enc Try.prog f.params.toList s.vars ap W args.toList ds gs before) (hvs : s.vars = []) (hgs : gs = []) (hrt : f.resultTypes = #[4])
    (hread : ∀ t ∈ f.params.toList, Try.prog.readableRec t = true ∧ t < Try.prog.types.size)
    (hres : (s.fn H ds).results = [.lit (.bool true)]) (hargs : (s.fn H ds).args = ds) (hvars : (s.fn H ds).vars = []) (hb : Below W.heap.size W W') :
    s.post enc Try.prog f ap true false false W args (.bool true) W' := by
  subst hgs
  have hlt : ∀ p ∈ before, p.block < W.heap.size := hW.lt
  have hW2 := hW
  obtain ⟨p, q, hA, hV, rfl, hfz, hnd⟩ := hW
  rw [hvs] at hV
  obtain ⟨-, rfl⟩ := trodVars_none hV
  refine ⟨ds, [], _, [], p, [], hW2, ?_, ?_, ?_, hb.frame _, fun h => by cases h⟩
  · rw [List.append_nil, hres, hrt]
    exact trodAll_mk1 (shut_bool Try.underlying4 true)
  · rw [List.append_nil, hargs]
    exact trodAll_below hl hb _ _ _ _ hread hA (fun x hx => hlt x (by simp [hx]))
  · rw [List.append_nil, hvars, hvs]
    rfl

theorem I64.wf {n : Int} (h : (Lit.int .i64 n).wf = true) : I64 n := by
  have h := bounds_i64 h
  unfold I64
  omega
theorem addr_none {w : World} {a : Addr} {v : Value} (h : w.cell? a = some v) : a.spot = none := by
  unfold World.cell? at h
  split at h
  · split at h
    · cases h
    · rename_i hs
      cases h' : a.spot with
      | none => rfl
      | some _ => simp [h'] at hs
  · cases h

/-- Bytes that came in. -/
theorem Row.ofTrod {H : Type} {enc : TypeId × Value → H} {sp : Nat → Bool} {W : World} {n : Nat} {cs : List Value} {x : DataW H × List MemPlace}
    (h : DataW.trod enc Try.prog W 0 sp true n 26 cs = some x) : ∃ v l, cs = [v] ∧ Row W (· < W.heap.size) v l := by
  rcases open_ints Try.underlying26 Try.underlying5 (by kernel_rfl) h with ⟨e, -⟩ | ⟨a, len, cap, zs, e, -, hlc, hcm, hz, -, hcell, hwf⟩
  · exact ⟨_, [], e, none, 0, rfl, Nat.le_refl _, Nat.zero_le _, fun h => absurd h (Nat.lt_irrefl 0)⟩
  · have hzl : len ≤ zs.length := by rw [hz]; split <;> omega
    have hbl : ((zs.take len).map fun z => UInt8.ofNat z.toNat).length = len := by simp; omega
    refine ⟨_, (zs.take len).map fun z => UInt8.ofNat z.toNat, e, some a, cap, by rw [hbl], by rw [hbl]; exact hlc, hcm, fun hp => ?_⟩
    rw [hbl] at hp
    have h0 := hcell 0 (by omega)
    obtain ⟨b, o, s⟩ := a
    have hs : s = none := addr_none (a := ⟨b, o, s⟩) (by simpa [Addr.add] using h0)
    subst hs
    rw [add_none] at h0
    refine ⟨b, o, rfl, World.block_lt_of_cell? W ⟨b, o + 0, none⟩ h0, fun j hj => ?_⟩
    rw [hbl] at hj
    have h1 := hcell j (by omega)
    rw [add_none] at h1
    have hw := bounds_u8 (hwf (zs[j]'(by omega)) (List.getElem_mem _))
    rw [h1]
    have hg : zs.getD j 0 = zs[j]'(by omega) := by simp [List.getD, List.getElem?_eq_getElem (by omega : j < zs.length)]
    rw [hg]
    simp only [List.getElem_map, List.getElem_take, Option.some.injEq, Value.int.injEq, true_and]
    rw [UInt8.toNat_ofNat']
    omega

theorem okWide_sliceV {w : World} {P : Program} {r : Reach} {b0 : Nat} {t e : TypeId} {v : Value} (ht : P.underlying t = some (.slice e)) (h : Value.okWide P w r b0 t v) : v.cells = #[v] := by
  simp only [Value.okWide, ht, Cell.okWide] at h
  cases v <;> simp_all [Cell.ok, Value.cells]
/-- A byte argument. -/
theorem openB {H : Type} {enc : TypeId × Value → H} {sp : Nat → Bool} {r : Reach} {b0 : Nat} {W : World} {v : Value} {d : DataW H} {p : List MemPlace} (hv : Value.okWide Try.prog W r b0 26 v)
    (h : DataW.Trod enc Try.prog W 0 sp true 26 v d p) : ∃ (l : List UInt8) (A : Option Addr) (cap : Nat), v = .slice A l.length cap ∧ l.length ≤ cap ∧ cap ≤ maxLen ∧ RBs W (· < W.heap.size) A l := by
  have hc := okWide_sliceV Try.underlying26 hv
  obtain ⟨n, hn⟩ := h
  obtain ⟨v', l, e, A, cap, rfl, h1, h2, h3⟩ := Row.ofTrod hn
  rw [hc] at e
  simp only [List.cons.injEq, and_true] at e
  exact ⟨l, A, cap, e, h1, h2, h3⟩

theorem trod_two {H : Type} {enc : TypeId × Value → H} {P : Program} {w : World} {base : Nat} {sp : Nat → Bool} {held : Bool} {t : TypeId} {f0 f1 : Field} {n : Nat} {x0 x1 : Value} {x : DataW H × List MemPlace}
    (ht : P.underlying t = some (.struct #[f0, f1])) (hone : oneCellFields P #[f0, f1] = true) (h : DataW.trod enc P w base sp held n t [x0, x1] = some x) :
    ∃ m y0 y1, n = m + 1 ∧ DataW.trod enc P w base sp held m f0.type [x0] = some y0 ∧ DataW.trod enc P w base sp held m f1.type [x1] = some y1 := by
  obtain ⟨xs, m, rfl, -, -, hlen, hf⟩ := DataW.trod_struct ht h
  obtain ⟨o0, k0⟩ := hone_of hone 0 f0 rfl
  obtain ⟨o1, k1⟩ := hone_of hone 1 f1 rfl
  match xs, hlen with
  | [y0, y1], _ => exact ⟨m, y0, y1, rfl, by simpa [o0, k0] using hf 0 f0 rfl, by simpa [o1, k1] using hf 1 f1 rfl⟩
theorem U64.wf {n : Int} (h : (Lit.int .u64 n).wf = true) : ∃ k : Nat, n = k ∧ k < 18446744073709551616 := by
  have h := bounds_u64 h
  exact ⟨n.toNat, by omega, by omega⟩
theorem trod_three {H : Type} {enc : TypeId × Value → H} {P : Program} {w : World} {base : Nat} {sp : Nat → Bool} {held : Bool} {t : TypeId} {f0 f1 f2 : Field} {n : Nat} {x0 x1 x2 : Value} {x : DataW H × List MemPlace}
    (ht : P.underlying t = some (.struct #[f0, f1, f2])) (hone : oneCellFields P #[f0, f1, f2] = true) (h : DataW.trod enc P w base sp held n t [x0, x1, x2] = some x) :
    ∃ m y0 y1 y2, n = m + 1 ∧ DataW.trod enc P w base sp held m f0.type [x0] = some y0 ∧ DataW.trod enc P w base sp held m f1.type [x1] = some y1 ∧ DataW.trod enc P w base sp held m f2.type [x2] = some y2 := by
  obtain ⟨xs, m, rfl, -, -, hlen, hf⟩ := DataW.trod_struct ht h
  obtain ⟨o0, k0⟩ := hone_of hone 0 f0 rfl
  obtain ⟨o1, k1⟩ := hone_of hone 1 f1 rfl
  obtain ⟨o2, k2⟩ := hone_of hone 2 f2 rfl
  match xs, hlen with
  | [y0, y1, y2], _ => exact ⟨m, y0, y1, y2, rfl, by simpa [o0, k0] using hf 0 f0 rfl, by simpa [o1, k1] using hf 1 f1 rfl, by simpa [o2, k2] using hf 2 f2 rfl⟩

/-- A packet that came in. -/
theorem pk_ofTrod {H : Type} {enc : TypeId × Value → H} {sp : Nat → Bool} {W : World} {n : Nat} {cs : List Value} {x : DataW H × List MemPlace} (h : DataW.trod enc Try.prog W 0 sp true n 28 cs = some x) :
    ∃ (z z2 : Int) (v : Value) (l : List UInt8), cs = [.int .i64 z, .int .i64 z2, v] ∧ I64 z ∧ I64 z2 ∧ Row W (· < W.heap.size) v l := by
  have hC : Try.prog.cellsOf 28 = 3 := by kernel_rfl
  have hl : cs.length = 3 := by
    obtain ⟨_, _, _, -, hl, -, -⟩ := DataW.trod_struct Try.underlying28 h
    rw [← hC]
    exact hl
  match cs, hl with
  | [x0, x1, x2], _ =>
    obtain ⟨m, y0, y1, y2, rfl, h0, h1, h2⟩ := trod_three Try.underlying28 (by kernel_rfl) h
    obtain ⟨k, e0, -, hk⟩ := DataW.trod_int Try.underlying3 h0
    obtain ⟨k2, e1, -, hk2⟩ := DataW.trod_int Try.underlying3 h1
    obtain ⟨v, l, e2, hr⟩ := Row.ofTrod h2
    simp only [List.cons.injEq, and_true] at e0 e1 e2
    subst e0 e1 e2
    exact ⟨k, k2, _, l, rfl, I64.wf hk, I64.wf hk2, hr⟩
/-- A link that came in. -/
theorem lk_ofTrod {H : Type} {enc : TypeId × Value → H} {sp : Nat → Bool} {W : World} {n : Nat} {cs : List Value} {x : DataW H × List MemPlace} (h : DataW.trod enc Try.prog W 0 sp true n 55 cs = some x) :
    ∃ z z2 : Int, cs = [.int .i64 z, .int .i64 z2] ∧ I64 z ∧ I64 z2 := by
  have hC : Try.prog.cellsOf 55 = 2 := by kernel_rfl
  have hI : Try.prog.cellsOf 3 = 1 := by kernel_rfl
  obtain ⟨xs, m, rfl, -, hl, hlen, hf⟩ := DataW.trod_array Try.underlying55 h
  rw [hC] at hl
  rw [hI] at hf
  match cs, hl with
  | [x0, x1], _ =>
    have h0 := hf 0 (by omega)
    have h1 := hf 1 (by omega)
    rw [List.getElem?_eq_getElem (by omega)] at h0 h1
    obtain ⟨k, e0, -, hk⟩ := DataW.trod_int Try.underlying3 h0
    obtain ⟨k2, e1, -, hk2⟩ := DataW.trod_int Try.underlying3 h1
    simp at e0 e1
    subst e0 e1
    exact ⟨k, k2, rfl, I64.wf hk, I64.wf hk2⟩

/-- Packets that came in. -/
theorem QR.ofTrod {H : Type} {enc : TypeId × Value → H} {sp : Nat → Bool} {W : World} {n : Nat} {cs : List Value} {x : DataW H × List MemPlace}
    (h : DataW.trod enc Try.prog W 0 sp true (n + 1) 22 cs = some x) : ∃ ps A cap, cs = [.slice A ps.length cap] ∧ ps.length ≤ cap ∧ cap ≤ maxLen ∧ QR W (· < W.heap.size) A ps := by
  have hC : Try.prog.cellsOf 28 = 3 := by kernel_rfl
  rcases DataW.trod_slice Try.underlying22 h with ⟨rfl, -⟩ | ⟨a, len, cap, elems, rest, m, hm, rfl, -, -, hlc, hcm, hlen, hel, -, -⟩
  · exact ⟨[], none, 0, rfl, Nat.le_refl _, Nat.zero_le _, fun h => absurd h (Nat.lt_irrefl 0)⟩
  · rw [hC] at hel
    have hspot : 0 < len → a.spot = none := by
      intro hp
      have hb := hel 0 hp
      rw [List.getElem?_eq_getElem (by omega : 0 < elems.length), Option.bind_eq_some_iff] at hb
      obtain ⟨cs, hcs, ht⟩ := hb
      obtain ⟨z, z2, v, l, rfl, hz, hz2, hr⟩ := pk_ofTrod ht
      obtain ⟨-, hl1, hc⟩ := World.cells?_some hcs
      have h0 := hc 0 (by simp)
      obtain ⟨b, o, s⟩ := a
      exact addr_none (a := ⟨b, o, s⟩) (v := .int .i64 z) (by simpa [Addr.add] using h0)
    have each : ∀ i, i < len → ∃ y : Pk × Value, a.spot = none ∧ a.block < W.heap.size ∧ Row W (· < W.heap.size) y.2 y.1.data ∧ (I64 y.1.frm ∧ I64 y.1.to) ∧ W.cell? ⟨a.block, a.off + i * 3, none⟩ = some (.int .i64 y.1.frm) ∧ W.cell? ⟨a.block, a.off + i * 3 + 1, none⟩ = some (.int .i64 y.1.to) ∧ W.cell? ⟨a.block, a.off + i * 3 + 2, none⟩ = some y.2 := by
      intro i hi
      have hb := hel i hi
      rw [List.getElem?_eq_getElem (by omega : i < elems.length), Option.bind_eq_some_iff] at hb
      obtain ⟨cs, hcs, ht⟩ := hb
      obtain ⟨z, z2, v, l, rfl, hz, hz2, hr⟩ := pk_ofTrod ht
      obtain ⟨-, hl1, hc⟩ := World.cells?_some hcs
      have h0 := hc 0 (by simp)
      have h1 := hc 1 (by simp)
      have h2 := hc 2 (by simp)
      have hs := hspot (by omega)
      obtain ⟨b, o, s⟩ := a
      simp only at hs
      subst hs
      simp only [add_none, Nat.add_zero] at h0 h1 h2
      have h0' : W.cell? ⟨b, o + i * 3, none⟩ = some (.int .i64 z) := by simpa using h0
      exact ⟨(⟨z, z2, l⟩, v), rfl, World.block_lt_of_cell? W ⟨b, o + i * 3, none⟩ h0', hr, ⟨hz, hz2⟩, h0', by simpa using h1, by simpa using h2⟩
    obtain ⟨F, hF⟩ := @choose_lt (Pk × Value) ⟨(zeroPk, .bool true)⟩ len (fun i y => a.spot = none ∧ a.block < W.heap.size ∧ Row W (· < W.heap.size) y.2 y.1.data ∧ (I64 y.1.frm ∧ I64 y.1.to) ∧ W.cell? ⟨a.block, a.off + i * 3, none⟩ = some (.int .i64 y.1.frm) ∧ W.cell? ⟨a.block, a.off + i * 3 + 1, none⟩ = some (.int .i64 y.1.to) ∧ W.cell? ⟨a.block, a.off + i * 3 + 2, none⟩ = some y.2) each
    have hll : ((List.range len).map fun i => (F i).1).length = len := by simp
    refine ⟨(List.range len).map fun i => (F i).1, some a, cap, by rw [hll], by rw [hll]; exact hlc, hcm, fun h => ?_⟩
    rw [hll] at h
    obtain ⟨hs, hb, -⟩ := hF 0 h
    obtain ⟨b, o, s⟩ := a
    simp only at hs
    subst hs
    refine ⟨b, o, rfl, hb, fun i hi => ?_⟩
    rw [hll] at hi
    obtain ⟨-, -, q1, q2, q3, q4, q5⟩ := hF i hi
    exact ⟨(F i).2, by simpa using q3, by simpa using q4, q5, by simpa using q1, by simpa using q2⟩
/-- Links that came in. -/
theorem LR.ofTrod {H : Type} {enc : TypeId × Value → H} {sp : Nat → Bool} {W : World} {n : Nat} {cs : List Value} {x : DataW H × List MemPlace}
    (h : DataW.trod enc Try.prog W 0 sp true (n + 1) 23 cs = some x) : ∃ ps A cap, cs = [.slice A ps.length cap] ∧ ps.length ≤ cap ∧ cap ≤ maxLen ∧ LR W (· < W.heap.size) A ps := by
  have hC : Try.prog.cellsOf 55 = 2 := by kernel_rfl
  rcases DataW.trod_slice Try.underlying23 h with ⟨rfl, -⟩ | ⟨a, len, cap, elems, rest, m, hm, rfl, -, -, hlc, hcm, hlen, hel, -, -⟩
  · exact ⟨[], none, 0, rfl, Nat.le_refl _, Nat.zero_le _, fun h => absurd h (Nat.lt_irrefl 0)⟩
  · rw [hC] at hel
    have hspot : 0 < len → a.spot = none := by
      intro hp
      have hb := hel 0 hp
      rw [List.getElem?_eq_getElem (by omega : 0 < elems.length), Option.bind_eq_some_iff] at hb
      obtain ⟨cs, hcs, ht⟩ := hb
      obtain ⟨z, z2, rfl, hz, hz2⟩ := lk_ofTrod ht
      obtain ⟨-, hl1, hc⟩ := World.cells?_some hcs
      have h0 := hc 0 (by simp)
      obtain ⟨b, o, s⟩ := a
      exact addr_none (a := ⟨b, o, s⟩) (v := .int .i64 z) (by simpa [Addr.add] using h0)
    have each : ∀ i, i < len → ∃ y : Int × Int, a.spot = none ∧ a.block < W.heap.size ∧ (I64 y.1 ∧ I64 y.2) ∧ W.cell? ⟨a.block, a.off + i * 2, none⟩ = some (.int .i64 y.1) ∧ W.cell? ⟨a.block, a.off + i * 2 + 1, none⟩ = some (.int .i64 y.2) := by
      intro i hi
      have hb := hel i hi
      rw [List.getElem?_eq_getElem (by omega : i < elems.length), Option.bind_eq_some_iff] at hb
      obtain ⟨cs, hcs, ht⟩ := hb
      obtain ⟨z, z2, rfl, hz, hz2⟩ := lk_ofTrod ht
      obtain ⟨-, hl1, hc⟩ := World.cells?_some hcs
      have h0 := hc 0 (by simp)
      have h1 := hc 1 (by simp)
      have hs := hspot (by omega)
      obtain ⟨b, o, s⟩ := a
      simp only at hs
      subst hs
      simp only [add_none, Nat.add_zero] at h0 h1
      have h0' : W.cell? ⟨b, o + i * 2, none⟩ = some (.int .i64 z) := by simpa using h0
      exact ⟨(z, z2), rfl, World.block_lt_of_cell? W ⟨b, o + i * 2, none⟩ h0', ⟨hz, hz2⟩, h0', by simpa using h1⟩
    obtain ⟨F, hF⟩ := @choose_lt (Int × Int) ⟨(0, 0)⟩ len (fun i y => a.spot = none ∧ a.block < W.heap.size ∧ (I64 y.1 ∧ I64 y.2) ∧ W.cell? ⟨a.block, a.off + i * 2, none⟩ = some (.int .i64 y.1) ∧ W.cell? ⟨a.block, a.off + i * 2 + 1, none⟩ = some (.int .i64 y.2)) each
    have hll : ((List.range len).map fun i => F i).length = len := by simp
    refine ⟨(List.range len).map fun i => F i, some a, cap, by rw [hll], by rw [hll]; exact hlc, hcm, fun h => ?_⟩
    rw [hll] at h
    obtain ⟨hs, hb, -⟩ := hF 0 h
    obtain ⟨b, o, s⟩ := a
    simp only at hs
    subst hs
    refine ⟨b, o, rfl, hb, fun i hi => ?_⟩
    rw [hll] at hi
    obtain ⟨-, -, q2, q3, q4⟩ := hF i hi
    exact ⟨by simpa using q3, by simpa using q4, by simpa using q2⟩
theorem trodAll_five {H : Type} {enc : TypeId × Value → H} {P : Program} {w : World} {base : Nat} {spare : Nat → Bool} {held : Bool} {t0 t1 t2 t3 t4 : TypeId} {args : Array Value} {ds : List (DataW H)} {ps : List MemPlace}
    (h : DataW.TrodAll enc P w base spare held [t0, t1, t2, t3, t4] args.toList ds ps) :
    ∃ v0 v1 v2 v3 v4 d0 d1 d2 d3 d4 p0 p1 p2 p3 p4, args = #[v0, v1, v2, v3, v4] ∧ ds = [d0, d1, d2, d3, d4] ∧ ps = p0 ++ p1 ++ p2 ++ p3 ++ p4 ∧ DataW.Trod enc P w base spare held t0 v0 d0 p0 ∧ DataW.Trod enc P w base spare held t1 v1 d1 p1 ∧
      DataW.Trod enc P w base spare held t2 v2 d2 p2 ∧ DataW.Trod enc P w base spare held t3 v3 d3 p3 ∧ DataW.Trod enc P w base spare held t4 v4 d4 p4 := by
  obtain ⟨v0, _, d0, _, p0, _, hargs, rfl, rfl, h0, k0⟩ := Go.ChangeShapes.trodAll_cons h
  obtain ⟨v1, _, d1, _, p1, _, rfl, rfl, rfl, h1, k1⟩ := Go.ChangeShapes.trodAll_cons k0
  obtain ⟨v2, _, d2, _, p2, _, rfl, rfl, rfl, h2, k2⟩ := Go.ChangeShapes.trodAll_cons k1
  obtain ⟨v3, _, d3, _, p3, _, rfl, rfl, rfl, h3, k3⟩ := Go.ChangeShapes.trodAll_cons k2
  obtain ⟨v4, _, d4, _, p4, _, rfl, rfl, rfl, h4, k4⟩ := Go.ChangeShapes.trodAll_cons k3
  obtain ⟨rfl, rfl, rfl⟩ := Go.ChangeShapes.trodAll_nil k4
  exact ⟨v0, v1, v2, v3, v4, d0, d1, d2, d3, d4, p0, p1, p2, p3, p4, by cases args; simp_all, rfl, by simp, h0, h1, h2, h3, h4⟩

/-- A net that came in. -/
theorem openN {H : Type} {enc : TypeId × Value → H} {sp : Nat → Bool} {r : Reach} {b0 : Nat} {W : World} {v : Value} {d : DataW H} {p : List MemPlace} (hv : Value.okWide Try.prog W r b0 25 v)
    (h : DataW.Trod enc Try.prog W 0 sp true 25 v d p) : ∃ (k : Nt) (A : Option Addr) (c : Nat) (A' : Option Addr) (c' : Nat), v = .agg #[.slice A k.q.length c, .slice A' k.ap.length c'] ∧ NR W (· < W.heap.size) A c A' c' k := by
  obtain ⟨cs, rfl, -⟩ := okWide_struct Try.underlying25 hv
  obtain ⟨n, hn⟩ := h
  have hC : Try.prog.cellsOf 25 = 2 := by kernel_rfl
  have hn' : DataW.trod enc Try.prog W 0 sp true n 25 cs.toList = some (d, p) := by simpa [Value.cells] using hn
  have hl : cs.toList.length = 2 := by
    obtain ⟨_, _, _, -, hl, -, -⟩ := DataW.trod_struct Try.underlying25 hn'
    rw [← hC]
    exact hl
  obtain ⟨l, hll⟩ : ∃ l, l = cs.toList := ⟨_, rfl⟩
  rw [← hll] at hn' hl
  match l, hl with
  | [x0, x1], _ =>
    obtain ⟨m, y0, y1, rfl, h0, h1⟩ := trod_two Try.underlying25 (by kernel_rfl) hn'
    cases m with
    | zero => simp [DataW.trod] at h0
    | succ m =>
      obtain ⟨ps, A, c, e0, q1, q2, q3⟩ := QR.ofTrod h0
      obtain ⟨ls, A', c', e1, q4, q5, q6⟩ := LR.ofTrod h1
      simp only [List.cons.injEq, and_true] at e0 e1
      subst e0 e1
      refine ⟨⟨ps, ls⟩, A, c, A', c', ?_, ⟨q1, q2, q4, q5, q3, q6⟩⟩
      have : cs = [.slice A ps.length c, .slice A' ls.length c'].toArray := by rw [hll]
      rw [this]
/-- A packet that came in. -/
theorem openP {H : Type} {enc : TypeId × Value → H} {sp : Nat → Bool} {r : Reach} {b0 : Nat} {W : World} {v : Value} {d : DataW H} {p : List MemPlace} (hv : Value.okWide Try.prog W r b0 28 v)
    (h : DataW.Trod enc Try.prog W 0 sp true 28 v d p) : ∃ (k : Pk) (A : Option Addr) (c : Nat), v = .agg #[.int .i64 k.frm, .int .i64 k.to, .slice A k.data.length c] ∧ (k.data.length ≤ c ∧ c ≤ maxLen) ∧ RBs W (· < W.heap.size) A k.data ∧ I64 k.frm ∧ I64 k.to := by
  obtain ⟨cs, rfl, -⟩ := okWide_struct Try.underlying28 hv
  obtain ⟨n, hn⟩ := h
  have hn' : DataW.trod enc Try.prog W 0 sp true n 28 cs.toList = some (d, p) := by simpa [Value.cells] using hn
  obtain ⟨z, z2, v, l, e, h1, h2, A, c, rfl, h3, h4, h5⟩ := pk_ofTrod hn'
  refine ⟨⟨z, z2, l⟩, A, c, ?_, ⟨h3, h4⟩, h5, h1, h2⟩
  have : cs = [.int .i64 z, .int .i64 z2, .slice A l.length c].toArray := by rw [← e]
  rw [this]
end Go.Proofs.Ytpmmahlmfcbbbaa
