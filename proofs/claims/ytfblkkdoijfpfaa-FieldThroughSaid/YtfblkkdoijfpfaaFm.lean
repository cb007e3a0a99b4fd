/- From a contract 'true, and nothing that was there has turned' to a row; arguments that came in, opened to points, integers. -/
import Derived.Test.YtfblkkdoijfpfaaRows
import Derived.Test.YtfblkkdoijfpfaaFb
import Derived.ProofKit
import Derived.OpenShut
import Derived.Lib.SmallJoins
import Derived.Deep.Slices
import Derived.Carry
namespace Go.Proofs.Ytfblkkdoijfpfaa
open Go.ChangeShapes Go.WideShapes Go.ChangeAt Go.RowKit Go.Deep

theorem Try.own : ownKnob Try.prog.godebug = none := by kernel_rfl

/-- The arguments read behind a call that only makes memory as they read before it. -/
theorem trodAll_below {H : Type} {enc : TypeId × Value → H} {P : Program} (hl : laidOutB P = true) {W W' : World} (hb : Below W.heap.size W W') :
    ∀ (ts : List TypeId) (vs : List Value) (ds : List (DataW H)) (ps : List MemPlace), (∀ t ∈ ts, P.readableRec t = true ∧ t < P.types.size) → DataW.TrodAll enc P W 0 (fun _ => true) true ts vs ds ps → (∀ x ∈ ps, x.block < W.heap.size) →
      DataW.TrodAll enc P W' 0 (fun b => decide (b < W.heap.size)) true ts vs ds ps
  | [], [], [], _, _, h, _ => h
  | t :: ts, v :: vs, d :: ds, ps, hr, h, hlt => by
    obtain ⟨p, q, h1, h2, rfl⟩ := h
    exact ⟨p, q, Below.trod hl (hr t (by simp)).1 (hr t (by simp)).2 h1 hb (fun x hx => hlt x (by simp [hx])), trodAll_below hl hb ts vs ds q (fun t ht => hr t (by simp [ht])) h2 (fun x hx => hlt x (by simp [hx])), rfl⟩

/-- The row's last step. -/
theorem post_true {H : Type} {enc : TypeId × Value → H} {f : Func} {s : ChangeSpec} {W W' : World} {args : Array Value} {ds gs : List (DataW H)} {before : List MemPlace} {ap : Bool} (hl : laidOutB Try.prog = true)
    (hW : DataW.Whole enc Try.prog f.params.toList s.vars ap W args.toList ds gs before) (hvs : s.vars = []) (hgs : gs = []) (hrt : f.resultTypes = #[4])
    (hread : ∀ t ∈ f.params.toList, Try.prog.readableRec t = true ∧ t < Try.prog.types.size)
    (hres : (s.fn H ds).results = [.lit (.bool true)]) (hargs : (s.fn H ds).args = ds) (hvars : (s.fn H ds).vars = []) (hb : Below W.heap.size W W') :
    s.post enc Try.prog f ap true false false W args (.bool true) W' := by
  subst hgs
  have hlt : ∀ p ∈ before, p.block < W.heap.size := hW.lt
  have hW2 := hW
  obtain ⟨p, q, hA, hV, rfl, hfz, hnd⟩ := hW
  rw [hvs] at hV
  obtain ⟨-, rfl⟩ := trodVars_none hV
  refine ⟨ds, [], _, [], p, [], hW2, ?_, ?_, ?_, hb.frame _, fun h => by cases h⟩
  · rw [List.append_nil, hres, hrt]
    exact trodAll_mk1 (shut_bool Try.underlying4 true)
  · rw [List.append_nil, hargs]
    exact trodAll_below hl hb _ _ _ _ hread hA (fun x hx => hlt x (by simp [hx]))
  · rw [List.append_nil, hvars, hvs]
    rfl

theorem I64.wf {n : Int} (h : (Lit.int .i64 n).wf = true) : I64 n := by
  have h := bounds_i64 h
  unfold I64
  omega
theorem addr_none {w : World} {a : Addr} {v : Value} (h : w.cell? a = some v) : a.spot = none := by
  unfold World.cell? at h
  split at h
  · split at h
    · cases h
    · rename_i hs
      cases h' : a.spot with
      | none => rfl
      | some _ => simp [h'] at hs
  · cases h

theorem add_none (b o j : Nat) : (⟨b, o, none⟩ : Addr).add j = ⟨b, o + j, none⟩ := by unfold Addr.add; split <;> simp_all
theorem okWide_sliceV {w : World} {P : Program} {r : Reach} {b0 : Nat} {t e : TypeId} {v : Value} (ht : P.underlying t = some (.slice e)) (h : Value.okWide P w r b0 t v) : v.cells = #[v] := by
  simp only [Value.okWide, ht, Cell.okWide] at h
  cases v <;> simp_all [Cell.ok, Value.cells]
theorem trod_two {H : Type} {enc : TypeId × Value → H} {P : Program} {w : World} {base : Nat} {sp : Nat → Bool} {held : Bool} {t : TypeId} {f0 f1 : Field} {n : Nat} {x0 x1 : Value} {x : DataW H × List MemPlace}
    (ht : P.underlying t = some (.struct #[f0, f1])) (hone : oneCellFields P #[f0, f1] = true) (h : DataW.trod enc P w base sp held n t [x0, x1] = some x) :
    ∃ m y0 y1, n = m + 1 ∧ DataW.trod enc P w base sp held m f0.type [x0] = some y0 ∧ DataW.trod enc P w base sp held m f1.type [x1] = some y1 := by
  obtain ⟨xs, m, rfl, -, -, hlen, hf⟩ := DataW.trod_struct ht h
  obtain ⟨o0, k0⟩ := hone_of hone 0 f0 rfl
  obtain ⟨o1, k1⟩ := hone_of hone 1 f1 rfl
  match xs, hlen with
  | [y0, y1], _ => exact ⟨m, y0, y1, rfl, by simpa [o0, k0] using hf 0 f0 rfl, by simpa [o1, k1] using hf 1 f1 rfl⟩
/-- A point that came in. -/
theorem pt_ofTrod {H : Type} {enc : TypeId × Value → H} {sp : Nat → Bool} {W : World} {n : Nat} {cs : List Value} {x : DataW H × List MemPlace} (h : DataW.trod enc Try.prog W 0 sp true n 35 cs = some x) :
    ∃ z z2 : Int, cs = [.int .i64 z, .int .i64 z2] ∧ I64 z ∧ I64 z2 := by
  have hC : Try.prog.cellsOf 35 = 2 := by kernel_rfl
  have hl : cs.length = 2 := by
    obtain ⟨_, _, _, -, hl, -, -⟩ := DataW.trod_struct Try.underlying35 h
    rw [← hC]
    exact hl
  match cs, hl with
  | [x0, x1], _ =>
    obtain ⟨m, y0, y1, rfl, h0, h1⟩ := trod_two Try.underlying35 (by kernel_rfl) h
    obtain ⟨k, e0, -, hk⟩ := DataW.trod_int Try.underlying3 h0
    obtain ⟨k2, e1, -, hk2⟩ := DataW.trod_int Try.underlying3 h1
    simp only [List.cons.injEq, and_true] at e0 e1
    subst e0 e1
    exact ⟨k, k2, rfl, I64.wf hk, I64.wf hk2⟩
/-- Points that came in. -/
theorem PR.ofTrod {H : Type} {enc : TypeId × Value → H} {sp : Nat → Bool} {W : World} {n : Nat} {cs : List Value} {x : DataW H × List MemPlace}
    (h : DataW.trod enc Try.prog W 0 sp true (n + 1) 31 cs = some x) : ∃ ps A cap, cs = [.slice A ps.length cap] ∧ ps.length ≤ cap ∧ cap ≤ maxLen ∧ PR W (· < W.heap.size) A ps := by
  have hC : Try.prog.cellsOf 35 = 2 := by kernel_rfl
  rcases DataW.trod_slice Try.underlying31 h with ⟨rfl, -⟩ | ⟨a, len, cap, elems, rest, m, hm, rfl, -, -, hlc, hcm, hlen, hel, -, -⟩
  · exact ⟨[], none, 0, rfl, Nat.le_refl _, Nat.zero_le _, fun h => absurd h (Nat.lt_irrefl 0)⟩
  · rw [hC] at hel
    have hspot : 0 < len → a.spot = none := by
      intro hp
      have hb := hel 0 hp
      rw [List.getElem?_eq_getElem (by omega : 0 < elems.length), Option.bind_eq_some_iff] at hb
      obtain ⟨cs, hcs, ht⟩ := hb
      obtain ⟨z, z2, rfl, hz, hz2⟩ := pt_ofTrod ht
      obtain ⟨-, hl1, hc⟩ := World.cells?_some hcs
      have h0 := hc 0 (by simp)
      obtain ⟨b, o, s⟩ := a
      exact addr_none (a := ⟨b, o, s⟩) (v := .int .i64 z) (by simpa [Addr.add] using h0)
    have each : ∀ i, i < len → ∃ y : Int × Int, a.spot = none ∧ a.block < W.heap.size ∧ (I64 y.1 ∧ I64 y.2) ∧ W.cell? ⟨a.block, a.off + i * 2, none⟩ = some (.int .i64 y.1) ∧ W.cell? ⟨a.block, a.off + i * 2 + 1, none⟩ = some (.int .i64 y.2) := by
      intro i hi
      have hb := hel i hi
      rw [List.getElem?_eq_getElem (by omega : i < elems.length), Option.bind_eq_some_iff] at hb
      obtain ⟨cs, hcs, ht⟩ := hb
      obtain ⟨z, z2, rfl, hz, hz2⟩ := pt_ofTrod ht
      obtain ⟨-, hl1, hc⟩ := World.cells?_some hcs
      have h0 := hc 0 (by simp)
      have h1 := hc 1 (by simp)
      have hs := hspot (by omega)
      obtain ⟨b, o, s⟩ := a
      simp only at hs
      subst hs
      simp only [add_none, Nat.add_zero] at h0 h1
      have h0' : W.cell? ⟨b, o + i * 2, none⟩ = some (.int .i64 z) := by simpa using h0
      exact ⟨(z, z2), rfl, World.block_lt_of_cell? W ⟨b, o + i * 2, none⟩ h0', ⟨hz, hz2⟩, h0', by simpa using h1⟩
    obtain ⟨F, hF⟩ := @choose_lt (Int × Int) ⟨(0, 0)⟩ len (fun i y => a.spot = none ∧ a.block < W.heap.size ∧ (I64 y.1 ∧ I64 y.2) ∧ W.cell? ⟨a.block, a.off + i * 2, none⟩ = some (.int .i64 y.1) ∧ W.cell? ⟨a.block, a.off + i * 2 + 1, none⟩ = some (.int .i64 y.2)) each
    have hll : ((List.range len).map fun i => F i).length = len := by simp
    refine ⟨(List.range len).map fun i => F i, some a, cap, by rw [hll], by rw [hll]; exact hlc, hcm, fun h => ?_⟩
    rw [hll] at h
    obtain ⟨hs, hb, -⟩ := hF 0 h
    obtain ⟨b, o, s⟩ := a
    simp only at hs
    subst hs
    refine ⟨b, o, rfl, hb, fun i hi => ?_⟩
    rw [hll] at hi
    obtain ⟨-, -, q2, q3, q4⟩ := hF i hi
    exact ⟨by simpa using q3, by simpa using q4, by simpa using q2⟩
/-- Integers that came in. -/
theorem IR.ofTrod {H : Type} {enc : TypeId × Value → H} {sp : Nat → Bool} {W : World} {n : Nat} {cs : List Value} {x : DataW H × List MemPlace}
    (h : DataW.trod enc Try.prog W 0 sp true n 32 cs = some x) : ∃ l A cap, cs = [.slice A l.length cap] ∧ l.length ≤ cap ∧ cap ≤ maxLen ∧ IR W (· < W.heap.size) A l := by
  rcases open_ints Try.underlying32 Try.underlying3 (by kernel_rfl) h with ⟨e, -⟩ | ⟨a, len, cap, zs, e, -, hlc, hcm, hz, -, hcell, hwf⟩
  · exact ⟨[], none, 0, e, Nat.le_refl _, Nat.zero_le _, IR.nil _ _ _⟩
  · have hzl : len ≤ zs.length := by rw [hz]; split <;> omega
    have hbl : (zs.take len).length = len := by simp; omega
    refine ⟨zs.take len, some a, cap, by rw [hbl]; exact e, by rw [hbl]; exact hlc, hcm, fun hp => ?_⟩
    rw [hbl] at hp
    have h0 := hcell 0 (by omega)
    obtain ⟨b, o, s⟩ := a
    have hs : s = none := addr_none (a := ⟨b, o, s⟩) (by simpa [Addr.add] using h0)
    subst hs
    rw [add_none] at h0
    refine ⟨b, o, rfl, World.block_lt_of_cell? W ⟨b, o + 0, none⟩ h0, fun j hj => ?_⟩
    rw [hbl] at hj
    have h1 := hcell j (by omega)
    rw [add_none] at h1
    have hw := I64.wf (hwf (zs[j]'(by omega)) (List.getElem_mem _))
    have hg : zs.getD j 0 = zs[j]'(by omega) := by simp [List.getD, List.getElem?_eq_getElem (by omega : j < zs.length)]
    rw [hg] at h1
    rw [List.getElem_take]
    exact ⟨h1, hw⟩
theorem openI {H : Type} {enc : TypeId × Value → H} {sp : Nat → Bool} {r : Reach} {b0 : Nat} {W : World} {v : Value} {d : DataW H} {p : List MemPlace} (hv : Value.okWide Try.prog W r b0 32 v)
    (h : DataW.Trod enc Try.prog W 0 sp true 32 v d p) : ∃ (l : List Int) (A : Option Addr) (cap : Nat), v = .slice A l.length cap ∧ l.length ≤ cap ∧ cap ≤ maxLen ∧ IR W (· < W.heap.size) A l := by
  have hc := okWide_sliceV Try.underlying32 hv
  obtain ⟨n, hn⟩ := h
  obtain ⟨l, A, cap, e, h1, h2, h3⟩ := IR.ofTrod hn
  rw [hc] at e
  simp only [List.cons.injEq, and_true] at e
  exact ⟨l, A, cap, e, h1, h2, h3⟩
theorem openL {H : Type} {enc : TypeId × Value → H} {sp : Nat → Bool} {r : Reach} {b0 : Nat} {W : World} {v : Value} {d : DataW H} {p : List MemPlace} (hv : Value.okWide Try.prog W r b0 31 v)
    (h : DataW.Trod enc Try.prog W 0 sp true 31 v d p) : ∃ (l : List (Int × Int)) (A : Option Addr) (cap : Nat), v = .slice A l.length cap ∧ l.length ≤ cap ∧ cap ≤ maxLen ∧ PR W (· < W.heap.size) A l := by
  have hc := okWide_sliceV Try.underlying31 hv
  obtain ⟨n, hn⟩ := h
  cases n with
  | zero => simp [DataW.trod] at hn
  | succ n =>
    obtain ⟨l, A, cap, e, h1, h2, h3⟩ := PR.ofTrod hn
    rw [hc] at e
    simp only [List.cons.injEq, and_true] at e
    exact ⟨l, A, cap, e, h1, h2, h3⟩
end Go.Proofs.Ytfblkkdoijfpfaa
