/- From a contract 'true, and nothing that was there has turned' to a row; a value that came in, opened to a tree. -/
/- A slice of bytes that came in, opened. -/
/- What the row's condition on the listed variable gives: the sixty-four numbers in their cells. -/
/- Slices of leaves and of digests that came in, opened. -/
import Derived.Test.YtgddfdejkmnfkaaDoorRows
import Derived.Test.YtgddfdejkmnfkaaDoorMy
import Derived.ProofKit
import Derived.OpenShut
import Derived.Lib.SmallJoins
import Derived.Deep.Slices
import Derived.Carry
import Derived.LaidMore
import Derived.Stop.Joined
namespace Go.Proofs.YtgddfdejkmnfkaaDoor
section
open Go.ChangeShapes Go.WideShapes Go.ChangeAt Go.RowKit Go.Deep

theorem Tryd.own : ownKnob Tryd.prog.godebug = none := by kernel_rfl

/-- The arguments read behind a call that only makes memory as they read before it. -/
theorem trodAll_below {H : Type} {enc : TypeId × Value → H} {P : Program} (hl : laidOutB P = true) {W W' : World} (hb : Below W.heap.size W W') :
    ∀ (ts : List TypeId) (vs : List Value) (ds : List (DataW H)) (ps : List MemPlace), (∀ t ∈ ts, P.readableRec t = true ∧ t < P.types.size) → DataW.TrodAll enc P W 0 (fun _ => true) true ts vs ds ps → (∀ x ∈ ps, x.block < W.heap.size) →
      DataW.TrodAll enc P W' 0 (fun b => decide (b < W.heap.size)) true ts vs ds ps
  | [], [], [], _, _, h, _ => h
  | t :: ts, v :: vs, d :: ds, ps, hr, h, hlt => by
    obtain ⟨p, q, h1, h2, rfl⟩ := h
    exact ⟨p, q, Below.trod hl (hr t (by simp)).1 (hr t (by simp)).2 h1 hb (fun x hx => hlt x (by simp [hx])), trodAll_below hl hb ts vs ds q (fun t ht => hr t (by simp [ht])) h2 (fun x hx => hlt x (by simp [hx])), rfl⟩

/-- The row's last step. -/
theorem post_true {H : Type} {enc : TypeId × Value → H} {f : Func} {s : ChangeSpec} {W W' : World} {args : Array Value} {ds gs : List (DataW H)} {before : List MemPlace} {ap : Bool} (hl : laidOutB Tryd.prog = true)
    (hW : DataW.Whole enc Tryd.prog f.params.toList s.vars ap W args.toList ds gs before) (hvs : s.vars = []) (hgs : gs = []) (hrt : f.resultTypes = #[4])
    (hread : ∀ t ∈ f.params.toList, Tryd.prog.readableRec t = true ∧ t < Tryd.prog.types.size)
    (hres : (s.fn H ds).results = [.lit (.bool true)]) (hargs : (s.fn H ds).args = ds) (hvars : (s.fn H ds).vars = []) (hb : Below W.heap.size W W') :
    s.post enc Tryd.prog f ap true false false W args (.bool true) W' := by
  subst hgs
  have hlt : ∀ p ∈ before, p.block < W.heap.size := hW.lt
  have hW2 := hW
  obtain ⟨p, q, hA, hV, rfl, hfz, hnd⟩ := hW
  rw [hvs] at hV
  obtain ⟨-, rfl⟩ := trodVars_none hV
  refine ⟨ds, [], _, [], p, [], hW2, ?_, ?_, ?_, hb.frame _, fun h => by cases h⟩
  · rw [List.append_nil, hres, hrt]
    exact trodAll_mk1 (shut_bool Tryd.underlying4 true)
  · rw [List.append_nil, hargs]
    exact trodAll_below hl hb _ _ _ _ hread hA (fun x hx => hlt x (by simp [hx]))
  · rw [List.append_nil, hvars, hvs]
    rfl
end
section
open Go.ChangeShapes Go.WideShapes Go.ChangeAt Go.RowKit Go.Deep

theorem addr_none {w : World} {a : Addr} {v : Value} (h : w.cell? a = some v) : a.spot = none := by
  unfold World.cell? at h
  split at h
  · split at h
    · cases h
    · rename_i hs
      cases h' : a.spot with
      | none => rfl
      | some _ => simp [h'] at hs
  · cases h
theorem okWide_sliceV {w : World} {P : Program} {r : Reach} {b0 : Nat} {t e : TypeId} {v : Value} (ht : P.underlying t = some (.slice e)) (h : Value.okWide P w r b0 t v) : v.cells = #[v] := by
  simp only [Value.okWide, ht, Cell.okWide] at h
  cases v <;> simp_all [Cell.ok, Value.cells]

theorem openB {H : Type} {enc : TypeId × Value → H} {sp : Nat → Bool} {r : Reach} {b0 : Nat} {W : World} {v : Value} {d : DataW H} {p : List MemPlace} (hv : Value.okWide Tryd.prog W r b0 34 v)
    (h : DataW.Trod enc Tryd.prog W 0 sp true 34 v d p) : ∃ (A : Option Addr) (bs : List UInt8) (cap : Nat), v = .slice A bs.length cap ∧ bs.length ≤ cap ∧ cap ≤ maxLen ∧ RBs W W.heap.size A bs := by
  have hc := okWide_sliceV Tryd.underlying34 hv
  obtain ⟨n, hn⟩ := h
  rcases open_ints Tryd.underlying34 Tryd.underlying5 (by kernel_rfl) hn with ⟨e, -⟩ | ⟨a, len, cap, zs, e, -, hlc, hcm, hz, -, hcell, hwf⟩
  · rw [hc] at e
    simp only [List.cons.injEq, and_true] at e
    exact ⟨none, [], 0, e, Nat.le_refl _, Nat.zero_le _, fun h => absurd h (Nat.lt_irrefl 0)⟩
  · rw [hc] at e
    simp only [List.cons.injEq, and_true] at e
    have hzl : len ≤ zs.length := by rw [hz]; split <;> omega
    have hbl : ((zs.take len).map fun z => UInt8.ofNat z.toNat).length = len := by simp; omega
    refine ⟨some a, (zs.take len).map fun z => UInt8.ofNat z.toNat, cap, by rw [hbl]; exact e, by rw [hbl]; exact hlc, hcm, fun hp => ?_⟩
    rw [hbl] at hp
    have h0 := hcell 0 (by omega)
    obtain ⟨b, o, s⟩ := a
    have hs : s = none := addr_none (a := ⟨b, o, s⟩) (by simpa [Addr.add] using h0)
    subst hs
    rw [add_none] at h0
    refine ⟨b, o, rfl, World.block_lt_of_cell? W ⟨b, o + 0, none⟩ h0, fun j hj => ?_⟩
    rw [hbl] at hj
    have h1 := hcell j (by omega)
    rw [add_none] at h1
    have hw := bounds_u8 (hwf (zs[j]'(by omega)) (List.getElem_mem _))
    rw [h1]
    have hg : zs.getD j 0 = zs[j]'(by omega) := by simp [List.getD, List.getElem?_eq_getElem (by omega : j < zs.length)]
    rw [hg]
    simp only [List.getElem_map, List.getElem_take, Option.some.injEq, Value.int.injEq, true_and]
    rw [UInt8.toNat_ofNat']
    omega
end
section
open Go.ChangeShapes Go.WideShapes Go.ChangeAt Go.RowKit

theorem gRounds : Tryd.prog.globalNamed "kinesphere/digest.rounds" = some 0 := by kernel_rfl
theorem tRounds : (Tryd.prog.globals[0]?).map (·.type) = some 79 := by kernel_rfl
abbrev laidR : List (String × DataW Unit) := [("kinesphere/digest.rounds", Rows.laid_kinesphere_digest_rounds)]

/-- The numbers, as the datum says them. -/
theorem laid_nums {H : Type} : (Rows.laid_kinesphere_digest_rounds : DataW H) = .agg (Ktab.map fun x => .lit (.int .u32 (U x))) := by
  unfold Rows.laid_kinesphere_digest_rounds Ktab
  simp only [List.map_cons, List.map_nil]
  rfl

theorem kt_of_laid {W : World} (h : laidMetH Tryd.prog laidR W) : KT W ∧ 0 < W.heap.size := by
  rw [MakeChecks.laidMetH_plain _ _ _ (by kernel_rfl)] at h
  obtain ⟨ps, ⟨g0, t0, cs0, f0, p0, q0, hg0, ht0, hv0, hd0, -, -⟩, -, -⟩ := h
  obtain rfl := Option.some.inj (gRounds.symm.trans hg0)
  obtain rfl := Option.some.inj (tRounds.symm.trans ht0)
  have hc : ∀ j, j < 64 → W.cell? ⟨0, j, none⟩ = some (.int .u32 (U (Ktab.getD j 0))) := by
    intro j hj
    obtain ⟨xs, m1, -, hx1, hlen, hn3, hel⟩ := DataW.trod_array Tryd.underlying79 hd0
    have c3 : Tryd.prog.cellsOf 56 = 1 := by kernel_rfl
    have h0 := hel j hj
    rw [laid_nums] at hx1
    simp only [Prod.mk.injEq, DataW.agg.injEq] at hx1
    obtain ⟨x, hx⟩ : ∃ x, xs[j]? = some x := ⟨_, List.getElem?_eq_getElem (by omega)⟩
    rw [hx, c3] at h0
    obtain ⟨k, e1, e2, -⟩ := DataW.trod_int Tryd.underlying56 h0
    have hk : k = U (Ktab.getD j 0) := by
      have h1 : (Ktab.map fun x => (DataW.lit (.int .u32 (U x)) : DataW Unit))[j]? = (xs.map (·.1))[j]? := by rw [hx1.1]
      have hl : j < Ktab.length := hj
      rw [List.getElem?_map, List.getElem?_map, hx, List.getElem?_eq_getElem hl, e2] at h1
      simp only [Option.map_some, Option.some.injEq, DataW.lit.injEq, Lit.int.injEq, true_and] at h1
      rw [← h1, List.getD_eq_getElem?_getD, List.getElem?_eq_getElem hl]
      rfl
    have hcell := World.var?_cell hg0 hv0 j
    have hget : cs0.toList[j]? = some (.int .u32 k) := by
      have h2 := congrArg (fun l => l[0]?) e1
      simpa using h2
    rw [Array.getElem?_toList] at hget
    rw [hcell, hget, hk]
  exact ⟨hc, World.block_lt_of_cell? W ⟨0, 0, none⟩ (hc 0 (by omega))⟩
end
section
open Go.ChangeShapes Go.WideShapes Go.ChangeAt Go.RowKit Go.Deep

/-- Thirty-two cells that read as a digest. -/
theorem raw_digest {H : Type} {enc : TypeId × Value → H} {sp : Nat → Bool} {W : World} {n : Nat} {cs : List Value} {x : DataW H × List MemPlace} (hz : cs.length = 32)
    (h : DataW.trod enc Tryd.prog W 0 sp true n 30 cs = some x) : ∃ d : List UInt8, cs = BV d ∧ d.length = 32 := by
  have c1 : Tryd.prog.cellsOf 5 = 1 := by kernel_rfl
  obtain ⟨xs, m, -, -, -, hl, hel⟩ := DataW.trod_array Tryd.underlying30 h
  have key : ∀ j, j < 32 → ∃ c : UInt8, cs[j]? = some (.int .u8 (c.toNat : Int)) := fun j hj => by
    have h0 := hel j hj
    rw [c1, Nat.mul_one, List.getElem?_eq_getElem (by omega)] at h0
    obtain ⟨z, e1, -, hw⟩ := DataW.trod_int Tryd.underlying5 h0
    have hb := bounds_u8 hw
    refine ⟨UInt8.ofNat z.toNat, ?_⟩
    have h1 : ((cs.drop j).take 1)[0]? = some (.int .u8 z) := by rw [e1]; rfl
    have h2 : cs[j]? = some (.int .u8 z) := by simpa using h1
    rw [h2, UInt8.toNat_ofNat']
    congr 2
    omega
  have all : ∀ (l : List Value), (∀ j, j < l.length → ∃ c : UInt8, l[j]? = some (.int .u8 (c.toNat : Int))) → ∃ d : List UInt8, l = BV d := by
    intro l
    induction l with
    | nil => intro _; exact ⟨[], rfl⟩
    | cons y r ih =>
      intro hk
      obtain ⟨c, hc⟩ := hk 0 (by simp)
      obtain ⟨d, hd⟩ := ih fun j hj => by
        have := hk (j + 1) (by simp; omega)
        simpa using this
      simp only [List.getElem?_cons_zero, Option.some.injEq] at hc
      exact ⟨c :: d, by rw [hc, hd]; rfl⟩
  obtain ⟨d, hd⟩ := all cs fun j hj => key j (by omega)
  refine ⟨d, hd, ?_⟩
  have := congrArg List.length hd
  rw [BV_length, hz] at this
  exact this.symm

/-- A slice of digests that came in. -/
theorem openDs {H : Type} {enc : TypeId × Value → H} {sp : Nat → Bool} {r : Reach} {b0 : Nat} {W : World} {v : Value} {x : DataW H} {p : List MemPlace} (hv : Value.okWide Tryd.prog W r b0 25 v)
    (h : DataW.Trod enc Tryd.prog W 0 sp true 25 v x p) : ∃ (A : Option Addr) (l : List (List UInt8)) (cap : Nat), v = .slice A l.length cap ∧ RD W W.heap.size l A cap := by
  have cD : Tryd.prog.cellsOf 30 = 32 := by kernel_rfl
  have hc := okWide_sliceV Tryd.underlying25 hv
  obtain ⟨n, hn⟩ := h
  rcases open_slice Tryd.underlying25 hn with ⟨e, -⟩ | ⟨a, len, cap, m, q, D, Pl, e, -, hlc, hcm, hm, -, hx⟩
  · rw [hc] at e
    simp only [List.cons.injEq, and_true] at e
    exact ⟨none, [], 0, e, RD.nil _ _⟩
  · rw [hc] at e
    simp only [List.cons.injEq, and_true] at e
    have hlm : len ≤ m := by rw [hm]; split <;> omega
    rw [cD] at hx
    have hspot : 0 < len → a.spot = none := by
      intro hp
      obtain ⟨cs, hcs, ht⟩ := hx 0 (by omega)
      obtain ⟨-, hl1, hcell⟩ := World.cells?_some hcs
      have h0 := hcell 0 (by omega)
      obtain ⟨y, hy⟩ : ∃ y, cs[0]? = some y := ⟨_, List.getElem?_eq_getElem (by omega)⟩
      rw [hy] at h0
      obtain ⟨b, o, s⟩ := a
      exact addr_none (a := ⟨b, o, s⟩) (v := y) (by simpa [Addr.add] using h0)
    have each : ∀ i, i < len → ∃ d : List UInt8, d.length = 32 ∧ a.spot = none ∧ a.block < W.heap.size ∧ W.rangeAt a.block (a.off + i * 32) (BV d) := by
      intro i hi
      obtain ⟨cs, hcs, ht⟩ := hx i (by omega)
      obtain ⟨-, hl1, hcell⟩ := World.cells?_some hcs
      obtain ⟨d, rfl, hd⟩ := raw_digest hl1 ht
      have h0 := hcell 0 (by omega)
      have hs := hspot (by omega)
      obtain ⟨b, o, s⟩ := a
      obtain ⟨y, hy⟩ : ∃ y, (BV d)[0]? = some y := ⟨_, List.getElem?_eq_getElem (by omega)⟩
      simp only at hs
      subst hs
      refine ⟨d, hd, rfl, ?_, fun j v hj => ?_⟩
      · rw [hy] at h0
        simp only [add_none, Nat.add_zero] at h0
        exact World.block_lt_of_cell? W ⟨b, o + i * 32, none⟩ h0
      · have hjl := (List.getElem?_eq_some_iff.1 hj).1
        have h1 := hcell j (by omega)
        simp only [add_none] at h1
        exact h1.trans hj
    obtain ⟨F, hF⟩ := choose_lt each
    have hll : ((List.range len).map F).length = len := by simp
    refine ⟨some a, (List.range len).map F, cap, by rw [hll]; exact e, by rw [hll]; exact hlc, hcm, fun d hd => ?_, (fun h => by cases h), a.block, a.off, fun hp => ?_, fun i hi => ?_⟩
    · obtain ⟨i, hi, rfl⟩ := List.mem_map.1 hd
      exact (hF i (List.mem_range.1 hi)).1
    · rw [hll] at hp
      obtain ⟨-, hs, hb, -⟩ := hF 0 hp
      obtain ⟨b, o, s⟩ := a
      simp only at hs
      subst hs
      exact ⟨rfl, hb⟩
    · rw [hll] at hi
      have := (hF i hi).2.2.2
      simpa using this

/-- A slice of slices of bytes that came in. -/
theorem openLs {H : Type} {enc : TypeId × Value → H} {sp : Nat → Bool} {r : Reach} {b0 : Nat} {W : World} {v : Value} {x : DataW H} {p : List MemPlace} (hv : Value.okWide Tryd.prog W r b0 22 v)
    (h : DataW.Trod enc Tryd.prog W 0 sp true 22 v x p) : ∃ (A : Option Addr) (l : List (List UInt8)) (cap : Nat), v = .slice A l.length cap ∧ l.length ≤ cap ∧ cap ≤ maxLen ∧ LL W W.heap.size l A := by
  have cB : Tryd.prog.cellsOf 34 = 1 := by kernel_rfl
  have hc := okWide_sliceV Tryd.underlying22 hv
  obtain ⟨n, hn⟩ := h
  rcases open_slice1 Tryd.underlying22 cB hn with ⟨e, -⟩ | ⟨a, len, cap, m, q, V, D, Pl, e, -, hlc, hcm, hm, -, hx⟩
  · rw [hc] at e
    simp only [List.cons.injEq, and_true] at e
    exact ⟨none, [], 0, e, Nat.le_refl _, Nat.zero_le _, LL.nil _ _ _⟩
  · rw [hc] at e
    simp only [List.cons.injEq, and_true] at e
    have hlm : len ≤ m := by rw [hm]; split <;> omega
    have hspot : 0 < len → a.spot = none := by
      intro hp
      obtain ⟨h0, ht⟩ := hx 0 (by omega)
      obtain ⟨b, o, s⟩ := a
      exact addr_none (a := ⟨b, o, s⟩) (v := V 0) (by simpa [Addr.add] using h0)
    have each : ∀ i, i < len → ∃ l : List UInt8, a.spot = none ∧ a.block < W.heap.size ∧ ∃ A c, W.cell? ⟨a.block, a.off + i, none⟩ = some (.slice A l.length c) ∧ RBs W W.heap.size A l ∧ (A = none → l = []) ∧ l.length ≤ c := by
      intro i hi
      obtain ⟨h0, ht⟩ := hx i (by omega)
      have hs := hspot (by omega)
      obtain ⟨b, o, s⟩ := a
      simp only at hs
      subst hs
      simp only [add_none] at h0
      have hb := World.block_lt_of_cell? W ⟨b, o + i, none⟩ h0
      rcases open_ints Tryd.underlying34 Tryd.underlying5 (by kernel_rfl) ht with ⟨e, -⟩ | ⟨a2, len2, cap2, zs, e, -, hlc2, hcm2, hz, -, hcell, hwf⟩
      · simp only [List.cons.injEq, and_true] at e
        exact ⟨[], rfl, hb, none, 0, by rw [h0, e]; rfl, fun h => absurd h (Nat.lt_irrefl 0), fun _ => rfl, Nat.le_refl _⟩
      · simp only [List.cons.injEq, and_true] at e
        have hzl : len2 ≤ zs.length := by rw [hz]; split <;> omega
        have hbl : ((zs.take len2).map fun z => UInt8.ofNat z.toNat).length = len2 := by simp; omega
        refine ⟨(zs.take len2).map fun z => UInt8.ofNat z.toNat, rfl, hb, some a2, cap2, by rw [hbl, h0, e], fun hp => ?_, (fun h => by cases h), by rw [hbl]; exact hlc2⟩
        rw [hbl] at hp
        have h1 := hcell 0 (by omega)
        obtain ⟨b2, o2, s2⟩ := a2
        have hs : s2 = none := addr_none (a := ⟨b2, o2, s2⟩) (by simpa [Addr.add] using h1)
        subst hs
        rw [add_none] at h1
        refine ⟨b2, o2, rfl, World.block_lt_of_cell? W ⟨b2, o2 + 0, none⟩ h1, fun j hj => ?_⟩
        rw [hbl] at hj
        have h2 := hcell j (by omega)
        rw [add_none] at h2
        have hw := bounds_u8 (hwf (zs[j]'(by omega)) (List.getElem_mem _))
        rw [h2]
        have hg : zs.getD j 0 = zs[j]'(by omega) := by simp [List.getD, List.getElem?_eq_getElem (by omega : j < zs.length)]
        rw [hg]
        simp only [List.getElem_map, List.getElem_take, Option.some.injEq, Value.int.injEq, true_and]
        rw [UInt8.toNat_ofNat']
        omega
    obtain ⟨F, hF⟩ := choose_lt each
    have hll : ((List.range len).map F).length = len := by simp
    refine ⟨some a, (List.range len).map F, cap, by rw [hll]; exact e, by rw [hll]; exact hlc, hcm, fun hp => ?_⟩
    rw [hll] at hp
    obtain ⟨hs, hb, -⟩ := hF 0 hp
    obtain ⟨b, o, s⟩ := a
    simp only at hs
    subst hs
    refine ⟨b, o, rfl, hb, fun i hi => ?_⟩
    rw [hll] at hi
    obtain ⟨-, -, h1⟩ := hF i hi
    simpa using h1
end
end Go.Proofs.YtgddfdejkmnfkaaDoor
