/- From a contract 'true, and nothing that was there has turned' to a row; the listed variable; arguments opened: links, bytes, lists of bytes. -/
import Derived.Test.YtbhpmeljmkoebaaDoorRows
import Derived.Test.YtbhpmeljmkoebaaDoorVa
import Derived.ProofKit
import Derived.OpenShut
import Derived.Lib.SmallJoins
import Derived.Deep.Slices
import Derived.Carry
import Derived.LaidMore
import Derived.Stop.Joined
import Derived.MakeChecks
namespace Go.Proofs.YtbhpmeljmkoebaaDoor
open Go.ChangeShapes Go.WideShapes Go.ChangeAt Go.RowKit Go.Deep

theorem Tryd.own : ownKnob Tryd.prog.godebug = none := by kernel_rfl

/-- The arguments read behind a call that only makes memory as they read before it. -/
theorem trodAll_below {H : Type} {enc : TypeId × Value → H} {P : Program} (hl : laidOutB P = true) {W W' : World} (hb : Below W.heap.size W W') :
    ∀ (ts : List TypeId) (vs : List Value) (ds : List (DataW H)) (ps : List MemPlace), (∀ t ∈ ts, P.readableRec t = true ∧ t < P.types.size) → DataW.TrodAll enc P W 0 (fun _ => true) true ts vs ds ps → (∀ x ∈ ps, x.block < W.heap.size) →
      DataW.TrodAll enc P W' 0 (fun b => decide (b < W.heap.size)) true ts vs ds ps
  | [], [], [], _, _, h, _ => h
  | t :: ts, v :: vs, d :: ds, ps, hr, h, hlt => by
    obtain ⟨p, q, h1, h2, rfl⟩ := h
    exact ⟨p, q, Below.trod hl (hr t (by simp)).1 (hr t (by simp)).2 h1 hb (fun x hx => hlt x (by simp [hx])), trodAll_below hl hb ts vs ds q (fun t ht => hr t (by simp [ht])) h2 (fun x hx => hlt x (by simp [hx])), rfl⟩

/-- The row's last step. -/
theorem post_true {H : Type} {enc : TypeId × Value → H} {f : Func} {s : ChangeSpec} {W W' : World} {args : Array Value} {ds gs : List (DataW H)} {before : List MemPlace} {ap : Bool} (hl : laidOutB Tryd.prog = true)
    (hW : DataW.Whole enc Tryd.prog f.params.toList s.vars ap W args.toList ds gs before) (hvs : s.vars = []) (hgs : gs = []) (hrt : f.resultTypes = #[4])
    (hread : ∀ t ∈ f.params.toList, Tryd.prog.readableRec t = true ∧ t < Tryd.prog.types.size)
    (hres : (s.fn H ds).results = [.lit (.bool true)]) (hargs : (s.fn H ds).args = ds) (hvars : (s.fn H ds).vars = []) (hb : Below W.heap.size W W') :
    s.post enc Tryd.prog f ap true false false W args (.bool true) W' := by
  subst hgs
  have hlt : ∀ p ∈ before, p.block < W.heap.size := hW.lt
  have hW2 := hW
  obtain ⟨p, q, hA, hV, rfl, hfz, hnd⟩ := hW
  rw [hvs] at hV
  obtain ⟨-, rfl⟩ := trodVars_none hV
  refine ⟨ds, [], _, [], p, [], hW2, ?_, ?_, ?_, hb.frame _, fun h => by cases h⟩
  · rw [List.append_nil, hres, hrt]
    exact trodAll_mk1 (shut_bool Tryd.underlying4 true)
  · rw [List.append_nil, hargs]
    exact trodAll_below hl hb _ _ _ _ hread hA (fun x hx => hlt x (by simp [hx]))
  · rw [List.append_nil, hvars, hvs]
    rfl

theorem addr_none {w : World} {a : Addr} {v : Value} (h : w.cell? a = some v) : a.spot = none := by
  unfold World.cell? at h
  split at h
  · split at h
    · cases h
    · rename_i hs
      cases h' : a.spot with
      | none => rfl
      | some _ => simp [h'] at hs
  · cases h
theorem okWide_sliceV {w : World} {P : Program} {r : Reach} {b0 : Nat} {t e : TypeId} {v : Value} (ht : P.underlying t = some (.slice e)) (h : Value.okWide P w r b0 t v) : v.cells = #[v] := by
  simp only [Value.okWide, ht, Cell.okWide] at h
  cases v <;> simp_all [Cell.ok, Value.cells]


theorem gRounds : Tryd.prog.globalNamed "kinesphere/digest.rounds" = some 0 := by kernel_rfl
theorem tRounds : (Tryd.prog.globals[0]?).map (·.type) = some 82 := by kernel_rfl
abbrev laidR : List (String × DataW Unit) := [("kinesphere/digest.rounds", Rows.laid_kinesphere_digest_rounds)]

/-- The numbers, as the datum says them. -/
theorem laid_nums {H : Type} : (Rows.laid_kinesphere_digest_rounds : DataW H) = .agg (Ktab.map fun x => .lit (.int .u32 (U x))) := by
  unfold Rows.laid_kinesphere_digest_rounds Ktab
  simp only [List.map_cons, List.map_nil]
  rfl

theorem kt_of_laid {W : World} (h : laidMetH Tryd.prog laidR W) : KT W ∧ 0 < W.heap.size := by
  rw [MakeChecks.laidMetH_plain _ _ _ (by kernel_rfl)] at h
  obtain ⟨ps, ⟨g0, t0, cs0, f0, p0, q0, hg0, ht0, hv0, hd0, -, -⟩, -, -⟩ := h
  obtain rfl := Option.some.inj (gRounds.symm.trans hg0)
  obtain rfl := Option.some.inj (tRounds.symm.trans ht0)
  have hc : ∀ j, j < 64 → W.cell? ⟨0, j, none⟩ = some (.int .u32 (U (Ktab.getD j 0))) := by
    intro j hj
    obtain ⟨xs, m1, -, hx1, hlen, hn3, hel⟩ := DataW.trod_array Tryd.underlying82 hd0
    have c3 : Tryd.prog.cellsOf 70 = 1 := by kernel_rfl
    have h0 := hel j hj
    rw [laid_nums] at hx1
    simp only [Prod.mk.injEq, DataW.agg.injEq] at hx1
    obtain ⟨x, hx⟩ : ∃ x, xs[j]? = some x := ⟨_, List.getElem?_eq_getElem (by omega)⟩
    rw [hx, c3] at h0
    obtain ⟨k, e1, e2, -⟩ := DataW.trod_int Tryd.underlying70 h0
    have hk : k = U (Ktab.getD j 0) := by
      have h1 : (Ktab.map fun x => (DataW.lit (.int .u32 (U x)) : DataW Unit))[j]? = (xs.map (·.1))[j]? := by rw [hx1.1]
      have hl : j < Ktab.length := hj
      rw [List.getElem?_map, List.getElem?_map, hx, List.getElem?_eq_getElem hl, e2] at h1
      simp only [Option.map_some, Option.some.injEq, DataW.lit.injEq, Lit.int.injEq, true_and] at h1
      rw [← h1, List.getD_eq_getElem?_getD, List.getElem?_eq_getElem hl]
      rfl
    have hcell := World.var?_cell hg0 hv0 j
    have hget : cs0.toList[j]? = some (.int .u32 k) := by
      have h2 := congrArg (fun l => l[0]?) e1
      simpa using h2
    rw [Array.getElem?_toList] at hget
    rw [hcell, hget, hk]
  exact ⟨hc, World.block_lt_of_cell? W ⟨0, 0, none⟩ (hc 0 (by omega))⟩
set_option maxRecDepth 100000 in
/-- Thirty-two cells that read as a digest. -/
theorem raw_digest {H : Type} {enc : TypeId × Value → H} {sp : Nat → Bool} {W : World} {n : Nat} {cs : List Value} {x : DataW H × List MemPlace} (hz : cs.length = 32)
    (h : DataW.trod enc Tryd.prog W 0 sp true n 35 cs = some x) : ∃ d : List UInt8, cs = BV d ∧ d.length = 32 := by
  have c1 : Tryd.prog.cellsOf 5 = 1 := by kernel_rfl
  obtain ⟨xs, m, -, -, -, hl, hel⟩ := DataW.trod_array Tryd.underlying35 h
  have key : ∀ j, j < 32 → ∃ c : UInt8, cs[j]? = some (.int .u8 (c.toNat : Int)) := fun j hj => by
    have h0 := hel j hj
    rw [c1, Nat.mul_one, List.getElem?_eq_getElem (by omega)] at h0
    obtain ⟨z, e1, -, hw⟩ := DataW.trod_int Tryd.underlying5 h0
    have hb := bounds_u8 hw
    refine ⟨UInt8.ofNat z.toNat, ?_⟩
    have h1 : ((cs.drop j).take 1)[0]? = some (.int .u8 z) := by rw [e1]; rfl
    have h2 : cs[j]? = some (.int .u8 z) := by simpa using h1
    rw [h2, UInt8.toNat_ofNat']
    congr 2
    omega
  have all : ∀ (l : List Value), (∀ j, j < l.length → ∃ c : UInt8, l[j]? = some (.int .u8 (c.toNat : Int))) → ∃ d : List UInt8, l = BV d := by
    intro l
    induction l with
    | nil => intro _; exact ⟨[], rfl⟩
    | cons y r ih =>
      intro hk
      obtain ⟨c, hc⟩ := hk 0 (by simp)
      obtain ⟨d, hd⟩ := ih fun j hj => by
        have := hk (j + 1) (by simp; omega)
        simpa using this
      simp only [List.getElem?_cons_zero, Option.some.injEq] at hc
      exact ⟨c :: d, by rw [hc, hd]; rfl⟩
  obtain ⟨d, hd⟩ := all cs fun j hj => key j (by omega)
  refine ⟨d, hd, ?_⟩
  have := congrArg List.length hd
  rw [BV_length, hz] at this
  exact this.symm


theorem I64.wf {n : Int} (h : (Lit.int .i64 n).wf = true) : I64 n := by
  have h := bounds_i64 h
  unfold I64
  omega
/-- Cells that read as a slice of bytes. -/
theorem raw_bytes {H : Type} {enc : TypeId × Value → H} {sp : Nat → Bool} {W : World} {n : Nat} {cs : List Value} {x : DataW H × List MemPlace}
    (h : DataW.trod enc Tryd.prog W 0 sp true n 23 cs = some x) : ∃ (A : Option Addr) (bs : List UInt8) (cap : Nat), cs = [.slice A bs.length cap] ∧ bs.length ≤ cap ∧ cap ≤ 9223372036854775807 ∧ (A = none → bs = []) ∧ RBs W W.heap.size A bs := by
  rcases open_ints Tryd.underlying23 Tryd.underlying5 (by kernel_rfl) h with ⟨e, -⟩ | ⟨a, len, cap, zs, e, -, hlc, hcm, hz, -, hcell, hwf⟩
  · exact ⟨none, [], 0, e, Nat.le_refl _, by omega, fun _ => rfl, fun h => absurd h (Nat.lt_irrefl 0)⟩
  · have hzl : len ≤ zs.length := by rw [hz]; split <;> omega
    have hbl : ((zs.take len).map fun z => UInt8.ofNat z.toNat).length = len := by simp; omega
    refine ⟨some a, (zs.take len).map fun z => UInt8.ofNat z.toNat, cap, by rw [hbl]; exact e, by rw [hbl]; exact hlc, by unfold maxLen at hcm; omega, (fun h => by cases h), fun hp => ?_⟩
    rw [hbl] at hp
    have h0 := hcell 0 (by omega)
    obtain ⟨b, o, s⟩ := a
    have hs : s = none := addr_none (a := ⟨b, o, s⟩) (by simpa [Addr.add] using h0)
    subst hs
    rw [add_none] at h0
    refine ⟨b, o, rfl, World.block_lt_of_cell? W ⟨b, o + 0, none⟩ h0, fun j hj => ?_⟩
    rw [hbl] at hj
    have h1 := hcell j (by omega)
    rw [add_none] at h1
    have hw := bounds_u8 (hwf (zs[j]'(by omega)) (List.getElem_mem _))
    rw [h1]
    have hg : zs.getD j 0 = zs[j]'(by omega) := by simp [List.getD, List.getElem?_eq_getElem (by omega : j < zs.length)]
    rw [hg]
    simp only [List.getElem_map, List.getElem_take, Option.some.injEq, Value.int.injEq, true_and]
    rw [UInt8.toNat_ofNat']
    omega
theorem parts35 {l : List Value} (h : l.length = 35) : l = (l.drop 0).take 1 ++ ((l.drop 1).take 1 ++ ((l.drop 2).take 32 ++ (l.drop 34).take 1)) := by
  have e3 : (l.drop 34).take 1 = l.drop 34 := List.take_of_length_le (by rw [List.length_drop]; omega)
  have e2 : (l.drop 2).take 32 ++ l.drop 34 = l.drop 2 := by
    have := List.take_append_drop 32 (l.drop 2)
    rwa [List.drop_drop] at this
  have e1 : (l.drop 1).take 1 ++ l.drop 2 = l.drop 1 := by
    have := List.take_append_drop 1 (l.drop 1)
    rwa [List.drop_drop] at this
  have e0 : (l.drop 0).take 1 ++ l.drop 1 = l := by rw [List.drop_zero]; exact List.take_append_drop 1 l
  rw [e3, e2, e1, e0]
set_option maxRecDepth 100000 in
/-- Thirty-five cells that read as a link. -/
theorem raw_link {H : Type} {enc : TypeId × Value → H} {sp : Nat → Bool} {W : World} {n : Nat} {cs : List Value} {x : DataW H × List MemPlace} (hz : cs.length = 35)
    (h : DataW.trod enc Tryd.prog W 0 sp true n 37 cs = some x) : ∃ (y : Lk) (a : Option Addr) (c : Nat), cs = LW y a c ∧ y.Fine ∧ Dt W W.heap.size y a c := by
  have c1 : Tryd.prog.cellsOf 3 = 1 := by kernel_rfl
  have c2 : Tryd.prog.cellsOf 35 = 32 := by kernel_rfl
  have c3 : Tryd.prog.cellsOf 23 = 1 := by kernel_rfl
  obtain ⟨y0, y1, y2, y3, m, -, -, h0, h1, h2, h3⟩ := Go.Joins.trod_struct4 Tryd.underlying37 h
  simp only [c1, c2, c3] at h0 h1 h2 h3
  obtain ⟨k0, e0, -, w0⟩ := DataW.trod_int Tryd.underlying3 h0
  obtain ⟨k1, e1, -, w1⟩ := DataW.trod_int Tryd.underlying3 h1
  obtain ⟨d, e2, hd⟩ := raw_digest (by rw [List.length_take, List.length_drop]; omega) h2
  obtain ⟨A, bs, cap, e3, hc, hm, hn, hr⟩ := raw_bytes h3
  refine ⟨⟨k0, k1, d, bs⟩, A, cap, ?_, ⟨I64.wf w0, I64.wf w1, hd⟩, ⟨hr, hn, hc, hm⟩⟩
  rw [parts35 hz, e0, e1, e2, e3]
  rfl
set_option maxRecDepth 100000 in
/-- A slice of links that came in. -/
theorem openQ {H : Type} {enc : TypeId × Value → H} {sp : Nat → Bool} {r : Reach} {b0 : Nat} {W : World} {v : Value} {x : DataW H} {p : List MemPlace} (hv : Value.okWide Tryd.prog W r b0 22 v)
    (h : DataW.Trod enc Tryd.prog W 0 sp true 22 v x p) : ∃ (A : Option Addr) (l : List Lk) (cap : Nat), v = .slice A l.length cap ∧ QL W W.heap.size l A cap := by
  have cD : Tryd.prog.cellsOf 37 = 35 := by kernel_rfl
  have hc := okWide_sliceV Tryd.underlying22 hv
  obtain ⟨n, hn⟩ := h
  rcases open_slice Tryd.underlying22 hn with ⟨e, -⟩ | ⟨a, len, cap, m, q, D, Pl, e, -, hlc, hcm, hm, -, hx⟩
  · rw [hc] at e
    simp only [List.cons.injEq, and_true] at e
    exact ⟨none, [], 0, e, QL.nil _ _⟩
  · rw [hc] at e
    simp only [List.cons.injEq, and_true] at e
    have hlm : len ≤ m := by rw [hm]; split <;> omega
    rw [cD] at hx
    have hspot : 0 < len → a.spot = none := by
      intro hp
      obtain ⟨cs, hcs, ht⟩ := hx 0 (by omega)
      obtain ⟨-, hl1, hcell⟩ := World.cells?_some hcs
      have h0 := hcell 0 (by omega)
      obtain ⟨y, hy⟩ : ∃ y, cs[0]? = some y := ⟨_, List.getElem?_eq_getElem (by omega)⟩
      rw [hy] at h0
      obtain ⟨b, o, s⟩ := a
      exact addr_none (a := ⟨b, o, s⟩) (v := y) (by simpa [Addr.add] using h0)
    have each : ∀ i, i < len → ∃ y : Lk, y.Fine ∧ a.spot = none ∧ a.block < W.heap.size ∧ ∃ da dc, W.rangeAt a.block (a.off + i * 35) (LW y da dc) ∧ Dt W W.heap.size y da dc := by
      intro i hi
      obtain ⟨cs, hcs, ht⟩ := hx i (by omega)
      obtain ⟨-, hl1, hcell⟩ := World.cells?_some hcs
      obtain ⟨y, da, dc, rfl, hf, hd⟩ := raw_link hl1 ht
      have h0 := hcell 0 (by omega)
      have hs := hspot (by omega)
      obtain ⟨b, o, s⟩ := a
      simp only at hs
      subst hs
      refine ⟨y, hf, rfl, ?_, da, dc, fun j v hj => ?_, hd⟩
      · rw [LW_0] at h0
        simp only [add_none, Nat.add_zero] at h0
        exact World.block_lt_of_cell? W ⟨b, o + i * 35, none⟩ h0
      · have hjl := (List.getElem?_eq_some_iff.1 hj).1
        have h1 := hcell j (by omega)
        simp only [add_none] at h1
        exact h1.trans hj
    obtain ⟨F, hF⟩ := @choose_lt Lk ⟨⟨0, 0, [], []⟩⟩ len (fun i y => y.Fine ∧ a.spot = none ∧ a.block < W.heap.size ∧ ∃ da dc, W.rangeAt a.block (a.off + i * 35) (LW y da dc) ∧ Dt W W.heap.size y da dc) each
    have hll : ((List.range len).map F).length = len := by simp
    refine ⟨some a, (List.range len).map F, cap, by rw [hll]; exact e, by rw [hll]; exact hlc, by unfold maxLen at hcm; omega, fun d hd => ?_, (fun h => by cases h), a.block, a.off, fun hp => ?_, fun i hi => ?_⟩
    · obtain ⟨i, hi, rfl⟩ := List.mem_map.1 hd
      exact (hF i (List.mem_range.1 hi)).1
    · rw [hll] at hp
      obtain ⟨-, hs, hb, -⟩ := hF 0 hp
      obtain ⟨b, o, s⟩ := a
      simp only at hs
      subst hs
      exact ⟨rfl, hb⟩
    · rw [hll] at hi
      obtain ⟨da, dc, h1, h2⟩ := (hF i hi).2.2.2
      have hg : ((List.range len).map F)[i]'(by rw [hll]; exact hi) = F i := by simp
      rw [hg]
      exact ⟨da, dc, h1, h2⟩
end Go.Proofs.YtbhpmeljmkoebaaDoor
