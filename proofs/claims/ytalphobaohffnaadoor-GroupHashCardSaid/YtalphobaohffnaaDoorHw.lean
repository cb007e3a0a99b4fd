/- From a contract 'true, and nothing that was there has turned' to a row; the listed variable; bytes that came in. -/
import Derived.Test.YtalphobaohffnaaDoorRows
import Derived.Test.YtalphobaohffnaaDoorHa
import Derived.ProofKit
import Derived.OpenShut
import Derived.Lib.SmallJoins
import Derived.Deep.Slices
import Derived.Carry
import Derived.LaidMore
import Derived.Stop.Joined
import Derived.MakeChecks
namespace Go.Proofs.YtalphobaohffnaaDoor
open Go.ChangeShapes Go.WideShapes Go.ChangeAt Go.RowKit Go.Deep

theorem Tryd.own : ownKnob Tryd.prog.godebug = none := by kernel_rfl

/-- The arguments read behind a call that only makes memory as they read before it. -/
theorem trodAll_below {H : Type} {enc : TypeId × Value → H} {P : Program} (hl : laidOutB P = true) {W W' : World} (hb : Below W.heap.size W W') :
    ∀ (ts : List TypeId) (vs : List Value) (ds : List (DataW H)) (ps : List MemPlace), (∀ t ∈ ts, P.readableRec t = true ∧ t < P.types.size) → DataW.TrodAll enc P W 0 (fun _ => true) true ts vs ds ps → (∀ x ∈ ps, x.block < W.heap.size) →
      DataW.TrodAll enc P W' 0 (fun b => decide (b < W.heap.size)) true ts vs ds ps
  | [], [], [], _, _, h, _ => h
  | t :: ts, v :: vs, d :: ds, ps, hr, h, hlt => by
    obtain ⟨p, q, h1, h2, rfl⟩ := h
    exact ⟨p, q, Below.trod hl (hr t (by simp)).1 (hr t (by simp)).2 h1 hb (fun x hx => hlt x (by simp [hx])), trodAll_below hl hb ts vs ds q (fun t ht => hr t (by simp [ht])) h2 (fun x hx => hlt x (by simp [hx])), rfl⟩

/-- The row's last step. -/
theorem post_true {H : Type} {enc : TypeId × Value → H} {f : Func} {s : ChangeSpec} {W W' : World} {args : Array Value} {ds gs : List (DataW H)} {before : List MemPlace} {ap : Bool} (hl : laidOutB Tryd.prog = true)
    (hW : DataW.Whole enc Tryd.prog f.params.toList s.vars ap W args.toList ds gs before) (hvs : s.vars = []) (hgs : gs = []) (hrt : f.resultTypes = #[4])
    (hread : ∀ t ∈ f.params.toList, Tryd.prog.readableRec t = true ∧ t < Tryd.prog.types.size)
    (hres : (s.fn H ds).results = [.lit (.bool true)]) (hargs : (s.fn H ds).args = ds) (hvars : (s.fn H ds).vars = []) (hb : Below W.heap.size W W') :
    s.post enc Tryd.prog f ap true false false W args (.bool true) W' := by
  subst hgs
  have hlt : ∀ p ∈ before, p.block < W.heap.size := hW.lt
  have hW2 := hW
  obtain ⟨p, q, hA, hV, rfl, hfz, hnd⟩ := hW
  rw [hvs] at hV
  obtain ⟨-, rfl⟩ := trodVars_none hV
  refine ⟨ds, [], _, [], p, [], hW2, ?_, ?_, ?_, hb.frame _, fun h => by cases h⟩
  · rw [List.append_nil, hres, hrt]
    exact trodAll_mk1 (shut_bool Tryd.underlying4 true)
  · rw [List.append_nil, hargs]
    exact trodAll_below hl hb _ _ _ _ hread hA (fun x hx => hlt x (by simp [hx]))
  · rw [List.append_nil, hvars, hvs]
    rfl

theorem addr_none {w : World} {a : Addr} {v : Value} (h : w.cell? a = some v) : a.spot = none := by
  unfold World.cell? at h
  split at h
  · split at h
    · cases h
    · rename_i hs
      cases h' : a.spot with
      | none => rfl
      | some _ => simp [h'] at hs
  · cases h
theorem okWide_sliceV {w : World} {P : Program} {r : Reach} {b0 : Nat} {t e : TypeId} {v : Value} (ht : P.underlying t = some (.slice e)) (h : Value.okWide P w r b0 t v) : v.cells = #[v] := by
  simp only [Value.okWide, ht, Cell.okWide] at h
  cases v <;> simp_all [Cell.ok, Value.cells]


theorem gRounds : Tryd.prog.globalNamed "kinesphere/digest.rounds" = some 0 := by kernel_rfl
theorem tRounds : (Tryd.prog.globals[0]?).map (·.type) = some 58 := by kernel_rfl
abbrev laidR : List (String × DataW Unit) := [("kinesphere/digest.rounds", Rows.laid_kinesphere_digest_rounds)]

/-- The numbers, as the datum says them. -/
theorem laid_nums {H : Type} : (Rows.laid_kinesphere_digest_rounds : DataW H) = .agg (Ktab.map fun x => .lit (.int .u32 (U x))) := by
  unfold Rows.laid_kinesphere_digest_rounds Ktab
  simp only [List.map_cons, List.map_nil]
  rfl

theorem kt_of_laid {W : World} (h : laidMetH Tryd.prog laidR W) : KT W ∧ 0 < W.heap.size := by
  rw [MakeChecks.laidMetH_plain _ _ _ (by kernel_rfl)] at h
  obtain ⟨ps, ⟨g0, t0, cs0, f0, p0, q0, hg0, ht0, hv0, hd0, -, -⟩, -, -⟩ := h
  obtain rfl := Option.some.inj (gRounds.symm.trans hg0)
  obtain rfl := Option.some.inj (tRounds.symm.trans ht0)
  have hc : ∀ j, j < 64 → W.cell? ⟨0, j, none⟩ = some (.int .u32 (U (Ktab.getD j 0))) := by
    intro j hj
    obtain ⟨xs, m1, -, hx1, hlen, hn3, hel⟩ := DataW.trod_array Tryd.underlying58 hd0
    have c3 : Tryd.prog.cellsOf 41 = 1 := by kernel_rfl
    have h0 := hel j hj
    rw [laid_nums] at hx1
    simp only [Prod.mk.injEq, DataW.agg.injEq] at hx1
    obtain ⟨x, hx⟩ : ∃ x, xs[j]? = some x := ⟨_, List.getElem?_eq_getElem (by omega)⟩
    rw [hx, c3] at h0
    obtain ⟨k, e1, e2, -⟩ := DataW.trod_int Tryd.underlying41 h0
    have hk : k = U (Ktab.getD j 0) := by
      have h1 : (Ktab.map fun x => (DataW.lit (.int .u32 (U x)) : DataW Unit))[j]? = (xs.map (·.1))[j]? := by rw [hx1.1]
      have hl : j < Ktab.length := hj
      rw [List.getElem?_map, List.getElem?_map, hx, List.getElem?_eq_getElem hl, e2] at h1
      simp only [Option.map_some, Option.some.injEq, DataW.lit.injEq, Lit.int.injEq, true_and] at h1
      rw [← h1, List.getD_eq_getElem?_getD, List.getElem?_eq_getElem hl]
      rfl
    have hcell := World.var?_cell hg0 hv0 j
    have hget : cs0.toList[j]? = some (.int .u32 k) := by
      have h2 := congrArg (fun l => l[0]?) e1
      simpa using h2
    rw [Array.getElem?_toList] at hget
    rw [hcell, hget, hk]
  exact ⟨hc, World.block_lt_of_cell? W ⟨0, 0, none⟩ (hc 0 (by omega))⟩
set_option maxRecDepth 100000 in
/-- Cells that read as a slice of bytes. -/
theorem raw_bytes {H : Type} {enc : TypeId × Value → H} {sp : Nat → Bool} {W : World} {n : Nat} {cs : List Value} {x : DataW H × List MemPlace}
    (h : DataW.trod enc Tryd.prog W 0 sp true n 22 cs = some x) : ∃ (A : Option Addr) (bs : List UInt8) (cap : Nat), cs = [.slice A bs.length cap] ∧ bs.length ≤ cap ∧ cap ≤ 9223372036854775807 ∧ (A = none → bs = []) ∧ RBs W W.heap.size A bs := by
  rcases open_ints Tryd.underlying22 Tryd.underlying5 (by kernel_rfl) h with ⟨e, -⟩ | ⟨a, len, cap, zs, e, -, hlc, hcm, hz, -, hcell, hwf⟩
  · exact ⟨none, [], 0, e, Nat.le_refl _, by omega, fun _ => rfl, fun h => absurd h (Nat.lt_irrefl 0)⟩
  · have hzl : len ≤ zs.length := by rw [hz]; split <;> omega
    have hbl : ((zs.take len).map fun z => UInt8.ofNat z.toNat).length = len := by simp; omega
    refine ⟨some a, (zs.take len).map fun z => UInt8.ofNat z.toNat, cap, by rw [hbl]; exact e, by rw [hbl]; exact hlc, by unfold maxLen at hcm; omega, (fun h => by cases h), fun hp => ?_⟩
    rw [hbl] at hp
    have h0 := hcell 0 (by omega)
    obtain ⟨b, o, s⟩ := a
    have hs : s = none := addr_none (a := ⟨b, o, s⟩) (by simpa [Addr.add] using h0)
    subst hs
    rw [add_none] at h0
    refine ⟨b, o, rfl, World.block_lt_of_cell? W ⟨b, o + 0, none⟩ h0, fun j hj => ?_⟩
    rw [hbl] at hj
    have h1 := hcell j (by omega)
    rw [add_none] at h1
    have hw := bounds_u8 (hwf (zs[j]'(by omega)) (List.getElem_mem _))
    rw [h1]
    have hg : zs.getD j 0 = zs[j]'(by omega) := by simp [List.getD, List.getElem?_eq_getElem (by omega : j < zs.length)]
    rw [hg]
    simp only [List.getElem_map, List.getElem_take, Option.some.injEq, Value.int.injEq, true_and]
    rw [UInt8.toNat_ofNat']
    omega
theorem I64.lf {n : Int} (h : (Lit.int .i64 n).wf = true) : I64 n := by
  have h := bounds_i64 h
  unfold I64
  omega
set_option maxRecDepth 100000 in
theorem openBy {H : Type} {enc : TypeId × Value → H} {sp : Nat → Bool} {r : Reach} {b0 : Nat} {W : World} {v : Value} {x : DataW H} {p : List MemPlace} (hv : Value.okWide Tryd.prog W r b0 22 v)
    (h : DataW.Trod enc Tryd.prog W 0 sp true 22 v x p) : ∃ (A : Option Addr) (bs : List UInt8) (cap : Nat), v = .slice A bs.length cap ∧ bs.length ≤ cap ∧ cap ≤ 9223372036854775807 ∧ (A = none → bs = []) ∧ RBs W W.heap.size A bs := by
  have hc := okWide_sliceV Tryd.underlying22 hv
  obtain ⟨n, hn⟩ := h
  obtain ⟨A, bs, cap, e, h1, h2, h3, h4⟩ := raw_bytes hn
  rw [hc] at e
  simp only [List.cons.injEq, and_true] at e
  exact ⟨A, bs, cap, e, h1, h2, h3, h4⟩
end Go.Proofs.YtalphobaohffnaaDoor
