/- Points in a row of the call's own; FieldThrough. (Written by genfo.py.) -/
import Derived.Test.YtfblkkdoijfpfaaFk
import Derived.Test.YtfblkkdoijfpfaaFl
import Derived.Test.YtfblkkdoijfpfaaFn
import Derived.Test.YtfblkkdoijfpfaaFs
import Derived.Lib.AppendZeros
namespace Go.Proofs.Ytfblkkdoijfpfaa
open Go.RowKit

def ptCells : List (Int × Int) → List Value
  | [] => []
  | p :: r => .int .i64 p.1 :: .int .i64 p.2 :: ptCells r
theorem ptCells_app (a b : List (Int × Int)) : ptCells (a ++ b) = ptCells a ++ ptCells b := by
  induction a with
  | nil => rfl
  | cons p r ih => simp only [List.cons_append, ptCells, ih]
theorem ptCells_length (l : List (Int × Int)) : (ptCells l).length = l.length * 2 := by
  induction l with
  | nil => rfl
  | cons p r ih => simp only [ptCells, List.length_cons, ih]; omega
theorem ptCells_get : ∀ (l : List (Int × Int)) (k : Nat) (h : k < l.length), (ptCells l)[k * 2]? = some (.int .i64 l[k].1) ∧ (ptCells l)[k * 2 + 1]? = some (.int .i64 l[k].2)
  | p :: r, 0, _ => ⟨rfl, rfl⟩
  | p :: r, k + 1, h => by
    have := ptCells_get r k (by simpa using h)
    rw [show (k + 1) * 2 = k * 2 + 1 + 1 by omega]
    simpa [ptCells] using this
theorem ptCells_one (l : List (Int × Int)) : ∀ u ∈ ptCells l, u.oneCell' = true := by
  induction l with
  | nil => intro u h; simp [ptCells] at h
  | cons p r ih =>
    intro u h
    simp only [ptCells, List.mem_cons] at h
    rcases h with rfl | rfl | h
    · rfl
    · rfl
    · exact ih u h
/-- Points that are read, as the second argument of append. -/
theorem PR.cells {w : World} {S : Nat → Prop} {b off : Nat} {l : List (Int × Int)} (h : PR w S (some ⟨b, off, none⟩) l) : ∀ j u, (ptCells l)[j]? = some u → w.cell? ((⟨b, off, none⟩ : Addr).add j) = some u := by
  intro j u hu
  have hj : j < l.length * 2 := by
    have := (List.getElem?_eq_some_iff.1 hu).1
    rwa [ptCells_length] at this
  rw [show (⟨b, off, none⟩ : Addr).add j = ⟨b, off + j, none⟩ by unfold Addr.add; split <;> simp_all]
  obtain ⟨b', off', e, -, hc⟩ := h (by omega)
  injection e with e
  injection e with e1 e2
  subst e1 e2
  have hk := hc (j / 2) (by omega)
  have hg := ptCells_get l (j / 2) (by omega)
  rcases Nat.mod_two_eq_zero_or_one j with e | e
  · rw [show j / 2 * 2 = j by omega] at hk hg
    exact hk.1.trans (hg.1.symm.trans hu)
  · rw [show j / 2 * 2 + 1 = j by omega] at hg
    rw [show off + j / 2 * 2 + 1 = off + j by omega] at hk
    exact hk.2.1.trans (hg.2.symm.trans hu)
/-- A row of points of the call's own. -/
structure OPt (w0 : World) (v : Value) (l : List (Int × Int)) (w : World) : Prop where
  row : w.ownsRow w0.heap.size 35 2 v l.length (ptCells l)
  small : ∀ p ∈ l, I64 p.1 ∧ I64 p.2
  bel : Below w0.heap.size w0 w
theorem OPt.step {w0 w w' : World} {v : Value} {l : List (Int × Int)} (h : OPt w0 v l w) (hb : Below w.heap.size w w') : OPt w0 v l w' := ⟨ownsRow_below h.row hb, h.small, h.bel.trans (hb.mono h.bel.size)⟩
theorem OPt.nil (w : World) : OPt w (.slice none 0 0) [] w := ⟨World.ownsRow_nil _ _ _ _, fun p h => by simp at h, Below.refl _ _⟩
theorem OPt.reads {w0 w : World} {v : Value} {l : List (Int × Int)} (h : OPt w0 v l w) : ∃ A c, v = .slice A l.length c ∧ l.length ≤ c ∧ PR w (· < w.heap.size) A l := by
  rcases h.row.2 with ⟨rfl, h0⟩ | ⟨g, cap, cur, rfl, hb, hg, hnc, hcm, hcs, htk⟩
  · exact ⟨none, 0, by rw [h0], by omega, fun hp => by omega⟩
  · refine ⟨_, cap, rfl, hnc, fun _ => ⟨g, 0, rfl, (Array.getElem?_eq_some_iff.1 hg).1, fun k hk => ?_⟩⟩
    have hc := ptCells_get l k hk
    have hadd : ∀ j, (⟨g, 0, none⟩ : Addr).add j = ⟨g, 0 + j, none⟩ := fun j => by unfold Addr.add; split <;> simp_all
    have h1 := h.row.cells (g := g) rfl _ _ hc.1
    have h2 := h.row.cells (g := g) rfl _ _ hc.2
    rw [hadd] at h1 h2
    exact ⟨h1, by rw [Nat.add_assoc]; exact h2, h.small _ (List.getElem_mem hk)⟩
theorem Try.iPt : ∃ (ti : TypeInfo), Try.prog.info? 35 = some ti ∧ ti.zero = some (.agg #[.int .i64 0, .int .i64 0]) ∧ ti.size = 2 ∧ ti.bytes = 16 := by
  have hinfo : (Try.prog.info? 35).map (fun i => (i.zero, i.size, i.bytes)) = some (some (.agg #[.int .i64 0, .int .i64 0]), 2, 16) := by kernel_rfl
  obtain ⟨ti, hi, hzz⟩ := Option.map_eq_some_iff.1 hinfo
  simp only [Prod.mk.injEq] at hzz
  exact ⟨ti, hi, hzz.1, hzz.2.1, hzz.2.2⟩
/-- Points that are read are appended. -/
theorem OPt.app {w0 w : World} {v : Value} {l m : List (Int × Int)} (h : OPt w0 v l w) (ty : TypeId) {S : Nat → Prop} {A : Option Addr} {c : Nat} (hp : PR w S A m) (hm : l.length + m.length ≤ 1000000000) (hmw : w0.heap.size ≤ w.heap.size) :
    ∃ v' w', (Builtin.append_ #[31, 31] ty #[v, .slice A m.length c]).run Try.prog w = .ok v' w' ∧ OPt w0 v' (l ++ m) w' := by
  obtain ⟨ti, hi, hz, hsz, hby⟩ := Try.iPt
  have hs : Src Try.prog 2 31 (.slice A m.length c) m.length (ptCells m) w := Src.ofRow Try.underlying31 w A m.length c (ptCells m) (ptCells_length m) (by omega) (fun h0 => by
    rw [ptCells_length] at h0
    obtain ⟨b, off, rfl, -, -⟩ := hp (by omega)
    exact ⟨_, rfl, PR.cells hp⟩) (ptCells_one m)
  have hsm : ∀ p ∈ m, I64 p.1 ∧ I64 p.2 := fun p hp' => by
    obtain ⟨k, hk, rfl⟩ := List.mem_iff_getElem.1 hp'
    obtain ⟨-, -, -, -, -, -, h1, h2⟩ := hp.at_ hk
    exact ⟨h1, h2⟩
  obtain ⟨v', w', hr, ho, hsp⟩ := run_append_spare (P := Try.prog) w w0.heap.size 31 31 ty 35 ti _ Try.underlying31 hi hz 2 16 hsz hby (by omega) rfl v l.length (ptCells l) h.row (.slice A m.length c) m.length (ptCells m) hs hm hmw
  refine ⟨v', w', hr, ⟨by rw [List.length_append, ptCells_app]; exact ho, fun p hp' => ?_, h.bel.trans hsp.below⟩⟩
  rcases List.mem_append.1 hp' with h1 | h1
  · exact h.small p h1
  · exact hsm p h1
/-- One point in a block of its own. -/
theorem PR.one {w : World} {g : Nat} {x y : Int} (h : w.heap[g]? = some (.cells #[.int .i64 x, .int .i64 y] 35 (0, 0))) (hx : I64 x) (hy : I64 y) : PR w (fun _ => True) (some ⟨g, 0, none⟩) [(x, y)] := fun _ => by
  refine ⟨g, 0, rfl, trivial, fun k hk => ?_⟩
  obtain rfl : k = 0 := by simpa using hk
  exact ⟨cellAt (i := 0) h rfl, cellAt (i := 1) h rfl, hx, hy⟩
theorem At_eq2 {l : List (Int × Int)} {t x y : Int} (h : atV l t = x ∧ atE l = y) (hm : l.length ≤ 9223372036854775807) (ht : I64 t) (w : World) (A : Option Addr) (c : Nat) (hR : PR w (· < w.heap.size) A l) :
    Calls Try.prog 18 #[.slice A l.length c, .int .i64 t] w fun e w' => e = .returned (.tuple #[.int .i64 x, .int .i64 y]) ∧ Below w.heap.size w w' := At_eq rfl h hm ht w A c hR
def polyL (poly : List Int) (l : List (Int × Int)) : List (Int × Int) := l.map fun p => (p.1, vlF poly p.1)
theorem polyL_fst (poly : List Int) (l : List (Int × Int)) : (polyL poly l).map Prod.fst = l.map Prod.fst := by
  unfold polyL
  rw [List.map_map]
  rfl
theorem polyL_take (poly : List Int) (l : List (Int × Int)) (k : Nat) (h : k < l.length) : polyL poly (l.take (k + 1)) = polyL poly (l.take k) ++ [(l[k].1, vlF poly l[k].1)] := by
  unfold polyL
  rw [List.take_succ_eq_append_getElem h, List.map_append]
  rfl
theorem polyL_at (poly : List Int) (l : List (Int × Int)) (hd : Diff (l.map Prod.fst)) (h64 : l.length ≤ 64) (hp : poly.length ≤ l.length) (t : Int) : atV (polyL poly l) t = vlF poly t ∧ atE (polyL poly l) = 0 := by
  have hl : (polyL poly l).length = l.length := by unfold polyL; simp
  have hd2 : Diff ((polyL poly l).map Prod.fst) := by rw [polyL_fst]; exact hd
  obtain ⟨h1, h2⟩ := atV_good (l := polyL poly l) (by omega) hd2 t
  refine ⟨?_, h1⟩
  rw [h2]
  exact at_unique _ hd2 (vl poly) ((vl_PF poly).mono (by omega)) (fun p hp' => by
    unfold polyL at hp'
    obtain ⟨q, -, rfl⟩ := List.mem_map.1 hp'
    exact (md_cg _).symm) t

set_option maxRecDepth 100000 in
set_option maxHeartbeats 4000000 in
theorem through_any (l : List (Int × Int)) (poly : List Int) (t : Int) (hl : l.length ≤ 9223372036854775807) (hpl : poly.length ≤ 9223372036854775807) (ht : I64 t) (w : World) (A : Option Addr) (c : Nat) (hR : PR w (· < w.heap.size) A l) (Ap : Option Addr) (cp : Nat) (hI : IR w (· < w.heap.size) Ap poly) :
    Calls Try.prog 5 #[.slice A l.length c, .slice Ap poly.length cp, .int .i64 t] w fun e w' => e = .returned (.bool true) ∧ Below w.heap.size w w' := by
  go_enter Try.func5, Try.ntmps5
  have hRh := Lib.hid hR
  have hIh := Lib.hid hI
  have hth := Lib.hid ht
  clear hR hI ht
  go_wp2_with fail
  refine (sane_any _).mono ?_
  rintro e w1 ⟨rfl, hb1⟩
  have hB := Lib.hid hb1
  clear hb1
  by_cases h64 : 64 < l.length
  · have hbig : (64 : Int) < l.length := by omega
    go_wp2_with fail
    go_ret
    exact ⟨rfl, hB.out⟩
  have hsm : ¬ (64 : Int) < l.length := by omega
  have hDf := Lib.hid (Different_any l (by omega) w1 A c (hRh.out.step hB.out))
  cases hdb : diffB (l.map Prod.fst) with
  | false =>
    rw [hdb] at hDf
    clear hdb
    go_wp2_with fail
    refine hDf.out.mono ?_
    rintro e w2 ⟨rfl, hb2⟩
    replace hB := Lib.hid (hB.out.trans (hb2.mono hB.out.size))
    clear hb2
    go_wp2_with fail
    go_ret
    exact ⟨rfl, hB.out⟩
  | true =>
    rw [hdb] at hDf
    have hd := Lib.hid ((diffB_iff _).1 hdb)
    clear hdb
    by_cases hpn : l.length < poly.length
    · have hpb : (l.length : Int) < poly.length := by omega
      go_wp2_with fail
      refine hDf.out.mono ?_
      rintro e w2 ⟨rfl, hb2⟩
      replace hB := Lib.hid (hB.out.trans (hb2.mono hB.out.size))
      clear hb2
      go_wp2_with fail
      go_ret
      exact ⟨rfl, hB.out⟩
    have hpb : ¬ (l.length : Int) < poly.length := by omega
    go_wp2_with fail
    refine hDf.out.mono ?_
    rintro e w2 ⟨rfl, hb2⟩
    replace hB := Lib.hid (hB.out.trans (hb2.mono hB.out.size))
    clear hb2 hDf
    go_wp2_with fail
    go_loopw [7, 33] (fun v n wr => ∃ j : Nat, j ≤ l.length ∧ n = .int .i64 (j : Int) ∧ Hid (OPt w2 v (polyL poly (l.take j)) wr)) (fun _ n _ => l.length - (intOf n).toNat)
    case atStart => exact ⟨0, Nat.zero_le _, rfl, Lib.hid (OPt.nil w2)⟩
    case round =>
      obtain ⟨j, hj, rfl, hO⟩ := hrel
      by_cases hlt : j < l.length
      · have hbw := hB.out.trans (hO.out.bel.mono hB.out.size)
        have hRr := (hRh.out.step hbw)
        obtain ⟨b, off, hA, hs, hc0, hc1, hI1, hI2⟩ := hRr.at_ hlt
        have hat := Lib.hid (show atV l l[j].1 = md l[j].2 ∧ atE l = 0 from by
          obtain ⟨h1, h2⟩ := atV_good (l := l) (by omega) hd.out l[j].1
          exact ⟨h2.trans (at_own l hd.out j hlt), h1⟩)
        have htk := Lib.hid (polyL_take poly l j hlt)
        have hxV := World.alloc_heap_new wr (.cells #[.int .i64 l[j].1, .int .i64 l[j].2] 35)
        have hbV := bel1 wr (.cells #[.int .i64 l[j].1, .int .i64 l[j].2] 35)
        subst hA
        generalize l[j].1 = x at *
        generalize l[j].2 = y at *
        obtain ⟨V, hV⟩ : ∃ V, wr.alloc (.cells #[.int .i64 x, .int .i64 y] 35) = V := ⟨_, rfl⟩
        rw [hV] at hxV hbV
        have hAt := Lib.hid (At_eq2 hat.out hl hI1 V (some ⟨b, off, none⟩) c (hRr.step hbV))
        replace hO := Lib.hid (hO.out.step hbV)
        have hbV' := Lib.hid (hbw.trans (hbV.mono hbw.size))
        have j0 : (0 : Int) ≤ j := by omega
        have j1 : (j : Int) < l.length := by omega
        have y0 := cellAt (i := 0) hxV rfl
        have y1 := cellAt (i := 1) hxV rfl
        have hVs : V.heap.size = wr.heap.size + 1 := by rw [← hV]; simp
        replace hVs := Lib.hid hVs
        have hxVh := Lib.hid hxV
        replace hV := Lib.hid hV
        clear hbw hRr hbV hxV hat hs
        go_upto_region 9 with fail
        rw [hV.out]
        go_wp2_with fail
        refine hAt.out.mono ?_
        rintro e w3 ⟨rfl, hb3⟩
        have hxW := blk_at hxVh.out hb3
        have z0 := cellAt (i := 0) hxW rfl
        have z1 := cellAt (i := 1) hxW rfl
        replace hO := Lib.hid (hO.out.step hb3)
        replace hbV' := Lib.hid (hbV'.out.trans (hb3.mono hbV'.out.size))
        replace hxW := Lib.hid hxW
        clear y0 y1 hb3 hAt hxVh
        go_upto_region 12 with (refine (Mod_any y _).mono ?_; rintro e w4 ⟨rfl, rfl⟩)
        have hX : Hid (∀ W, Below w4.heap.size w4 W → W.cell? ⟨wr.heap.size, 0, none⟩ = some (.int .i64 x)) := fun W hW => cellAt (i := 0) (blk_at hxW.out hW) rfl
        have hval : Hid (∀ W, Below w4.heap.size w4 W → Calls Try.prog 19 #[.slice Ap poly.length cp, .int .i64 x] W fun e w' => e = .returned (.int .i64 (vlF poly x)) ∧ Below W.heap.size W w') := fun W hW => Value_any poly x hpl W Ap cp (hIh.out.step (hbV'.out.trans (hW.mono hbV'.out.size)))
        clear z0 z1
        refine wp_region_pre 9 2 (fun W => Below w4.heap.size w4 W) (fun W W' => Below W.heap.size W W')
          (fun i v W => match i with
            | 0 => v = u7
            | 1 => v = .pointer (some ⟨wr.heap.size, 0, none⟩)
            | 2 => v = .int .i64 x
            | 3 => v = .slice Ap poly.length cp
            | 4 => v = .pointer (some ⟨wr.heap.size, 0, none⟩)
            | 5 => v = .int .i64 x
            | 6 => v = .int .i64 (vlF poly x)
            | 7 => v = .agg #[.int .i64 x, .int .i64 (vlF poly x)]
            | 8 => ∃ g, v = .slice (some ⟨g, 0, none⟩) 1 1 ∧ W.heap[g]? = some (.cells #[.int .i64 x, .int .i64 (vlF poly x)] 35 (0, 0))
            | _ => True) (fun _ => false)
          (by kernel_rfl) (by kernel_rfl) (by kernel_rfl) (by kernel_rfl) (by kernel_rfl) (by kernel_rfl) (by kernel_rfl) ?_ (fun _ _ h => h.size) (dN (Below.refl _ _) 1) ?_ ?_
        · intro i v W W' hb hF
          match i, hF with
          | 0, h => exact h
          | 1, h => exact h
          | 2, h => exact h
          | 3, h => exact h
          | 4, h => exact h
          | 5, h => exact h
          | 6, h => exact h
          | 7, h => exact h
          | 8, ⟨g, h1, h2⟩ => exact ⟨g, h1, blk_at h2 hb⟩
          | _ + 9, _ => trivial
        · refine ⟨?_, ?_, ?_, ?_, ?_, ?_, ?_, ?_, ?_, trivial⟩
          · refine stepJ_any rfl fun ac W hAA hG hDD K hK => ?_
            have h7 := hAA.getD (t := 7) (by kernel_rfl)
            simp only [Array.getD_eq_getD_getElem?] at h7
            rw [if_pos (by rfl)]
            exact wp_val (v := u7) (w' := W) (by simp [execOp, Act.eval, h7, go_sem]) (hK _ _ hG (Below.refl _ _) rfl (fun h => by cases h))
          · refine stepJ_any rfl fun ac W hAA hG hDD K hK => ?_
            have h9 := hAA.getD (t := 9) (by kernel_rfl)
            simp only [Array.getD_eq_getD_getElem?] at h9
            rw [if_pos (by rfl)]
            exact wp_val (v := .pointer (some ⟨wr.heap.size, 0, none⟩)) (w' := W) (by simp [execOp, Act.eval, h9, go_sem]) (hK _ _ hG (Below.refl _ _) rfl (fun h => by cases h))
          · refine stepJ_any rfl fun ac W hAA hG hDD K hK => ?_
            have h54 := hDD.get 1 54 _ rfl rfl (by kernel_rfl)
            simp only [Array.getD_eq_getD_getElem?] at h54
            have k0 := hX.out W hG
            rw [if_pos (by rfl)]
            exact wp_val (v := .int .i64 x) (w' := W) (by simp [execOp, Act.eval, h54, go_sem, k0]) (hK _ _ hG (Below.refl _ _) rfl (fun h => by cases h))
          · refine stepJ_any rfl fun ac W hAA hG hDD K hK => ?_
            have h1 := hAA.getD (t := 1) (by kernel_rfl)
            simp only [Array.getD_eq_getD_getElem?] at h1
            rw [if_pos (by rfl)]
            exact wp_val (v := .slice Ap poly.length cp) (w' := W) (by simp [execOp, Act.eval, h1, go_sem]) (hK _ _ hG (Below.refl _ _) rfl (fun h => by cases h))
          · refine stepJ_any rfl fun ac W hAA hG hDD K hK => ?_
            have h9 := hAA.getD (t := 9) (by kernel_rfl)
            simp only [Array.getD_eq_getD_getElem?] at h9
            rw [if_pos (by rfl)]
            exact wp_val (v := .pointer (some ⟨wr.heap.size, 0, none⟩)) (w' := W) (by simp [execOp, Act.eval, h9, go_sem]) (hK _ _ hG (Below.refl _ _) rfl (fun h => by cases h))
          · refine stepJ_any rfl fun ac W hAA hG hDD K hK => ?_
            have h57 := hDD.get 4 57 _ rfl rfl (by kernel_rfl)
            simp only [Array.getD_eq_getD_getElem?] at h57
            have k0 := hX.out W hG
            rw [if_pos (by rfl)]
            exact wp_val (v := .int .i64 x) (w' := W) (by simp [execOp, Act.eval, h57, go_sem, k0]) (hK _ _ hG (Below.refl _ _) rfl (fun h => by cases h))
          · refine stepJ_any rfl fun ac W hAA hG hDD K hK => ?_
            have h56 := hDD.get 3 56 _ rfl rfl (by kernel_rfl)
            have h58 := hDD.get 5 58 _ rfl rfl (by kernel_rfl)
            simp only [Array.getD_eq_getD_getElem?] at h56 h58
            rw [if_pos (by rfl)]
            refine wp_call (f := 19) (args := #[.slice Ap poly.length cp, .int .i64 x]) (by simp [execOp, Act.eval, h56, h58, go_sem]) ((hval.out W hG).mono fun e W9 he => ?_)
            obtain ⟨rfl, hbw⟩ := he
            exact hK _ _ (hG.trans (hbw.mono hG.size)) hbw rfl (fun h => by cases h)
          · refine stepJ_any rfl fun ac W hAA hG hDD K hK => ?_
            have h55 := hDD.get 2 55 _ rfl rfl (by kernel_rfl)
            have h59 := hDD.get 6 59 _ rfl rfl (by kernel_rfl)
            simp only [Array.getD_eq_getD_getElem?] at h55 h59
            rw [if_pos (by rfl)]
            exact wp_val (v := .agg #[.int .i64 x, .int .i64 (vlF poly x)]) (w' := W) (by simp [execOp, Act.eval, h55, h59, go_sem]) (hK _ _ hG (Below.refl _ _) rfl (fun h => by cases h))
          · refine stepJ_any rfl fun ac W hAA hG hDD K hK => ?_
            have h60 := hDD.get 7 60 _ rfl rfl (by kernel_rfl)
            rw [if_pos (by rfl)]
            simp only [Array.getD_eq_getD_getElem?] at h60
            exact wp_val (v := .slice (some ⟨W.heap.size, 0, none⟩) 1 1) (w' := W.alloc (.cells #[.int .i64 x, .int .i64 (vlF poly x)] 35)) (by simp [execOp, Act.eval, h60, go_sem]) (hK _ _ (hG.alloc hG.size _) (bel1 W _) ⟨_, rfl, heap_alloc_new W _⟩ (fun h => by cases h))
        intro fu T w9 hG hF hne hltb
        have e53 : T 53 = u7 := hF 0 _ rfl (by omega)
        have e54 : T 54 = .pointer (some ⟨wr.heap.size, 0, none⟩) := hF 1 _ rfl (by omega)
        have e55 : T 55 = .int .i64 x := hF 2 _ rfl (by omega)
        have e56 : T 56 = .slice Ap poly.length cp := hF 3 _ rfl (by omega)
        have e57 : T 57 = .pointer (some ⟨wr.heap.size, 0, none⟩) := hF 4 _ rfl (by omega)
        have e58 : T 58 = .int .i64 x := hF 5 _ rfl (by omega)
        have e59 : T 59 = .int .i64 (vlF poly x) := hF 6 _ rfl (by omega)
        have e60 : T 60 = .agg #[.int .i64 x, .int .i64 (vlF poly x)] := hF 7 _ rfl (by omega)
        obtain ⟨g8, e61, hg8⟩ := hF 8 _ rfl (by omega)
        replace e61 : T 61 = _ := e61
        clear hF hne hltb
        simp only [List.take, fillT, List.setIfInBounds_toArray, List.set_cons_zero, List.set_cons_succ, e53, e54, e55, e56, e57, e58, e59, e60, e61]
        clear e53 e54 e55 e56 e57 e58 e59 e60 e61
        have hO9 := hO.out.step hG
        have hln : (polyL poly (l.take j)).length = j := by unfold polyL; rw [List.length_map, List.length_take]; omega
        obtain ⟨v10, w10, hr10, hO10⟩ := hO9.app 31 (c := 1) (PR.one hg8 hI1 (I64.md _)) (by rw [hln]; show j + 1 ≤ _; omega) (Nat.le_trans hO.out.bel.size hG.size)
        rw [← htk.out] at hO10
        refine wpAny_ready (rs := [9]) (by kernel_rfl) (by simp) (AllReady.cons (o := ⟨(some 62), (Op.call { callee := (Callee.builtin Builtin.append), args := #[(Operand.tmp 53), (Operand.tmp 61)], argTypes := #[31, 31] }), _, _, _, none⟩) rfl (fun K1 hK1 => ?_) AllReady.nil)
        rw [if_pos (by rfl)]
        refine Lib.wp_append_run w9 (.tmp 53) (.tmp 61) 31 31 rfl _ _ rfl rfl _ w10 hr10 ?_
        refine hK1 _ _ ?_
        clear hK1 K1
        refine wpAny_ready (rs := [10]) (by kernel_rfl) (by simp) (AllReady.cons (o := ⟨(some 7), (Op.assign (Operand.tmp 62)), _, _, _, none⟩) rfl (fun K1 hK1 => ?_) AllReady.nil)
        rw [if_pos (by rfl)]
        refine wp_val (v := v10) (w' := w10) (by simp [execOp, Act.eval, go_sem, Act.put]) ?_
        refine hK1 _ _ ?_
        clear hK1 K1
        refine wpAny_done (by kernel_rfl) ?_ _
        simp only [Act.put, List.setIfInBounds_toArray, List.set_cons_zero, List.set_cons_succ]
        replace hO10 := Lib.hid hO10
        clear hr10 hO9 hO hG hg8 hX hval hln
        go_wp2_with fail
        go_roundw
        case rel => exact ⟨j + 1, by omega, by go_num, hO10⟩
        case measure => simp [intOf]; omega
      · have hle : ¬ ((j : Int) < l.length) := by omega
        have hjl : j = l.length := by omega
        rw [hjl, List.take_of_length_le (Nat.le_refl _)] at hO
        rw [hjl] at hle ⊢
        clear hlt hjl
        have hat := Lib.hid (polyL_at poly l hd.out (by omega) (by omega) t)
        obtain ⟨Ao, co, ho, -, hPo⟩ := hO.out.reads
        have hAt := Lib.hid (At_eq2 hat.out (by unfold polyL; rw [List.length_map]; exact hl) hth.out wr Ao co hPo)
        have hbw := Lib.hid (hB.out.trans (hO.out.bel.mono hB.out.size))
        subst ho
        clear hPo hat
        go_wp2_with fail
        refine hAt.out.mono ?_
        rintro e w3 ⟨rfl, hb3⟩
        replace hbw := Lib.hid (hbw.out.trans (hb3.mono hbw.out.size))
        clear hb3
        go_wp2_with fail
        refine (in_eq (inB_md _) _).mono ?_
        rintro e w4 ⟨rfl, rfl⟩
        have hV := Lib.hid (Value_any poly t hpl w4 Ap cp (hIh.out.step hbw.out))
        go_wp2_with fail
        refine hV.out.mono ?_
        rintro e w5 ⟨rfl, hb3⟩
        replace hbw := Lib.hid (hbw.out.trans (hb3.mono hbw.out.size))
        clear hb3
        go_wp2_with fail
        go_ret
        exact ⟨rfl, hbw.out⟩
end Go.Proofs.Ytfblkkdoijfpfaa
