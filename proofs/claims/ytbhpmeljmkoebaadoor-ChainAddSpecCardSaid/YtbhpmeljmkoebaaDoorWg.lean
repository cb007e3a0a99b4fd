/- The reference's Add. -/
import Derived.Test.YtbhpmeljmkoebaaDoorWf
import Derived.Test.YtbhpmeljmkoebaaDoorVk
namespace Go.Proofs.YtbhpmeljmkoebaaDoor
open Go.RowKit

theorem wpList_val {ops : Array Oper} {rest : List Oper} {o : Oper} {a : Act} {w w' : World} {Q : Exit → Act → World → Prop} {P : Program} {v : Value} (hw : Region.wanted o (yielded ops a.tmps) = true) (hr : (execOp a.eval o).run P w = .ok (.value v) w')
    (h : wpList P ops Q rest (a.put o.dst v) w') : wpList P ops Q (o :: rest) a w :=
  wpList_step fun K hK => by
    rw [if_pos hw]
    exact wp_val hr (hK _ _ h)
/-- Cells that say a list of links. -/
def Rows35 (w : World) (B : Nat) (l : List Lk) (rows : List Value) : Prop := rows.length = l.length * 35 ∧ (∀ u ∈ rows, u.oneCell' = true) ∧ ∀ i (hi : i < l.length), ∃ da dc, (∀ j u, (LW l[i] da dc)[j]? = some u → rows[i * 35 + j]? = some u) ∧ Dt w B l[i] da dc
theorem Rows35.lift {w w' : World} {B B' : Nat} {l : List Lk} {rows : List Value} (h : Rows35 w B l rows) (hb : Below B w w') (hB : B ≤ B') : Rows35 w' B' l rows :=
  ⟨h.1, h.2.1, fun i hi => by obtain ⟨da, dc, r, d⟩ := h.2.2 i hi; exact ⟨da, dc, r, d.lift hb hB⟩⟩
theorem Rows35.snoc {w : World} {B : Nat} {l : List Lk} {rows : List Value} (h : Rows35 w B l rows) (y : Lk) (hf : y.Fine) (da : Option Addr) (dc : Nat) (hD : Dt w B y da dc) : Rows35 w B (l ++ [y]) (rows ++ LW y da dc) := by
  refine ⟨by rw [List.length_append, List.length_append, h.1, LW_length hf.prev, List.length_singleton]; omega, fun u hu => ?_, fun i hi => ?_⟩
  · rcases List.mem_append.1 hu with h1 | h1
    · exact h.2.1 u h1
    · exact LW_one _ _ _ u h1
  · by_cases hil : i < l.length
    · obtain ⟨ea, ec, r, d⟩ := h.2.2 i hil
      rw [List.getElem_append_left hil]
      refine ⟨ea, ec, fun j u hu => ?_, d⟩
      have := r j u hu
      rw [List.getElem?_append_left (List.getElem?_eq_some_iff.1 this).1]
      exact this
    · have hil' : i = l.length := by simp at hi; omega
      subst hil'
      have : (l ++ [y])[l.length] = y := by simp
      rw [this]
      refine ⟨da, dc, fun j u hu => ?_, hD⟩
      rw [List.getElem?_append_right (by rw [h.1]; omega), h.1, Nat.add_sub_cancel_left]
      exact hu
/-- The cells of a list that is read. -/
theorem QL.rows {W : World} {l : List Lk} {a : Option Addr} {cap : Nat} (hQ : QL W W.heap.size l a cap) : ∃ rows, Rows35 W W.heap.size l rows ∧ (0 < rows.length → ∃ ad, a = some ad ∧ ∀ j u, rows[j]? = some u → W.cell? (ad.add j) = some u) := by
  rcases Nat.eq_zero_or_pos l.length with h0 | h0
  · obtain rfl : l = [] := List.eq_nil_of_length_eq_zero h0
    exact ⟨[], ⟨rfl, (fun u h => by cases h), fun i hi => absurd hi (by simp)⟩, fun h => absurd h (by simp)⟩
  · obtain ⟨b, off, da0, dc0, rfl, hbB, -⟩ := hQ.at_ h0
    have hcl : (cellsL W b off l.length).length = l.length * 35 := by simp [cellsL]
    have hrow : ∀ i (hi : i < l.length), ∃ da dc, (∀ j u, (LW l[i] da dc)[j]? = some u → (cellsL W b off l.length)[i * 35 + j]? = some u) ∧ Dt W W.heap.size l[i] da dc := fun i hi => by
      obtain ⟨da, dc, r, d⟩ := hQ.cell i hi
      refine ⟨da, dc, fun j u hu => ?_, d⟩
      have hj : j < 35 := by
        have := (List.getElem?_eq_some_iff.1 hu).1
        rwa [LW_length (hQ.fine _ (List.getElem_mem hi)).prev] at this
      have hc := r j u hu
      unfold cellsL
      rw [List.getElem?_map, List.getElem?_range (by omega), Option.map_some, ← Nat.add_assoc, hc]
      rfl
    refine ⟨cellsL W b off l.length, ⟨hcl, fun u hu => ?_, hrow⟩, fun _ => ⟨_, rfl, fun j u hu => by rw [add_none]; exact cellsL_get hQ hu⟩⟩
    obtain ⟨j, hj, rfl⟩ := List.getElem_of_mem hu
    have hj' : j < l.length * 35 := by rwa [hcl] at hj
    obtain ⟨da, dc, r, -⟩ := hrow (j / 35) (by omega)
    have hl : (LW l[j / 35] da dc).length = 35 := LW_length (hQ.fine _ (List.getElem_mem (by omega))).prev
    have := r (j % 35) ((LW l[j / 35] da dc)[j % 35]'(by omega)) (List.getElem?_eq_getElem (by omega))
    rw [show j / 35 * 35 + j % 35 = j by omega, List.getElem?_eq_getElem hj] at this
    injection this with this
    rw [this]
    exact LW_one _ _ _ _ (List.getElem_mem _)
/-- A row of links of the call's own, as it reads. -/
theorem QL.ofRow {W : World} {B : Nat} {v : Value} {l : List Lk} {rows : List Value} (ho : W.ownsRow B 37 35 v l.length rows) (hr : Rows35 W W.heap.size l rows) (hf : ∀ x ∈ l, x.Fine) : GL W v l := by
  rcases ho.2 with ⟨rfl, h0⟩ | ⟨g, cap, cur, rfl, hb, hg, hnc, hcm, hcs, ht⟩
  · obtain rfl : l = [] := List.eq_nil_of_length_eq_zero h0
    exact ⟨none, 0, rfl, QL.nil _ _⟩
  · have hlt : g < W.heap.size := (Array.getElem?_eq_some_iff.1 hg).1
    refine ⟨_, cap, rfl, hnc, by unfold maxLen at hcm; omega, hf, (fun h => by cases h), g, 0, fun _ => ⟨rfl, hlt⟩, fun i hi => ?_⟩
    obtain ⟨da, dc, r, d⟩ := hr.2.2 i hi
    refine ⟨da, dc, fun j u hu => ?_, d⟩
    have := World.ownsRow.cells ho (g := g) rfl (i * 35 + j) u (r j u hu)
    rw [add_none] at this
    rw [show 0 + i * 35 + j = 0 + (i * 35 + j) by omega]
    exact this
theorem ownsL_below {w w' : World} {B n : Nat} {v : Value} {xs : List Value} (h : w.ownsRow B 37 35 v n xs) (hb : Below w.heap.size w w') : w'.ownsRow B 37 35 v n xs :=
  World.ownsRow.kept (row := none) h ⟨hb.os, hb.tape, hb.output, hb.size, fun k hk _ => hb.block k hk⟩ (by cases hv : v.ownBlock <;> simp)
/-- What is appended onto a row of links of the call's own. -/
theorem appL (w : World) (B : Nat) (ty : TypeId) (v : Value) (n : Nat) (xs : List Value) (hown : w.ownsRow B 37 35 v n xs) (A : Option Addr) (m c : Nat) (news : List Value) (hl : news.length = m * 35)
    (hA : 0 < news.length → ∃ ad, A = some ad ∧ ∀ j u, news[j]? = some u → w.cell? (ad.add j) = some u) (h1 : ∀ u ∈ news, u.oneCell' = true) (hlen : n + m ≤ 1000000) (hB : B ≤ w.heap.size) :
    ∃ v' w', (Builtin.append_ #[22, 22] ty #[v, .slice A m c]).run Tryd.prog w = .ok v' w' ∧ w'.ownsRow B 37 35 v' (n + m) (xs ++ news) ∧ Below B w w' := by
  obtain ⟨i0, hi0, hz0, hz1, hz2⟩ := info_parts Tryd.infoL
  obtain ⟨v', w', hr, ho, hg, -⟩ := run_append_src_row (P := Tryd.prog) w B 22 22 ty 37 i0 _ 35 72 Tryd.underlying22 hi0 hz0 hz1 hz2 rfl v n xs hown (.slice A m c) m news (Src.ofRow Tryd.underlying22 w A m c news hl (by decide) hA h1) (by omega) (by omega) hB
  exact ⟨v', w', hr, ho, (Below.refl B w).grown hg hB fun k hk => (World.ownsRow.lt hown k hk).1⟩

set_option maxRecDepth 100000 in
set_option maxHeartbeats 4000000 in
theorem rAdd_any (l : List Lk) (hl : Short l) (hm : l.length ≤ 1000) (node : Int) (hn : I64 node) (d : List UInt8) (w : World) (a A : Option Addr) (cap c : Nat) (hQ : QL w w.heap.size l a cap) (hR : RBs w w.heap.size A d) (hA : A = none → d = []) (hdc : d.length ≤ c) (hcm : c ≤ 9223372036854775807) :
    Calls Tryd.prog 11 #[.slice a l.length cap, .int .i64 node, .slice A d.length c] w fun e w' => (∃ v, e = .returned (.tuple #[v, .int .i64 (addE l node d.length)]) ∧ GL w' v (addL l node d)) ∧ Below w.heap.size w w' := by
  have hCk : Hid (∀ W, Below w.heap.size w W → Calls Tryd.prog 24 #[.slice a l.length cap] W fun e w' => e = .returned (.int .i64 (chkP l)) ∧ Below W.heap.size W w') := fun W hW => rCheck_any l hl (by omega) W a cap (hQ.lift hW hW.size)
  have hHd : Hid (∀ W, Below w.heap.size w W → Calls Tryd.prog 25 #[.slice a l.length cap] W fun e w' => e = .returned (.agg (BV (headP l)).toArray) ∧ Below W.heap.size W w') := fun W hW => rHead_any l hl (by omega) W a cap (hQ.lift hW hW.size)
  have he : Hid (addE l node d.length = if chkP l = 0 then (if addOk l node d.length = true then 0 else 1) else chkP l) := rfl
  have hL : Hid (addL l node d = match addP l node d with | some y => l ++ [y] | none => []) := rfl
  have hp : Hid (addP l node d = if chkP l = 0 ∧ addOk l node d.length = true then some ⟨node, l.length, headP l, d⟩ else none) := rfl
  have hDy : Hid (Dt w w.heap.size ⟨node, l.length, headP l, d⟩ A c) := ⟨hR, hA, hdc, hcm⟩
  generalize addE l node d.length = ev at he ⊢
  generalize addL l node d = lv at hL ⊢
  replace hQ := Lib.hid hQ
  clear hR hA hdc hcm
  have hB0 := Lib.hid (Below.refl w.heap.size w)
  rcases chk_cases l with c1 | c1
  case inr =>
    rw [c1] at hCk
    rw [c1, if_neg (by decide)] at he
    rw [hp.out, if_neg (by rw [c1]; simp)] at hL
    clear c1 hp
    go_enter Tryd.func11, Tryd.ntmps11
    go_wp2_with fail
    refine (hCk.out _ hB0.out).mono ?_
    rintro e w1 ⟨rfl, hb1⟩
    replace hb1 := Lib.hid hb1
    go_wp2_with fail
    go_ret2
    exact ⟨⟨_, by rw [he.out]; rfl, none, 0, by rw [hL.out]; rfl, by rw [hL.out]; exact QL.nil _ _⟩, hb1.out⟩
  rw [c1] at hCk
  rw [c1, if_pos rfl] at he
  rw [c1] at hp
  clear c1
  by_cases hok : addOk l node d.length = true
  case neg =>
    rw [if_neg hok] at he
    rw [hp.out, if_neg (by simp [hok])] at hL
    have hok' : addOk l node d.length = false := by simpa using hok
    unfold addOk isNodeP at hok'
    clear hp hok hDy
    by_cases t0 : node < 0
    · have g0 : decide (node < 0) = true := decide_eq_true t0
      clear hok' t0
      go_enter Tryd.func11, Tryd.ntmps11
      go_wp2_with fail
      refine (hCk.out _ hB0.out).mono ?_
      rintro e w1 ⟨rfl, hb1⟩
      replace hb1 := Lib.hid hb1
      go_wp2_with fail
      go_ret2
      exact ⟨⟨_, by rw [he.out]; rfl, none, 0, by rw [hL.out]; rfl, by rw [hL.out]; exact QL.nil _ _⟩, hb1.out⟩
    have g0 : decide (node < 0) = false := decide_eq_false t0
    by_cases t1 : 24 ≤ node
    · have g1 : decide (24 ≤ node) = true := decide_eq_true t1
      clear hok' t0 t1
      go_enter Tryd.func11, Tryd.ntmps11
      go_wp2_with fail
      refine (hCk.out _ hB0.out).mono ?_
      rintro e w1 ⟨rfl, hb1⟩
      replace hb1 := Lib.hid hb1
      go_wp2_with fail
      go_ret2
      exact ⟨⟨_, by rw [he.out]; rfl, none, 0, by rw [hL.out]; rfl, by rw [hL.out]; exact QL.nil _ _⟩, hb1.out⟩
    have g1 : decide (24 ≤ node) = false := decide_eq_false t1
    rw [decide_eq_true (by omega : 0 ≤ node ∧ node < 24), Bool.true_and] at hok'
    clear t0 t1
    cases l with
    | nil =>
      have g3 : decide ((65536 : Int) < d.length) = true := by
        have : decide (d.length ≤ 65536) = false := by simpa [belongsP] using hok'
        have := of_decide_eq_false this
        exact decide_eq_true (by omega)
      rw [show ([] : List Lk).length = 0 from rfl] at *
      clear hok'
      go_enter Tryd.func11, Tryd.ntmps11
      go_wp2_with fail
      refine (hCk.out _ hB0.out).mono ?_
      rintro e w1 ⟨rfl, hb1⟩
      replace hb1 := Lib.hid hb1
      go_wp2_with fail
      go_ret2
      exact ⟨⟨_, by rw [he.out]; rfl, none, 0, by rw [hL.out]; rfl, by rw [hL.out]; exact QL.nil _ _⟩, hb1.out⟩
    | cons x r =>
      have hc0 : Hid (∀ W, Below w.heap.size w W → ∃ b off, a = some ⟨b, off, none⟩ ∧ W.cell? ⟨b, off, none⟩ = some (.int .i64 x.node)) := fun W hW => by
        obtain ⟨b, off, da, dc, e, -, hr, -⟩ := (hQ.out.lift hW hW.size).at_ (i := 0) (by simp)
        have := (range_parts (hQ.out.fine x (by simp)).prev (x := x) hr).1
        rw [Nat.zero_mul, Nat.add_zero] at this
        exact ⟨b, off, e, this⟩
      have hp0 : (0 : Int) < (x :: r).length := by rw [List.length_cons]; omega
      have hpn : 0 < (x :: r).length := by rw [List.length_cons]; omega
      rw [show belongsP (x :: r) node = (x.node == node) from rfl] at hok'
      generalize (x :: r).length = N at *
      rcases Bool.eq_false_or_eq_true (x.node == node) with t2 | t2
      case inr =>
        have g2 : (x.node != node) = true := by rw [bne, t2]; rfl
        clear hok'
        go_enter Tryd.func11, Tryd.ntmps11
        go_wp2_with fail
        refine (hCk.out _ hB0.out).mono ?_
        rintro e w1 ⟨rfl, hb1⟩
        replace hb1 := Lib.hid hb1
        obtain ⟨b, off, ha, hc⟩ := hc0.out w1 hb1.out
        subst ha
        go_wp2_with fail
        go_ret2
        exact ⟨⟨_, by rw [he.out]; rfl, none, 0, by rw [hL.out]; rfl, by rw [hL.out]; exact QL.nil _ _⟩, hb1.out⟩
      have g2 : (x.node != node) = false := by rw [bne, t2]; rfl
      have g3 : decide ((65536 : Int) < d.length) = true := by
        rw [t2, Bool.true_and] at hok'
        have := of_decide_eq_false hok'
        exact decide_eq_true (by omega)
      clear hok' t2
      go_enter Tryd.func11, Tryd.ntmps11
      go_wp2_with fail
      refine (hCk.out _ hB0.out).mono ?_
      rintro e w1 ⟨rfl, hb1⟩
      replace hb1 := Lib.hid hb1
      obtain ⟨b, off, ha, hc⟩ := hc0.out w1 hb1.out
      subst ha
      go_wp2_with fail
      go_ret2
      exact ⟨⟨_, by rw [he.out]; rfl, none, 0, by rw [hL.out]; rfl, by rw [hL.out]; exact QL.nil _ _⟩, hb1.out⟩
  case pos =>
    rw [if_pos hok] at he
    rw [hp.out, if_pos ⟨rfl, hok⟩] at hL
    replace hL : Hid (lv = l ++ [⟨node, l.length, headP l, d⟩]) := hL
    clear hp
    unfold addOk isNodeP at hok
    simp only [Bool.and_eq_true, decide_eq_true_eq] at hok
    obtain ⟨⟨n1, n1'⟩, n2, n3⟩ := hok
    have g0 : decide (node < 0) = false := decide_eq_false (by omega)
    have g1 : decide (24 ≤ node) = false := decide_eq_false (by omega)
    have g3 : decide ((65536 : Int) < d.length) = false := decide_eq_false (by omega)
    have h1024 : ¬ (l.length : Int) = 1024 := by omega
    have h1024b : ((l.length : Int) == 1024) = false := by simpa using h1024
    clear n1 n1' n3
    -- the condition on the node of the first link
    have hfst : Hid (∀ W, Below w.heap.size w W → decide ((0 : Int) < l.length) = false ∨ (decide ((0 : Int) < l.length) = true ∧ 0 < l.length ∧ ∃ b off n0, a = some ⟨b, off, none⟩ ∧ W.cell? ⟨b, off, none⟩ = some (.int .i64 n0) ∧ (n0 != node) = false)) := fun W hW => by
      cases l with
      | nil => exact .inl rfl
      | cons x r =>
        refine .inr ⟨decide_eq_true (by rw [List.length_cons]; omega), by rw [List.length_cons]; omega, ?_⟩
        obtain ⟨b, off, da, dc, e, -, hr, -⟩ := (hQ.out.lift hW hW.size).at_ (i := 0) (by simp)
        have := (range_parts (hQ.out.fine x (by simp)).prev (x := x) hr).1
        rw [Nat.zero_mul, Nat.add_zero] at this
        refine ⟨b, off, x.node, e, this, ?_⟩
        rw [show belongsP (x :: r) node = (x.node == node) from rfl] at n2
        rw [bne, n2]; rfl
    clear n2
    go_enter Tryd.func11, Tryd.ntmps11
    go_wp2_with fail
    refine (hCk.out _ hB0.out).mono ?_
    rintro e w1 ⟨rfl, hb1⟩
    replace hb1 := Lib.hid hb1
    clear hCk hB0
    -- the copy, and what is appended
    obtain ⟨rows, hrw, hsrc⟩ := (hQ.out.lift hb1.out hb1.out.size).rows
    have hbe := bel1 w1 (.cells #[] 37)
    obtain ⟨v2, w2, hr2, ho2, hb2⟩ := appL (w1.alloc (.cells #[] 37)) w1.heap.size 22 (.slice (some ⟨w1.heap.size, 0, none⟩) 0 0) 0 [] (own_empty (heap_alloc_new w1 _) (Nat.le_refl _)) a l.length cap rows hrw.1 (fun h => by
      obtain ⟨ad, e, hc⟩ := hsrc h
      refine ⟨ad, e, fun j u hu => ?_⟩
      have := hc j u hu
      exact (hbe.cell (World.block_lt_of_cell? w1 _ this)).trans this) hrw.2.1 (by omega) hbe.size
    rw [Nat.zero_add, List.nil_append] at ho2
    have hbW := Lib.hid (hb1.out.trans ((hbe.trans hb2).mono hb1.out.size))
    have hrwH := Lib.hid hrw
    have h12 := Lib.hid (hbe.trans hb2)
    have hfine := Lib.hid hQ.out.fine
    replace hr2 := Lib.hid hr2
    replace ho2 := Lib.hid ho2
    clear hrw hsrc hbe hb2
    have arms : True := trivial
    rcases hfst.out w1 hb1.out with q0 | ⟨q0, qp, b, off, n0, ha, hc, q2⟩
    case inl =>
      have q0n : decide (0 < l.length) = false := by
        have := of_decide_eq_false q0
        exact decide_eq_false (by omega)
      clear hfst
      go_upto_region 9 with (at_builtin; refine Lib.wpList_append_run _ rfl _ _ _ _ rfl _ _ rfl rfl _ _ hr2.out ?_)
      clear hr2
      go_wp2_with fail
      refine (hHd.out _ hbW.out).mono ?_
      rintro e w6 ⟨rfl, hb6⟩
      replace ho2 := ownsL_below ho2.out hb6
      have h16 := h12.out.trans (hb6.mono h12.out.size)
      replace hbW := Lib.hid (hbW.out.trans (hb6.mono hbW.out.size))
      obtain ⟨y, hy⟩ : ∃ y : Lk, y = ⟨node, l.length, headP l, d⟩ := ⟨_, rfl⟩
      have hyf : y.Fine := by rw [hy]; exact ⟨hn, by unfold I64; show _ ≤ (l.length : Int) ∧ (l.length : Int) ≤ _; omega, headP_len l⟩
      have hbd := build_link node l.length (headP l) d (headP_len l) A c
      rw [← hy] at hbd hL hDy
      have hsz0 : (LW y A c).length = 35 := LW_length hyf.prev
      have hsz1 : (LW y A c).toArray.size = 35 := by simpa using hsz0
      have hDy6 := hDy.out.lift hbW.out hbW.out.size
      have hbr := bel1 w6 (.cells (LW y A c).toArray 37)
      have hnr := heap_alloc_new w6 (.cells (LW y A c).toArray 37)
      obtain ⟨v3, w7, hr3, ho3, hb7⟩ := appL (w6.alloc (.cells (LW y A c).toArray 37)) w1.heap.size 22 v2 l.length rows (ownsL_below ho2 hbr) (some ⟨w6.heap.size, 0, none⟩) 1 1 (LW y A c) (by rw [hsz0]) (fun _ => ⟨_, rfl, fun j u hu => by rw [add_none, Nat.zero_add, cell_of_row _ w6.heap.size j _ _ _ hnr]; simpa using hu⟩) (LW_one _ _ _) (by omega) (Nat.le_trans h16.size hbr.size)
      have h17 : Below w1.heap.size w1 w7 := (h16.trans (hbr.mono h16.size)).trans hb7
      have hbz0 := hb1.out.trans (h17.mono hb1.out.size)
      have hrw7 : Rows35 w7 w7.heap.size (l ++ [y]) (rows ++ LW y A c) := (hrwH.out.lift h17 h17.size).snoc y hyf A c (hDy.out.lift hbz0 hbz0.size)
      have hGL := Lib.hid (QL.ofRow (l := l ++ [y]) (by rw [List.length_append, List.length_singleton]; exact ho3) hrw7 (fun x hx => by
        rcases List.mem_append.1 hx with h | h
        · exact hfine.out x h
        · rw [List.mem_singleton.1 h]; exact hyf))
      have hbz := Lib.hid hbz0
      replace hr3 := Lib.hid hr3
      replace hbd := Lib.hid hbd
      clear hy ho2 hDy6 hbr hnr ho3 hb7 h16 h17 hbz0 hrw7 hyf hb6
      go_wp2_with (first
        | (refine wpList_buildTo rfl 37 _ rfl _ rfl (LW y A c).toArray ?cb ?_; case cb => exact (by simpa [Act.eval] using hbd.out))
        | (refine wpList_val (v := .slice (some ⟨w6.heap.size, 0, none⟩) 1 1) (w' := w6.alloc (.cells (LW y A c).toArray 37)) (by rfl) ?cv ?_; case cv => (simp [execOp, Act.eval, hsz1, go_sem]; rw [one_link hsz0]; done))
        | (at_builtin; refine Lib.wpList_append_run _ rfl _ _ _ _ rfl _ _ rfl rfl _ _ hr3.out ?_))
      go_ret2
      exact ⟨⟨_, by rw [he.out]; rfl, by rw [hL.out]; exact hGL.out⟩, hbz.out⟩
    case inr =>
      subst ha
      have qp' : (0 : Int) < l.length := by omega
      have q0n : decide (0 < l.length) = true := decide_eq_true qp
      clear hfst
      go_upto_region 9 with (at_builtin; refine Lib.wpList_append_run _ rfl _ _ _ _ rfl _ _ rfl rfl _ _ hr2.out ?_)
      clear hr2
      go_wp2_with fail
      refine (hHd.out _ hbW.out).mono ?_
      rintro e w6 ⟨rfl, hb6⟩
      replace ho2 := ownsL_below ho2.out hb6
      have h16 := h12.out.trans (hb6.mono h12.out.size)
      replace hbW := Lib.hid (hbW.out.trans (hb6.mono hbW.out.size))
      obtain ⟨y, hy⟩ : ∃ y : Lk, y = ⟨node, l.length, headP l, d⟩ := ⟨_, rfl⟩
      have hyf : y.Fine := by rw [hy]; exact ⟨hn, by unfold I64; show _ ≤ (l.length : Int) ∧ (l.length : Int) ≤ _; omega, headP_len l⟩
      have hbd := build_link node l.length (headP l) d (headP_len l) A c
      rw [← hy] at hbd hL hDy
      have hsz0 : (LW y A c).length = 35 := LW_length hyf.prev
      have hsz1 : (LW y A c).toArray.size = 35 := by simpa using hsz0
      have hDy6 := hDy.out.lift hbW.out hbW.out.size
      have hbr := bel1 w6 (.cells (LW y A c).toArray 37)
      have hnr := heap_alloc_new w6 (.cells (LW y A c).toArray 37)
      obtain ⟨v3, w7, hr3, ho3, hb7⟩ := appL (w6.alloc (.cells (LW y A c).toArray 37)) w1.heap.size 22 v2 l.length rows (ownsL_below ho2 hbr) (some ⟨w6.heap.size, 0, none⟩) 1 1 (LW y A c) (by rw [hsz0]) (fun _ => ⟨_, rfl, fun j u hu => by rw [add_none, Nat.zero_add, cell_of_row _ w6.heap.size j _ _ _ hnr]; simpa using hu⟩) (LW_one _ _ _) (by omega) (Nat.le_trans h16.size hbr.size)
      have h17 : Below w1.heap.size w1 w7 := (h16.trans (hbr.mono h16.size)).trans hb7
      have hbz0 := hb1.out.trans (h17.mono hb1.out.size)
      have hrw7 : Rows35 w7 w7.heap.size (l ++ [y]) (rows ++ LW y A c) := (hrwH.out.lift h17 h17.size).snoc y hyf A c (hDy.out.lift hbz0 hbz0.size)
      have hGL := Lib.hid (QL.ofRow (l := l ++ [y]) (by rw [List.length_append, List.length_singleton]; exact ho3) hrw7 (fun x hx => by
        rcases List.mem_append.1 hx with h | h
        · exact hfine.out x h
        · rw [List.mem_singleton.1 h]; exact hyf))
      have hbz := Lib.hid hbz0
      replace hr3 := Lib.hid hr3
      replace hbd := Lib.hid hbd
      clear hy ho2 hDy6 hbr hnr ho3 hb7 h16 h17 hbz0 hrw7 hyf hb6
      go_wp2_with (first
        | (refine wpList_buildTo rfl 37 _ rfl _ rfl (LW y A c).toArray ?cb ?_; case cb => exact (by simpa [Act.eval] using hbd.out))
        | (refine wpList_val (v := .slice (some ⟨w6.heap.size, 0, none⟩) 1 1) (w' := w6.alloc (.cells (LW y A c).toArray 37)) (by rfl) ?cv ?_; case cv => (simp [execOp, Act.eval, hsz1, go_sem]; rw [one_link hsz0]; done))
        | (at_builtin; refine Lib.wpList_append_run _ rfl _ _ _ _ rfl _ _ rfl rfl _ _ hr3.out ?_))
      go_ret2
      exact ⟨⟨_, by rw [he.out]; rfl, by rw [hL.out]; exact hGL.out⟩, hbz.out⟩
end Go.Proofs.YtbhpmeljmkoebaaDoor
