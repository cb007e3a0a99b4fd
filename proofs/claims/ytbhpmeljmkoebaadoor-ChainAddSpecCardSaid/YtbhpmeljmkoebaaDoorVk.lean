/- bytes.Clone; an append of a link; Add. -/
import Derived.Test.YtbhpmeljmkoebaaDoorVj
import Derived.Great.BuildSlice
import Derived.Lib.Walk
import Derived.Lib.SliceRun
namespace Go.Proofs.YtbhpmeljmkoebaaDoor
open Go.RowKit

set_option maxRecDepth 100000 in
theorem build_link (n k : Int) (p d : List UInt8) (h : p.length = 32) (A : Option Addr) (c : Nat) : Tryd.prog.built 37 [(0, .int .i64 n), (1, .int .i64 k), (2, .agg (BV p).toArray), (3, .slice A d.length c)] = some (LW ⟨n, k, p, d⟩ A c).toArray := by
  match p, h with
  | [p0, p1, p2, p3, p4, p5, p6, p7, p8, p9, p10, p11, p12, p13, p14, p15, p16, p17, p18, p19, p20, p21, p22, p23, p24, p25, p26, p27, p28, p29, p30, p31], _ => (show _ = some _; kernel_rfl)
theorem Tryd.infoL : (Tryd.prog.info? 37).map (fun i => (i.zero, i.size, i.bytes)) = some (some (.agg #[.int .i64 0, .int .i64 0, .int .u8 0, .int .u8 0, .int .u8 0, .int .u8 0, .int .u8 0, .int .u8 0, .int .u8 0, .int .u8 0, .int .u8 0, .int .u8 0, .int .u8 0, .int .u8 0, .int .u8 0, .int .u8 0, .int .u8 0, .int .u8 0, .int .u8 0, .int .u8 0, .int .u8 0, .int .u8 0, .int .u8 0, .int .u8 0, .int .u8 0, .int .u8 0, .int .u8 0, .int .u8 0, .int .u8 0, .int .u8 0, .int .u8 0, .int .u8 0, .int .u8 0, .int .u8 0, .slice none 0 0]), 35, 72) := by kernel_rfl
theorem fold_zip (l : List Value) : ∀ (k : Nat) (z : Array Value), z.size = k + l.length → (l.zipIdx k).foldl (fun cs x => cs.setIfInBounds x.snd x.fst) z = (z.toList.take k ++ l).toArray := by
  induction l with
  | nil =>
    intro k z h
    apply Array.toList_inj.1
    simp only [List.zipIdx_nil, List.foldl_nil, List.append_nil]
    rw [List.take_of_length_le (by simp at h; simp [h])]
  | cons x l ih =>
    intro k z h
    rw [List.zipIdx_cons, List.foldl_cons, ih (k + 1) _ (by simp at h ⊢; omega)]
    apply Array.toList_inj.1
    simp only [Array.toList_setIfInBounds]
    have hk : k < z.toList.length := by simp at h ⊢; omega
    rw [List.take_add_one, List.take_set_of_le (Nat.le_refl _), List.getElem?_set_self hk]
    simp
/-- A slice of one link is built: its cells. -/
theorem one_link {l : List Value} (h : l.length = 35) : l.zipIdx.foldl (fun cs x => cs.setIfInBounds x.snd x.fst) #[.int .i64 0, .int .i64 0, .int .u8 0, .int .u8 0, .int .u8 0, .int .u8 0, .int .u8 0, .int .u8 0, .int .u8 0, .int .u8 0, .int .u8 0, .int .u8 0, .int .u8 0, .int .u8 0, .int .u8 0, .int .u8 0, .int .u8 0, .int .u8 0, .int .u8 0, .int .u8 0, .int .u8 0, .int .u8 0, .int .u8 0, .int .u8 0, .int .u8 0, .int .u8 0, .int .u8 0, .int .u8 0, .int .u8 0, .int .u8 0, .int .u8 0, .int .u8 0, .int .u8 0, .int .u8 0, .slice none 0 0] = l.toArray := by
  rw [fold_zip l 0 _ (by rw [h]; rfl)]
  rfl
/-- The cells of a list of links. -/
def cellsL (w : World) (b off n : Nat) : List Value := (List.range (n * 35)).map fun j => (w.cell? ⟨b, off + j, none⟩).getD undef
theorem QL.cell {w : World} {B : Nat} {l : List Lk} {b off cap : Nat} (h : QL w B l (some ⟨b, off, none⟩) cap) : ∀ i (hi : i < l.length), ∃ da dc, w.rangeAt b (off + i * 35) (LW l[i] da dc) ∧ Dt w B l[i] da dc := fun i hi => by
  obtain ⟨b', off', da, dc, e, -, r, d⟩ := h.at_ hi
  injection e with e
  injection e with e1 e2
  subst e1 e2
  exact ⟨da, dc, r, d⟩
theorem cellsL_get {w : World} {B : Nat} {l : List Lk} {b off cap : Nat} (h : QL w B l (some ⟨b, off, none⟩) cap) {j : Nat} {u : Value} (hj : (cellsL w b off l.length)[j]? = some u) : w.cell? ⟨b, off + j, none⟩ = some u := by
  have hlt : j < l.length * 35 := by
    have := (List.getElem?_eq_some_iff.1 hj).1
    simpa [cellsL] using this
  have hi : j / 35 < l.length := by omega
  obtain ⟨da, dc, r, -⟩ := h.cell (j / 35) hi
  have hlen : (LW l[j / 35] da dc).length = 35 := LW_length (h.fine _ (List.getElem_mem hi)).prev
  have hr := r (j % 35) ((LW l[j / 35] da dc)[j % 35]'(by omega)) (List.getElem?_eq_getElem (by omega))
  rw [show off + j / 35 * 35 + j % 35 = off + j by omega] at hr
  have h2 : (cellsL w b off l.length)[j]? = some ((w.cell? ⟨b, off + j, none⟩).getD undef) := by
    unfold cellsL
    rw [List.getElem?_map, List.getElem?_range hlt]
    rfl
  rw [h2, hr] at hj
  rw [hr]
  exact hj
/-- A link is appended behind a slice without room. -/
theorem append_link {W : World} {l : List Lk} {a : Option Addr} {y : Lk} {A2 : Option Addr} {c2 s : Nat} (hQ : QL W W.heap.size l a l.length) (hf : y.Fine) (hm : l.length ≤ 1000000) (hg : W.heap[s]? = some (.cells (LW y A2 c2).toArray 37 (0, 0))) (hD : Dt W W.heap.size y A2 c2) (ty : TypeId) :
    ∃ c w', (Builtin.append_ #[22, 22] ty #[.slice a l.length l.length, .slice (some ⟨s, 0, none⟩) 1 1]).run Tryd.prog W = .ok (.slice (some ⟨W.heap.size, 0, none⟩) (l.length + 1) c) w' ∧ Below W.heap.size W w' ∧ QL w' w'.heap.size (l ++ [y]) (some ⟨W.heap.size, 0, none⟩) c := by
  obtain ⟨i0, hi0, hz0, hz1, hz2⟩ := info_parts Tryd.infoL
  have hyl : (LW y A2 c2).length = 35 := LW_length hf.prev
  have hsrc : Src Tryd.prog i0.size 22 (.slice (some ⟨s, 0, none⟩) 1 1) 1 (LW y A2 c2) W := by
    rw [hz1]
    exact Src.ofSlice W Tryd.underlying22 ⟨s, 0, none⟩ 1 1 _ (by rw [hyl]) (fun j u hu => by rw [add_none, Nat.zero_add, cell_of_row W s _ _ _ _ hg]; simpa using hu) (LW_one y A2 c2)
  have holds : ∃ olds : List Value, olds.length = l.length * 35 ∧ (Builtin.firstCells i0.size l.length (.slice a l.length l.length)).run Tryd.prog W.drew = .ok olds.toArray W.drew ∧ ∀ i (hi : i < l.length), ∃ da dc, (∀ j u, (LW l[i] da dc)[j]? = some u → olds[i * 35 + j]? = some u) ∧ Dt W W.heap.size l[i] da dc := by
    rcases Nat.eq_zero_or_pos l.length with h0 | h0
    · have hl : l = [] := List.eq_nil_of_length_eq_zero h0
      subst hl
      refine ⟨[], rfl, ?_, fun i hi => absurd hi (by simp)⟩
      cases a with
      | none => exact run_firstCells_none W.drew i0.size 0 0 0
      | some a => exact run_firstCells_some W.drew i0.size 0 a 0 0 [] (by simp) (fun j u h => by simp at h)
    · obtain ⟨b, off, da, dc, rfl, -⟩ := hQ.at_ h0
      refine ⟨cellsL W b off l.length, by simp [cellsL], ?_, fun i hi => ?_⟩
      · exact run_firstCells_some W.drew i0.size l.length ⟨b, off, none⟩ l.length l.length _ (by rw [hz1]; simp [cellsL]) (fun j u hu => by rw [add_none]; exact cellsL_get hQ hu)
      · obtain ⟨da, dc, r, d⟩ := hQ.cell i hi
        refine ⟨da, dc, fun j u hu => ?_, d⟩
        have hj : j < 35 := by
          have := (List.getElem?_eq_some_iff.1 hu).1
          rwa [LW_length (hQ.fine _ (List.getElem_mem hi)).prev] at this
        have hc := r j u hu
        unfold cellsL
        rw [List.getElem?_map, List.getElem?_range (by omega), Option.map_some, ← Nat.add_assoc, hc]
        rfl
  obtain ⟨olds, hol, hfc, hrows⟩ := holds
  have hr := run_append_grow_src (P := Tryd.prog) W 22 22 ty 37 i0 _ Tryd.underlying22 hi0 hz0 a l.length l.length olds hfc _ 1 _ hsrc (by omega) (by omega) (growslice_fits (by omega) (by rw [hz2]; omega))
  have hcm : grownCap W (l.length + 1) l.length 37 ≤ maxLen := grownCap_le_maxLen W (l.length + 1) l.length _ (by unfold maxLen; omega)
  have hge := grownCap_ge W (l.length + 1) l.length 37
  generalize grownCap W (l.length + 1) l.length 37 = G at hr hcm hge
  generalize Builtin.zeroCells (Value.cells (.agg #[.int .i64 0, .int .i64 0, .int .u8 0, .int .u8 0, .int .u8 0, .int .u8 0, .int .u8 0, .int .u8 0, .int .u8 0, .int .u8 0, .int .u8 0, .int .u8 0, .int .u8 0, .int .u8 0, .int .u8 0, .int .u8 0, .int .u8 0, .int .u8 0, .int .u8 0, .int .u8 0, .int .u8 0, .int .u8 0, .int .u8 0, .int .u8 0, .int .u8 0, .int .u8 0, .int .u8 0, .int .u8 0, .int .u8 0, .int .u8 0, .int .u8 0, .int .u8 0, .int .u8 0, .int .u8 0, .slice none 0 0])) (G - (l.length + 1)) = zc at hr
  have hb : Below W.heap.size W (W.drew.alloc (.cells ((olds ++ LW y A2 c2).toArray ++ zc) 37)) := ⟨rfl, rfl, rfl, by simp, fun k hk => Below.heap_alloc W.drew _ k hk⟩
  refine ⟨_, _, hr, hb, ?_⟩
  have hnew : (W.drew.alloc (.cells ((olds ++ LW y A2 c2).toArray ++ zc) 37)).heap[W.heap.size]? = some (.cells ((olds ++ LW y A2 c2).toArray ++ zc) 37 (0, 0)) := heap_alloc_new W.drew _
  have hcell : ∀ k u, (olds ++ LW y A2 c2)[k]? = some u → (W.drew.alloc (.cells ((olds ++ LW y A2 c2).toArray ++ zc) 37)).cell? ⟨W.heap.size, k, none⟩ = some u := fun k u hu => by
    rw [cell_of_row _ W.heap.size k _ _ _ hnew, Array.getElem?_append_left (by have := (List.getElem?_eq_some_iff.1 hu).1; simpa using this)]
    simpa using hu
  generalize W.drew.alloc (.cells ((olds ++ LW y A2 c2).toArray ++ zc) 37) = W' at hb hnew hcell
  have hlt : W.heap.size < W'.heap.size := (Array.getElem?_eq_some_iff.1 hnew).1
  refine ⟨by rw [List.length_append]; exact hge, by unfold maxLen at hcm; omega, fun x hx => ?_, (fun h => by cases h), W.heap.size, 0, fun _ => ⟨rfl, hlt⟩, fun i hi => ?_⟩
  · rcases List.mem_append.1 hx with h | h
    · exact hQ.fine x h
    · rw [List.mem_singleton.1 h]; exact hf
  · by_cases hil : i < l.length
    · obtain ⟨da, dc, h1, d⟩ := hrows i hil
      rw [List.getElem_append_left hil]
      refine ⟨da, dc, fun j u hu => ?_, d.lift hb hb.size⟩
      refine hcell _ _ ?_
      have := h1 j u hu
      rw [Nat.zero_add, List.getElem?_append_left (List.getElem?_eq_some_iff.1 this).1]
      exact this
    · have hil' : i = l.length := by simp at hi; omega
      subst hil'
      have : (l ++ [y])[l.length] = y := by simp
      rw [this]
      refine ⟨A2, c2, fun j u hu => hcell _ _ ?_, hD.lift hb hb.size⟩
      rw [Nat.zero_add, List.getElem?_append_right (by omega), hol, Nat.add_sub_cancel_left]
      exact hu

theorem append_bytesC (w : World) (B : Nat) (ty : TypeId) (v : Value) (n : Nat) (xs : List Value) (hown : w.ownsRow B 5 1 v n xs) (A : Option Addr) (m c : Nat) (news : List Value) (hl : news.length = m)
    (hA : 0 < news.length → ∃ ad, A = some ad ∧ ∀ j u, news[j]? = some u → w.cell? (ad.add j) = some u) (h1 : ∀ u ∈ news, u.oneCell' = true) (hlen : n + m ≤ 1000000) (hB : B ≤ w.heap.size) :
    ∃ v' w', (Builtin.append_ #[23, 23] ty #[v, .slice A m c]).run Tryd.prog w = .ok v' w' ∧ w'.ownsRow B 5 1 v' (n + m) (xs ++ news) ∧ Below B w w' := by
  obtain ⟨i0, hi0, hz0, hz1, hz2⟩ := info_parts Tryd.info8
  obtain ⟨v', w', hr, ho, hg, -⟩ := run_append_src_row (P := Tryd.prog) w B 23 23 ty 5 i0 _ 1 1 Tryd.underlying23 hi0 hz0 hz1 hz2 rfl v n xs hown (.slice A m c) m news (Src.ofRow Tryd.underlying23 w A m c news (by omega) (by decide) hA h1) (by omega) (by omega) hB
  exact ⟨v', w', hr, ho, (Below.refl B w).grown hg hB fun k hk => (World.ownsRow.lt hown k hk).1⟩
theorem own_empty {w : World} {t : TypeId} {B g k : Nat} (h : w.heap[g]? = some (.cells #[] t (0, 0))) (hB : B ≤ g) : w.ownsRow B t k (.slice (some ⟨g, 0, none⟩) 0 0) 0 [] :=
  ⟨by simp, .inr ⟨g, 0, #[], rfl, hB, h, Nat.le_refl _, Nat.zero_le _, by simp, by simp⟩⟩
theorem OB.max {w : World} {B : Nat} {a : Option Addr} {n c : Nat} {l : List UInt8} (h : OB w B (.slice a n c) l) : c ≤ 9223372036854775807 := by
  rcases h.2 with ⟨e, h0⟩ | ⟨q, cap, cur, e, -, -, -, hm, -⟩
  · injection e with _ _ e; omega
  · injection e with _ _ e; subst e; unfold maxLen at hm; omega
set_option maxRecDepth 100000 in
set_option maxHeartbeats 2000000 in
theorem Clone_any (b : List UInt8) (hb : b.length ≤ 900000) (w : World) (A : Option Addr) (c : Nat) (hr : RBs w w.heap.size A b) :
    Calls Tryd.prog 23 #[.slice A b.length c] w fun e w' => (∃ A' c', e = .returned (.slice A' b.length c') ∧ RBs w' w'.heap.size A' b ∧ (A' = none → b = []) ∧ b.length ≤ c' ∧ c' ≤ 9223372036854775807) ∧ Below w.heap.size w w' := by
  cases A with
  | none =>
    have hb0 : b = [] := by
      cases b with
      | nil => rfl
      | cons x l => obtain ⟨_, _, e, -⟩ := hr (by simp); cases e
    subst hb0
    clear hr
    have hq := fun W => Lib.run_eql_slice_nil (P := Tryd.prog) W 23 5 none 0 c 0 0 Tryd.underlying23
    go_enter Tryd.func23, Tryd.ntmps23
    go_wp2_with fail
    go_ret
    exact ⟨⟨none, 0, rfl, fun h => absurd h (by simp), by simp, Nat.le_refl _, by omega⟩, Below.refl _ _⟩
  | some a =>
    obtain ⟨v1, w2, hr1, ho1, hb2⟩ := append_bytesC (w.alloc (.cells #[] 5)) w.heap.size 23 _ 0 [] (own_empty (heap_alloc_new w _) (Nat.le_refl _)) (some a) b.length c (BV b) (BV_length b) (fun h => by
      obtain ⟨q, o, e, -, hc⟩ := (hr.lift (bel1 w (.cells #[] 5)) (bel1 w (.cells #[] 5)).size) (by rwa [BV_length] at h)
      refine ⟨_, e, fun j u hu => ?_⟩
      have hj : j < b.length := by have := (List.getElem?_eq_some_iff.1 hu).1; rwa [BV_length] at this
      rw [add_none, hc j hj]
      simpa [BV, hj] using hu) (BV_one b) (by omega) (by simp)
    rw [Nat.zero_add, List.nil_append] at ho1
    have hB := Lib.hid ((bel1 w (.cells #[] 5)).trans (hb2.mono (Nat.le_refl _)))
    have hr1' := Lib.hid hr1
    have ho1' : Hid (OB w2 w.heap.size v1 b) := ho1
    clear hr1 ho1 hb2 hr
    have hq := fun W => Lib.run_eql_slice_nil (P := Tryd.prog) W 23 5 (some a) b.length c 0 0 Tryd.underlying23
    go_enter Tryd.func23, Tryd.ntmps23
    go_wp2_with (at_builtin; refine Lib.wpList_append_run _ rfl _ _ _ _ rfl _ _ rfl rfl _ _ hr1'.out ?_)
    go_ret
    obtain ⟨A1, c1, rfl, q1⟩ := ho1'.out.form
    exact ⟨⟨A1, c1, rfl, ho1'.out.reads.1, none_of ho1'.out, q1, ho1'.out.max⟩, hB.out⟩

def addOk (l : List Lk) (node : Int) (n : Nat) : Bool := isNodeP node && (belongsP l node && decide (n ≤ 65536))
/-- What Add gives, as far as the limit of links is not met. -/
def addP (l : List Lk) (node : Int) (d : List UInt8) : Option Lk := if chkP l = 0 ∧ addOk l node d.length = true then some ⟨node, l.length, headP l, d⟩ else none
def addE (l : List Lk) (node : Int) (n : Nat) : Int := if chkP l = 0 then (if addOk l node n = true then 0 else 1) else chkP l
/-- A list of links that is handed back. -/
def GL (w' : World) (v : Value) (l : List Lk) : Prop := ∃ a cap, v = .slice a l.length cap ∧ QL w' w'.heap.size l a cap
def addL (l : List Lk) (node : Int) (d : List UInt8) : List Lk := match addP l node d with | some y => l ++ [y] | none => []

set_option maxRecDepth 100000 in
set_option maxHeartbeats 4000000 in
theorem Add_any (l : List Lk) (hl : Short l) (hm : l.length ≤ 1000) (node : Int) (hn : I64 node) (d : List UInt8) (w : World) (a A : Option Addr) (cap c : Nat) (hQ : QL w w.heap.size l a cap) (hR : RBs w w.heap.size A d) (hKT : KT w) (h0 : 0 < w.heap.size) :
    Calls Tryd.prog 10 #[.slice a l.length cap, .int .i64 node, .slice A d.length c] w fun e w' => (∃ v, e = .returned (.tuple #[v, .int .i64 (addE l node d.length)]) ∧ GL w' v (addL l node d)) ∧ Below w.heap.size w w' := by
  have hCk : Hid (∀ W, Below w.heap.size w W → Calls Tryd.prog 16 #[.slice a l.length cap] W fun e w' => e = .returned (.int .i64 (chkP l)) ∧ Below W.heap.size W w') := fun W hW => Check_any l hl (by omega) W a cap (hQ.lift hW hW.size) (hKT.below hW h0) (Nat.lt_of_lt_of_le h0 hW.size)
  have hHd : Hid (∀ W, Below w.heap.size w W → Calls Tryd.prog 15 #[.slice a l.length cap] W fun e w' => e = .returned (.agg (BV (headP l)).toArray) ∧ Below W.heap.size W w') := fun W hW => Head_any l hl (by omega) W a cap (hQ.lift hW hW.size) (hKT.below hW h0) (Nat.lt_of_lt_of_le h0 hW.size)
  have hBe : Hid (∀ W, Below w.heap.size w W → Calls Tryd.prog 21 #[.slice a l.length cap, .int .i64 node] W fun e w' => e = .returned (.bool (belongsP l node)) ∧ Below W.heap.size W w') := fun W hW => belongs_any l node W _ a cap (hQ.lift hW hW.size)
  have hCl : Hid (∀ W, Below w.heap.size w W → d.length ≤ 65536 → Calls Tryd.prog 23 #[.slice A d.length c] W fun e w' => (∃ A' c', e = .returned (.slice A' d.length c') ∧ RBs w' w'.heap.size A' d ∧ (A' = none → d = []) ∧ d.length ≤ c' ∧ c' ≤ 9223372036854775807) ∧ Below W.heap.size W w') := fun W hW hd => Clone_any d (by omega) W A c (hR.lift hW hW.size)
  have he : Hid (addE l node d.length = if chkP l = 0 then (if addOk l node d.length = true then 0 else 1) else chkP l) := rfl
  have hL : Hid (addL l node d = match addP l node d with | some y => l ++ [y] | none => []) := rfl
  have hp : Hid (addP l node d = if chkP l = 0 ∧ addOk l node d.length = true then some ⟨node, l.length, headP l, d⟩ else none) := rfl
  generalize addE l node d.length = ev at he ⊢
  generalize addL l node d = lv at hL ⊢
  replace hQ := Lib.hid hQ
  clear hR hKT h0
  have hB0 := Lib.hid (Below.refl w.heap.size w)
  rcases chk_cases l with c1 | c1
  case inr =>
    rw [c1] at hCk
    rw [c1, if_neg (by decide)] at he
    rw [hp.out, if_neg (by rw [c1]; simp)] at hL
    clear c1 hp
    go_enter Tryd.func10, Tryd.ntmps10
    go_wp2_with fail
    refine (hCk.out _ hB0.out).mono ?_
    rintro e w1 ⟨rfl, hb1⟩
    replace hb1 := Lib.hid hb1
    go_wp2_with fail
    go_ret2
    exact ⟨⟨_, by rw [he.out]; rfl, none, 0, by rw [hL.out]; rfl, by rw [hL.out]; exact QL.nil _ _⟩, hb1.out⟩
  rw [c1] at hCk
  rw [c1, if_pos rfl] at he
  rw [c1] at hp
  clear c1
  by_cases hok : addOk l node d.length = true
  case neg =>
    rw [if_neg hok] at he
    rw [hp.out, if_neg (by simp [hok])] at hL
    have hok' : addOk l node d.length = false := by simpa using hok
    unfold addOk at hok'
    clear hp hok
    go_enter Tryd.func10, Tryd.ntmps10
    go_wp2_with fail
    refine (hCk.out _ hB0.out).mono ?_
    rintro e w1 ⟨rfl, hb1⟩
    replace hb1 := Lib.hid hb1
    go_wp2_with fail
    refine (isNode_any node _).mono ?_
    rintro e w2 ⟨rfl, hb2⟩
    replace hb2 := Lib.hid (hb1.out.trans (hb2.mono hb1.out.size))
    rcases Bool.eq_false_or_eq_true (isNodeP node) with n1 | n1
    case inr =>
      rw [n1]
      go_wp2_with fail
      go_ret2
      exact ⟨⟨_, by rw [he.out]; rfl, none, 0, by rw [hL.out]; rfl, by rw [hL.out]; exact QL.nil _ _⟩, hb2.out⟩
    rw [n1] at hok' ⊢
    go_wp2_with fail
    refine (hBe.out _ hb2.out).mono ?_
    rintro e w3 ⟨rfl, hb3⟩
    replace hb3 := Lib.hid (hb2.out.trans (hb3.mono hb2.out.size))
    rcases Bool.eq_false_or_eq_true (belongsP l node) with n2 | n2
    case inr =>
      rw [n2]
      go_wp2_with fail
      go_ret2
      exact ⟨⟨_, by rw [he.out]; rfl, none, 0, by rw [hL.out]; rfl, by rw [hL.out]; exact QL.nil _ _⟩, hb3.out⟩
    rw [n2] at hok' ⊢
    have n3 : decide (d.length ≤ 65536) = false := by simpa using hok'
    go_wp2_with fail
    refine (isShort_any A d.length c _).mono ?_
    rintro e w4 ⟨rfl, hb4⟩
    rw [n3]
    replace hb4 := Lib.hid (hb3.out.trans (hb4.mono hb3.out.size))
    go_wp2_with fail
    go_ret2
    exact ⟨⟨_, by rw [he.out]; rfl, none, 0, by rw [hL.out]; rfl, by rw [hL.out]; exact QL.nil _ _⟩, hb4.out⟩
  case pos =>
    rw [if_pos hok] at he
    rw [hp.out, if_pos ⟨rfl, hok⟩] at hL
    replace hL : Hid (lv = l ++ [⟨node, l.length, headP l, d⟩]) := hL
    clear hp
    unfold addOk at hok
    simp only [Bool.and_eq_true, decide_eq_true_eq] at hok
    obtain ⟨n1, n2, n3⟩ := hok
    have n3' : decide (d.length ≤ 65536) = true := by simpa using n3
    replace n3 := Lib.hid n3
    replace n3' := Lib.hid n3'
    have h1024 : ¬ (l.length : Int) = 1024 := by omega
    go_enter Tryd.func10, Tryd.ntmps10
    go_wp2_with fail
    refine (hCk.out _ hB0.out).mono ?_
    rintro e w1 ⟨rfl, hb1⟩
    replace hb1 := Lib.hid hb1
    go_wp2_with fail
    refine (isNode_any node _).mono ?_
    rintro e w2 ⟨rfl, hb2⟩
    rw [n1]
    replace hb2 := Lib.hid (hb1.out.trans (hb2.mono hb1.out.size))
    go_wp2_with fail
    refine (hBe.out _ hb2.out).mono ?_
    rintro e w3 ⟨rfl, hb3⟩
    rw [n2]
    replace hb3 := Lib.hid (hb2.out.trans (hb3.mono hb2.out.size))
    clear n1 n2
    go_wp2_with fail
    refine (isShort_any A d.length c _).mono ?_
    rintro e w4 ⟨rfl, hb4⟩
    rw [n3'.out]
    replace hb4 := Lib.hid (hb3.out.trans (hb4.mono hb3.out.size))
    go_wp2_with fail
    refine (hHd.out _ hb4.out).mono ?_
    rintro e w5 ⟨rfl, hb5⟩
    replace hb5 := Lib.hid (hb4.out.trans (hb5.mono hb4.out.size))
    go_wp2_with fail
    refine (hCl.out _ hb5.out n3.out).mono ?_
    rintro e w6 ⟨⟨A2, c2, rfl, hR2, hA2, hc2, hm2⟩, hb6⟩
    replace hb6 := Lib.hid (hb5.out.trans (hb6.mono hb5.out.size))
    clear hb1 hb2 hb3 hb4 hb5 hCk hHd hBe hCl h1024 hB0
    obtain ⟨y, hy⟩ : ∃ y : Lk, y = ⟨node, l.length, headP l, d⟩ := ⟨_, rfl⟩
    have hyf : y.Fine := by rw [hy]; exact ⟨hn, by unfold I64; show _ ≤ (l.length : Int) ∧ (l.length : Int) ≤ _; omega, headP_len l⟩
    have hbd := build_link node l.length (headP l) d (headP_len l) A2 c2
    rw [← hy] at hbd
    have hsz0 : (LW y A2 c2).length = 35 := LW_length hyf.prev
    have hsz1 : Hid ((LW y A2 c2).toArray.size = 35) := by show _ = _; simpa using hsz0
    have hbx := heap_alloc_new w6 (.cells (LW y A2 c2).toArray 37)
    have hDy : Dt w6 w6.heap.size y A2 c2 := by rw [hy]; exact ⟨hR2, hA2, hc2, hm2⟩
    replace hbx := Lib.hid hbx
    replace hDy := Lib.hid hDy
    rw [← hy] at hL
    replace hyf := Lib.hid hyf
    replace hn := Lib.hid hn
    clear hy
    clear hR2 hA2 hc2 hm2 hsz0 n3 n3'
    go_upto_region 9 with (first
      | (refine wpList_buildTo rfl 37 _ rfl _ rfl (LW y A2 c2).toArray ?cb ?_; case cb => exact (by simpa [Act.eval] using hbd))
      | (refine wpList_store_row rfl 37 _ _ rfl w6.heap.size _ rfl rfl 37 _ (heap_alloc_last w6 _) ?cj ?cl ?ck ?_
         case cj => rw [Tryd.iL]; exact congrArg some hsz1.out.symm
         case cl => rw [hsz1.out]; rfl
         case ck => exact LW_all _ _ _
         rw [World.setRow_alloc_new]))
    have hb7 := Lib.hid (hb6.out.trans ((bel1 w6 (.cells (LW y A2 c2).toArray 37)).mono hb6.out.size))
    have hDV0 := Lib.hid (hDy.out.lift (bel1 w6 (.cells (LW y A2 c2).toArray 37)) (bel1 w6 (.cells (LW y A2 c2).toArray 37)).size)
    generalize w6.alloc (.cells (LW y A2 c2).toArray 37) = V at *
    obtain ⟨NB, hNB⟩ : ∃ NB, NB = w6.heap.size := ⟨_, rfl⟩
    rw [← hNB] at hbx ⊢
    have hy0 : Hid (∀ W, Below V.heap.size V W → W.rangeAt NB 0 (LW y A2 c2)) := fun W hW => range_of (blk_at hbx.out hW)
    have hsy : Hid ((Tryd.prog.info? 37).map (·.size) = some (LW y A2 c2).length) := LW_info hyf.out.prev
    have hQV : Hid (∀ W, Below V.heap.size V W → QL W W.heap.size l a l.length) := fun W hW => by
      have hb := hb7.out.trans (hW.mono hb7.out.size)
      have := (hQ.out.lift hb hb.size).toto' (k := l.length) (Nat.le_refl _)
      rwa [List.take_length] at this
    have hDV : Hid (∀ W, Below V.heap.size V W → Dt W W.heap.size y A2 c2) := fun W hW => hDV0.out.lift hW hW.size
    have hcl : l.length ≤ cap := hQ.out.1
    have hsz := hsz1
    clear hDy hbd hNB hDV0
    refine wp_region_pre 9 2 (fun W => Below V.heap.size V W) (fun W W' => Below W.heap.size W W')
      (fun i v W => match i with
        | 0 => v = .slice a l.length cap
        | 1 => v = .slice a l.length cap
        | 2 => v = .int .i64 (l.length : Nat)
        | 3 => v = .slice a l.length cap
        | 4 => v = .int .i64 (l.length : Nat)
        | 5 => v = .slice a l.length l.length
        | 6 => v = .agg (LW y A2 c2).toArray
        | 7 => ∃ g, v = .slice (some ⟨g, 0, none⟩) 1 1 ∧ W.heap[g]? = some (.cells (LW y A2 c2).toArray 37 (0, 0))
        | 8 => ∃ q c3, v = .slice (some ⟨q, 0, none⟩) (l.length + 1) c3 ∧ QL W W.heap.size (l ++ [y]) (some ⟨q, 0, none⟩) c3
        | _ => True) (fun _ => false)
      (by kernel_rfl) (by kernel_rfl) (by kernel_rfl) (by kernel_rfl) (by kernel_rfl) (by kernel_rfl) (by kernel_rfl) ?_ (fun _ _ h => h.size) (dN (Below.refl _ _) 1) ?_ ?_
    · intro i v W W' hb hF
      match i, hF with
      | 0, h => exact h
      | 1, h => exact h
      | 2, h => exact h
      | 3, h => exact h
      | 4, h => exact h
      | 5, h => exact h
      | 6, h => exact h
      | 7, ⟨g, h1, h2⟩ => exact ⟨g, h1, blk_at h2 hb⟩
      | 8, ⟨q, c3, h1, h2⟩ => exact ⟨q, c3, h1, h2.below hb⟩
      | _ + 9, _ => trivial
    · refine ⟨?_, ?_, ?_, ?_, ?_, ?_, ?_, ?_, ?_, trivial⟩
      · refine stepJ_any rfl fun ac W hAA hG hDD K hK => ?_
        have h0 := hAA.getD (t := 0) (by kernel_rfl)
        simp only [Array.getD_eq_getD_getElem?] at h0
        rw [if_pos (by rfl)]
        exact wp_val (v := .slice a l.length cap) (w' := W) (by simp [execOp, Act.eval, h0, go_sem]) (hK _ _ hG (Below.refl _ _) rfl (fun h => by cases h))
      · refine stepJ_any rfl fun ac W hAA hG hDD K hK => ?_
        have h0 := hAA.getD (t := 0) (by kernel_rfl)
        simp only [Array.getD_eq_getD_getElem?] at h0
        rw [if_pos (by rfl)]
        exact wp_val (v := .slice a l.length cap) (w' := W) (by simp [execOp, Act.eval, h0, go_sem]) (hK _ _ hG (Below.refl _ _) rfl (fun h => by cases h))
      · refine stepJ_any rfl fun ac W hAA hG hDD K hK => ?_
        have h40 := hDD.get 1 40 _ rfl rfl (by kernel_rfl)
        simp only [Array.getD_eq_getD_getElem?] at h40
        rw [if_pos (by rfl)]
        exact wp_val (v := .int .i64 (l.length : Nat)) (w' := W) (by simp [execOp, Act.eval, h40, go_sem]) (hK _ _ hG (Below.refl _ _) rfl (fun h => by cases h))
      · refine stepJ_any rfl fun ac W hAA hG hDD K hK => ?_
        have h0 := hAA.getD (t := 0) (by kernel_rfl)
        simp only [Array.getD_eq_getD_getElem?] at h0
        rw [if_pos (by rfl)]
        exact wp_val (v := .slice a l.length cap) (w' := W) (by simp [execOp, Act.eval, h0, go_sem]) (hK _ _ hG (Below.refl _ _) rfl (fun h => by cases h))
      · refine stepJ_any rfl fun ac W hAA hG hDD K hK => ?_
        have h42 := hDD.get 3 42 _ rfl rfl (by kernel_rfl)
        simp only [Array.getD_eq_getD_getElem?] at h42
        rw [if_pos (by rfl)]
        exact wp_val (v := .int .i64 (l.length : Nat)) (w' := W) (by simp [execOp, Act.eval, h42, go_sem]) (hK _ _ hG (Below.refl _ _) rfl (fun h => by cases h))
      · refine stepJ_any rfl fun ac W hAA hG hDD K hK => ?_
        have h39 := hDD.get 0 39 _ rfl rfl (by kernel_rfl)
        have h41 := hDD.get 2 41 _ rfl rfl (by kernel_rfl)
        have h43 := hDD.get 4 43 _ rfl rfl (by kernel_rfl)
        simp only [Array.getD_eq_getD_getElem?] at h39 h41 h43
        have hs := slice_toto a l.length cap l.length hcl W
        rw [if_pos (by rfl)]
        exact wp_val (v := .slice a l.length l.length) (w' := W) (by simp [execOp, Act.eval, h39, h41, h43, go_sem, hs]) (hK _ _ hG (Below.refl _ _) rfl (fun h => by cases h))
      · refine stepJ_any rfl fun ac W hAA hG hDD K hK => ?_
        have h8 := hAA.getD (t := 8) (by kernel_rfl)
        rw [if_pos (by rfl)]
        exact wp_load_mid 37 _ rfl NB 0 h8 (LW y A2 c2) _ (hy0.out W hG) Tryd.underlying37 rfl hsy.out (hK _ _ hG (Below.refl _ _) rfl (fun h => by cases h))
      · refine stepJ_any rfl fun ac W hAA hG hDD K hK => ?_
        have h45 := hDD.get 6 45 _ rfl rfl (by kernel_rfl)
        rw [if_pos (by rfl)]
        simp only [Array.getD_eq_getD_getElem?] at h45
        exact wp_val (v := .slice (some ⟨W.heap.size, 0, none⟩) 1 1) (w' := W.alloc (.cells (LW y A2 c2).toArray 37)) (by simp [execOp, Act.eval, h45, hsz.out, go_sem]; rw [one_link (by simpa using hsz.out)]) (hK _ _ (hG.alloc hG.size _) (bel1 W _) ⟨_, rfl, heap_alloc_new W _⟩ (fun h => by cases h))
      · refine stepJ_any rfl fun ac W hAA hG hDD K hK => ?_
        have h44 := hDD.get 5 44 _ rfl rfl (by kernel_rfl)
        obtain ⟨g7, h46, hg7⟩ := hDD.get 7 46 _ rfl rfl (by kernel_rfl)
        rw [if_pos (by rfl)]
        obtain ⟨c3, w3, hr3, hb3, hq3⟩ := append_link (hQV.out W hG) hyf.out (by omega) hg7 (hDV.out W hG) 22
        exact Lib.wp_append_run W (.tmp 44) (.tmp 46) 22 22 rfl _ _ h44 h46 _ w3 hr3 (hK _ _ (hG.trans (hb3.mono hG.size)) hb3 ⟨_, c3, rfl, hq3⟩ (fun h => by cases h))
    intro fu T W9 hG hF hne hltb
    have e39 : T 39 = .slice a l.length cap := hF 0 _ rfl (by omega)
    have e40 : T 40 = .slice a l.length cap := hF 1 _ rfl (by omega)
    have e41 : T 41 = .int .i64 (l.length : Nat) := hF 2 _ rfl (by omega)
    have e42 : T 42 = .slice a l.length cap := hF 3 _ rfl (by omega)
    have e43 : T 43 = .int .i64 (l.length : Nat) := hF 4 _ rfl (by omega)
    have e44 : T 44 = .slice a l.length l.length := hF 5 _ rfl (by omega)
    have e45 : T 45 = .agg (LW y A2 c2).toArray := hF 6 _ rfl (by omega)
    obtain ⟨g7, e46, -⟩ := hF 7 _ rfl (by omega)
    replace e46 : T 46 = _ := e46
    obtain ⟨q8, c8, e47, hq8⟩ := hF 8 _ rfl (by omega)
    replace e47 : T 47 = _ := e47
    clear hF hne hltb
    simp only [List.take, fillT, List.setIfInBounds_toArray, List.set_cons_zero, List.set_cons_succ, e39, e40, e41, e42, e43, e44, e45, e46, e47]
    clear e39 e40 e41 e42 e43 e44 e45 e46 e47
    have hlen : (l ++ [y]).length = l.length + 1 := by simp
    replace hq8 := Lib.hid hq8
    have hb9 := Lib.hid (hb7.out.trans (hG.mono hb7.out.size))
    clear hG hy0 hQV hDV
    refine wpAny_ready (rs := [9]) (by kernel_rfl) (by simp) (AllReady.cons (o := ⟨(some 6), (Op.assign (Operand.tmp 47)), _, _, _, none⟩) rfl (fun K1 hK1 => ?_) AllReady.nil)
    rw [if_pos (by rfl)]
    refine wp_val (v := .slice (some ⟨q8, 0, none⟩) (l.length + 1) c8) (w' := W9) (by simp [execOp, Act.eval, go_sem]) ?_
    refine hK1 _ _ ?_
    clear hK1 K1
    simp only [Act.put, List.setIfInBounds_toArray, List.set_cons_zero, List.set_cons_succ]
    refine wpAny_ready (rs := [10]) (by kernel_rfl) (by simp) (AllReady.cons (o := ⟨(some 7), (Op.assign (Operand.const (Value.int IntKind.i64 0))), _, _, _, none⟩) rfl (fun K1 hK1 => ?_) AllReady.nil)
    rw [if_pos (by rfl)]
    refine wp_val (v := .int .i64 0) (w' := W9) (by simp [execOp, Act.eval, go_sem]) ?_
    refine hK1 _ _ ?_
    clear hK1 K1
    refine wpAny_done (by kernel_rfl) ?_ _
    simp only [Act.put, List.setIfInBounds_toArray, List.set_cons_zero, List.set_cons_succ]
    go_wp2_with fail
    go_ret2
    refine ⟨⟨_, by rw [he.out]; rfl, some ⟨q8, 0, none⟩, c8, ?_, ?_⟩, hb9.out⟩
    · rw [hL.out, hlen]; rfl
    · rw [hL.out]; exact hq8.out
end Go.Proofs.YtbhpmeljmkoebaaDoor
