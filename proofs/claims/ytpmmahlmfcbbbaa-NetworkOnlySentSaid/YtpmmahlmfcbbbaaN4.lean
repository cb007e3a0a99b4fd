/- Cut: the contract. -/
import Derived.Test.YtpmmahlmfcbbbaaN3
import Derived.Test.YtpmmahlmfcbbbaaNj
import Derived.Test.YtpmmahlmfcbbbaaSo
import Derived.OwnWalkIn
import Derived.TacticsInMore
namespace Go.Proofs.Ytpmmahlmfcbbbaa
open Go.RowKit Go.Shelf

theorem cutN_bad {n : Nt} {a b : Int} {on : Bool} (h : ntB n = false) : cutN n a b on = (zeroNt, 60) := by unfold cutN; rw [if_pos h]
theorem cutN_arg {n : Nt} {a b : Int} {on : Bool} (h : ntB n = true) (h2 : areP a b = false) : cutN n a b on = (zeroNt, 1) := by unfold cutN; rw [h, if_neg (by decide), if_pos h2]
theorem cutN_ok {n : Nt} {a b : Int} {on : Bool} (h : ntB n = true) (h2 : areP a b = true) : cutN n a b on = (⟨n.q, cutL n.ap (linkP a b) on⟩, 0) := by unfold cutN; rw [h, h2, if_neg (by decide), if_neg (by decide)]

set_option maxRecDepth 100000 in
set_option maxHeartbeats 2000000 in
theorem Cut_no (n : Nt) (a b : Int) (on : Bool) (w : World) (A A' : Option Addr) (c c' : Nat) (S : Nat → Prop) (hS : ∀ b, S b → b < w.heap.size) (hd : NR w S A c A' c' n) (hno : ntB n = false ∨ areP a b = false) :
    Calls Try.prog 18 #[.agg #[.slice A n.q.length c, .slice A' n.ap.length c'], .int .i64 a, .int .i64 b, .bool on] w (NtPost S (cutN n a b on) w) := by
  have hdh := Lib.hid hd
  replace hno := Lib.hid hno
  clear hd
  have kN := heap_alloc_new w (.cells #[.slice A n.q.length c, .slice A' n.ap.length c'] 25)
  have hbV1 := bnew w (.cells #[.slice A n.q.length c, .slice A' n.ap.length c'] 25)
  obtain ⟨V1, hV1⟩ : ∃ V, (w).alloc (.cells #[.slice A n.q.length c, .slice A' n.ap.length c'] 25) = V := ⟨_, rfl⟩
  have hsV1 : V1.heap.size = w.heap.size + 1 := by rw [← hV1]; simp
  rw [hV1] at kN hbV1
  have kX := heap_alloc_new V1 (.cells #[.slice none 0 0, .slice none 0 0] 25)
  have hbV2 := bnew V1 (.cells #[.slice none 0 0, .slice none 0 0] 25)
  obtain ⟨V2, hV2⟩ : ∃ V, (V1).alloc (.cells #[.slice none 0 0, .slice none 0 0] 25) = V := ⟨_, rfl⟩
  have hsV2 : V2.heap.size = w.heap.size + 2 := by rw [← hV2]; simp; omega
  rw [hV2] at kX hbV2
  replace kN := blk_step kN hbV2
  rw [hsV1] at kX
  have hBV : Below w.heap.size w V2 := (hbV1).trans (hbV2.mono (by omega))
  clear hbV1 hbV2
  have hC := Lib.hid (Check_any n V2 A A' c c' w.heap.size (by omega) ((hdh.out.mono hS).keep (Kept.below hBV)))
  have hP := Lib.hid (areParties_any a b)
  replace hBV := Lib.hid hBV
  replace kX := Lib.hid kX
  replace hV1 := Lib.hid hV1
  replace hV2 := Lib.hid hV2
  replace hsV2 := Lib.hid hsV2
  clear hsV1
  go_enter Try.func18, Try.ntmps18
  go_wp2_with fail
  rw [hV1.out, hV2.out]
  refine hC.out.mono ?_
  rintro e w1 ⟨rfl, hb⟩
  replace kX := Lib.hid (blk_step kX.out hb)
  have hB1 := Lib.hid (hBV.out.trans (hb.mono hBV.out.size))
  clear hb hC hV1 hV2
  have x0 : w1.cell? ⟨w.heap.size + 1, 0, none⟩ = _ := cell_of_row w1 _ 0 _ _ _ kX.out
  have x1 : w1.cell? ⟨w.heap.size + 1, 1, none⟩ = _ := cell_of_row w1 _ 1 _ _ _ kX.out
  have fX := fun i => frozen_of_row w1 _ i _ _ kX.out
  rcases nchk_eq n with ⟨h1, h2⟩ | ⟨h1, h2⟩
  · rw [h2]
    have h3 := hno.out.resolve_left (by rw [h1]; decide)
    have hv := Lib.hid (cutN_arg (on := on) h1 h3)
    rw [h3] at hP
    clear h1 h2 h3
    go_wp2_with fail
    refine (hP.out _).mono ?_
    rintro e w2 ⟨rfl, rfl⟩
    go_wp2_with fail
    exact bodyPost_ret (v := .tuple #[.agg #[.slice none 0 0, .slice none 0 0], .int .i64 1]) (by simp [results, Try.results18, go_sem, x0, x1, fX]) rfl (NtPost.fail hv.out ((hB1.out.setCell (by simp) _).setCell (by simp) _) rfl)
  · rw [h2]
    have hv := Lib.hid (cutN_bad (a := a) (b := b) (on := on) h1)
    clear h1 h2
    go_wp2_with fail
    exact bodyPost_ret (v := .tuple #[.agg #[.slice none 0 0, .slice none 0 0], .int .i64 60]) (by simp [results, Try.results18, go_sem, x0, x1, fX]) rfl (NtPost.fail hv.out ((hB1.out.setCell (by simp) _).setCell (by simp) _) rfl)

/-- Between two rounds. -/
def CutI (w : World) (Lb Bs Bk : Nat) (nc : Array Value) (lc : Value) (k : Int × Int) (bs : List (Int × Int)) (pre : List (Int × Int)) (W : World) : Prop :=
  (((((∃ v, Boxed W (Lb + 1) 23 v ∧ W.ownsRow w.heap.size 55 2 v (bs ++ pre).length (LV (bs ++ pre)) ∧ ((bs ++ pre).length = 0 → v = .slice none 0 0)) ∧ W.heap[w.heap.size]? = some (.cells nc 25 (0, 0))) ∧ W.heap[w.heap.size + 1]? = some (.cells #[.slice none 0 0, .slice none 0 0] 25 (0, 0))) ∧
    W.heap[Bs]? = some (.cells #[lc] 23 (0, 0))) ∧ W.heap[Bk]? = some (.cells #[.int .i64 k.1, .int .i64 k.2] 55 (0, 0))) ∧ Below w.heap.size w W
theorem cells_ownN {β : Type} (B : Nat) (cs : Array Value) (t : TypeId) : Own (fun (_ : β) W => W.heap[B]? = some (.cells cs t (0, 0))) := fun _ X Y row hs hg hrow =>
  (hg.block B (Array.getElem?_eq_some_iff.1 hs).1 (fun e' => by obtain ⟨o, ho, hc⟩ := hrow B e'.symm; rw [hs] at ho; cases ho; cases hc)).trans hs
theorem cutI_own {w : World} {Lb Bs Bk : Nat} {nc : Array Value} {lc : Value} {k : Int × Int} {bs : List (Int × Int)} {B : Nat} (hB : w.heap.size ≤ B) : OwnFrom B (CutI w Lb Bs Bk nc lc k bs) :=
  OwnFrom.and (OwnFrom.and (OwnFrom.and (OwnFrom.and (OwnFrom.and (Own.from (holdsRow_own w.heap.size (Lb + 1) 23 55 2 (fun pre : List (Int × Int) => (bs ++ pre).length) (fun pre => LV (bs ++ pre)) (fun pre v => (bs ++ pre).length = 0 → v = .slice none 0 0)) _) (Own.from (cells_ownN _ _ _) _)) (Own.from (cells_ownN _ _ _) _)) (Own.from (cells_ownN _ _ _) _)) (Own.from (cells_ownN _ _ _) _)) (ownFrom_below (Nat.le_refl _) hB)

theorem row_formL {w : World} {B n : Nat} {v : Value} {xs : List Value} (h : w.ownsRow B 55 2 v n xs) : ∃ A c, v = .slice A n c := by
  rcases h.2 with ⟨rfl, rfl⟩ | ⟨g, cap, cur, rfl, -⟩
  · exact ⟨_, _, rfl⟩
  · exact ⟨_, _, rfl⟩
theorem len_links (l : List (Int × Int)) (hp : l.Pairwise LtP) (hm : ∀ x ∈ l, x ∈ links) : l.length ≤ 4096 := by
  have h : l = links.filter fun x => l.contains x := eq_of_lt _ _ hp (links_pair.filter _) fun x => by
    rw [List.mem_filter]
    constructor
    · exact fun h => ⟨hm x h, List.contains_iff_mem.2 h⟩
    · exact fun h => List.contains_iff_mem.1 h.2
  rw [h]
  have h1 := List.length_filter_le (fun x => l.contains x) links
  have h2 : links.length = 276 := by decide +kernel
  omega

/-- A row of the call's own, as links. -/
theorem LR.ofRow {w : World} {B : Nat} {A : Option Addr} {c : Nat} {ls : List (Int × Int)} {R : Nat → Prop} (h : w.ownsRow B 55 2 (.slice A ls.length c) ls.length (LV ls)) (hR : ∀ g, (∃ cur, w.heap[g]? = some (.cells cur 55 (0, 0))) → R g) (hI : ∀ x ∈ ls, I64 x.1 ∧ I64 x.2) :
    ls.length ≤ c ∧ c ≤ maxLen ∧ LR w (fun g => (B ≤ g ∧ g < w.heap.size) ∧ R g) A ls := by
  rcases h.2 with ⟨e, h0⟩ | ⟨g, cap, cur, e, hb, hg, hc, hm, -, ht⟩
  · injection e with e1 _ e3
    subst e1 e3
    exact ⟨by omega, Nat.zero_le _, fun h => absurd h (by omega)⟩
  · injection e with e1 _ e3
    subst e1 e3
    refine ⟨hc, hm, fun hpos => ⟨g, 0, rfl, ⟨⟨hb, (Array.getElem?_eq_some_iff.1 hg).1⟩, hR g ⟨_, hg⟩⟩, fun j hj => ?_⟩⟩
    obtain ⟨h1, h2⟩ := LV_get ls j hj
    have k0 := World.ownsRow.cells h (g := g) rfl _ _ h1
    have k1 := World.ownsRow.cells h (g := g) rfl _ _ h2
    rw [add_none] at k0 k1
    exact ⟨k0, by rw [Nat.add_assoc]; exact k1, hI _ (List.getElem_mem hj)⟩

attribute [local go_sem] Oper.semAt_some
set_option maxRecDepth 100000 in
set_option maxHeartbeats 4000000 in
theorem Cut_yes_false (n : Nt) (a b : Int) (w : World) (A A' : Option Addr) (c c' : Nat) (S : Nat → Prop) (hS : ∀ b, S b → b < w.heap.size) (hd : NR w S A c A' c' n) (hnt : ntB n = true) (hap : areP a b = true) :
    Calls Try.prog 18 #[.agg #[.slice A n.q.length c, .slice A' n.ap.length c'], .int .i64 a, .int .i64 b, .bool false] w (NtPost S (⟨n.q, cutL n.ap (linkP a b) false⟩, 0) w) := by
  have hdh := Lib.hid hd
  replace hnt := Lib.hid hnt
  replace hap := Lib.hid hap
  clear hd
  have kN := heap_alloc_new w (.cells #[.slice A n.q.length c, .slice A' n.ap.length c'] 25)
  have hbV1 := bnew w (.cells #[.slice A n.q.length c, .slice A' n.ap.length c'] 25)
  obtain ⟨V1, hV1⟩ : ∃ V, (w).alloc (.cells #[.slice A n.q.length c, .slice A' n.ap.length c'] 25) = V := ⟨_, rfl⟩
  have hsV1 : V1.heap.size = w.heap.size + 1 := by rw [← hV1]; simp
  rw [hV1] at kN hbV1
  have kX := heap_alloc_new V1 (.cells #[.slice none 0 0, .slice none 0 0] 25)
  have hbV2 := bnew V1 (.cells #[.slice none 0 0, .slice none 0 0] 25)
  obtain ⟨V2, hV2⟩ : ∃ V, (V1).alloc (.cells #[.slice none 0 0, .slice none 0 0] 25) = V := ⟨_, rfl⟩
  have hsV2 : V2.heap.size = w.heap.size + 2 := by rw [← hV2]; simp; omega
  rw [hV2] at kX hbV2
  replace kN := blk_step kN hbV2
  rw [hsV1] at kX
  have hBV : Below w.heap.size w V2 := (hbV1).trans (hbV2.mono (by omega))
  clear hbV1 hbV2
  have hC := Lib.hid (Check_any n V2 A A' c c' w.heap.size (by omega) ((hdh.out.mono hS).keep (Kept.below hBV)))
  have hP := Lib.hid (areParties_any a b)
  have hQ := Lib.hid (pair_any a b)
  rw [show nchk n = 0 by unfold nchk; rw [hnt.out]; rfl] at hC
  rw [hap.out] at hP
  replace hBV := Lib.hid hBV
  replace kN := Lib.hid kN
  replace kX := Lib.hid kX
  replace hV1 := Lib.hid hV1
  replace hV2 := Lib.hid hV2
  replace hsV2 := Lib.hid hsV2
  clear hsV1
  obtain ⟨k, hk⟩ : ∃ k, linkP a b = k := ⟨_, rfl⟩
  rw [hk] at hQ
  have hok := Lib.hid (show okP k = true by rw [← hk]; exact okP_link hap.out)
  replace hk := Lib.hid hk
  refine (callsIn_wide (n := 6)).1 ?_
  have hro : Fence.wide.round = none := rfl
  refine callsIn_of_wp_marks Try.func18 rfl trivial ?_ hro
  simp only [Try.ntmps18, List.size_toArray, List.length_cons, List.length_nil, Nat.reduceAdd, Nat.reduceSub, Array.replicate_succ, Array.replicate_zero, List.push_toArray, List.append_toArray, List.nil_append, List.cons_append]
  gi_wp2_with (refine ⟨trivial, ?_⟩; gi_at_call 13; rw [hV1.out, hV2.out]; refine (callsIn_wide.2 hC.out).mono ?_)
  rintro e w1 ⟨rfl, hb⟩
  replace kN := Lib.hid (blk_step kN.out hb)
  replace kX := Lib.hid (blk_step kX.out hb)
  have hB1 := Lib.hid (hBV.out.trans (hb.mono hBV.out.size))
  have hsz1 := hb.size
  rw [hsV2.out] at hsz1
  clear hb hC hV1 hV2
  gi_wp2_with (refine ⟨trivial, ?_⟩; gi_at_call 34; refine (callsIn_wide.2 (hP.out _)).mono ?_)
  rintro e w2 ⟨rfl, rfl⟩
  gi_wp2_with (refine ⟨trivial, ?_⟩; gi_at_call 35; refine (callsIn_wide.2 (hQ.out _)).mono ?_)
  rintro e w3 ⟨rfl, hb⟩
  replace kN := blk_step kN.out hb
  replace kX := blk_step kX.out hb
  have hB3 := hB1.out.trans (hb.mono hB1.out.size)
  have hsz3 := hb.size
  clear hb hP hQ
  have hwl : w.heap.size < w3.heap.size := by omega
  have y0 : w3.cell? ⟨w.heap.size, 0, none⟩ = _ := cell_of_row w3 _ 0 _ _ _ kN
  have y1 : w3.cell? ⟨w.heap.size, 1, none⟩ = _ := cell_of_row w3 _ 1 _ _ _ kN
  have kL := heap_alloc_new w3 (.cells #[.int .i64 k.1, .int .i64 k.2] 55)
  have hbU1 := bnew w3 (.cells #[.int .i64 k.1, .int .i64 k.2] 55)
  obtain ⟨U1, hU1⟩ : ∃ V, (w3).alloc (.cells #[.int .i64 k.1, .int .i64 k.2] 55) = V := ⟨_, rfl⟩
  have hsU1 : U1.heap.size = w3.heap.size + 1 := by rw [← hU1]; simp
  rw [hU1] at kL hbU1
  have kP := heap_alloc_new U1 (.cells #[.slice none 0 0] 23)
  have hbU2 := bnew U1 (.cells #[.slice none 0 0] 23)
  obtain ⟨U2, hU2⟩ : ∃ V, (U1).alloc (.cells #[.slice none 0 0] 23) = V := ⟨_, rfl⟩
  have hsU2 : U2.heap.size = w3.heap.size + 2 := by rw [← hU2]; simp; omega
  rw [hU2] at kP hbU2
  replace kL := blk_step kL hbU2
  rw [hsU1] at kP
  have hBU : Below w3.heap.size w3 U2 := (hbU1).trans (hbU2.mono (by omega))
  clear hbU1 hbU2
  replace kN := blk_step kN (hBU.mono (Nat.le_refl _))
  replace kX := blk_step kX (hBU.mono (Nat.le_refl _))
  have hBX := hB3.trans (hBU.mono hB3.size)
  have kPb := kP
  have kNb := kN
  have kXb := kX
  have hBb := hBX
  have hob : U2.ownsRow w.heap.size 55 2 (.slice none 0 0) 0 (LV []) := World.ownsRow_nil _ _ _ _
  have hszu : w3.heap.size + 2 ≤ U2.heap.size := by omega
  obtain ⟨Wb, hWb⟩ : ∃ Wb, U2 = Wb := ⟨_, rfl⟩
  rw [hWb] at kPb kNb kXb hBb hob hszu
  replace hU1 := Lib.hid hU1
  replace hU2 := Lib.hid hU2
  replace hsU2 := Lib.hid hsU2
  clear hsU1
  replace hWb := Lib.hid hWb
  gi_wp2
  rw [hU1.out, hU2.out]
  refine ⟨trivial, ?_⟩
  rw [hWb.out]
  refine (others_in Fence.wide _ trivial hro A' n.ap.length c' k _).mono ?_
  rintro e w6 ⟨rfl, rfl⟩
  have kS := heap_alloc_new Wb (.cells #[.slice A' n.ap.length c'] 23)
  have hbY1 := bnew Wb (.cells #[.slice A' n.ap.length c'] 23)
  obtain ⟨Y1, hY1⟩ : ∃ V, (Wb).alloc (.cells #[.slice A' n.ap.length c'] 23) = V := ⟨_, rfl⟩
  have hsY1 : Y1.heap.size = Wb.heap.size + 1 := by rw [← hY1]; simp
  rw [hY1] at kS hbY1
  have kK := heap_alloc_new Y1 (.cells #[.int .i64 k.1, .int .i64 k.2] 55)
  have hbY2 := bnew Y1 (.cells #[.int .i64 k.1, .int .i64 k.2] 55)
  obtain ⟨Y2, hY2⟩ : ∃ V, (Y1).alloc (.cells #[.int .i64 k.1, .int .i64 k.2] 55) = V := ⟨_, rfl⟩
  have hsY2 : Y2.heap.size = Wb.heap.size + 2 := by rw [← hY2]; simp; omega
  rw [hY2] at kK hbY2
  replace kS := blk_step kS hbY2
  rw [hsY1] at kK
  have hBY : Below Wb.heap.size Wb Y2 := (hbY1).trans (hbY2.mono (by omega))
  clear hbY1 hbY2
  have kP2 := blk_step kPb hBY
  have kN2 := blk_step kNb hBY
  have kX2 := blk_step kXb hBY
  have hBY2 := hBb.trans (hBY.mono hBb.size)
  have hoY := ownsRow_below hob hBY
  have hap4 := Lib.hid (show n.ap.length ≤ 4096 by
    have h2 : ∀ x ∈ n.ap, x ∈ links := fun x hx => (links_mem x).2 (apB_ok (ntB_iff.1 hnt.out).2.1 x hx)
    exact len_links n.ap (apB_pair (ntB_iff.1 hnt.out).2.1) h2)
  have hLr := (hdh.out.ap.mono hS).keep (Kept.below hBY2)
  have hI0 : CutI w w3.heap.size Wb.heap.size (Wb.heap.size + 1) #[.slice A n.q.length c, .slice A' n.ap.length c'] (.slice A' n.ap.length c') k ([] : List (Int × Int)) [] Y2 :=
    ⟨⟨⟨⟨⟨⟨_, kP2, hoY, fun _ => rfl⟩, kN2⟩, kX2⟩, kS⟩, kK⟩, hBY2⟩
  replace hI0 := Lib.hid hI0
  replace hdh := Lib.hid hdh.out
  clear kP2 kN2 kX2 hoY kPb kNb kXb hob hBb hBY kN kX kP kL hBX hB3 y0 y1
  replace hY1 := Lib.hid hY1
  replace hY2 := Lib.hid hY2
  replace hsY2 := Lib.hid hsY2
  clear hsY1
  gi_wp2
  rw [hY1.out, hY2.out]
  have hsY := hsY2.out
  refine wpIn_rangeFunc_ownH hro (by omega) (gf := 46) (lb := #[.pointer (some ⟨Wb.heap.size, 0, none⟩), .pointer (some ⟨Wb.heap.size + 1, 0, none⟩)]) rfl trivial (enters_of Try.func46 (by kernel_rfl) rfl)
    (others_stops Fence.wide _ trivial hro (by omega) Wb.heap.size (Wb.heap.size + 1) w.heap.size c' n.ap k hap4.out A' Y2 hBY2.size kS kK hLr)
    KpN.trans (fun W l o o' hl ho hc _ => ⟨belowK_b (w := Y2) hBY2.size W l o o' hl ho hc ‹_›, World.putObj_heap_other (by omega), World.putObj_heap_other (by omega)⟩) (Below.refl _ _) (fun _ => rfl)
    (CutI w w3.heap.size Wb.heap.size (Wb.heap.size + 1) #[.slice A n.q.length c, .slice A' n.ap.length c'] (.slice A' n.ap.length c') k ([] : List (Int × Int))) (fun _ _ _ => False) (cutI_own hBY2.size) (fun _ _ _ _ _ hs _ _ => hs) hI0.out
    (fun x a' W => ∃ Bx, W.heap[Bx]? = some (.cells #[.int .i64 x.1, .int .i64 x.2] 55 (0, 0)) ∧ a' = { tmps := #[.agg #[.slice A n.q.length c, .slice A' n.ap.length c'], .int .i64 a, .int .i64 b, .bool false, .pointer (some ⟨w.heap.size, 0, none⟩), undef, undef, undef, .pointer (some ⟨w.heap.size + 1, 0, none⟩), .int .i64 0, .pointer (some ⟨w3.heap.size, 0, none⟩), .pointer (some ⟨w3.heap.size + 1, 0, none⟩), .pointer (some ⟨Bx, 0, none⟩), .agg #[.slice A n.q.length c, .slice A' n.ap.length c'], .int .i64 0, .bool false, undef, .int .i64 a, .int .i64 b, .bool true, .bool false, undef, .int .i64 a, .int .i64 b, .agg #[.int .i64 k.1, .int .i64 k.2], .bool false, undef, undef, undef, undef, .pointer (some ⟨w.heap.size, 1, none⟩), .slice A' n.ap.length c', .agg #[.int .i64 k.1, .int .i64 k.2], .func (.func 46) #[] #[.pointer (some ⟨Wb.heap.size, 0, none⟩), .pointer (some ⟨Wb.heap.size + 1, 0, none⟩)], .agg #[.int .i64 x.1, .int .i64 x.2], undef, undef, undef, undef, undef, undef, undef, undef, undef], defers := [] })
    (fun x a' _ X Y row hs hg hr => by obtain ⟨Bx, e2, e3⟩ := hs; exact ⟨Bx, cells_ownN (β := Unit) _ _ _ () X Y row e2 hg (fun r e => (hr r e).2), e3⟩)
    ?assign ?body ?done ?stop
  case assign =>
    rintro l pre x W K hI hK
    unfold lkV
    gi_wp2
    have hI2 := hI
    obtain ⟨⟨⟨⟨⟨-, bN⟩, bX⟩, bS⟩, bK⟩, hBW⟩ := hI
    exact hK _ _ ((KeepsOthers.alloc _ _).from _) (KpN.alloc _ hBW.size (Array.getElem?_eq_some_iff.1 bS).1 (Array.getElem?_eq_some_iff.1 bK).1) ((cutI_own (B := w.heap.size) (Nat.le_refl _)) pre W _ none hI2 (World.grownBy_alloc W _ none) (fun r e => by cases e)) ⟨W.heap.size, World.alloc_heap_new W _, rfl⟩
  case body =>
    rintro l pre x a' W hl ⟨r, hrl⟩ hI ⟨Bx, bX0, rfl⟩ hlt
    obtain ⟨⟨⟨⟨⟨⟨v, bP, hov, hnil⟩, bN⟩, bX⟩, bS⟩, bK⟩, hBW⟩ := hI
    have hlW := (Array.getElem?_eq_some_iff.1 hrl).1
    have p0 := bP.cell
    have fP := bP.frozen
    have x0 := cell_of_row W Bx 0 _ _ _ bX0
    have x1 := cell_of_row W Bx 1 _ _ _ bX0
    have hPl := (Array.getElem?_eq_some_iff.1 bP).1
    have hSl := (Array.getElem?_eq_some_iff.1 bS).1
    have hKl := (Array.getElem?_eq_some_iff.1 bK).1
    have hNl := (Array.getElem?_eq_some_iff.1 bN).1
    have hXl := (Array.getElem?_eq_some_iff.1 bX).1
    have hR := bnew W (.cells #[.int .i64 x.1, .int .i64 x.2] 55)
    have hkR := heap_alloc_new W (.cells #[.int .i64 x.1, .int .i64 x.2] 55)
    have hsW := hBW.size
    have ha4 := hap4.out
    obtain ⟨v', W1, hr, ho, hg, hb1, h2, hT⟩ := append_link (W.alloc (.cells #[.int .i64 x.1, .int .i64 x.2] 55)) w.heap.size 23 v (([] : List (Int × Int)) ++ pre).length (LV (([] : List (Int × Int)) ++ pre)) (ownsRow_below hov hR) hnil W.heap.size x hkR (by simp; omega) (by simp; omega)
    obtain ⟨Av, cv, rfl⟩ := row_formL hov
    obtain ⟨g', cap', rfl⟩ := ownsRow_succ ho
    obtain ⟨hv1, hv2, hr2, hk2, hb2⟩ := bP.appended (by decide) hov hsW (by omega) ho hg
    have f2 := hv1.frozen
    have c2 := hv1.cell
    have hszW : (W.alloc (.cells #[.int .i64 x.1, .int .i64 x.2] 55)).heap.size = W.heap.size + 1 := by simp
    have lS := h2 (Wb.heap.size + 1) _ _ (by omega) (blk_step bK hR)
    have lB := hT Wb.heap.size _ _ (by decide) (blk_step bS hR)
    have lN := hT w.heap.size _ _ (by decide) (blk_step bN hR)
    have lX := hT (w.heap.size + 1) _ _ (by decide) (blk_step bX hR)
    replace hr := Lib.hid hr
    replace hk2 := Lib.hid hk2
    replace hb2 := Lib.hid hb2
    replace hv2 := Lib.hid hv2
    replace hr2 := Lib.hid hr2
    clear hov hnil ho hg hb1 h2 hT bP hv1 bX0 hkR hR hszW hI0
    gi_wp2_with (gi_at_builtin; refine wpListIn_append_run _ rfl _ _ _ _ rfl _ _ rfl rfl _ _ hr.out ?_)
    have oth1 : ∀ (B : Nat) (o : Obj), B ≠ w3.heap.size + 1 → W1.heap[B]? = some o → (W1.setCell ⟨w3.heap.size + 1, 0, none⟩ (.slice (some ⟨g', 0, none⟩) ((([] : List (Int × Int)) ++ pre).length + 1) cap')).heap[B]? = some o := fun B o hne h => (heap_setCell_other W1 ⟨w3.heap.size + 1, 0, none⟩ B _ hne).trans h
    refine ⟨hk2.out.from _, ⟨hb2.out, (oth1 _ _ (by omega) lB).trans bS.symm, (oth1 _ _ (by omega) lS).trans bK.symm⟩, ⟨⟨⟨⟨⟨_, hv2.out, ?_, fun h => absurd h (by simp)⟩, oth1 _ _ (by omega) lN⟩, oth1 _ _ (by omega) lX⟩, oth1 _ _ (by omega) lB⟩, oth1 _ _ (by omega) lS⟩, hBW.trans hb2.out⟩
    have e1 : (([] : List (Int × Int)) ++ (pre ++ [x])).length = (([] : List (Int × Int)) ++ pre).length + 1 := by rw [← List.append_assoc, List.length_append]; rfl
    have e2 : LV (([] : List (Int × Int)) ++ (pre ++ [x])) = LV (([] : List (Int × Int)) ++ pre) ++ [.int .i64 x.1, .int .i64 x.2] := by rw [← List.append_assoc, LV_append (([] : List (Int × Int)) ++ pre) [x]]; rfl
    have e3 : (W1.setCell ⟨w3.heap.size + 1, 0, none⟩ (.slice (some ⟨g', 0, none⟩) ((([] : List (Int × Int)) ++ pre).length + 1) cap')).ownsRow w.heap.size 55 2 (.slice (some ⟨g', 0, none⟩) ((([] : List (Int × Int)) ++ pre).length + 1) cap') (([] : List (Int × Int)) ++ (pre ++ [x])).length (LV (([] : List (Int × Int)) ++ (pre ++ [x]))) := by rw [e1, e2]; exact hr2.out
    exact e3
  case stop =>
    rintro D c pre W hD _ h _
    exact h.elim
  case done =>
    rintro D ys W hD rfl hI hK
    obtain ⟨⟨⟨⟨⟨⟨v, bP, hov, hnil⟩, bN⟩, bX⟩, bS⟩, bK⟩, hBW⟩ := hI
    have ha4 := hap4.out
    have hlo : (oth n.ap k).length ≤ n.ap.length := List.length_filter_le _ _
    obtain ⟨As, cs, rfl, hcon⟩ := Sort_own (([] : List (Int × Int)) ++ oth n.ap k) (by simp; omega) W w.heap.size v hov hBW.size
    have p0 := bP.cell
    have hPl := (Array.getElem?_eq_some_iff.1 bP).1
    have hNl := (Array.getElem?_eq_some_iff.1 bN).1
    have hXl := (Array.getElem?_eq_some_iff.1 bX).1
    replace hcon := Lib.hid hcon
    clear hov hnil hI0
    gi_wp2_with (refine ⟨trivial, ?_⟩; gi_at_call 37; refine (callsIn_wide.2 hcon.out).mono ?_)
    rintro e w8 ⟨rfl, d, hd1, hd2, hd3, hd4, hd5, hd6, hd7⟩
    have hdc : d = cutL n.ap k false := cut_sorted (ntB_iff.1 hnt.out).2.1 hok.out (show d.Perm (cutD n.ap k false) from hd2) hd3
    have bP8 := hd6 _ _ _ (by decide) bP
    have bN8 := hd6 _ _ _ (by decide) bN
    have bX8 := hd6 _ _ _ (by decide) bX
    have hK8 := hd7.same D _ hK rfl
    have hBW8 := hBW.trans (hd5.mono (Nat.le_refl _))
    have p0 : w8.cell? ⟨w3.heap.size + 1, 0, none⟩ = _ := cell_of_row w8 _ 0 _ _ _ bP8
    have n0 : w8.cell? ⟨w.heap.size, 0, none⟩ = _ := cell_of_row w8 _ 0 _ _ _ bN8
    have n1 : w8.cell? ⟨w.heap.size, 1, none⟩ = _ := cell_of_row w8 _ 1 _ _ _ bN8
    have x0 : w8.cell? ⟨w.heap.size + 1, 0, none⟩ = _ := cell_of_row w8 _ 0 _ _ _ bX8
    have x1 : w8.cell? ⟨w.heap.size + 1, 1, none⟩ = _ := cell_of_row w8 _ 1 _ _ _ bX8
    have fN := fun i => frozen_of_row w8 _ i _ _ bN8
    have fX := fun i => frozen_of_row w8 _ i _ _ bX8
    have bN9 := heap_setCell_same w8 w.heap.size 1 _ _ (.slice As (([] : List (Int × Int)) ++ oth n.ap k).length cs) bN8
    have bX9 := heap_setCell_same ((w8.setCell ⟨w.heap.size, 1, none⟩ (.slice As (([] : List (Int × Int)) ++ oth n.ap k).length cs)).setCell ⟨w.heap.size + 1, 0, none⟩ (.slice A n.q.length c)) (w.heap.size + 1) 1 _ _ (.slice As (([] : List (Int × Int)) ++ oth n.ap k).length cs) (heap_setCell_same (w8.setCell ⟨w.heap.size, 1, none⟩ (.slice As (([] : List (Int × Int)) ++ oth n.ap k).length cs)) (w.heap.size + 1) 0 _ _ (.slice A n.q.length c) ((heap_setCell_other w8 ⟨w.heap.size, 1, none⟩ (w.heap.size + 1) (.slice As (([] : List (Int × Int)) ++ oth n.ap k).length cs) (by simp)).trans bX8))
    have hK9 := (KeepsOthers.setCell ((w8.setCell ⟨w.heap.size, 1, none⟩ (.slice As (([] : List (Int × Int)) ++ oth n.ap k).length cs)).setCell ⟨w.heap.size + 1, 0, none⟩ (.slice A n.q.length c)) ⟨w.heap.size + 1, 1, none⟩ (.slice As (([] : List (Int × Int)) ++ oth n.ap k).length cs)).same D _ ((KeepsOthers.setCell (w8.setCell ⟨w.heap.size, 1, none⟩ (.slice As (([] : List (Int × Int)) ++ oth n.ap k).length cs)) ⟨w.heap.size + 1, 0, none⟩ (.slice A n.q.length c)).same D _ ((KeepsOthers.setCell w8 ⟨w.heap.size, 1, none⟩ (.slice As (([] : List (Int × Int)) ++ oth n.ap k).length cs)).same D _ hK8 rfl) rfl) rfl
    have hB9 := ((hBW8.setCell (p := ⟨w.heap.size, 1, none⟩) (Nat.le_refl _) (.slice As (([] : List (Int × Int)) ++ oth n.ap k).length cs)).setCell (p := ⟨w.heap.size + 1, 0, none⟩) (by simp) (.slice A n.q.length c)).setCell (p := ⟨w.heap.size + 1, 1, none⟩) (by simp) (.slice As (([] : List (Int × Int)) ++ oth n.ap k).length cs)
    have ho8 : w8.ownsRow w.heap.size 55 2 (.slice As d.length cs) d.length (LV d) := by rw [hd1] at hd4 ⊢; exact hd4
    have hl8 := LR.ofRow (R := fun g => (g ≠ w.heap.size ∧ g ≠ w.heap.size + 1) ∧ g ≠ D) ho8 (fun g hg => by
      obtain ⟨cur, hc⟩ := hg
      refine ⟨⟨fun e => ?_, fun e => ?_⟩, fun e => ?_⟩ <;> subst e
      · rw [bN8] at hc; injection hc with hc; injection hc with _ e4 _; exact absurd e4 (by decide)
      · rw [bX8] at hc; injection hc with hc; injection hc with _ e4 _; exact absurd e4 (by decide)
      · rw [hK8] at hc; cases hc)
      (fun x hx => by
        rw [hdc] at hx
        have h := okP_iff.1 ((cutL_mem _ _ _ _).1 hx).1
        unfold I64
        omega)
    replace hK9 := Lib.hid hK9
    replace hB9 := Lib.hid hB9
    replace bX9 := Lib.hid bX9
    replace hl8 := Lib.hid hl8
    clear bP8 bN8 bX8 hK8 bN9 hd4 ho8 bP bN bX bS bK
    gi_wp2
    refine ⟨by simp, .inl ⟨_, _, rfl, run_takeDeferred hK9.out, ?_⟩⟩
    have hc0 := cell_kept (cell_of_row _ _ 0 _ _ _ bX9.out) (grownBy_putObj' _ D (.deferred none)) (fun r e => by cases e; exact ⟨_, hK9.out, rfl⟩)
    have hc1 := cell_kept (cell_of_row _ _ 1 _ _ _ bX9.out) (grownBy_putObj' _ D (.deferred none)) (fun r e => by cases e; exact ⟨_, hK9.out, rfl⟩)
    have hBF : Below w.heap.size w ((((w8.setCell ⟨w.heap.size, 1, none⟩ (.slice As (([] : List (Int × Int)) ++ oth n.ap k).length cs)).setCell ⟨w.heap.size + 1, 0, none⟩ (.slice A n.q.length c)).setCell ⟨w.heap.size + 1, 1, none⟩ (.slice As (([] : List (Int × Int)) ++ oth n.ap k).length cs)).putObj D (.deferred none)) := hB9.out.trans (belowK_b (w := w) (Nat.le_refl _) _ D _ _ (by have := hBY2.size; omega) hK9.out rfl rfl)
    have hll : (cutL n.ap k false).length = (oth n.ap k).length := by rw [← hdc, hd1]; simp
    have hKF : Kept (fun g => (g ≠ w.heap.size ∧ g ≠ w.heap.size + 1) ∧ g ≠ D) w8 ((((w8.setCell ⟨w.heap.size, 1, none⟩ (.slice As (oth n.ap k).length cs)).setCell ⟨w.heap.size + 1, 0, none⟩ (.slice A n.q.length c)).setCell ⟨w.heap.size + 1, 1, none⟩ (.slice As (oth n.ap k).length cs)).putObj D (.deferred none)) :=
      (((Kept.set fun g hg => hg.1.1).trans (Kept.set fun g hg => hg.1.2)).trans (Kept.set fun g hg => hg.1.2)).trans fun g o hg => World.cell?_of_block (World.putObj_heap_other hg.2)
    have hzF : ((((w8.setCell ⟨w.heap.size, 1, none⟩ (.slice As (oth n.ap k).length cs)).setCell ⟨w.heap.size + 1, 0, none⟩ (.slice A n.q.length c)).setCell ⟨w.heap.size + 1, 1, none⟩ (.slice As (oth n.ap k).length cs)).putObj D (.deferred none)).heap.size = w8.heap.size := by simp
    simp only [List.length_append, List.length_cons, List.length_nil, Nat.zero_add, Nat.add_comm 1] at hc0 hc1 hBF
    refine ⟨.tuple #[.agg #[.slice A n.q.length c, .slice As (oth n.ap k).length cs], .int .i64 0], ?_, ?_⟩
    · simp [results, Try.f18, go_sem, hc0, hc1]
    · rw [hk.out]
      refine ⟨hBF, A, c, As, cs, by rw [hll], ⟨hdh.out.cap, hdh.out.max, ?_, hl8.out.2.1, (hdh.out.q.keep (Kept.of hS hBF)).mono fun g hg => .inl hg, ?_⟩⟩
      · rw [← hdc]; exact hl8.out.1
      · rw [← hdc]
        exact ((hl8.out.2.2.mono fun g hg => hg).keep (fun g o hg => hKF g o hg.2)).mono fun g hg => .inr ⟨hg.1.1, by rw [hzF]; exact hg.1.2⟩

set_option maxRecDepth 100000 in
set_option maxHeartbeats 4000000 in
theorem Cut_yes_true (n : Nt) (a b : Int) (w : World) (A A' : Option Addr) (c c' : Nat) (S : Nat → Prop) (hS : ∀ b, S b → b < w.heap.size) (hd : NR w S A c A' c' n) (hnt : ntB n = true) (hap : areP a b = true) :
    Calls Try.prog 18 #[.agg #[.slice A n.q.length c, .slice A' n.ap.length c'], .int .i64 a, .int .i64 b, .bool true] w (NtPost S (⟨n.q, cutL n.ap (linkP a b) true⟩, 0) w) := by
  have hdh := Lib.hid hd
  replace hnt := Lib.hid hnt
  replace hap := Lib.hid hap
  clear hd
  have kN := heap_alloc_new w (.cells #[.slice A n.q.length c, .slice A' n.ap.length c'] 25)
  have hbV1 := bnew w (.cells #[.slice A n.q.length c, .slice A' n.ap.length c'] 25)
  obtain ⟨V1, hV1⟩ : ∃ V, (w).alloc (.cells #[.slice A n.q.length c, .slice A' n.ap.length c'] 25) = V := ⟨_, rfl⟩
  have hsV1 : V1.heap.size = w.heap.size + 1 := by rw [← hV1]; simp
  rw [hV1] at kN hbV1
  have kX := heap_alloc_new V1 (.cells #[.slice none 0 0, .slice none 0 0] 25)
  have hbV2 := bnew V1 (.cells #[.slice none 0 0, .slice none 0 0] 25)
  obtain ⟨V2, hV2⟩ : ∃ V, (V1).alloc (.cells #[.slice none 0 0, .slice none 0 0] 25) = V := ⟨_, rfl⟩
  have hsV2 : V2.heap.size = w.heap.size + 2 := by rw [← hV2]; simp; omega
  rw [hV2] at kX hbV2
  replace kN := blk_step kN hbV2
  rw [hsV1] at kX
  have hBV : Below w.heap.size w V2 := (hbV1).trans (hbV2.mono (by omega))
  clear hbV1 hbV2
  have hC := Lib.hid (Check_any n V2 A A' c c' w.heap.size (by omega) ((hdh.out.mono hS).keep (Kept.below hBV)))
  have hP := Lib.hid (areParties_any a b)
  have hQ := Lib.hid (pair_any a b)
  rw [show nchk n = 0 by unfold nchk; rw [hnt.out]; rfl] at hC
  rw [hap.out] at hP
  replace hBV := Lib.hid hBV
  replace kN := Lib.hid kN
  replace kX := Lib.hid kX
  replace hV1 := Lib.hid hV1
  replace hV2 := Lib.hid hV2
  replace hsV2 := Lib.hid hsV2
  clear hsV1
  obtain ⟨k, hk⟩ : ∃ k, linkP a b = k := ⟨_, rfl⟩
  rw [hk] at hQ
  have hok := Lib.hid (show okP k = true by rw [← hk]; exact okP_link hap.out)
  replace hk := Lib.hid hk
  refine (callsIn_wide (n := 6)).1 ?_
  have hro : Fence.wide.round = none := rfl
  refine callsIn_of_wp_marks Try.func18 rfl trivial ?_ hro
  simp only [Try.ntmps18, List.size_toArray, List.length_cons, List.length_nil, Nat.reduceAdd, Nat.reduceSub, Array.replicate_succ, Array.replicate_zero, List.push_toArray, List.append_toArray, List.nil_append, List.cons_append]
  gi_wp2_with (refine ⟨trivial, ?_⟩; gi_at_call 13; rw [hV1.out, hV2.out]; refine (callsIn_wide.2 hC.out).mono ?_)
  rintro e w1 ⟨rfl, hb⟩
  replace kN := Lib.hid (blk_step kN.out hb)
  replace kX := Lib.hid (blk_step kX.out hb)
  have hB1 := Lib.hid (hBV.out.trans (hb.mono hBV.out.size))
  have hsz1 := hb.size
  rw [hsV2.out] at hsz1
  clear hb hC hV1 hV2
  gi_wp2_with (refine ⟨trivial, ?_⟩; gi_at_call 34; refine (callsIn_wide.2 (hP.out _)).mono ?_)
  rintro e w2 ⟨rfl, rfl⟩
  gi_wp2_with (refine ⟨trivial, ?_⟩; gi_at_call 35; refine (callsIn_wide.2 (hQ.out _)).mono ?_)
  rintro e w3 ⟨rfl, hb⟩
  replace kN := blk_step kN.out hb
  replace kX := blk_step kX.out hb
  have hB3 := hB1.out.trans (hb.mono hB1.out.size)
  have hsz3 := hb.size
  clear hb hP hQ
  have hwl : w.heap.size < w3.heap.size := by omega
  have y0 : w3.cell? ⟨w.heap.size, 0, none⟩ = _ := cell_of_row w3 _ 0 _ _ _ kN
  have y1 : w3.cell? ⟨w.heap.size, 1, none⟩ = _ := cell_of_row w3 _ 1 _ _ _ kN
  have kL := heap_alloc_new w3 (.cells #[.int .i64 k.1, .int .i64 k.2] 55)
  have hbU1 := bnew w3 (.cells #[.int .i64 k.1, .int .i64 k.2] 55)
  obtain ⟨U1, hU1⟩ : ∃ V, (w3).alloc (.cells #[.int .i64 k.1, .int .i64 k.2] 55) = V := ⟨_, rfl⟩
  have hsU1 : U1.heap.size = w3.heap.size + 1 := by rw [← hU1]; simp
  rw [hU1] at kL hbU1
  have kP := heap_alloc_new U1 (.cells #[.slice none 0 0] 23)
  have hbU2 := bnew U1 (.cells #[.slice none 0 0] 23)
  obtain ⟨U2, hU2⟩ : ∃ V, (U1).alloc (.cells #[.slice none 0 0] 23) = V := ⟨_, rfl⟩
  have hsU2 : U2.heap.size = w3.heap.size + 2 := by rw [← hU2]; simp; omega
  rw [hU2] at kP hbU2
  replace kL := blk_step kL hbU2
  have kR := heap_alloc_new U2 (.cells #[.int .i64 k.1, .int .i64 k.2] 55)
  have hbU3 := bnew U2 (.cells #[.int .i64 k.1, .int .i64 k.2] 55)
  obtain ⟨U3, hU3⟩ : ∃ V, (U2).alloc (.cells #[.int .i64 k.1, .int .i64 k.2] 55) = V := ⟨_, rfl⟩
  have hsU3 : U3.heap.size = w3.heap.size + 3 := by rw [← hU3]; simp; omega
  rw [hU3] at kR hbU3
  replace kL := blk_step kL hbU3
  replace kP := blk_step kP hbU3
  rw [hsU1] at kP
  rw [hsU2] at kR
  have hBU : Below w3.heap.size w3 U3 := ((hbU1).trans (hbU2.mono (by omega))).trans (hbU3.mono (by omega))
  clear hbU1 hbU2 hbU3
  replace kN := blk_step kN (hBU.mono (Nat.le_refl _))
  replace kX := blk_step kX (hBU.mono (Nat.le_refl _))
  have hBX := hB3.trans (hBU.mono hB3.size)
  obtain ⟨v1, w5, hr5, ho5, hg5, hb5, h2b, hTb⟩ := append_link U3 w.heap.size 23 (.slice none 0 0) 0 [] (World.ownsRow_nil _ _ _ _) (fun _ => rfl) (w3.heap.size + 2) k kR (by omega) (by omega)
  rw [List.nil_append, Nat.zero_add] at ho5
  obtain ⟨g1, c1, rfl⟩ := ownsRow_succ ho5
  have hbl : Below U3.heap.size U3 w5 := ⟨hb5.os, hb5.tape, hb5.output, hb5.size, fun j hj => hg5.block j hj (by simp [Value.ownBlock])⟩
  have hs5 := hbl.size
  replace kN := blk_step kN hbl
  replace kX := blk_step kX hbl
  replace kP := blk_step kP hbl
  replace kL := blk_step kL hbl
  have hBb0 := hBX.trans (hbl.mono hBX.size)
  have p0 : w5.cell? ⟨w3.heap.size + 1, 0, none⟩ = _ := cell_of_row w5 _ 0 _ _ _ kP
  have fP := fun i => frozen_of_row w5 _ i _ _ kP
  have n0 : w5.cell? ⟨w.heap.size, 0, none⟩ = _ := cell_of_row w5 _ 0 _ _ _ kN
  have n1 : w5.cell? ⟨w.heap.size, 1, none⟩ = _ := cell_of_row w5 _ 1 _ _ _ kN
  have l0 : w5.cell? ⟨w3.heap.size, 0, none⟩ = _ := cell_of_row w5 _ 0 _ _ _ kL
  have l1 : w5.cell? ⟨w3.heap.size, 1, none⟩ = _ := cell_of_row w5 _ 1 _ _ _ kL
  have kPb : (w5.setCell ⟨w3.heap.size + 1, 0, none⟩ (.slice (some ⟨g1, 0, none⟩) 1 c1)).heap[w3.heap.size + 1]? = some (.cells #[.slice (some ⟨g1, 0, none⟩) 1 c1] 23 (0, 0)) := heap_setCell_same w5 (w3.heap.size + 1) 0 _ _ (.slice (some ⟨g1, 0, none⟩) 1 c1) kP
  have kNb := (heap_setCell_other w5 ⟨w3.heap.size + 1, 0, none⟩ w.heap.size (.slice (some ⟨g1, 0, none⟩) 1 c1) (by simp <;> omega)).trans kN
  have kXb := (heap_setCell_other w5 ⟨w3.heap.size + 1, 0, none⟩ (w.heap.size + 1) (.slice (some ⟨g1, 0, none⟩) 1 c1) (by simp <;> omega)).trans kX
  have hBb := hBb0.setCell (p := ⟨w3.heap.size + 1, 0, none⟩) (by simp <;> omega) (.slice (some ⟨g1, 0, none⟩) 1 c1)
  have hob : (w5.setCell ⟨w3.heap.size + 1, 0, none⟩ (.slice (some ⟨g1, 0, none⟩) 1 c1)).ownsRow w.heap.size 55 2 (.slice (some ⟨g1, 0, none⟩) 1 c1) 1 (LV [k]) :=
    ho5.kept (grownBy_setCell1 w5 (w3.heap.size + 1) 0 _) (.inr (by
      intro e
      obtain ⟨-, h⟩ := ho5
      rcases h with ⟨h, -⟩ | ⟨g', cap, cur, e2, -, hg', -⟩
      · cases h
      · injection e2 with e2
        injection e2 with e2
        injection e2 with e2
        simp [Value.ownBlock] at e
        rw [show g' = w3.heap.size + 1 by omega, kP] at hg'
        injection hg' with hg'
        injection hg' with _ e4 _
        exact absurd e4 (by decide)))
  have hszb : (w5.setCell ⟨w3.heap.size + 1, 0, none⟩ (.slice (some ⟨g1, 0, none⟩) 1 c1)).heap.size = w5.heap.size := by simp
  obtain ⟨Wb, hWb⟩ : ∃ Wb, w5.setCell ⟨w3.heap.size + 1, 0, none⟩ (.slice (some ⟨g1, 0, none⟩) 1 c1) = Wb := ⟨_, rfl⟩
  rw [hWb] at kPb kNb kXb hBb hob hszb
  have hszu : w3.heap.size + 3 ≤ Wb.heap.size := by omega
  replace hWb := Lib.hid hWb
  replace hszb := Lib.hid hszb
  replace hU1 := Lib.hid hU1
  replace hU2 := Lib.hid hU2
  replace hU3 := Lib.hid hU3
  replace hsU3 := Lib.hid hsU3
  clear hsU1 hsU2
  replace hr5 := Lib.hid hr5
  gi_wp2_with (gi_at_builtin; rw [hU1.out, hU2.out, hU3.out]; refine wpListIn_append_run _ rfl _ _ _ _ rfl _ _ rfl rfl _ _ hr5.out ?_)
  refine ⟨trivial, ?_⟩
  rw [hWb.out]
  refine (others_in Fence.wide _ trivial hro A' n.ap.length c' k _).mono ?_
  rintro e w6 ⟨rfl, rfl⟩
  have kS := heap_alloc_new Wb (.cells #[.slice A' n.ap.length c'] 23)
  have hbY1 := bnew Wb (.cells #[.slice A' n.ap.length c'] 23)
  obtain ⟨Y1, hY1⟩ : ∃ V, (Wb).alloc (.cells #[.slice A' n.ap.length c'] 23) = V := ⟨_, rfl⟩
  have hsY1 : Y1.heap.size = Wb.heap.size + 1 := by rw [← hY1]; simp
  rw [hY1] at kS hbY1
  have kK := heap_alloc_new Y1 (.cells #[.int .i64 k.1, .int .i64 k.2] 55)
  have hbY2 := bnew Y1 (.cells #[.int .i64 k.1, .int .i64 k.2] 55)
  obtain ⟨Y2, hY2⟩ : ∃ V, (Y1).alloc (.cells #[.int .i64 k.1, .int .i64 k.2] 55) = V := ⟨_, rfl⟩
  have hsY2 : Y2.heap.size = Wb.heap.size + 2 := by rw [← hY2]; simp; omega
  rw [hY2] at kK hbY2
  replace kS := blk_step kS hbY2
  rw [hsY1] at kK
  have hBY : Below Wb.heap.size Wb Y2 := (hbY1).trans (hbY2.mono (by omega))
  clear hbY1 hbY2
  have kP2 := blk_step kPb hBY
  have kN2 := blk_step kNb hBY
  have kX2 := blk_step kXb hBY
  have hBY2 := hBb.trans (hBY.mono hBb.size)
  have hoY := ownsRow_below hob hBY
  have hap4 := Lib.hid (show n.ap.length ≤ 4096 by
    have h2 : ∀ x ∈ n.ap, x ∈ links := fun x hx => (links_mem x).2 (apB_ok (ntB_iff.1 hnt.out).2.1 x hx)
    exact len_links n.ap (apB_pair (ntB_iff.1 hnt.out).2.1) h2)
  have hLr := (hdh.out.ap.mono hS).keep (Kept.below hBY2)
  have hI0 : CutI w w3.heap.size Wb.heap.size (Wb.heap.size + 1) #[.slice A n.q.length c, .slice A' n.ap.length c'] (.slice A' n.ap.length c') k [k] [] Y2 :=
    ⟨⟨⟨⟨⟨⟨_, kP2, hoY, fun h => absurd h (by simp)⟩, kN2⟩, kX2⟩, kS⟩, kK⟩, hBY2⟩
  replace hI0 := Lib.hid hI0
  replace hdh := Lib.hid hdh.out
  clear kP2 kN2 kX2 hoY kPb kNb kXb hob hBb hBY kN kX kP kL hBX hB3 y0 y1
  replace hY1 := Lib.hid hY1
  replace hY2 := Lib.hid hY2
  replace hsY2 := Lib.hid hsY2
  clear hsY1
  gi_wp2
  rw [hY1.out, hY2.out]
  have hsY := hsY2.out
  refine wpIn_rangeFunc_ownH hro (by omega) (gf := 46) (lb := #[.pointer (some ⟨Wb.heap.size, 0, none⟩), .pointer (some ⟨Wb.heap.size + 1, 0, none⟩)]) rfl trivial (enters_of Try.func46 (by kernel_rfl) rfl)
    (others_stops Fence.wide _ trivial hro (by omega) Wb.heap.size (Wb.heap.size + 1) w.heap.size c' n.ap k hap4.out A' Y2 hBY2.size kS kK hLr)
    KpN.trans (fun W l o o' hl ho hc _ => ⟨belowK_b (w := Y2) hBY2.size W l o o' hl ho hc ‹_›, World.putObj_heap_other (by omega), World.putObj_heap_other (by omega)⟩) (Below.refl _ _) (fun _ => rfl)
    (CutI w w3.heap.size Wb.heap.size (Wb.heap.size + 1) #[.slice A n.q.length c, .slice A' n.ap.length c'] (.slice A' n.ap.length c') k [k]) (fun _ _ _ => False) (cutI_own hBY2.size) (fun _ _ _ _ _ hs _ _ => hs) hI0.out
    (fun x a' W => ∃ Bx, W.heap[Bx]? = some (.cells #[.int .i64 x.1, .int .i64 x.2] 55 (0, 0)) ∧ a' = { tmps := #[.agg #[.slice A n.q.length c, .slice A' n.ap.length c'], .int .i64 a, .int .i64 b, .bool true, .pointer (some ⟨w.heap.size, 0, none⟩), undef, undef, undef, .pointer (some ⟨w.heap.size + 1, 0, none⟩), .int .i64 0, .pointer (some ⟨w3.heap.size, 0, none⟩), .pointer (some ⟨w3.heap.size + 1, 0, none⟩), .pointer (some ⟨Bx, 0, none⟩), .agg #[.slice A n.q.length c, .slice A' n.ap.length c'], .int .i64 0, .bool false, undef, .int .i64 a, .int .i64 b, .bool true, .bool false, undef, .int .i64 a, .int .i64 b, .agg #[.int .i64 k.1, .int .i64 k.2], .bool true, .slice none 0 0, .agg #[.int .i64 k.1, .int .i64 k.2], .slice (some ⟨w3.heap.size + 1 + 1, 0, none⟩) 1 1, .slice (some ⟨g1, 0, none⟩) 1 c1, .pointer (some ⟨w.heap.size, 1, none⟩), .slice A' n.ap.length c', .agg #[.int .i64 k.1, .int .i64 k.2], .func (.func 46) #[] #[.pointer (some ⟨Wb.heap.size, 0, none⟩), .pointer (some ⟨Wb.heap.size + 1, 0, none⟩)], .agg #[.int .i64 x.1, .int .i64 x.2], undef, undef, undef, undef, undef, undef, undef, undef, undef], defers := [] })
    (fun x a' _ X Y row hs hg hr => by obtain ⟨Bx, e2, e3⟩ := hs; exact ⟨Bx, cells_ownN (β := Unit) _ _ _ () X Y row e2 hg (fun r e => (hr r e).2), e3⟩)
    ?assign ?body ?done ?stop
  case assign =>
    rintro l pre x W K hI hK
    unfold lkV
    gi_wp2
    have hI2 := hI
    obtain ⟨⟨⟨⟨⟨-, bN⟩, bX⟩, bS⟩, bK⟩, hBW⟩ := hI
    exact hK _ _ ((KeepsOthers.alloc _ _).from _) (KpN.alloc _ hBW.size (Array.getElem?_eq_some_iff.1 bS).1 (Array.getElem?_eq_some_iff.1 bK).1) ((cutI_own (B := w.heap.size) (Nat.le_refl _)) pre W _ none hI2 (World.grownBy_alloc W _ none) (fun r e => by cases e)) ⟨W.heap.size, World.alloc_heap_new W _, rfl⟩
  case body =>
    rintro l pre x a' W hl ⟨r, hrl⟩ hI ⟨Bx, bX0, rfl⟩ hlt
    obtain ⟨⟨⟨⟨⟨⟨v, bP, hov, hnil⟩, bN⟩, bX⟩, bS⟩, bK⟩, hBW⟩ := hI
    have hlW := (Array.getElem?_eq_some_iff.1 hrl).1
    have p0 := bP.cell
    have fP := bP.frozen
    have x0 := cell_of_row W Bx 0 _ _ _ bX0
    have x1 := cell_of_row W Bx 1 _ _ _ bX0
    have hPl := (Array.getElem?_eq_some_iff.1 bP).1
    have hSl := (Array.getElem?_eq_some_iff.1 bS).1
    have hKl := (Array.getElem?_eq_some_iff.1 bK).1
    have hNl := (Array.getElem?_eq_some_iff.1 bN).1
    have hXl := (Array.getElem?_eq_some_iff.1 bX).1
    have hR := bnew W (.cells #[.int .i64 x.1, .int .i64 x.2] 55)
    have hkR := heap_alloc_new W (.cells #[.int .i64 x.1, .int .i64 x.2] 55)
    have hsW := hBW.size
    have ha4 := hap4.out
    obtain ⟨v', W1, hr, ho, hg, hb1, h2, hT⟩ := append_link (W.alloc (.cells #[.int .i64 x.1, .int .i64 x.2] 55)) w.heap.size 23 v ([k] ++ pre).length (LV ([k] ++ pre)) (ownsRow_below hov hR) hnil W.heap.size x hkR (by simp; omega) (by simp; omega)
    obtain ⟨Av, cv, rfl⟩ := row_formL hov
    obtain ⟨g', cap', rfl⟩ := ownsRow_succ ho
    obtain ⟨hv1, hv2, hr2, hk2, hb2⟩ := bP.appended (by decide) hov hsW (by omega) ho hg
    have f2 := hv1.frozen
    have c2 := hv1.cell
    have hszW : (W.alloc (.cells #[.int .i64 x.1, .int .i64 x.2] 55)).heap.size = W.heap.size + 1 := by simp
    have lS := h2 (Wb.heap.size + 1) _ _ (by omega) (blk_step bK hR)
    have lB := hT Wb.heap.size _ _ (by decide) (blk_step bS hR)
    have lN := hT w.heap.size _ _ (by decide) (blk_step bN hR)
    have lX := hT (w.heap.size + 1) _ _ (by decide) (blk_step bX hR)
    replace hr := Lib.hid hr
    replace hk2 := Lib.hid hk2
    replace hb2 := Lib.hid hb2
    replace hv2 := Lib.hid hv2
    replace hr2 := Lib.hid hr2
    clear hov hnil ho hg hb1 h2 hT bP hv1 bX0 hkR hR hszW hI0
    gi_wp2_with (gi_at_builtin; refine wpListIn_append_run _ rfl _ _ _ _ rfl _ _ rfl rfl _ _ hr.out ?_)
    have oth1 : ∀ (B : Nat) (o : Obj), B ≠ w3.heap.size + 1 → W1.heap[B]? = some o → (W1.setCell ⟨w3.heap.size + 1, 0, none⟩ (.slice (some ⟨g', 0, none⟩) (([k] ++ pre).length + 1) cap')).heap[B]? = some o := fun B o hne h => (heap_setCell_other W1 ⟨w3.heap.size + 1, 0, none⟩ B _ hne).trans h
    refine ⟨hk2.out.from _, ⟨hb2.out, (oth1 _ _ (by omega) lB).trans bS.symm, (oth1 _ _ (by omega) lS).trans bK.symm⟩, ⟨⟨⟨⟨⟨_, hv2.out, ?_, fun h => absurd h (by simp)⟩, oth1 _ _ (by omega) lN⟩, oth1 _ _ (by omega) lX⟩, oth1 _ _ (by omega) lB⟩, oth1 _ _ (by omega) lS⟩, hBW.trans hb2.out⟩
    have e1 : ([k] ++ (pre ++ [x])).length = ([k] ++ pre).length + 1 := by rw [← List.append_assoc, List.length_append]; rfl
    have e2 : LV ([k] ++ (pre ++ [x])) = LV ([k] ++ pre) ++ [.int .i64 x.1, .int .i64 x.2] := by rw [← List.append_assoc, LV_append ([k] ++ pre) [x]]; rfl
    have e3 : (W1.setCell ⟨w3.heap.size + 1, 0, none⟩ (.slice (some ⟨g', 0, none⟩) (([k] ++ pre).length + 1) cap')).ownsRow w.heap.size 55 2 (.slice (some ⟨g', 0, none⟩) (([k] ++ pre).length + 1) cap') ([k] ++ (pre ++ [x])).length (LV ([k] ++ (pre ++ [x]))) := by rw [e1, e2]; exact hr2.out
    exact e3
  case stop =>
    rintro D c pre W hD _ h _
    exact h.elim
  case done =>
    rintro D ys W hD rfl hI hK
    obtain ⟨⟨⟨⟨⟨⟨v, bP, hov, hnil⟩, bN⟩, bX⟩, bS⟩, bK⟩, hBW⟩ := hI
    have ha4 := hap4.out
    have hlo : (oth n.ap k).length ≤ n.ap.length := List.length_filter_le _ _
    obtain ⟨As, cs, rfl, hcon⟩ := Sort_own ([k] ++ oth n.ap k) (by simp; omega) W w.heap.size v hov hBW.size
    have p0 := bP.cell
    have hPl := (Array.getElem?_eq_some_iff.1 bP).1
    have hNl := (Array.getElem?_eq_some_iff.1 bN).1
    have hXl := (Array.getElem?_eq_some_iff.1 bX).1
    replace hcon := Lib.hid hcon
    clear hov hnil hI0
    gi_wp2_with (refine ⟨trivial, ?_⟩; gi_at_call 37; refine (callsIn_wide.2 hcon.out).mono ?_)
    rintro e w8 ⟨rfl, d, hd1, hd2, hd3, hd4, hd5, hd6, hd7⟩
    have hdc : d = cutL n.ap k true := cut_sorted (ntB_iff.1 hnt.out).2.1 hok.out (show d.Perm (cutD n.ap k true) from hd2) hd3
    have bP8 := hd6 _ _ _ (by decide) bP
    have bN8 := hd6 _ _ _ (by decide) bN
    have bX8 := hd6 _ _ _ (by decide) bX
    have hK8 := hd7.same D _ hK rfl
    have hBW8 := hBW.trans (hd5.mono (Nat.le_refl _))
    have p0 : w8.cell? ⟨w3.heap.size + 1, 0, none⟩ = _ := cell_of_row w8 _ 0 _ _ _ bP8
    have n0 : w8.cell? ⟨w.heap.size, 0, none⟩ = _ := cell_of_row w8 _ 0 _ _ _ bN8
    have n1 : w8.cell? ⟨w.heap.size, 1, none⟩ = _ := cell_of_row w8 _ 1 _ _ _ bN8
    have x0 : w8.cell? ⟨w.heap.size + 1, 0, none⟩ = _ := cell_of_row w8 _ 0 _ _ _ bX8
    have x1 : w8.cell? ⟨w.heap.size + 1, 1, none⟩ = _ := cell_of_row w8 _ 1 _ _ _ bX8
    have fN := fun i => frozen_of_row w8 _ i _ _ bN8
    have fX := fun i => frozen_of_row w8 _ i _ _ bX8
    have bN9 := heap_setCell_same w8 w.heap.size 1 _ _ (.slice As ([k] ++ oth n.ap k).length cs) bN8
    have bX9 := heap_setCell_same ((w8.setCell ⟨w.heap.size, 1, none⟩ (.slice As ([k] ++ oth n.ap k).length cs)).setCell ⟨w.heap.size + 1, 0, none⟩ (.slice A n.q.length c)) (w.heap.size + 1) 1 _ _ (.slice As ([k] ++ oth n.ap k).length cs) (heap_setCell_same (w8.setCell ⟨w.heap.size, 1, none⟩ (.slice As ([k] ++ oth n.ap k).length cs)) (w.heap.size + 1) 0 _ _ (.slice A n.q.length c) ((heap_setCell_other w8 ⟨w.heap.size, 1, none⟩ (w.heap.size + 1) (.slice As ([k] ++ oth n.ap k).length cs) (by simp)).trans bX8))
    have hK9 := (KeepsOthers.setCell ((w8.setCell ⟨w.heap.size, 1, none⟩ (.slice As ([k] ++ oth n.ap k).length cs)).setCell ⟨w.heap.size + 1, 0, none⟩ (.slice A n.q.length c)) ⟨w.heap.size + 1, 1, none⟩ (.slice As ([k] ++ oth n.ap k).length cs)).same D _ ((KeepsOthers.setCell (w8.setCell ⟨w.heap.size, 1, none⟩ (.slice As ([k] ++ oth n.ap k).length cs)) ⟨w.heap.size + 1, 0, none⟩ (.slice A n.q.length c)).same D _ ((KeepsOthers.setCell w8 ⟨w.heap.size, 1, none⟩ (.slice As ([k] ++ oth n.ap k).length cs)).same D _ hK8 rfl) rfl) rfl
    have hB9 := ((hBW8.setCell (p := ⟨w.heap.size, 1, none⟩) (Nat.le_refl _) (.slice As ([k] ++ oth n.ap k).length cs)).setCell (p := ⟨w.heap.size + 1, 0, none⟩) (by simp) (.slice A n.q.length c)).setCell (p := ⟨w.heap.size + 1, 1, none⟩) (by simp) (.slice As ([k] ++ oth n.ap k).length cs)
    have ho8 : w8.ownsRow w.heap.size 55 2 (.slice As d.length cs) d.length (LV d) := by rw [hd1] at hd4 ⊢; exact hd4
    have hl8 := LR.ofRow (R := fun g => (g ≠ w.heap.size ∧ g ≠ w.heap.size + 1) ∧ g ≠ D) ho8 (fun g hg => by
      obtain ⟨cur, hc⟩ := hg
      refine ⟨⟨fun e => ?_, fun e => ?_⟩, fun e => ?_⟩ <;> subst e
      · rw [bN8] at hc; injection hc with hc; injection hc with _ e4 _; exact absurd e4 (by decide)
      · rw [bX8] at hc; injection hc with hc; injection hc with _ e4 _; exact absurd e4 (by decide)
      · rw [hK8] at hc; cases hc)
      (fun x hx => by
        rw [hdc] at hx
        have h := okP_iff.1 ((cutL_mem _ _ _ _).1 hx).1
        unfold I64
        omega)
    replace hK9 := Lib.hid hK9
    replace hB9 := Lib.hid hB9
    replace bX9 := Lib.hid bX9
    replace hl8 := Lib.hid hl8
    clear bP8 bN8 bX8 hK8 bN9 hd4 ho8 bP bN bX bS bK
    gi_wp2
    refine ⟨by simp, .inl ⟨_, _, rfl, run_takeDeferred hK9.out, ?_⟩⟩
    have hc0 := cell_kept (cell_of_row _ _ 0 _ _ _ bX9.out) (grownBy_putObj' _ D (.deferred none)) (fun r e => by cases e; exact ⟨_, hK9.out, rfl⟩)
    have hc1 := cell_kept (cell_of_row _ _ 1 _ _ _ bX9.out) (grownBy_putObj' _ D (.deferred none)) (fun r e => by cases e; exact ⟨_, hK9.out, rfl⟩)
    have hBF : Below w.heap.size w ((((w8.setCell ⟨w.heap.size, 1, none⟩ (.slice As ([k] ++ oth n.ap k).length cs)).setCell ⟨w.heap.size + 1, 0, none⟩ (.slice A n.q.length c)).setCell ⟨w.heap.size + 1, 1, none⟩ (.slice As ([k] ++ oth n.ap k).length cs)).putObj D (.deferred none)) := hB9.out.trans (belowK_b (w := w) (Nat.le_refl _) _ D _ _ (by have := hBY2.size; omega) hK9.out rfl rfl)
    have hll : (cutL n.ap k true).length = ((oth n.ap k).length + 1) := by rw [← hdc, hd1]; simp
    have hKF : Kept (fun g => (g ≠ w.heap.size ∧ g ≠ w.heap.size + 1) ∧ g ≠ D) w8 ((((w8.setCell ⟨w.heap.size, 1, none⟩ (.slice As ((oth n.ap k).length + 1) cs)).setCell ⟨w.heap.size + 1, 0, none⟩ (.slice A n.q.length c)).setCell ⟨w.heap.size + 1, 1, none⟩ (.slice As ((oth n.ap k).length + 1) cs)).putObj D (.deferred none)) :=
      (((Kept.set fun g hg => hg.1.1).trans (Kept.set fun g hg => hg.1.2)).trans (Kept.set fun g hg => hg.1.2)).trans fun g o hg => World.cell?_of_block (World.putObj_heap_other hg.2)
    have hzF : ((((w8.setCell ⟨w.heap.size, 1, none⟩ (.slice As ((oth n.ap k).length + 1) cs)).setCell ⟨w.heap.size + 1, 0, none⟩ (.slice A n.q.length c)).setCell ⟨w.heap.size + 1, 1, none⟩ (.slice As ((oth n.ap k).length + 1) cs)).putObj D (.deferred none)).heap.size = w8.heap.size := by simp
    simp only [List.length_append, List.length_cons, List.length_nil, Nat.zero_add, Nat.add_comm 1] at hc0 hc1 hBF
    refine ⟨.tuple #[.agg #[.slice A n.q.length c, .slice As ((oth n.ap k).length + 1) cs], .int .i64 0], ?_, ?_⟩
    · simp [results, Try.f18, go_sem, hc0, hc1]
    · rw [hk.out]
      refine ⟨hBF, A, c, As, cs, by rw [hll], ⟨hdh.out.cap, hdh.out.max, ?_, hl8.out.2.1, (hdh.out.q.keep (Kept.of hS hBF)).mono fun g hg => .inl hg, ?_⟩⟩
      · rw [← hdc]; exact hl8.out.1
      · rw [← hdc]
        exact ((hl8.out.2.2.mono fun g hg => hg).keep (fun g o hg => hKF g o hg.2)).mono fun g hg => .inr ⟨hg.1.1, by rw [hzF]; exact hg.1.2⟩

theorem Cut_any (n : Nt) (a b : Int) (on : Bool) (w : World) (A A' : Option Addr) (c c' : Nat) (S : Nat → Prop) (hS : ∀ b, S b → b < w.heap.size) (hd : NR w S A c A' c' n) :
    Calls Try.prog 18 #[.agg #[.slice A n.q.length c, .slice A' n.ap.length c'], .int .i64 a, .int .i64 b, .bool on] w (NtPost S (cutN n a b on) w) := by
  cases h1 : ntB n with
  | false => exact Cut_no n a b on w A A' c c' S hS hd (.inl h1)
  | true =>
    cases h2 : areP a b with
    | false => exact Cut_no n a b on w A A' c c' S hS hd (.inr h2)
    | true =>
      rw [cutN_ok h1 h2]
      cases on with
      | false => exact Cut_yes_false n a b w A A' c c' S hS hd h1 h2
      | true => exact Cut_yes_true n a b w A A' c c' S hS hd h1 h2
end Go.Proofs.Ytpmmahlmfcbbbaa
