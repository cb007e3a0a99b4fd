/- Read: the contract. -/
import Derived.Test.YtalkbccofiiojaaBw
namespace Go.Proofs.Ytalkbccofiiojaa
open Go.RowKit Go.Shelf

theorem lastW_length (ps : List Wr) (a : Int) (b0 : List UInt8) (h0 : b0.length = 128) (h : ∀ x ∈ ps, x.data.length = 128) : (lastW ps a b0).length = 128 := by
  induction ps generalizing b0 with
  | nil => exact h0
  | cons x r ih =>
    show (lastW r a (if x.pl = a then x.data else b0)).length = 128
    refine ih _ ?_ fun y hy => h y (by simp [hy])
    split
    · exact h x (by simp)
    · exact h0
theorem readL_length {d : Dk} {a : Int} (h : chkB d = true) (ha : hasB d a = true) : (readL d a).length = 128 := by
  rw [chkB_iff] at h
  rw [hasB_iff] at ha
  refine lastW_length _ _ _ ?_ fun x hx => (h.2.2.2.2.2.2 x hx).2
  have hlt : a.toNat < d.secs.length := by omega
  rw [List.getD_eq_getElem?_getD, List.getElem?_eq_getElem hlt]
  exact h.2.2.2.2.2.1 _ (List.getElem_mem hlt)

/-- What Read gives. -/
def ReadPost (d : Dk) (a : Int) (w : World) (e : Ending) (w' : World) : Prop :=
  Below w.heap.size w w' ∧ if (runB d && hasB d a) = true then ∃ g, e = .returned (.tuple #[.slice (some ⟨g, 0, none⟩) 128 128, .int .i64 0]) ∧ w.heap.size ≤ g ∧ DB w' g (readL d a)
  else e = .returned (.tuple #[.slice none 0 0, .int .i64 40])

set_option maxRecDepth 100000 in
set_option maxHeartbeats 2000000 in
theorem Read_no (d : Dk) (a : Int) (w : World) (A A' : Option Addr) (c c' : Nat) (hd : DR w (· < w.heap.size) A c A' c' d) (hno : (runB d && hasB d a) = false) :
    Calls Try.prog 21 #[.agg #[.slice A d.secs.length c, .slice A' d.pend.length c', .int .i64 d.left, .bool d.stop], .int .i64 a] w fun e w' => e = .returned (.tuple #[.slice none 0 0, .int .i64 40]) ∧ Below w.heap.size w w' := by
  have hd' := Lib.hid hd
  have hno' := Lib.hid hno
  clear hd hno
  go_enter Try.func21, Try.ntmps21
  go_wp2_with fail
  have hB0 := ((((Below.refl _ w).alloc (Nat.le_refl _) (.cells #[.slice A d.secs.length c, .slice A' d.pend.length c', .int .i64 d.left, .bool d.stop] 25)).alloc (by simp) (.cells #[.int .i64 a] 3)).alloc (by simp; omega) (.cells #[.slice none 0 0] 35)).alloc (by simp; omega) (.cells #[.int .i64 0] 28)
  refine (runs_any d _ A A' c c' w.heap.size (by simp; omega) (hd'.out.keep (Kept.below hB0))).mono ?_
  rintro e w1 ⟨rfl, hb1⟩
  have hB1 := Lib.hid (hB0.trans (hb1.mono hB0.size))
  have hB0' := Lib.hid hB0
  obtain ⟨z0, z1⟩ := bcell hb1
  have hz := hb1.size
  have hC1 := Lib.hid hb1
  simp only [World.size_alloc] at z0 z1 hz
  clear hB0 hb1
  cases hr : runB d with
  | false =>
    clear hr
    go_wp2_with fail
    exact bodyPost_ret (v := .tuple #[.slice none 0 0, .int .i64 40]) (by simp [results, Try.results21, go_sem, z0]) rfl ⟨rfl, (hB1.out.setCell (by simp; omega) _).setCell (by simp; omega) _⟩
  | true =>
    have hh : hasB d a = false := by have := hno'.out; rw [hr] at this; simpa using this
    clear hr
    go_wp2_with fail
    clear z0 z1
    refine (has_any d a _ A A' c c').mono ?_
    rintro e w2 ⟨rfl, hb2⟩
    rw [hh]
    have hB2 := Lib.hid (hB1.out.trans (hb2.mono hB1.out.size))
    obtain ⟨z0, z1⟩ := bcell (hC1.out.trans (hb2.mono hC1.out.size))
    simp only [World.size_alloc] at z0 z1
    clear hb2 hh
    go_wp2_with fail
    exact bodyPost_ret (v := .tuple #[.slice none 0 0, .int .i64 40]) (by simp [results, Try.results21, go_sem, z0]) rfl ⟨rfl, (hB2.out.setCell (by simp; omega) _).setCell (by simp; omega) _⟩

theorem cells_own {β : Type} (B : Nat) (cs : Array Value) (t : TypeId) : Own (fun (_ : β) W => W.heap[B]? = some (.cells cs t (0, 0))) := fun _ X Y row hs hg hrow =>
  (hg.block B (Array.getElem?_eq_some_iff.1 hs).1 (fun e' => by obtain ⟨o, ho, hc⟩ := hrow B e'.symm; rw [hs] at ho; cases ho; cases hc)).trans hs

/-- Between two rounds of Read's loop. -/
def ReadI (d : Dk) (a : Int) (w : World) (A A' : Option Addr) (c c' z : Nat) (pre : List (Fin d.pend.length)) (W : World) : Prop :=
  (((((∀ y ∈ pre, (d.pend[y.1]'y.2).pl ≠ a) ∧ W.heap[w.heap.size]? = some (.cells #[.slice A d.secs.length c, .slice A' d.pend.length c', .int .i64 d.left, .bool d.stop] 25 (0, 0))) ∧ W.heap[w.heap.size + 1]? = some (.cells #[.int .i64 a] 3 (0, 0))) ∧
    W.heap[w.heap.size + 1 + 1]? = some (.cells #[.slice none 0 0] 35 (0, 0))) ∧ W.heap[w.heap.size + 1 + 1 + 1]? = some (.cells #[.int .i64 0] 28 (0, 0))) ∧ (Below w.heap.size w W ∧ z < W.heap.size)
/-- A round has returned. -/
def ReadX (d : Dk) (a : Int) (w : World) (c : Code) (pre : List (Fin d.pend.length)) (W : World) : Prop :=
  (∃ (k : Fin d.pend.length) (pre' : List (Fin d.pend.length)) (g : Nat), (c = .ret ∧ pre = pre' ++ [k] ∧ (∀ y ∈ pre', (d.pend[y.1]'y.2).pl ≠ a) ∧ (d.pend[k.1]'k.2).pl = a ∧ w.heap.size ≤ g) ∧
    W.heap[w.heap.size + 1 + 1]? = some (.cells #[.slice (some ⟨g, 0, none⟩) 128 128] 35 (0, 0)) ∧ W.heap[w.heap.size + 1 + 1 + 1]? = some (.cells #[.int .i64 0] 28 (0, 0)) ∧ DB W g (pad (d.pend[k.1]'k.2).data)) ∧ Below w.heap.size w W
theorem readI_own {d : Dk} {a : Int} {w : World} {A A' : Option Addr} {c c' z B : Nat} (hB : w.heap.size ≤ B) : OwnFrom B (ReadI d a w A A' c c' z) :=
  OwnFrom.and (OwnFrom.and (OwnFrom.and (OwnFrom.and (OwnFrom.and (ownFrom_pure _ _) (Own.from (cells_own _ _ _) _)) (Own.from (cells_own _ _ _) _)) (Own.from (cells_own _ _ _) _)) (Own.from (cells_own _ _ _) _)) (OwnFrom.and (ownFrom_below (Nat.le_refl _) hB) (fun _ _ _ _ hs hg _ => Nat.lt_of_lt_of_le hs hg.size))
theorem readX_own {d : Dk} {a : Int} {w : World} {B : Nat} (hB : w.heap.size ≤ B) (c : Code) : OwnFrom B (ReadX d a w c) :=
  OwnFrom.and (fun s X Y row hs hg hr => by
    obtain ⟨k, pre', g, h, h1, h2, h3⟩ := hs
    exact ⟨k, pre', g, h, cells_own (β := Unit) _ _ _ () X Y row h1 hg (fun r e => (hr r e).2), cells_own (β := Unit) _ _ _ () X Y row h2 hg (fun r e => (hr r e).2), cells_own (β := Unit) _ _ _ () X Y row h3 hg (fun r e => (hr r e).2)⟩) (ownFrom_below (Nat.le_refl _) hB)
theorem keepsOthers_below {W W' : World} (h : Below W.heap.size W W') : KeepsOthers W W' := ⟨h.size, fun k _ hk _ => (h.block k (Array.getElem?_eq_some_iff.1 hk).1).trans hk⟩
/-- A cell of a block that is known whole. -/
theorem cell_of {W : World} {B i : Nat} {cs : Array Value} {t : TypeId} {v : Value} (h : W.heap[B]? = some (.cells cs t (0, 0))) (hv : cs[i]? = some v) : W.cell? ⟨B, i, none⟩ = some v := (cell_of_row W B i cs t _ h).trans hv
theorem frozen_of {W : World} {B : Nat} {cs : Array Value} {t : TypeId} (h : W.heap[B]? = some (.cells cs t (0, 0))) (i : Nat) : W.frozen? ⟨B, i, none⟩ = false := frozen_of_row W B i _ t h
theorem set_one {W : World} {B : Nat} {v u : Value} {t : TypeId} (h : W.heap[B]? = some (.cells #[v] t (0, 0))) : (W.setCell ⟨B, 0, none⟩ u).heap[B]? = some (.cells #[u] t (0, 0)) := by
  rw [heap_setCell_same W B 0 _ t u h]; rfl
theorem set_other {W : World} {B B' : Nat} (o : Nat) {u : Value} (h : B ≠ B') : (W.setCell ⟨B', o, none⟩ u).heap[B]? = W.heap[B]? := heap_setCell_other W ⟨B', o, none⟩ B u h

attribute [local go_sem] Oper.semAt_some
set_option maxRecDepth 100000 in
set_option maxHeartbeats 4000000 in
theorem Read_yes (d : Dk) (a : Int) (w : World) (A A' : Option Addr) (c c' : Nat) (hd : DR w (· < w.heap.size) A c A' c' d) (hr : runB d = true) (hh : hasB d a = true) :
    Calls Try.prog 21 #[.agg #[.slice A d.secs.length c, .slice A' d.pend.length c', .int .i64 d.left, .bool d.stop], .int .i64 a] w fun e w' => (∃ g, e = .returned (.tuple #[.slice (some ⟨g, 0, none⟩) 128 128, .int .i64 0]) ∧ w.heap.size ≤ g ∧ DB w' g (readL d a)) ∧ Below w.heap.size w w' := by
  have hd' := Lib.hid hd
  have hr' := Lib.hid hr
  have hh' := Lib.hid hh
  clear hd hr hh
  refine (callsIn_wide (n := 6)).1 ?_
  have hro : Fence.wide.round = none := rfl
  refine callsIn_of_wp_marks Try.func21 rfl trivial ?_ hro
  simp only [Try.ntmps21, List.size_toArray, List.length_cons, List.length_nil, Nat.reduceAdd, Nat.reduceSub, Array.replicate_succ, Array.replicate_zero, List.push_toArray, List.append_toArray, List.nil_append, List.cons_append]
  have hB0 := ((((Below.refl _ w).alloc (Nat.le_refl _) (.cells #[.slice A d.secs.length c, .slice A' d.pend.length c', .int .i64 d.left, .bool d.stop] 25)).alloc (by simp) (.cells #[.int .i64 a] 3)).alloc (by simp; omega) (.cells #[.slice none 0 0] 35)).alloc (by simp; omega) (.cells #[.int .i64 0] 28)
  have hB0' := Lib.hid hB0
  clear hB0
  gi_wp2_with (refine ⟨trivial, ?_⟩; gi_at_call 31; refine (callsIn_wide.2 (runs_any d _ A A' c c' w.heap.size (by simp; omega) (hd'.out.keep (Kept.below hB0'.out)))).mono ?_)
  rintro e w1 ⟨rfl, hb1⟩
  rw [hr'.out]
  have hB1 := Lib.hid (hB0'.out.trans (hb1.mono hB0'.out.size))
  obtain ⟨z0, z1⟩ := bcell hb1
  have hz := hb1.size
  have hC1 := Lib.hid hb1
  simp only [World.size_alloc] at z0 z1 hz
  clear hb1
  gi_wp2_with (refine ⟨trivial, ?_⟩; gi_at_call 30; refine (callsIn_wide.2 (has_any d a _ A A' c c')).mono ?_)
  rintro e w2 ⟨rfl, hb2⟩
  rw [hh'.out]
  have hB2 := Lib.hid (hB1.out.trans (hb2.mono hB1.out.size))
  have hC2 := Lib.hid (hC1.out.trans (hb2.mono hC1.out.size))
  clear z0 z1
  obtain ⟨z0, z1⟩ := bcell hC2.out
  simp only [World.size_alloc] at z0 z1
  have hz2 := hb2.size
  clear hb2
  gi_wp2_with (refine ⟨trivial, ?_⟩; gi_at_call 33; refine (backward_in Fence.wide _ trivial hro A' d.pend.length c' _).mono ?_)
  rintro e w3 ⟨rfl, rfl⟩
  gi_wp2
  have bD : w2.heap[w.heap.size]? = some (.cells #[.slice A d.secs.length c, .slice A' d.pend.length c', .int .i64 d.left, .bool d.stop] 25 (0, 0)) := by
    rw [hC2.out.block _ (by simp; omega)]
    rw [Below.heap_alloc _ _ _ (by simp; omega), Below.heap_alloc _ _ _ (by simp; omega), Below.heap_alloc _ _ _ (by simp)]
    exact World.alloc_heap_new w _
  have bA : w2.heap[w.heap.size + 1]? = some (.cells #[.int .i64 a] 3 (0, 0)) := by
    rw [hC2.out.block _ (by simp)]
    rw [Below.heap_alloc _ _ _ (by simp), Below.heap_alloc _ _ _ (by simp)]
    have := World.alloc_heap_new (w.alloc (.cells #[.slice A d.secs.length c, .slice A' d.pend.length c', .int .i64 d.left, .bool d.stop] 25)) (.cells #[.int .i64 a] 3)
    simpa only [World.size_alloc] using this
  have b4 : w2.heap[w.heap.size + 1 + 1]? = some (.cells #[.slice none 0 0] 35 (0, 0)) := by
    rw [hC2.out.block _ (by simp)]
    rw [Below.heap_alloc _ _ _ (by simp)]
    have := World.alloc_heap_new ((w.alloc (.cells #[.slice A d.secs.length c, .slice A' d.pend.length c', .int .i64 d.left, .bool d.stop] 25)).alloc (.cells #[.int .i64 a] 3)) (.cells #[.slice none 0 0] 35)
    simpa only [World.size_alloc] using this
  have b5 : w2.heap[w.heap.size + 1 + 1 + 1]? = some (.cells #[.int .i64 0] 28 (0, 0)) := by
    rw [hC2.out.block _ (by simp)]
    have := World.alloc_heap_new (((w.alloc (.cells #[.slice A d.secs.length c, .slice A' d.pend.length c', .int .i64 d.left, .bool d.stop] 25)).alloc (.cells #[.int .i64 a] 3)).alloc (.cells #[.slice none 0 0] 35)) (.cells #[.int .i64 0] 28)
    simpa only [World.size_alloc] using this
  obtain ⟨b, off, Ad, Cp, hL⟩ := hd'.out.pend.lies
  have hs2 : w.heap.size + 4 ≤ w2.heap.size := by omega
  have hB3 : Below w.heap.size w (w2.alloc (.cells #[.slice A' d.pend.length c'] 23)) := hB2.out.alloc (by omega) _
  have hs3 : (w2.alloc (.cells #[.slice A' d.pend.length c'] 23)).heap.size = w2.heap.size + 1 := by simp
  have hI3 : ReadI d a w A A' c c' w2.heap.size [] (w2.alloc (.cells #[.slice A' d.pend.length c'] 23)) := by
    have hx := fun (b : Nat) (hb : b < w2.heap.size) => Below.heap_alloc w2 (.cells #[.slice A' d.pend.length c'] 23) b hb
    exact ⟨⟨⟨⟨⟨by simp, (hx _ (by omega)).trans bD⟩, (hx _ (by omega)).trans bA⟩, (hx _ (by omega)).trans b4⟩, (hx _ (by omega)).trans b5⟩, hB3, by simp⟩
  have hbx : (w2.alloc (.cells #[.slice A' d.pend.length c'] 23)).cell? ⟨w2.heap.size, 0, none⟩ = some (.slice A' d.pend.length c') := cell_of (World.alloc_heap_new w2 _) rfl
  have hrun := (runB_iff.1 hr'.out).1
  have hchk := chkB_iff.1 hrun
  obtain ⟨W0, hW0⟩ : ∃ W0, w2.alloc (.cells #[.slice A' d.pend.length c'] 23) = W0 := ⟨_, rfl⟩
  rw [hW0] at hB3 hs3 hI3 hbx ⊢
  clear hW0 bD bA b4 b5 z0 z1
  have hchk' := Lib.hid hchk
  have hrun' := Lib.hid hrun
  have hp4 := hchk.2.2.1
  clear hchk hrun
  refine wpIn_rangeFunc_ownH hro (by omega) (gf := 38) (lb := #[.pointer (some ⟨w2.heap.size, 0, none⟩)]) rfl trivial (enters_of Try.func38 (by kernel_rfl) rfl)
    (back_stops Fence.wide _ trivial hro (by omega) w2.heap.size w.heap.size b off c' d.pend Ad Cp hp4 A' W0 (by omega) (by omega) hbx (fun hp => by
      obtain ⟨e, hb, hl⟩ := hL hp
      exact ⟨e, hb, hl.keep hb hB3⟩))
    KpB.trans (fun W l o o' hl ho hc _ => ⟨belowK_b (w := W0) (by omega) W l o o' hl ho hc ‹_›, World.putObj_heap_other (by omega)⟩) (Below.refl _ _) (fun _ => rfl)
    (ReadI d a w A A' c c' w2.heap.size) (ReadX d a w) (readI_own (by omega)) (readX_own (by omega)) hI3
    (fun x a' W => ∃ Bx, w.heap.size + 1 + 1 + 1 < Bx ∧ W.heap[Bx]? = some (.cells #[.int .i64 (d.pend[x.1]'x.2).pl, .slice (Ad x) (d.pend[x.1]'x.2).data.length (Cp x)] 54 (0, 0)) ∧ a' = { tmps := #[.agg #[.slice A d.secs.length c, .slice A' d.pend.length c', .int .i64 d.left, .bool d.stop], .int .i64 a, .pointer (some ⟨w.heap.size, 0, none⟩), .pointer (some ⟨w.heap.size + 1, 0, none⟩), .pointer (some ⟨w.heap.size + 1 + 1, 0, none⟩), .pointer (some ⟨w.heap.size + 1 + 1 + 1, 0, none⟩), .pointer (some ⟨Bx, 0, none⟩), .agg #[.slice A d.secs.length c, .slice A' d.pend.length c', .int .i64 d.left, .bool d.stop], .bool true, .bool false, .bool false, .agg #[.slice A d.secs.length c, .slice A' d.pend.length c', .int .i64 d.left, .bool d.stop], .int .i64 a, .bool true, .bool false, .bool false, .pointer (some ⟨w.heap.size, 1, none⟩), .slice A' d.pend.length c', .func (.func 38) #[] #[.pointer (some ⟨w2.heap.size, 0, none⟩)], .agg #[.int .i64 (d.pend[x.1]'x.2).pl, .slice (Ad x) (d.pend[x.1]'x.2).data.length (Cp x)], undef, undef, undef, undef, undef, undef, undef, undef, undef, undef, undef, undef, undef], defers := [] })
    (fun x a' _ X Y row hs hg hr => by obtain ⟨Bx, e1, e2, e3⟩ := hs; exact ⟨Bx, e1, cells_own (β := Unit) _ _ _ () X Y row e2 hg (fun r e => (hr r e).2), e3⟩)
    ?assign ?body ?done ?stop
  case assign =>
    rintro l pre x W K hI hK
    unfold wrV
    gi_wp2
    have hs : w.heap.size + 1 + 1 + 1 < W.heap.size := (Array.getElem?_eq_some_iff.1 hI.1.2).1
    exact hK _ _ ((KeepsOthers.alloc _ _).from _) ⟨(Below.refl _ W).alloc (by omega) _, Below.heap_alloc _ _ _ hI.2.2⟩ ((readI_own (B := w.heap.size) (Nat.le_refl _)) pre W _ none hI (World.grownBy_alloc W _ none) (fun r e => by cases e)) ⟨W.heap.size, hs, World.alloc_heap_new W _, rfl⟩
  case body =>
    rintro l pre x a' W hl ⟨r, hrl⟩ hI ⟨Bx, hBx, bX, rfl⟩ hlt
    have hlW := (Array.getElem?_eq_some_iff.1 hrl).1
    obtain ⟨⟨⟨⟨⟨hne, bD⟩, bA⟩, b4⟩, b5⟩, hBW, hzW⟩ := hI
    have cA := cell_of (i := 0) bA rfl
    have cx0 := cell_of (i := 0) bX rfl
    have cx1 := cell_of (i := 1) bX rfl
    have c4 := cell_of (i := 0) b4 rfl
    have c5 := cell_of (i := 0) b5 rfl
    have f4 := frozen_of b4 0
    have f5 := frozen_of b5 0
    by_cases hpl : (d.pend[x.1]'x.2).pl = a
    · have hq : ((d.pend[x.1]'x.2).pl == a) = true := by rw [hpl]; simp
      have hpl' := Lib.hid hpl
      have hrow := ((hL (by have := x.2; omega)).2.2.keep (hL (by have := x.2; omega)).2.1 hBW).row x.1 x.2
      have hS := Lib.hid (sector_any (d.pend[x.1]'x.2).data W (Ad x) (Cp x) (· < w.heap.size) (fun g hg => Nat.lt_of_lt_of_le hg hBW.size) hrow.2.2.1)
      have hL1 := hrow.1
      have hL2 := hrow.2.1
      clear hpl hrow
      gi_wp2_with (refine ⟨trivial, ?_⟩; gi_at_call 29; refine (CallsIn.inRound l (callsIn_wide.2 hS.out)).mono ?_)
      rintro e w5 ⟨rfl, hDB, hb5⟩
      have s4 := (Array.getElem?_eq_some_iff.1 b4).1
      have s5 := (Array.getElem?_eq_some_iff.1 b5).1
      have b4' := (hb5.block _ s4).trans b4
      have b5' := (hb5.block _ s5).trans b5
      have hz5 := hb5.size
      clear c4 c5 f4 f5
      have c4 := cell_of (i := 0) b4' rfl
      have c5 := cell_of (i := 0) b5' rfl
      have f4 := frozen_of b4' 0
      have f5 := frozen_of b5' 0
      have hk5 := Lib.hid (keepsOthers_below hb5)
      have hb5' := Lib.hid hb5
      have hD' := Lib.hid hDB
      have e4 := Lib.hid (set_one (u := .slice (some ⟨W.heap.size, 0, none⟩) 128 128) b4')
      have hb5W : Hid (Below w.heap.size w ((w5.setCell ⟨w.heap.size + 1 + 1, 0, none⟩ (.slice (some ⟨W.heap.size, 0, none⟩) 128 128)).setCell ⟨w.heap.size + 1 + 1 + 1, 0, none⟩ (.int .i64 0))) :=
        (((hBW.trans (hb5.mono hBW.size)).setCell (p := ⟨w.heap.size + 1 + 1, 0, none⟩) (by simp; omega) _).setCell (p := ⟨w.heap.size + 1 + 1 + 1, 0, none⟩) (by simp; omega) _)
      clear hb5 hDB b4 b5 bD bA bX b4' cA cx0 cx1 hS
      gi_wp2
      refine ⟨((hk5.out.trans (KeepsOthers.setCell _ _ _)).trans (KeepsOthers.setCell _ _ _)).from _, ⟨x, pre, W.heap.size, ⟨rfl, rfl, hne, hpl'.out, hBW.size⟩, ?_, ?_, ?_⟩, hb5W.out⟩
      · rw [set_other 0 (by omega)]; exact e4.out
      · refine set_one (v := .int .i64 0) ?_
        rw [set_other 0 (by omega)]; exact b5'
      · unfold DB
        rw [set_other 0 (by omega), set_other 0 (by omega)]; exact hD'.out
    · have hq : ((d.pend[x.1]'x.2).pl == a) = false := by simpa using hpl
      have hpl' := Lib.hid hpl
      clear hpl
      gi_wp2
      exact ⟨KeepsFrom.refl _ _, KpB.refl _ _ _, ⟨⟨⟨⟨fun y hy => (List.mem_append.1 hy).elim (hne y) (fun e => by simp at e; rw [e]; exact hpl'.out), bD⟩, bA⟩, b4⟩, b5⟩, hBW, hzW⟩
  case done =>
    rintro D ys W hD rfl hI hK
    obtain ⟨⟨⟨⟨⟨hne, bD⟩, bA⟩, b4⟩, b5⟩, hBW, hzW⟩ := hI
    obtain ⟨a0, a1⟩ := hasB_iff.1 hh'.out
    have hat : a.toNat < d.secs.length := by omega
    obtain ⟨b1, off1, A1, c1, hA1, hs1, hc1, hl1, hl2, hrow⟩ := (hd'.out.secs.keep (Kept.below hBW)).at_ (i := a.toNat) hat
    have hlv : Hid (readL d a = d.secs[a.toNat]) := by
      show _ = _
      unfold readL
      rw [lastW_none _ _ _ fun j hj => hne ⟨j, hj⟩ (by have := downs_mem d.pend.length d.pend.length (Nat.le_refl _) ⟨j, hj⟩ (by simp); rwa [List.take_of_length_le (by rw [downs_length]; exact Nat.le_refl _)] at this)]
      rw [List.getD_eq_getElem?_getD, List.getElem?_eq_getElem (by omega)]; rfl
    have hlen := readL_length hrun'.out hh'.out
    rw [hlv.out] at hlen
    have hS := Lib.hid (sector_any d.secs[a.toNat] W A1 c1 (· < w.heap.size) (fun g hg => Nat.lt_of_lt_of_le hg hBW.size) hrow)
    have cD0 := cell_of (i := 0) bD rfl
    have cA := cell_of (i := 0) bA rfl
    have s4 := (Array.getElem?_eq_some_iff.1 b4).1
    have s5 := (Array.getElem?_eq_some_iff.1 b5).1
    have hlen' := Lib.hid hlen
    subst hA1
    clear hne hlen hrow
    gi_wp2_with (refine ⟨trivial, ?_⟩; gi_at_call 29; refine (callsIn_wide.2 hS.out).mono ?_)
    rintro e w5 ⟨rfl, hDB, hb5⟩
    have b4' := (hb5.block _ s4).trans b4
    have b5' := (hb5.block _ s5).trans b5
    have hz5 := hb5.size
    have hDl := (Array.getElem?_eq_some_iff.1 hK).1
    have hK5 := (hb5.block D hDl).trans hK
    have c4 := cell_of (i := 0) b4' rfl
    have c5 := cell_of (i := 0) b5' rfl
    have f4 := frozen_of b4' 0
    have f5 := frozen_of b5' 0
    have hDB' := Lib.hid hDB
    have e4 := Lib.hid (set_one (u := .slice (some ⟨W.heap.size, 0, none⟩) 128 128) b4')
    have e5 := Lib.hid (set_one (v := .int .i64 0) (u := .int .i64 0) ((set_other (u := .slice (some ⟨W.heap.size, 0, none⟩) 128 128) 0 (by omega : w.heap.size + 1 + 1 + 1 ≠ w.heap.size + 1 + 1)).trans b5'))
    have hsW := hBW.size
    have hb5W : Hid (Below w.heap.size w ((w5.setCell ⟨w.heap.size + 1 + 1, 0, none⟩ (.slice (some ⟨W.heap.size, 0, none⟩) 128 128)).setCell ⟨w.heap.size + 1 + 1 + 1, 0, none⟩ (.int .i64 0))) :=
      (((hBW.trans (hb5.mono hBW.size)).setCell (p := ⟨w.heap.size + 1 + 1, 0, none⟩) (by simp; omega) _).setCell (p := ⟨w.heap.size + 1 + 1 + 1, 0, none⟩) (by simp; omega) _)
    clear hb5 hDB b4 b5 bD bA b4' b5' cA cD0 hS hK
    gi_wp2
    have hK' := (KeepsOthers.setCell (w5.setCell ⟨w.heap.size + 1 + 1, 0, none⟩ (.slice (some ⟨W.heap.size, 0, none⟩) 128 128)) ⟨w.heap.size + 1 + 1 + 1, 0, none⟩ (.int .i64 0)).same D _ ((KeepsOthers.setCell w5 ⟨w.heap.size + 1 + 1, 0, none⟩ (.slice (some ⟨W.heap.size, 0, none⟩) 128 128)).same D _ hK5 rfl) rfl
    refine ⟨by simp, .inl ⟨_, _, rfl, run_takeDeferred hK', ?_⟩⟩
    have e4' := (set_other (u := .int .i64 0) 0 (by omega : w.heap.size + 1 + 1 ≠ w.heap.size + 1 + 1 + 1)).trans e4.out
    have hc4 := cell_kept (cell_of (i := 0) e4' rfl) (grownBy_putObj' _ D (.deferred none)) (fun r e => by cases e; exact ⟨_, hK', rfl⟩)
    have hc5 := cell_kept (cell_of (i := 0) e5.out rfl) (grownBy_putObj' _ D (.deferred none)) (fun r e => by cases e; exact ⟨_, hK', rfl⟩)
    refine ⟨.tuple #[.slice (some ⟨W.heap.size, 0, none⟩) 128 128, .int .i64 0], ?_, ⟨W.heap.size, rfl, hsW, ?_⟩, hb5W.out.trans (belowK_b (w := w) (Nat.le_refl _) _ D _ _ (by omega) hK' rfl rfl)⟩
    · simp [results, Try.f21, go_sem, hc4, hc5]
    · unfold DB
      rw [World.putObj_heap_other (by omega), set_other 0 (by omega), set_other 0 (by omega), hlv.out, ← pad_full hlen'.out]
      exact hDB'.out
  case stop =>
    rintro D c pre W hD hpre hX hK
    obtain ⟨⟨k, pre', g, ⟨rfl, rfl, hne, hpl, hg⟩, b4, b5, hDB⟩, hBW⟩ := hX
    gi_wp2
    refine ⟨by simp, .inl ⟨_, _, rfl, run_takeDeferred hK, ?_⟩⟩
    have hc4 := cell_kept (cell_of (i := 0) b4 rfl) (grownBy_putObj' _ D (.deferred none)) (fun r e => by cases e; exact ⟨_, hK, rfl⟩)
    have hc5 := cell_kept (cell_of (i := 0) b5 rfl) (grownBy_putObj' _ D (.deferred none)) (fun r e => by cases e; exact ⟨_, hK, rfl⟩)
    refine ⟨.tuple #[.slice (some ⟨g, 0, none⟩) 128 128, .int .i64 0], ?_, ⟨g, rfl, hg, ?_⟩, hBW.trans (belowK_b (w := w) (Nat.le_refl _) W D _ _ (by omega) hK rfl rfl)⟩
    · simp [results, Try.f21, go_sem, hc4, hc5]
    · obtain ⟨kk, hkk, hpk⟩ := hpre
      obtain ⟨h1, rfl, h3⟩ := downs_last _ _ hkk _ _ hpk
      have hv : readL d a = (d.pend[k.1]'k.2).data := lastW_hit _ _ _ k.1 k.2 hpl fun j hj hlt => hne ⟨j, hj⟩ (downs_mem _ _ (by omega) ⟨j, hj⟩ (by show _ ≤ j; omega))
      have hg' := hDB.lt
      unfold DB
      rw [hv, World.putObj_heap_other (by intro e; rw [← e] at hK; rw [show W.heap[g]? = _ from hDB] at hK; cases hK), ← pad_full (hchk'.out.2.2.2.2.2.2 _ (List.getElem_mem k.2)).2]
      exact hDB

theorem Read_any (d : Dk) (a : Int) (w : World) (A A' : Option Addr) (c c' : Nat) (hd : DR w (· < w.heap.size) A c A' c' d) :
    Calls Try.prog 21 #[.agg #[.slice A d.secs.length c, .slice A' d.pend.length c', .int .i64 d.left, .bool d.stop], .int .i64 a] w (ReadPost d a w) := by
  cases hr : runB d && hasB d a with
  | false =>
    refine (Read_no d a w A A' c c' hd hr).mono fun e w' ⟨h1, h2⟩ => ⟨h2, ?_⟩
    rw [hr]; exact h1
  | true =>
    have h := hr
    rw [Bool.and_eq_true] at h
    refine (Read_yes d a w A A' c c' hd h.1 h.2).mono fun e w' ⟨h1, h2⟩ => ⟨h2, ?_⟩
    rw [hr]; exact h1
end Go.Proofs.Ytalkbccofiiojaa
