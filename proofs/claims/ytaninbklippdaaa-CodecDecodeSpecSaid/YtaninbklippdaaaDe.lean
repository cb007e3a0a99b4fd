/- Decode. -/
import Derived.Test.YtaninbklippdaaaVa
namespace Go.Proofs.Ytaninbklippdaaa
open Go.RowKit

/-- The tree of an encoding. -/
def dec (bs : List UInt8) : Option GV := (dval 16 bs).bind fun p => if p.2.length = 0 then some p.1 else none

def zeroV : Value := .agg #[.int .i64 0, .int .i64 0, .string ⟨#[]⟩, .slice none 0 0]

def DecPost (bs : List UInt8) (w : World) (e : Ending) (w' : World) : Prop :=
  match dec bs with
  | some x => ∃ v, e = .returned (.tuple #[v, .int .i64 0]) ∧ RV w' w'.heap.size x v ∧ Below w.heap.size w w'
  | none => e = .returned (.tuple #[zeroV, .int .i64 10]) ∧ Below w.heap.size w w'

set_option maxHeartbeats 800000 in
theorem catch_panicking (N M : Nat) (x0 x1 x2 x3 y : Value) (u : TypeId) (pv : Value) (older : List PanicEntry) (w : World)
    (h0 : w.cell? ⟨N, 0, none⟩ = some x0) (h1 : w.cell? ⟨N, 1, none⟩ = some x1) (h2 : w.cell? ⟨N, 2, none⟩ = some x2) (h3 : w.cell? ⟨N, 3, none⟩ = some x3) (hy : w.cell? ⟨M, 0, none⟩ = some y)
    (f0 : w.frozen? ⟨N, 0, none⟩ = false) (f1 : w.frozen? ⟨N, 1, none⟩ = false) (f2 : w.frozen? ⟨N, 2, none⟩ = false) (f3 : w.frozen? ⟨N, 3, none⟩ = false) (fy : w.frozen? ⟨M, 0, none⟩ = false) (hne : N ≠ M) :
    CallsD Try.prog 15 #[.pointer (some ⟨N, 0, none⟩), .pointer (some ⟨M, 0, none⟩)] (.panicking ({ v := .iface u pv, recovered := false } :: older)) w fun e u' w' =>
      e = .returned (.tuple #[]) ∧ u' = .panicking ({ v := .iface u pv, recovered := true } :: older) ∧
      w' = ((((w.setCell ⟨N, 0, none⟩ (.int .i64 0)).setCell ⟨N, 1, none⟩ (.int .i64 0)).setCell ⟨N, 2, none⟩ (.string ⟨#[]⟩)).setCell ⟨N, 3, none⟩ (.slice none 0 0)).setCell ⟨M, 0, none⟩ (.int .i64 10) := by
  refine callsD_of_wpS Try.func15 rfl fun c₀ cs hu => ?_
  apply wpS_seq
  apply wpS_region
  simp [wpOpsS, go_sem, recoverD, hu, Try.ntmps15, Exit.thenS]
  refine wpS_cond (t := true) (by simp [Act.eval, Array.replicate]) ?_
  simp only [if_true]
  apply wpS_region
  simp [wpOpsS, go_sem, *, bodyPostS, results, Try.results15]

theorem catch_idle (N M : Nat) (w : World) :
    CallsD Try.prog 15 #[.pointer (some ⟨N, 0, none⟩), .pointer (some ⟨M, 0, none⟩)] .returning w fun e u' w' => e = .returned (.tuple #[]) ∧ u' = .returning ∧ w' = w := by
  refine callsD_of_wpS Try.func15 rfl fun c₀ cs hu => ?_
  apply wpS_seq
  apply wpS_region
  simp [wpOpsS, go_sem, recoverD, hu, Try.ntmps15, Exit.thenS]
  refine wpS_cond (t := false) (by simp [Act.eval, Array.replicate]) ?_
  simp only [Bool.false_eq_true, if_false]
  refine wpS_of_wp (wp_skip ?_)
  cases c₀
  simp_all [bodyPostS, results, Try.results15]

/-- Three blocks made first: the value's, the error's, the reader's. -/
theorem three {w w1 : World} {R : Nat} {x0 x1 x2 x3 y z : Value} {t1 t2 t3 : TypeId} (hR : R = w.heap.size + 2) (h : Upd (((w.alloc (.cells #[x0, x1, x2, x3] t1)).alloc (.cells #[y] t2)).alloc (.cells #[z] t3)) w1 R) :
    ((w1.cell? ⟨w.heap.size, 0, none⟩ = some x0 ∧ w1.cell? ⟨w.heap.size, 1, none⟩ = some x1 ∧ w1.cell? ⟨w.heap.size, 2, none⟩ = some x2 ∧ w1.cell? ⟨w.heap.size, 3, none⟩ = some x3) ∧
    w1.frozen? ⟨w.heap.size, 0, none⟩ = false ∧ w1.frozen? ⟨w.heap.size, 1, none⟩ = false ∧ w1.frozen? ⟨w.heap.size, 2, none⟩ = false ∧ w1.frozen? ⟨w.heap.size, 3, none⟩ = false) ∧
    (w1.cell? ⟨w.heap.size + 1, 0, none⟩ = some y ∧ w1.frozen? ⟨w.heap.size + 1, 0, none⟩ = false) ∧ Below w.heap.size w w1 := by
  have hb : w1.heap[w.heap.size]? = some (.cells #[x0, x1, x2, x3] t1) := by
    rw [h.block w.heap.size (by simp; omega) (by intro e; injection e with e; omega), Below.heap_alloc _ _ _ (by simp; omega), Below.heap_alloc _ _ _ (by simp)]
    exact heap_alloc_new w _
  have hc : w1.heap[w.heap.size + 1]? = some (.cells #[y] t2) := by
    rw [h.block (w.heap.size + 1) (by simp) (by intro e; injection e with e; omega), Below.heap_alloc _ _ _ (by simp)]
    have := heap_alloc_new (w.alloc (.cells #[x0, x1, x2, x3] t1)) (.cells #[y] t2)
    simpa using this
  refine ⟨⟨⟨?_, ?_, ?_, ?_⟩, ?_, ?_, ?_, ?_⟩, ⟨?_, ?_⟩, ⟨h.os, h.tape, h.output, ?_, fun k hk => ?_⟩⟩
  all_goals try (simp [World.cell?, World.frozen?, hb, hc]; done)
  · have := h.size; simp at this; omega
  · rw [h.block k (by simp; omega) (by intro e; injection e with e; omega), Below.heap_alloc _ _ _ (by simp; omega), Below.heap_alloc _ _ _ (by simp; omega), Below.heap_alloc _ _ _ hk]

theorem RVS.form {w : World} {S : Nat → Prop} {v : GV} {x : Value} (h : RVS w S v x) : ∃ a cap, x = .agg #[.int .i64 v.kind, .int .i64 v.num, .string v.str, .slice a v.els.length cap] := by
  cases h with
  | mk k n s l a cap b off V hk' hn hs hcap hmax hbyte ha hV hc => exact ⟨a, cap, rfl⟩

theorem St.put {w : World} {B R N j : Nat} {bs : List UInt8} (h : St w B R bs) (hB : B ≤ N) (hN : N ≠ R) (u : Value) : St (w.setCell ⟨N, j, none⟩ u) B R bs :=
  h.far (fun o => World.cell?_setCell_other _ _ _ _ (by intro e; injection e with e; omega)) (World.frozen?_setCell _ _ _ _) (fun b o hb => World.cell?_setCell_other _ _ _ _ (by intro e; injection e with e; omega))
theorem RVS.put {w : World} {S : Nat → Prop} {N j : Nat} {v : GV} {x : Value} (h : RVS w S v x) (hS : ∀ b, S b → b ≠ N) (u : Value) : RVS (w.setCell ⟨N, j, none⟩ u) S v x :=
  h.keep fun b o hb => World.cell?_setCell_other _ _ _ _ (by intro e; injection e with e; exact hS b hb e.symm)

/-- Four cells, and behind four stores. -/
def S4 (w : World) (N : Nat) (x0 x1 x2 x3 : Value) : Prop := w.cell? ⟨N, 0, none⟩ = some x0 ∧ w.cell? ⟨N, 1, none⟩ = some x1 ∧ w.cell? ⟨N, 2, none⟩ = some x2 ∧ w.cell? ⟨N, 3, none⟩ = some x3
theorem S4.put {w : World} {N : Nat} {x0 x1 x2 x3 : Value} (h : S4 w N x0 x1 x2 x3) (y0 y1 y2 y3 : Value) :
    S4 ((((w.setCell ⟨N, 0, none⟩ y0).setCell ⟨N, 1, none⟩ y1).setCell ⟨N, 2, none⟩ y2).setCell ⟨N, 3, none⟩ y3) N y0 y1 y2 y3 := by
  obtain ⟨h0, h1, h2, h3⟩ := h
  have n : ∀ i j : Nat, i ≠ j → (⟨N, i, none⟩ : Addr) ≠ ⟨N, j, none⟩ := fun i j h e => by injection e with _ e2; exact h e2
  refine ⟨?_, ?_, ?_, ?_⟩
  · rw [World.cell?_setCell_other _ _ _ _ (n 3 0 (by omega)), World.cell?_setCell_other _ _ _ _ (n 2 0 (by omega)), World.cell?_setCell_other _ _ _ _ (n 1 0 (by omega)), World.cell?_setCell_same _ _ _ h0]
  · rw [World.cell?_setCell_other _ _ _ _ (n 3 1 (by omega)), World.cell?_setCell_other _ _ _ _ (n 2 1 (by omega)), World.cell?_setCell_same _ _ _ (by rw [World.cell?_setCell_other _ _ _ _ (n 0 1 (by omega))]; exact h1)]
  · rw [World.cell?_setCell_other _ _ _ _ (n 3 2 (by omega)), World.cell?_setCell_same _ _ _ (by rw [World.cell?_setCell_other _ _ _ _ (n 1 2 (by omega)), World.cell?_setCell_other _ _ _ _ (n 0 2 (by omega))]; exact h2)]
  · rw [World.cell?_setCell_same _ _ _ (by rw [World.cell?_setCell_other _ _ _ _ (n 2 3 (by omega)), World.cell?_setCell_other _ _ _ _ (n 1 3 (by omega)), World.cell?_setCell_other _ _ _ _ (n 0 3 (by omega))]; exact h3)]
theorem S4.far {w : World} {N M j : Nat} {x0 x1 x2 x3 : Value} (h : S4 w N x0 x1 x2 x3) (hne : N ≠ M) (u : Value) : S4 (w.setCell ⟨M, j, none⟩ u) N x0 x1 x2 x3 := by
  have n : ∀ i : Nat, (⟨M, j, none⟩ : Addr) ≠ ⟨N, i, none⟩ := fun i e => by injection e with e; exact hne e.symm
  exact ⟨by rw [World.cell?_setCell_other _ _ _ _ (n 0)]; exact h.1, by rw [World.cell?_setCell_other _ _ _ _ (n 1)]; exact h.2.1, by rw [World.cell?_setCell_other _ _ _ _ (n 2)]; exact h.2.2.1, by rw [World.cell?_setCell_other _ _ _ _ (n 3)]; exact h.2.2.2⟩
theorem cell_far4 {w : World} {N M : Nat} {y : Value} (h : w.cell? ⟨M, 0, none⟩ = some y) (hne : N ≠ M) (y0 y1 y2 y3 : Value) :
    ((((w.setCell ⟨N, 0, none⟩ y0).setCell ⟨N, 1, none⟩ y1).setCell ⟨N, 2, none⟩ y2).setCell ⟨N, 3, none⟩ y3).cell? ⟨M, 0, none⟩ = some y := by
  have n : ∀ i : Nat, (⟨N, i, none⟩ : Addr) ≠ ⟨M, 0, none⟩ := fun i e => by injection e with e; exact hne e
  rw [World.cell?_setCell_other _ _ _ _ (n 3), World.cell?_setCell_other _ _ _ _ (n 2), World.cell?_setCell_other _ _ _ _ (n 1), World.cell?_setCell_other _ _ _ _ (n 0)]
  exact h
theorem dec_result (W : World) (tmps : Array Value) (N M : Nat) (x0 x1 x2 x3 y : Value) (h2 : tmps.getD 2 undef = .pointer (some ⟨N, 0, none⟩)) (h3 : tmps.getD 3 undef = .pointer (some ⟨M, 0, none⟩)) (h : S4 W N x0 x1 x2 x3) (hy : W.cell? ⟨M, 0, none⟩ = some y) :
    (results Try.f5 tmps).run Try.prog W = .ok (.tuple #[.agg #[x0, x1, x2, x3], y]) W := by
  obtain ⟨c0, c1, c2, c3⟩ := h
  simp only [Array.getD_eq_getD_getElem?] at h2 h3
  simp [results, Try.results5, go_sem, *]

theorem below_set {w w1 : World} (h : Below w.heap.size w w1) {N : Nat} (hN : w.heap.size ≤ N) (j : Nat) (u : Value) : Below w.heap.size w (w1.setCell ⟨N, j, none⟩ u) := h.setCell hN u

set_option maxRecDepth 100000 in
set_option maxHeartbeats 3200000 in
theorem Decode_any (bs : List UInt8) (hlen : bs.length ≤ 1000000) (w : World) (A : Option Addr) (c : Nat) (hc : bs.length ≤ c) (hr : RBs w w.heap.size A bs) : Calls Try.prog 5 #[.slice A bs.length c] w (DecPost bs w) := by
  have hmf : ∀ (fn : Fn) (first cap : Array Value) (w : World), (Instr.makeFunc fn first cap).run Try.prog w = .ok (.func fn first cap) w := fun _ _ _ _ => rfl
  have hst : St (((w.alloc (.cells #[.int .i64 0, .int .i64 0, .string ⟨#[]⟩, .slice none 0 0] 26)).alloc (.cells #[.int .i64 0] 27)).alloc (.cells #[.slice A bs.length bs.length] 42)) w.heap.size (w.heap.size + 2) bs := by
    refine ⟨⟨A, ?_, fun hp => ?_⟩, ?_⟩
    · rw [World.cell?_alloc_at _ _ _ _ (by simp)]; rfl
    · obtain ⟨b, off, e, hb, hcell⟩ := hr hp
      refine ⟨b, off, e, hb, fun j hj => ?_⟩
      rw [World.cell?_alloc_past _ _ _ (by simp; omega), World.cell?_alloc_past _ _ _ (by simp; omega), World.cell?_alloc_past _ _ _ hb]
      exact hcell j hj
    · exact World.frozen?_alloc_at _ _ _ _ (by simp)
  have hV := Lib.hid (value_any 16 (by omega) _ w.heap.size (w.heap.size + 2) bs hlen (by omega) (by simp) hst)
  clear hr
  have hst' := Lib.hid hst
  clear hst
  cases hres : dval 16 bs with
  | none =>
    rw [hres] at hV
    have hfin : Hid (dec bs = none) := by unfold dec; rw [hres]; rfl
    clear hres
    go_enter_defers Try.func5, Try.ntmps5
    go_wp2_with fail
    refine hV.out.mono ?_
    rintro e w1 ⟨rfl, hup⟩
    go_wp2_with fail
    obtain ⟨⟨⟨g0, g1, g2, g3⟩, f0, f1, f2, f3⟩, ⟨ge, fe⟩, hbw⟩ := three rfl hup
    refine leaves_cons (f := 15) (args := #[.pointer (some ⟨w.heap.size, 0, none⟩), .pointer (some ⟨w.heap.size + 1, 0, none⟩)]) (by simp) (by simp [go_sem]) ?_
    refine (catch_panicking w.heap.size (w.heap.size + 1) _ _ _ _ _ _ _ _ w1 g0 g1 g2 g3 ge f0 f1 f2 f3 fe (by omega)).mono ?_
    rintro e u' w'' ⟨rfl, rfl, rfl⟩
    have hn0 : ¬ w.heap.size = w.heap.size + 1 := by omega
    refine ⟨.tuple #[zeroV, .int .i64 10], dec_result _ _ _ _ _ _ _ _ _ rfl rfl ((S4.put ⟨g0, g1, g2, g3⟩ _ _ _ _).far (by omega) _) (World.cell?_setCell_same _ _ _ (cell_far4 ge (by omega) _ _ _ _)), ?_⟩
    rw [DecPost, hfin.out]
    exact ⟨rfl, below_set (below_set (below_set (below_set (below_set hbw (Nat.le_refl _) _ _) (Nat.le_refl _) _ _) (Nat.le_refl _) _ _) (Nat.le_refl _) _ _) (Nat.le_succ _) _ _⟩
  | some p =>
    obtain ⟨x, r⟩ := p
    rw [hres] at hV
    have hsh := dval_shorter 16 bs x r hres
    by_cases hr0 : r.length = 0
    · have hfin : Hid (dec bs = some x) := by unfold dec; rw [hres]; show (if r.length = 0 then _ else _) = _; rw [if_pos hr0]
      clear hres
      go_enter_defers Try.func5, Try.ntmps5
      go_wp2_with fail
      refine hV.out.mono ?_
      rintro e w1 ⟨v, rfl, hx, hst1, hup⟩
      obtain ⟨⟨⟨g0, g1, g2, g3⟩, f0, f1, f2, f3⟩, ⟨ge, fe⟩, hbw⟩ := three rfl hup
      obtain ⟨a, cap, rfl⟩ := hx.form
      go_wp2_with fail
      have hN2 : w.heap.size ≠ w.heap.size + 2 := by omega
      have hst2 := (((hst1.put (j := 0) (Nat.le_refl _) hN2 (.int .i64 x.kind)).put (j := 1) (Nat.le_refl _) hN2 (.int .i64 x.num)).put (j := 2) (Nat.le_refl _) hN2 (.string x.str)).put (j := 3) (Nat.le_refl _) hN2 (.slice a x.els.length cap)
      refine (end_any _ w.heap.size (w.heap.size + 2) r (by omega) hst2).mono ?_
      rw [if_pos hr0]
      rintro e w2 ⟨rfl, rfl⟩
      clear hst2
      have hS : ∀ b, (((w.alloc (.cells #[.int .i64 0, .int .i64 0, .string ⟨#[]⟩, .slice none 0 0] 26)).alloc (.cells #[.int .i64 0] 27)).alloc (.cells #[.slice A bs.length bs.length] 42)).heap.size ≤ b ∧ b < w1.heap.size → b ≠ w.heap.size := fun b hb => by have := hb.1; simp at this; omega
      have hS1 : ∀ b, (((w.alloc (.cells #[.int .i64 0, .int .i64 0, .string ⟨#[]⟩, .slice none 0 0] 26)).alloc (.cells #[.int .i64 0] 27)).alloc (.cells #[.slice A bs.length bs.length] 42)).heap.size ≤ b ∧ b < w1.heap.size → b ≠ w.heap.size + 1 := fun b hb => by have := hb.1; simp at this; omega
      have hS' := Lib.hid hS
      have hS1' := Lib.hid hS1
      have hx' := Lib.hid hx
      have hbw' := Lib.hid hbw
      clear hS hS1 hx hbw hst1 hup
      go_wp2_with fail
      refine leaves_cons (f := 15) (args := #[.pointer (some ⟨w.heap.size, 0, none⟩), .pointer (some ⟨w.heap.size + 1, 0, none⟩)]) (by simp) (by simp [go_sem]) ?_
      refine (catch_idle _ _ _).mono ?_
      rintro e u' w'' ⟨rfl, rfl, rfl⟩
      have hn0 : ¬ w.heap.size = w.heap.size + 1 := by omega
      refine ⟨.tuple #[.agg #[.int .i64 x.kind, .int .i64 x.num, .string x.str, .slice a x.els.length cap], .int .i64 0], dec_result _ _ _ _ _ _ _ _ _ rfl rfl (((S4.put ⟨g0, g1, g2, g3⟩ _ _ _ _).put _ _ _ _).far (by omega) _) (World.cell?_setCell_same _ _ _ (cell_far4 (cell_far4 ge (by omega) _ _ _ _) (by omega) _ _ _ _)), ?_⟩
      rw [DecPost, hfin.out]
      refine ⟨_, rfl, ?_, ?_⟩
      · exact ((((((((((hx'.out.put hS'.out _).put hS'.out _).put hS'.out _).put hS'.out _).put hS'.out _).put hS'.out _).put hS'.out _).put hS'.out _).put hS1'.out _).lt fun b hb => by simpa [World.setCell] using hb.2)
      · exact below_set (below_set (below_set (below_set (below_set (below_set (below_set (below_set (below_set hbw'.out (Nat.le_refl _) _ _) (Nat.le_refl _) _ _) (Nat.le_refl _) _ _) (Nat.le_refl _) _ _) (Nat.le_refl _) _ _) (Nat.le_refl _) _ _) (Nat.le_refl _) _ _) (Nat.le_refl _) _ _) (Nat.le_succ _) _ _
    · have hfin : Hid (dec bs = none) := by unfold dec; rw [hres]; show (if r.length = 0 then _ else _) = _; rw [if_neg hr0]
      clear hres
      go_enter_defers Try.func5, Try.ntmps5
      go_wp2_with fail
      refine hV.out.mono ?_
      rintro e w1 ⟨v, rfl, hx, hst1, hup⟩
      obtain ⟨⟨⟨g0, g1, g2, g3⟩, f0, f1, f2, f3⟩, ⟨ge, fe⟩, hbw⟩ := three rfl hup
      obtain ⟨a, cap, rfl⟩ := hx.form
      go_wp2_with fail
      have hN2 : w.heap.size ≠ w.heap.size + 2 := by omega
      have hst2 := (((hst1.put (j := 0) (Nat.le_refl _) hN2 (.int .i64 x.kind)).put (j := 1) (Nat.le_refl _) hN2 (.int .i64 x.num)).put (j := 2) (Nat.le_refl _) hN2 (.string x.str)).put (j := 3) (Nat.le_refl _) hN2 (.slice a x.els.length cap)
      refine (end_any _ w.heap.size (w.heap.size + 2) r (by omega) hst2).mono ?_
      rw [if_neg hr0]
      rintro e w2 ⟨rfl, rfl⟩
      have hbw' := Lib.hid hbw
      clear hst2 hst1 hx hup hbw
      go_wp2_with fail
      have hn0 : ¬ w.heap.size = w.heap.size + 1 := by omega
      refine leaves_cons (f := 15) (args := #[.pointer (some ⟨w.heap.size, 0, none⟩), .pointer (some ⟨w.heap.size + 1, 0, none⟩)]) (by simp) (by simp [go_sem]) ?_
      have hs4 := S4.put ⟨g0, g1, g2, g3⟩ (.int .i64 x.kind) (.int .i64 x.num) (.string x.str) (.slice a x.els.length cap)
      refine (catch_panicking w.heap.size (w.heap.size + 1) (.int .i64 x.kind) (.int .i64 x.num) (.string x.str) (.slice a x.els.length cap) (.int .i64 0) _ _ _ _ hs4.1 hs4.2.1 hs4.2.2.1 hs4.2.2.2 (cell_far4 ge (by omega) _ _ _ _) (by simp [go_sem, *]) (by simp [go_sem, *]) (by simp [go_sem, *]) (by simp [go_sem, *]) (by simp [go_sem, *]) (by omega)).mono ?_
      rintro e u' w'' ⟨rfl, rfl, rfl⟩
      refine ⟨.tuple #[zeroV, .int .i64 10], dec_result _ _ _ _ _ _ _ _ _ rfl rfl ((hs4.put _ _ _ _).far (by omega) _) (World.cell?_setCell_same _ _ _ (cell_far4 (cell_far4 ge (by omega) _ _ _ _) (by omega) _ _ _ _)), ?_⟩
      rw [DecPost, hfin.out]
      exact ⟨rfl, below_set (below_set (below_set (below_set (below_set (below_set (below_set (below_set (below_set hbw'.out (Nat.le_refl _) _ _) (Nat.le_refl _) _ _) (Nat.le_refl _) _ _) (Nat.le_refl _) _ _) (Nat.le_refl _) _ _) (Nat.le_refl _) _ _) (Nat.le_refl _) _ _) (Nat.le_refl _) _ _) (Nat.le_succ _) _ _⟩
end Go.Proofs.Ytaninbklippdaaa
