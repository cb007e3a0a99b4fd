/- Lex. -/
import Derived.Test.YtndfchnmajfmiaaDoorSn
namespace Go.Proofs.YtndfchnmajfmiaaDoor
open Go.RowKit

/-- What Lex gives for a source that is not too long. -/
def LexPost (s : List UInt8) (w : World) (e : Ending) (w' : World) : Prop :=
  match lexL s with
  | .ok m => ∃ v, e = .returned (.tuple #[v, .int .i64 0, .int .i64 0]) ∧ TO w' w.heap.size v m ∧ Below w.heap.size w w'
  | .error p => e = .returned (.tuple #[.slice none 0 0, .int .i64 (p : Nat), .int .i64 30]) ∧ Below w.heap.size w w'

theorem assert_int (p : Nat) (W : World) : (Instr.typeAssert (.iface 3 (.int .i64 p)) 20 3 true).run Tryd.prog W = .ok (.tuple #[.int .i64 p, .bool true]) W := by kernel_rfl
set_option maxHeartbeats 800000 in
theorem catch_panicking (N M K : Nat) (x y z : Value) (p : Nat) (older : List PanicEntry) (w : World)
    (hx : w.cell? ⟨N, 0, none⟩ = some x) (hy : w.cell? ⟨M, 0, none⟩ = some y) (hz : w.cell? ⟨K, 0, none⟩ = some z)
    (fx : w.frozen? ⟨N, 0, none⟩ = false) (fy : w.frozen? ⟨M, 0, none⟩ = false) (fz : w.frozen? ⟨K, 0, none⟩ = false) (n1 : N ≠ M) (n2 : N ≠ K) (n3 : M ≠ K) :
    CallsD Tryd.prog 24 #[.pointer (some ⟨N, 0, none⟩), .pointer (some ⟨M, 0, none⟩), .pointer (some ⟨K, 0, none⟩)] (.panicking ({ v := .iface 3 (.int .i64 p), recovered := false } :: older)) w fun e u' w' =>
      e = .returned (.tuple #[]) ∧ u' = .panicking ({ v := .iface 3 (.int .i64 p), recovered := true } :: older) ∧
      w' = ((w.setCell ⟨N, 0, none⟩ (.slice none 0 0)).setCell ⟨M, 0, none⟩ (.int .i64 p)).setCell ⟨K, 0, none⟩ (.int .i64 30) := by
  refine callsD_of_wpS Tryd.func24 rfl fun c₀ cs hu => ?_
  apply wpS_seq
  apply wpS_region
  simp [wpOpsS, go_sem, recoverD, hu, Tryd.ntmps24, Exit.thenS]
  apply wpS_seq
  apply wpS_region
  simp [wpOpsS, go_sem, Exit.thenS]
  refine wpS_cond (t := true) (by simp [Act.eval, Array.replicate]) ?_
  simp only [if_true]
  apply wpS_seq
  apply wpS_region
  simp [wpOpsS, go_sem, Exit.thenS, assert_int]
  apply wpS_region
  simp [wpOpsS, go_sem, *, bodyPostS, results, Tryd.results24]

theorem catch_idle (N M K : Nat) (w : World) :
    CallsD Tryd.prog 24 #[.pointer (some ⟨N, 0, none⟩), .pointer (some ⟨M, 0, none⟩), .pointer (some ⟨K, 0, none⟩)] .returning w fun e u' w' => e = .returned (.tuple #[]) ∧ u' = .returning ∧ w' = w := by
  refine callsD_of_wpS Tryd.func24 rfl fun c₀ cs hu => ?_
  apply wpS_seq
  apply wpS_region
  simp [wpOpsS, go_sem, recoverD, hu, Tryd.ntmps24, Exit.thenS]
  apply wpS_seq
  apply wpS_region
  simp [wpOpsS, go_sem, Exit.thenS]
  refine wpS_cond (t := false) (by simp [Act.eval, Array.replicate]) ?_
  simp only [Bool.false_eq_true, if_false]
  refine wpS_of_wp (wp_skip ?_)
  cases c₀
  simp_all [bodyPostS, results, Tryd.results24]

theorem TO.put {w : World} {B : Nat} {v : Value} {m : List Tk} (h : TO w B v m) {N : Nat} (hN : N < B) (u : Value) : TO (w.setCell ⟨N, 0, none⟩ u) B v m :=
  World.ownsRow.kept (row := some N) h ⟨rfl, rfl, rfl, by simp [World.setCell], fun k _ hne => Below.heap_setCell w ⟨N, 0, none⟩ u k (fun e => hne (by rw [e]))⟩ (by
    rcases h.2 with ⟨rfl, _⟩ | ⟨g, cap, cur, rfl, hb, _⟩
    · exact .inl rfl
    · right; simp only [Value.ownBlock]; intro e; injection e with e; omega)
theorem three {w w1 : World} {x y z : Value} {t1 t2 t3 : TypeId} (h : Below (w.heap.size + 3) (((w.alloc (.cells #[x] t1)).alloc (.cells #[y] t2)).alloc (.cells #[z] t3)) w1) :
    ((w1.cell? ⟨w.heap.size, 0, none⟩ = some x ∧ w1.frozen? ⟨w.heap.size, 0, none⟩ = false) ∧ (w1.cell? ⟨w.heap.size + 1, 0, none⟩ = some y ∧ w1.frozen? ⟨w.heap.size + 1, 0, none⟩ = false) ∧
    (w1.cell? ⟨w.heap.size + 2, 0, none⟩ = some z ∧ w1.frozen? ⟨w.heap.size + 2, 0, none⟩ = false)) ∧ Below w.heap.size w w1 := by
  have h1 : w1.heap[w.heap.size]? = some (.cells #[x] t1) := by
    rw [h.block _ (by omega), Below.heap_alloc _ _ _ (by simp; omega), Below.heap_alloc _ _ _ (by simp)]
    exact heap_alloc_new w _
  have h2 : w1.heap[w.heap.size + 1]? = some (.cells #[y] t2) := by
    rw [h.block _ (by omega), Below.heap_alloc _ _ _ (by simp)]
    have := heap_alloc_new (w.alloc (.cells #[x] t1)) (.cells #[y] t2)
    simpa using this
  have h3 : w1.heap[w.heap.size + 2]? = some (.cells #[z] t3) := by
    rw [h.block _ (by omega)]
    have := heap_alloc_new ((w.alloc (.cells #[x] t1)).alloc (.cells #[y] t2)) (.cells #[z] t3)
    simpa using this
  refine ⟨⟨⟨?_, ?_⟩, ⟨?_, ?_⟩, ?_, ?_⟩, ((((Below.refl _ w).alloc (Nat.le_refl _) _).alloc (by simp) _).alloc (by simp; omega) _).trans (h.mono (by omega))⟩
  all_goals simp [World.cell?, World.frozen?, h1, h2, h3]
theorem lex_result (W : World) (tmps : Array Value) (N : Nat) (x y z : Value) (h2 : tmps.getD 2 undef = .pointer (some ⟨N, 0, none⟩)) (h3 : tmps.getD 3 undef = .pointer (some ⟨N + 1, 0, none⟩)) (h4 : tmps.getD 4 undef = .pointer (some ⟨N + 2, 0, none⟩))
    (hx : W.cell? ⟨N, 0, none⟩ = some x) (hy : W.cell? ⟨N + 1, 0, none⟩ = some y) (hz : W.cell? ⟨N + 2, 0, none⟩ = some z) :
    (results Tryd.f12 tmps).run Tryd.prog W = .ok (.tuple #[x, y, z]) W := by
  simp only [Array.getD_eq_getD_getElem?] at h2 h3 h4
  simp [results, Tryd.results12, go_sem, *]
/-- Three cells, and behind three stores. -/
theorem three_put {W : World} {N : Nat} {x y z : Value} (hx : W.cell? ⟨N, 0, none⟩ = some x) (hy : W.cell? ⟨N + 1, 0, none⟩ = some y) (hz : W.cell? ⟨N + 2, 0, none⟩ = some z) (x' y' z' : Value) :
    (((W.setCell ⟨N, 0, none⟩ x').setCell ⟨N + 1, 0, none⟩ y').setCell ⟨N + 2, 0, none⟩ z').cell? ⟨N, 0, none⟩ = some x' ∧ (((W.setCell ⟨N, 0, none⟩ x').setCell ⟨N + 1, 0, none⟩ y').setCell ⟨N + 2, 0, none⟩ z').cell? ⟨N + 1, 0, none⟩ = some y' ∧
    (((W.setCell ⟨N, 0, none⟩ x').setCell ⟨N + 1, 0, none⟩ y').setCell ⟨N + 2, 0, none⟩ z').cell? ⟨N + 2, 0, none⟩ = some z' := by
  have n : ∀ i j : Nat, i ≠ j → (⟨i, 0, none⟩ : Addr) ≠ ⟨j, 0, none⟩ := fun i j h e => by injection e with e; exact h e
  refine ⟨?_, ?_, ?_⟩
  · rw [World.cell?_setCell_other _ _ _ _ (n _ _ (by omega)), World.cell?_setCell_other _ _ _ _ (n _ _ (by omega)), World.cell?_setCell_same _ _ _ hx]
  · rw [World.cell?_setCell_other _ _ _ _ (n _ _ (by omega)), World.cell?_setCell_same _ _ _ (by rw [World.cell?_setCell_other _ _ _ _ (n _ _ (by omega))]; exact hy)]
  · rw [World.cell?_setCell_same _ _ _ (by rw [World.cell?_setCell_other _ _ _ _ (n _ _ (by omega)), World.cell?_setCell_other _ _ _ _ (n _ _ (by omega))]; exact hz)]

set_option maxRecDepth 100000 in
set_option maxHeartbeats 1600000 in
theorem Lex_any (s : ByteArray) (hs : s.size ≤ 65536) (w : World) (hK : KW w) : Calls Tryd.prog 12 #[.string s] w (LexPost s.data.toList w) := by
  have hmf : ∀ (fn : Fn) (first cap : Array Value) (w : World), (Instr.makeFunc fn first cap).run Tryd.prog w = .ok (.func fn first cap) w := fun _ _ _ _ => rfl
  have hs' : ¬ (65536 : Int) < s.size := by omega
  have hV := Lib.hid (scan_any s hs _ (((hK.al (.cells #[.slice none 0 0] 23)).al (.cells #[.int .i64 0] 3)).al (.cells #[.int .i64 0] 24)))
  clear hK
  cases hres : lexL s.data.toList with
  | error p =>
    have hfin := Lib.hid hres
    clear hres
    go_enter_defers Tryd.func12, Tryd.ntmps12
    go_wp2_with fail
    refine hV.out.mono ?_
    intro e w1 he
    rw [ScanPost, hfin.out] at he
    obtain ⟨rfl, hb⟩ := he
    simp only [World.size_alloc, Nat.add_assoc, Nat.reduceAdd] at hb
    obtain ⟨⟨⟨gx, fx⟩, ⟨gy, fy⟩, gz, fz⟩, hbw⟩ := three hb
    clear hb hV
    go_wp2_with fail
    refine leaves_cons (f := 24) (args := #[.pointer (some ⟨w.heap.size, 0, none⟩), .pointer (some ⟨w.heap.size + 1, 0, none⟩), .pointer (some ⟨w.heap.size + 2, 0, none⟩)]) (by simp) (by simp [go_sem]) ?_
    refine (catch_panicking w.heap.size (w.heap.size + 1) (w.heap.size + 2) _ _ _ p [] w1 gx gy gz fx fy fz (by omega) (by omega) (by omega)).mono ?_
    rintro e u' w'' ⟨rfl, rfl, rfl⟩
    obtain ⟨kx, ky, kz⟩ := three_put gx gy gz (.slice none 0 0) (.int .i64 p) (.int .i64 30)
    refine ⟨.tuple #[.slice none 0 0, .int .i64 p, .int .i64 30], lex_result _ _ _ _ _ _ rfl rfl rfl kx ky kz, ?_⟩
    rw [LexPost, hfin.out]
    exact ⟨rfl, ((hbw.setCell (Nat.le_refl _) _).setCell (Nat.le_succ _) _).setCell (show w.heap.size ≤ w.heap.size + 2 by omega) _⟩
  | ok m =>
    have hfin := Lib.hid hres
    clear hres
    go_enter_defers Tryd.func12, Tryd.ntmps12
    go_wp2_with fail
    refine hV.out.mono ?_
    intro e w1 he
    rw [ScanPost, hfin.out] at he
    obtain ⟨v, rfl, hto, hb⟩ := he
    simp only [World.size_alloc, Nat.add_assoc, Nat.reduceAdd] at hb hto
    obtain ⟨⟨⟨gx, fx⟩, ⟨gy, fy⟩, gz, fz⟩, hbw⟩ := three hb
    obtain ⟨A, c, rfl, -, -⟩ := hto.form
    have htoH := Lib.hid hto
    have hbwH := Lib.hid hbw
    clear hb hV hto hbw
    go_wp2_with fail
    refine leaves_cons (f := 24) (args := #[.pointer (some ⟨w.heap.size, 0, none⟩), .pointer (some ⟨w.heap.size + 1, 0, none⟩), .pointer (some ⟨w.heap.size + 2, 0, none⟩)]) (by simp) (by simp [go_sem]) ?_
    refine (catch_idle _ _ _ _).mono ?_
    rintro e u' w'' ⟨rfl, rfl, rfl⟩
    obtain ⟨kx, ky, kz⟩ := three_put gx gy gz (.slice A m.length c) (.int .i64 0) (.int .i64 0)
    refine ⟨.tuple #[.slice A m.length c, .int .i64 0, .int .i64 0], lex_result _ _ _ _ _ _ rfl rfl rfl kx ky kz, ?_⟩
    rw [LexPost, hfin.out]
    exact ⟨_, rfl, (((htoH.out.put (by omega) _).put (by omega) _).put (by omega) _).mono (by omega), ((hbwH.out.setCell (Nat.le_refl _) _).setCell (Nat.le_succ _) _).setCell (show w.heap.size ≤ w.heap.size + 2 by omega) _⟩
end Go.Proofs.YtndfchnmajfmiaaDoor
