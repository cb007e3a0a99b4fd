/- CodecSameSpec: the law. -/
import Derived.Test.YtnodaeklifkobaaLa
namespace Go.Proofs.Ytnodaeklifkobaa
open Go.RowKit

theorem RL.one {w : World} {B b : Nat} {x : GV} {x0 x1 x2 x3 : Value} {t : TypeId} (hx : RV w B x (.agg #[x0, x1, x2, x3])) (hb : b < B) (h : w.heap[b]? = some (.cells #[x0, x1, x2, x3] t (0, 0))) : RL w B [x] (some ⟨b, 0, none⟩) 1 := by
  have hc : ∀ o, w.cell? ⟨b, o, none⟩ = (#[x0, x1, x2, x3] : Array Value)[o]? := fun o => by simp [World.cell?, h]
  refine ⟨Nat.le_refl _, by unfold maxLen; omega, b, 0, fun _ => .agg #[x0, x1, x2, x3], fun _ => ⟨rfl, hb⟩, fun i hi => ?_, fun i hi => ?_⟩
  · match i, hi with
    | 0, _ => exact hx
  · match i, hi with
    | 0, _ => exact ⟨_, _, _, _, rfl, by rw [hc]; rfl, by rw [hc]; rfl, by rw [hc]; rfl, by rw [hc]; rfl⟩

theorem RL.two {w : World} {B b : Nat} {x y : GV} {x0 x1 x2 x3 y0 y1 y2 y3 : Value} {t : TypeId} (hx : RV w B x (.agg #[x0, x1, x2, x3])) (hy : RV w B y (.agg #[y0, y1, y2, y3])) (hb : b < B)
    (h : w.heap[b]? = some (.cells #[x0, x1, x2, x3, y0, y1, y2, y3] t (0, 0))) : RL w B [x, y] (some ⟨b, 0, none⟩) 2 := by
  have hc : ∀ o, w.cell? ⟨b, o, none⟩ = (#[x0, x1, x2, x3, y0, y1, y2, y3] : Array Value)[o]? := fun o => by simp [World.cell?, h]
  refine ⟨Nat.le_refl _, by unfold maxLen; omega, b, 0, fun i => if i = 0 then .agg #[x0, x1, x2, x3] else .agg #[y0, y1, y2, y3], fun _ => ⟨rfl, hb⟩, fun i hi => ?_, fun i hi => ?_⟩
  · match i, hi with
    | 0, _ => exact hx
    | 1, _ => exact hy
  · match i, hi with
    | 0, _ => exact ⟨_, _, _, _, rfl, by rw [hc]; rfl, by rw [hc]; rfl, by rw [hc]; rfl, by rw [hc]; rfl⟩
    | 1, _ => exact ⟨_, _, _, _, rfl, by rw [hc]; rfl, by rw [hc]; rfl, by rw [hc]; rfl, by rw [hc]; rfl⟩

theorem box8f {w wr : World} {x0 x1 x2 x3 y0 y1 y2 y3 : Value} {t t' : TypeId} (hb : Below (w.heap.size + 2) ((w.alloc (.cells #[x0, x1, x2, x3] t)).alloc (.cells #[y0, y1, y2, y3] t')) wr) :
    wr.cell? ⟨w.heap.size, 0, none⟩ = some x0 ∧ wr.cell? ⟨w.heap.size, 1, none⟩ = some x1 ∧ wr.cell? ⟨w.heap.size, 2, none⟩ = some x2 ∧ wr.cell? ⟨w.heap.size, 3, none⟩ = some x3 ∧
    wr.cell? ⟨w.heap.size + 1, 0, none⟩ = some y0 ∧ wr.cell? ⟨w.heap.size + 1, 1, none⟩ = some y1 ∧ wr.cell? ⟨w.heap.size + 1, 2, none⟩ = some y2 ∧ wr.cell? ⟨w.heap.size + 1, 3, none⟩ = some y3 := by
  obtain ⟨⟨a, b, c, d⟩, e⟩ := box8 hb
  exact ⟨a, b, c, d, e⟩

/-- A property of worlds that is kept by all that only makes memory. -/
structure Frame (w : World) (Q : World → Prop) : Prop where
  below : ∀ w', Q w' → Below w.heap.size w w'
  drew : ∀ w', Q w' → Q w'.drew
  alloc : ∀ w' o, Q w' → Q (w'.alloc o)
  step : ∀ w' w'', Q w' → Below w'.heap.size w' w'' → Q w''

theorem frame_of {w X : World} {n : Nat} (hX : Below w.heap.size w X) (hn : w.heap.size ≤ n) (hx : n ≤ X.heap.size) : Frame w (fun w' => Below n X w') where
  below _ h := hX.trans (h.mono hn)
  drew _ h := ⟨h.os, h.tape, h.output, h.size, h.block⟩
  alloc _ o h := h.alloc (Nat.le_trans hx h.size) o
  step _ _ h h' := h.trans (h'.mono (Nat.le_trans hx h.size))

theorem Frame.rv {w : World} {Q : World → Prop} (F : Frame w Q) {x : GV} {v : Value} (hv : RV w w.heap.size x v) {w' : World} (h : Q w') : RV w' w.heap.size x v := hv.under (F.below _ h) (Nat.le_refl _)
theorem Frame.le {w : World} {Q : World → Prop} (F : Frame w Q) {w' : World} (h : Q w') : w.heap.size ≤ w'.heap.size := (F.below _ h).size

theorem frame2 (w : World) (x0 x1 x2 x3 y0 y1 y2 y3 : Value) (t t' : TypeId) : ∃ Q, Frame w Q ∧ Q ((w.alloc (.cells #[x0, x1, x2, x3] t)).alloc (.cells #[y0, y1, y2, y3] t')) ∧
    (∀ wr, Q wr → wr.cell? ⟨w.heap.size, 0, none⟩ = some x0 ∧ wr.cell? ⟨w.heap.size, 1, none⟩ = some x1 ∧ wr.cell? ⟨w.heap.size, 2, none⟩ = some x2 ∧ wr.cell? ⟨w.heap.size, 3, none⟩ = some x3 ∧
      wr.cell? ⟨w.heap.size + 1, 0, none⟩ = some y0 ∧ wr.cell? ⟨w.heap.size + 1, 1, none⟩ = some y1 ∧ wr.cell? ⟨w.heap.size + 1, 2, none⟩ = some y2 ∧ wr.cell? ⟨w.heap.size + 1, 3, none⟩ = some y3) ∧
    (∀ wr, Q wr → w.heap.size + 2 ≤ wr.heap.size) :=
  ⟨_, frame_of (n := w.heap.size + 2) (((Below.refl _ _).alloc (Nat.le_refl _) _).alloc (by simp) _) (by omega) (by simp), Below.refl _ _, fun _ h => box8f h, fun wr h => by have := h.size; simpa using this⟩

set_option maxRecDepth 100000 in
set_option maxHeartbeats 3200000 in
theorem sameSpec_any (x y : GV) (w : World) (v v' : Value) (hv : RV w w.heap.size x v) (hv' : RV w w.heap.size y v') : Calls Try.prog 5 #[v, v'] w fun e w' => e = .returned (.bool true) ∧ Below w.heap.size w w' := by
  obtain ⟨a, cap, rfl, -⟩ := hv.parts
  obtain ⟨a', cap', rfl, -⟩ := hv'.parts
  obtain ⟨Q, F, q0, cells, room⟩ := frame2 w (.int .i64 x.kind) (.int .i64 x.num) (.string x.str) (.slice a x.els.length cap) (.int .i64 y.kind) (.int .i64 y.num) (.string y.str) (.slice a' y.els.length cap') 24 24
  obtain ⟨s, hS, hR⟩ : ∃ s : Bool, (∀ w', Q w' → Calls Try.prog 21 #[.agg #[.int .i64 x.kind, .int .i64 x.num, .string x.str, .slice a x.els.length cap], .agg #[.int .i64 y.kind, .int .i64 y.num, .string y.str, .slice a' y.els.length cap']] w' fun e w'' => e = .returned (.bool s) ∧ Q w'') ∧
      (∀ w', Q w' → Calls Try.prog 20 #[.agg #[.int .i64 x.kind, .int .i64 x.num, .string x.str, .slice a x.els.length cap], .agg #[.int .i64 y.kind, .int .i64 y.num, .string y.str, .slice a' y.els.length cap']] w' fun e w'' => e = .returned (.bool s) ∧ Q w'') :=
    ⟨same x y, fun w' q => (Same_any x y _ w.heap.size _ _ (F.le q) (F.rv hv q) (F.rv hv' q)).mono fun _ _ ⟨h1, h2⟩ => ⟨h1, F.step _ _ q h2⟩, fun w' q => (rSame_any x y _ w.heap.size _ _ (F.le q) (F.rv hv q) (F.rv hv' q)).mono fun _ _ ⟨h1, h2⟩ => ⟨h1, F.step _ _ q h2⟩⟩
  have hA : ∀ w', Q w' → Calls Try.prog 21 #[.agg #[.int .i64 x.kind, .int .i64 x.num, .string x.str, .slice a x.els.length cap], .agg #[.int .i64 x.kind, .int .i64 x.num, .string x.str, .slice a x.els.length cap]] w' fun e w'' => e = .returned (.bool true) ∧ Q w'' :=
    fun w' q => (Same_any x x _ w.heap.size _ _ (F.le q) (F.rv hv q) (F.rv hv q)).mono fun _ _ ⟨h1, h2⟩ => ⟨by rw [h1, same_refl], F.step _ _ q h2⟩
  have hB : ∀ w', Q w' → Calls Try.prog 21 #[.agg #[.int .i64 y.kind, .int .i64 y.num, .string y.str, .slice a' y.els.length cap'], .agg #[.int .i64 y.kind, .int .i64 y.num, .string y.str, .slice a' y.els.length cap']] w' fun e w'' => e = .returned (.bool true) ∧ Q w'' :=
    fun w' q => (Same_any y y _ w.heap.size _ _ (F.le q) (F.rv hv' q) (F.rv hv' q)).mono fun _ _ ⟨h1, h2⟩ => ⟨by rw [h1, same_refl], F.step _ _ q h2⟩
  have hS' := Lib.hid hS
  have hR' := Lib.hid hR
  have hA' := Lib.hid hA
  have hB' := Lib.hid hB
  have cells' := Lib.hid cells
  clear hS hR hA hB cells
  go_enter Try.func5, Try.ntmps5
  go_wp2_with fail
  refine (sane_any _).mono ?_
  rintro e w1 ⟨rfl, hb1⟩
  have q1 := F.step _ _ q0 hb1
  have hz1 := room _ q1
  obtain ⟨c0, c1, c2, c3, d0, d1, d2, d3⟩ := cells'.out _ q1
  clear hb1
  go_wp2_with fail
  have hl := RL.two (t := 24) (((F.rv hv q1).alloc (by omega) (.cells #[.int .i64 x.kind, .int .i64 x.num, .string x.str, .slice a x.els.length cap, .int .i64 y.kind, .int .i64 y.num, .string y.str, .slice a' y.els.length cap'] 24)).mono (by omega : w.heap.size ≤ w1.heap.size + 1))
    (((F.rv hv' q1).alloc (by omega) _).mono (by omega)) (Nat.lt_succ_self _) (heap_alloc_new w1 _)
  refine (few_any [x, y] _ _ _ _ (by simp) hl (by simp)).mono ?_
  rintro e w3 ⟨b, rfl, -, hb3⟩
  have q3 := F.step _ _ (F.alloc _ _ q1) hb3
  have q3d := F.drew _ q3
  clear hb3 hl c0 c1 c2 c3 d0 d1 d2 d3 hv hv' q0 q1
  cases b with
  | false =>
    go_wp2_with fail
    go_ret
    exact ⟨rfl, F.below _ q3⟩
  | true =>
    obtain ⟨c0, c1, c2, c3, d0, d1, d2, d3⟩ := cells'.out _ q3
    cases s
    all_goals
      go_wp2_with fail
      go_region_held3 (fun w' => w'.cell? ⟨w.heap.size, 0, none⟩ = some (.int .i64 x.kind) ∧ w'.cell? ⟨w.heap.size, 1, none⟩ = some (.int .i64 x.num) ∧ w'.cell? ⟨w.heap.size, 2, none⟩ = some (.string x.str) ∧ w'.cell? ⟨w.heap.size, 3, none⟩ = some (.slice a x.els.length cap) ∧ w'.cell? ⟨w.heap.size + 1, 0, none⟩ = some (.int .i64 y.kind) ∧ w'.cell? ⟨w.heap.size + 1, 1, none⟩ = some (.int .i64 y.num) ∧ w'.cell? ⟨w.heap.size + 1, 2, none⟩ = some (.string y.str) ∧ w'.cell? ⟨w.heap.size + 1, 3, none⟩ = some (.slice a' y.els.length cap'))
        (first | exact cells'.out _ q7 | exact cells'.out _ q6 | exact cells'.out _ q5 | exact cells'.out _ q4 | exact cells'.out _ q3d)
        (first
          | (go_at_call 21; refine (hB'.out _ q6).mono ?_; rintro e w7 ⟨rfl, q7⟩)
          | (go_at_call 21; refine (hA'.out _ q5).mono ?_; rintro e w6 ⟨rfl, q6⟩)
          | (go_at_call 20; refine (hR'.out _ q4).mono ?_; rintro e w5 ⟨rfl, q5⟩)
          | (go_at_call 21; refine (hS'.out _ q4).mono ?_; rintro e w5 ⟨rfl, q5⟩)
          | (go_at_call 20; refine (hR'.out _ q3d).mono ?_; rintro e w4 ⟨rfl, q4⟩)
          | (go_at_call 21; refine (hS'.out _ q3d).mono ?_; rintro e w4 ⟨rfl, q4⟩))
      all_goals
        go_wp2_with fail
        go_ret
        exact ⟨rfl, F.below _ q7⟩
end Go.Proofs.Ytnodaeklifkobaa
