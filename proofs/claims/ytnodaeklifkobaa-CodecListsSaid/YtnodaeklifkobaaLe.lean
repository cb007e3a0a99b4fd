/- CodecEncodeSpec: the law. -/
import Derived.Test.YtnodaeklifkobaaLs
namespace Go.Proofs.Ytnodaeklifkobaa
open Go.RowKit

theorem frame1 (w : World) (x0 x1 x2 x3 : Value) (t : TypeId) : ∃ Q, Frame w Q ∧ Q (w.alloc (.cells #[x0, x1, x2, x3] t)) ∧
    (∀ wr, Q wr → wr.cell? ⟨w.heap.size, 0, none⟩ = some x0 ∧ wr.cell? ⟨w.heap.size, 1, none⟩ = some x1 ∧ wr.cell? ⟨w.heap.size, 2, none⟩ = some x2 ∧ wr.cell? ⟨w.heap.size, 3, none⟩ = some x3) ∧
    (∀ wr, Q wr → w.heap.size + 1 ≤ wr.heap.size) :=
  ⟨_, frame_of (n := w.heap.size + 1) ((Below.refl _ _).alloc (Nat.le_refl _) _) (by omega) (by simp), Below.refl _ _, fun _ h => box4 h, fun wr h => by have := h.size; simpa using this⟩

/-- What Encode leaves, said once more. -/
def EncQ (Q : World → Prop) (L : List UInt8) (c : Int) (w' : World) (e : Ending) (w'' : World) : Prop :=
  ∃ a n, e = .returned (.tuple #[.slice a L.length n, .int .i64 c]) ∧ OB w'' 0 (.slice a L.length n) L ∧ Below w'.heap.size w' w'' ∧ Q w''

theorem EncPost.q {x : GV} {w : World} {Q : World → Prop} (F : Frame w Q) {w' : World} (q : Q w') {e : Ending} {w'' : World} (h : EncPost x w' e w'') : EncQ Q (encB x) (chk x) w' e w'' := by
  obtain ⟨v, rfl, ho, hb⟩ := h
  obtain ⟨a, n, rfl⟩ := ho.len
  exact ⟨a, n, rfl, ho.mono (Nat.zero_le _), hb, F.step _ _ q hb⟩

set_option maxRecDepth 100000 in
set_option maxHeartbeats 3200000 in
theorem encodeSpec_any (x : GV) (w : World) (v : Value) (hv : RV w w.heap.size x v) : Calls Try.prog 3 #[v] w fun e w' => e = .returned (.bool true) ∧ Below w.heap.size w w' := by
  obtain ⟨a, cap, rfl, -⟩ := hv.parts
  obtain ⟨Q, F, q0, cells, room⟩ := frame1 w (.int .i64 x.kind) (.int .i64 x.num) (.string x.str) (.slice a x.els.length cap) 24
  have hK : big x ≤ 40000 → ∃ (c : Int) (L : List UInt8),
      (∀ w', Q w' → Calls Try.prog 12 #[.agg #[.int .i64 x.kind, .int .i64 x.num, .string x.str, .slice a x.els.length cap]] w' (EncQ Q L c w')) ∧
      (∀ w', Q w' → Calls Try.prog 13 #[.agg #[.int .i64 x.kind, .int .i64 x.num, .string x.str, .slice a x.els.length cap]] w' (EncQ Q L c w')) ∧
      (∀ w', Q w' → Calls Try.prog 14 #[.agg #[.int .i64 x.kind, .int .i64 x.num, .string x.str, .slice a x.els.length cap]] w' fun e w'' => e = .returned (.tuple #[.int .i64 (L.length : Nat), .int .i64 c]) ∧ Below w'.heap.size w' w'' ∧ Q w'') ∧
      (∀ w', Q w' → Calls Try.prog 15 #[.agg #[.int .i64 x.kind, .int .i64 x.num, .string x.str, .slice a x.els.length cap]] w' fun e w'' => e = .returned (.tuple #[.int .i64 (L.length : Nat), .int .i64 c]) ∧ Below w'.heap.size w' w'' ∧ Q w'') ∧
      (∀ w', Q w' → Calls Try.prog 16 #[.agg #[.int .i64 x.kind, .int .i64 x.num, .string x.str, .slice a x.els.length cap]] w' fun e w'' => e = .returned (.int .i64 c) ∧ Below w'.heap.size w' w'' ∧ Q w'') ∧
      (∀ w', Q w' → Calls Try.prog 17 #[.agg #[.int .i64 x.kind, .int .i64 x.num, .string x.str, .slice a x.els.length cap]] w' fun e w'' => e = .returned (.int .i64 c) ∧ Below w'.heap.size w' w'' ∧ Q w'') := fun hb =>
    ⟨chk x, encB x,
      fun w' q => (Encode_any x (by omega) _ w.heap.size _ (F.le q) (F.rv hv q)).mono fun _ _ h => h.q F q,
      fun w' q => (rEncode_any x (by omega) _ w.heap.size _ (F.le q) (F.rv hv q)).mono fun _ _ h => h.q F q,
      fun w' q => (Size_any x (by omega) _ w.heap.size _ (F.le q) (F.rv hv q)).mono fun _ _ ⟨h1, h2⟩ => ⟨h1, h2, F.step _ _ q h2⟩,
      fun w' q => (rSize_any x (by omega) _ w.heap.size _ (F.le q) (F.rv hv q)).mono fun _ _ ⟨h1, h2⟩ => ⟨h1, h2, F.step _ _ q h2⟩,
      fun w' q => (check_any x (by omega) _ w.heap.size _ (F.le q) (F.rv hv q)).mono fun _ _ ⟨h1, h2⟩ => ⟨h1, h2, F.step _ _ q h2⟩,
      fun w' q => (rcheck_any x (by omega) _ w.heap.size _ (F.le q) (F.rv hv q)).mono fun _ _ ⟨h1, h2⟩ => ⟨h1, h2, F.step _ _ q h2⟩⟩
  have hK' := Lib.hid hK
  have cells' := Lib.hid cells
  clear hK cells
  go_enter Try.func3, Try.ntmps3
  go_wp2_with fail
  refine (sane_any _).mono ?_
  rintro e w1 ⟨rfl, hb1⟩
  have q1 := F.step _ _ q0 hb1
  have hz1 := room _ q1
  obtain ⟨c0, c1, c2, c3⟩ := cells'.out _ q1
  clear hb1
  go_wp2_with fail
  have hl := RL.one (t := 24) (((F.rv hv q1).alloc (by omega) (.cells #[.int .i64 x.kind, .int .i64 x.num, .string x.str, .slice a x.els.length cap] 24)).mono (by omega : w.heap.size ≤ w1.heap.size + 1)) (Nat.lt_succ_self _) (heap_alloc_new w1 _)
  refine (few_any [x] _ _ _ _ (by simp) hl (by simp)).mono ?_
  rintro e w3 ⟨b, rfl, hf, hb3⟩
  have q3 := F.step _ _ (F.alloc _ _ q1) hb3
  have hf' := Lib.hid hf
  clear hb3 hl c0 c1 c2 c3 hv q0 q1 hf
  cases b with
  | false =>
    go_wp2_with fail
    go_ret
    exact ⟨rfl, F.below _ q3⟩
  | true =>
    obtain ⟨c, L, hE, hR, hS, hT, hC, hD⟩ := hK'.out (hf'.out rfl x (by simp))
    have hE := Lib.hid hE
    have hR := Lib.hid hR
    have hS := Lib.hid hS
    have hT := Lib.hid hT
    have hC := Lib.hid hC
    have hD := Lib.hid hD
    obtain ⟨c0, c1, c2, c3⟩ := cells'.out _ q3
    go_wp2_with fail
    refine (hE.out _ q3).mono ?_
    rintro e w4 ⟨a4, n4, rfl, ho4, hb4, q4⟩
    clear c0 c1 c2 c3
    obtain ⟨c0, c1, c2, c3⟩ := cells'.out _ q4
    go_wp2_with fail
    refine (hR.out _ q4).mono ?_
    rintro e w5 ⟨a5, n5, rfl, ho5, hb5, q5⟩
    have ho4 := ho4.below hb5
    clear c0 c1 c2 c3
    obtain ⟨c0, c1, c2, c3⟩ := cells'.out _ q5
    go_wp2_with fail
    refine (hS.out _ q5).mono ?_
    rintro e w6 ⟨rfl, hb6, q6⟩
    have ho4 := ho4.below hb6
    have ho5 := ho5.below hb6
    clear c0 c1 c2 c3
    obtain ⟨c0, c1, c2, c3⟩ := cells'.out _ q6
    go_wp2_with fail
    refine (hT.out _ q6).mono ?_
    rintro e w7 ⟨rfl, hb7, q7⟩
    have o4 := (ho4.below hb7).drew
    have o5 := (ho5.below hb7).drew
    have q7d := F.drew _ q7
    clear c0 c1 c2 c3 ho4 ho5 hb4 hb5 hb6 hb7 q3 q4 q5 q6
    have full : ∀ w', Q w' → OB w' 0 (.slice a4 L.length n4) L → OB w' 0 (.slice a5 L.length n5) L →
        w'.cell? ⟨w.heap.size, 0, none⟩ = some (.int .i64 x.kind) ∧ w'.cell? ⟨w.heap.size, 1, none⟩ = some (.int .i64 x.num) ∧ w'.cell? ⟨w.heap.size, 2, none⟩ = some (.string x.str) ∧ w'.cell? ⟨w.heap.size, 3, none⟩ = some (.slice a x.els.length cap) ∧
        (convert 27 9 (.slice a4 L.length n4)).run Try.prog w' = .ok (.string ⟨L.toArray⟩) w' ∧ (convert 27 9 (.slice a5 L.length n5)).run Try.prog w' = .ok (.string ⟨L.toArray⟩) w' := fun w' q h4 h5 => by
      obtain ⟨g0, g1, g2, g3⟩ := cells'.out _ q
      exact ⟨g0, g1, g2, g3, h4.conv, h5.conv⟩
    have full' := Lib.hid full
    have o4' := Lib.hid o4
    have o5' := Lib.hid o5
    obtain ⟨c0, c1, c2, c3, -⟩ := full _ q7d o4 o5
    clear full o4 o5
    go_wp2_with fail
    go_region_held3 (fun w' => w'.cell? ⟨w.heap.size, 0, none⟩ = some (.int .i64 x.kind) ∧ w'.cell? ⟨w.heap.size, 1, none⟩ = some (.int .i64 x.num) ∧ w'.cell? ⟨w.heap.size, 2, none⟩ = some (.string x.str) ∧ w'.cell? ⟨w.heap.size, 3, none⟩ = some (.slice a x.els.length cap) ∧
        (convert 27 9 (.slice a4 L.length n4)).run Try.prog w' = .ok (.string ⟨L.toArray⟩) w' ∧ (convert 27 9 (.slice a5 L.length n5)).run Try.prog w' = .ok (.string ⟨L.toArray⟩) w')
      (first | exact full'.out _ q9 (o4'.out.below (hb8.trans (hb9.mono hb8.size))) (o5'.out.below (hb8.trans (hb9.mono hb8.size))) | exact full'.out _ q8 (o4'.out.below hb8) (o5'.out.below hb8) | exact full'.out _ q7d o4'.out o5'.out)
      (first
        | (go_at_call 16; refine (hC.out _ q8).mono ?_; rintro e w9 ⟨rfl, hb9, q9⟩)
        | (go_at_call 17; refine (hD.out _ q8).mono ?_; rintro e w9 ⟨rfl, hb9, q9⟩)
        | (go_at_call 16; refine (hC.out _ q7d).mono ?_; rintro e w8 ⟨rfl, hb8, q8⟩)
        | (go_at_call 17; refine (hD.out _ q7d).mono ?_; rintro e w8 ⟨rfl, hb8, q8⟩))
    all_goals
      go_wp2_with fail
      go_ret
      exact ⟨rfl, F.below _ q9⟩
end Go.Proofs.Ytnodaeklifkobaa
