/- CodecDifferent: the law. -/
import Derived.Test.YtchepoflnfkgkaaLe
namespace Go.Proofs.Ytchepoflnfkgkaa
open Go.RowKit

theorem RBs.takeN {w : World} {B : Nat} {A : Option Addr} {bs : List UInt8} (h : RBs w B A bs) (n : Nat) : RBs w B A (bs.take n) := by
  intro hp
  have hp' : 0 < bs.length := by simp at hp; omega
  obtain ⟨b, off, e, hb, hc⟩ := h hp'
  refine ⟨b, off, e, hb, fun j hj => ?_⟩
  have hj' : j < bs.length := by simp at hj; omega
  rw [hc j hj']
  simp

theorem OB.convTake {w : World} {B : Nat} {a : Option Addr} {n c m : Nat} {l : List UInt8} (h : OB w B (.slice a n c) l) (hm : m ≤ l.length) : (convert 27 9 (.slice a m c)).run Try.prog w = .ok (.string ⟨(l.take m).toArray⟩) w := by
  obtain ⟨h1, -, -⟩ := h.reads
  have hl : (l.take m).length = m := by simp; omega
  have := conv_str (c := c) (h1.takeN m)
  rw [hl] at this
  exact this

theorem enc_cut {x y : GV} (hx : big x ≤ 1000000) (hy : big y ≤ 1000000) (nx : Nums x) (ny : Nums y) (cx : chk x = 0) (cy : chk y = 0) (h : (encB x).take (encB y).length = (encB y).take (encB x).length) : x = y := by
  have ex : encB x = enc x := by unfold encB; rw [if_pos cx]
  have ey : encB y = enc y := by unfold encB; rw [if_pos cy]
  rw [ex, ey] at h
  rcases Nat.le_total (enc x).length (enc y).length with hl | hl
  · rw [List.take_of_length_le hl] at h
    refine enc_prefix hx hy nx ny cx cy (r := (enc y).drop (enc x).length) (r' := []) ?_
    rw [List.append_nil]
    exact (congrArg (· ++ (enc y).drop (enc x).length) h).trans (List.take_append_drop _ _)
  · rw [List.take_of_length_le (l := enc y) hl] at h
    refine enc_prefix hx hy nx ny cx cy (r := []) (r' := (enc x).drop (enc y).length) ?_
    rw [List.append_nil]
    exact ((congrArg (· ++ (enc x).drop (enc y).length) h).symm.trans (List.take_append_drop _ _)).symm

set_option maxRecDepth 100000 in
set_option maxHeartbeats 3200000 in
theorem different_any (x y : GV) (w : World) (v v' : Value) (hv : RV w w.heap.size x v) (hv' : RV w w.heap.size y v') : Calls Try.prog 7 #[v, v'] w fun e w' => e = .returned (.bool true) ∧ Below w.heap.size w w' := by
  have nx := hv.nums
  have ny := hv'.nums
  obtain ⟨a, cap, rfl, -⟩ := hv.parts
  obtain ⟨a', cap', rfl, -⟩ := hv'.parts
  obtain ⟨Q, F, q0, cells, room⟩ := frame2 w (.int .i64 x.kind) (.int .i64 x.num) (.string x.str) (.slice a x.els.length cap) (.int .i64 y.kind) (.int .i64 y.num) (.string y.str) (.slice a' y.els.length cap') 24 24
  have hK : big x ≤ 40000 → big y ≤ 40000 → ∃ (c d : Int) (L M : List UInt8) (s : Bool),
      (∀ w', Q w' → Calls Try.prog 12 #[.agg #[.int .i64 x.kind, .int .i64 x.num, .string x.str, .slice a x.els.length cap]] w' (EncQ Q L c w')) ∧
      (∀ w', Q w' → Calls Try.prog 12 #[.agg #[.int .i64 y.kind, .int .i64 y.num, .string y.str, .slice a' y.els.length cap']] w' (EncQ Q M d w')) ∧
      (∀ w', Q w' → Calls Try.prog 21 #[.agg #[.int .i64 x.kind, .int .i64 x.num, .string x.str, .slice a x.els.length cap], .agg #[.int .i64 y.kind, .int .i64 y.num, .string y.str, .slice a' y.els.length cap']] w' fun e w'' => e = .returned (.bool s) ∧ Below w'.heap.size w' w'' ∧ Q w'') ∧
      (s = true → L = M) ∧ (s = false → (c = 0 ∧ d = 0) → L.take M.length ≠ M.take L.length) := fun hbx hby =>
    ⟨chk x, chk y, encB x, encB y, same x y,
      fun w' q => (Encode_any x (by omega) _ w.heap.size _ (F.le q) (F.rv hv q)).mono fun _ _ h => h.q F q,
      fun w' q => (Encode_any y (by omega) _ w.heap.size _ (F.le q) (F.rv hv' q)).mono fun _ _ h => h.q F q,
      fun w' q => (Same_any x y _ w.heap.size _ _ (F.le q) (F.rv hv q) (F.rv hv' q)).mono fun _ _ ⟨h1, h2⟩ => ⟨h1, h2, F.step _ _ q h2⟩,
      fun h => by rw [(same_iff x y).1 h],
      fun h ⟨cx, cy⟩ e => by have := (same_iff x y).2 (enc_cut (by omega) (by omega) nx ny cx cy e); rw [h] at this; cases this⟩
  have hK' := Lib.hid hK
  have cells' := Lib.hid cells
  clear hK cells nx ny
  go_enter Try.func7, Try.ntmps7
  go_wp2_with fail
  refine (sane_any _).mono ?_
  rintro e w1 ⟨rfl, hb1⟩
  have q1 := F.step _ _ q0 hb1
  have hz1 := room _ q1
  obtain ⟨c0, c1, c2, c3, d0, d1, d2, d3⟩ := cells'.out _ q1
  clear hb1
  go_wp2_with fail
  have hl := RL.two (t := 24) (((F.rv hv q1).alloc (by omega) (.cells #[.int .i64 x.kind, .int .i64 x.num, .string x.str, .slice a x.els.length cap, .int .i64 y.kind, .int .i64 y.num, .string y.str, .slice a' y.els.length cap'] 24)).mono (by omega : w.heap.size ≤ w1.heap.size + 1))
    (((F.rv hv' q1).alloc (by omega) _).mono (by omega)) (Nat.lt_succ_self _) (heap_alloc_new w1 _)
  refine (few_any [x, y] _ _ _ _ (by simp) hl (by simp)).mono ?_
  rintro e w3 ⟨b, rfl, hf, hb3⟩
  have q3 := F.step _ _ (F.alloc _ _ q1) hb3
  have hf' := Lib.hid hf
  clear hb3 hl c0 c1 c2 c3 d0 d1 d2 d3 hv hv' q0 q1 hf
  cases b with
  | false =>
    go_wp2_with fail
    go_ret
    exact ⟨rfl, F.below _ q3⟩
  | true =>
    obtain ⟨c, d, L, M, s, hE, hR, hS, hT, hC⟩ := hK'.out (hf'.out rfl x (by simp)) (hf'.out rfl y (by simp))
    have hE := Lib.hid hE
    have hR := Lib.hid hR
    have hS := Lib.hid hS
    have hT := Lib.hid hT
    have hC := Lib.hid hC
    obtain ⟨c0, c1, c2, c3, d0, d1, d2, d3⟩ := cells'.out _ q3
    go_wp2_with fail
    refine (hE.out _ q3).mono ?_
    rintro e w4 ⟨a4, n4, rfl, ho4, hb4, q4⟩
    clear c0 c1 c2 c3 d0 d1 d2 d3
    obtain ⟨c0, c1, c2, c3, d0, d1, d2, d3⟩ := cells'.out _ q4
    go_wp2_with fail
    refine (hR.out _ q4).mono ?_
    rintro e w5 ⟨a5, n5, rfl, ho5, hb5, q5⟩
    have ho4 := ho4.below hb5
    clear c0 c1 c2 c3 d0 d1 d2 d3 q3 q4 hb4 hb5
    obtain ⟨c0, c1, c2, c3, d0, d1, d2, d3⟩ := cells'.out _ q5
    by_cases hc : c = 0
    · by_cases hd : d = 0
      · have hC2 := Lib.hid (fun h : s = false => hC.out h ⟨hc, hd⟩)
        clear hC
        subst hc hd
        go_wp2_with fail
        refine (hS.out _ q5).mono ?_
        rintro e w6 ⟨rfl, hb6, q6⟩
        have ho4 := ho4.below hb6
        have ho5 := ho5.below hb6
        clear c0 c1 c2 c3 d0 d1 d2 d3 hb6 q5
        cases s with
        | true =>
          obtain rfl := hT.out rfl
          have k4 := ho4.conv
          have k5 := ho5.conv
          clear ho4 ho5
          go_wp2_with fail
          go_ret
          exact ⟨rfl, F.below _ q6⟩
        | false =>
          have hne := hC2.out rfl
          have hl4 := ho4.reads.2.2
          have hl5 := ho5.reads.2.2
          rcases Nat.le_total L.length M.length with hle | hle
          · rw [List.take_of_length_le hle] at hne
            have k4 := fun n => (show OB (w6.drewN n) 0 _ L from ho4).conv
            have k5 := fun n => (show OB (w6.drewN n) 0 _ M from ho5).convTake hle
            have hne' := Lib.hid hne
            clear hne
            have hmin : min (L.length : Int) (M.length : Int) = L.length := by omega
            clear ho4 ho5
            go_wp2_with fail
            go_quiet (fail)
            go_wp2_with fail
            go_ret
            exact ⟨retB (by simpa using hne'.out), dN (F.below _ q6) _⟩
          · rw [List.take_of_length_le (l := M) hle] at hne
            have k4 := fun n => (show OB (w6.drewN n) 0 _ L from ho4).convTake hle
            have k5 := fun n => (show OB (w6.drewN n) 0 _ M from ho5).conv
            have hne' := Lib.hid hne
            clear hne
            have hmin : min (L.length : Int) (M.length : Int) = M.length := by omega
            clear ho4 ho5
            go_wp2_with fail
            go_quiet (fail)
            go_wp2_with fail
            go_ret
            exact ⟨retB (by simpa using hne'.out), dN (F.below _ q6) _⟩
      · have hdn : (d != 0) = true := by simpa using hd
        subst hc
        go_wp2_with fail
        go_ret
        exact ⟨rfl, F.below _ q5⟩
    · have hcn : (c != 0) = true := by simpa using hc
      go_wp2_with fail
      go_ret
      exact ⟨rfl, F.below _ q5⟩
end Go.Proofs.Ytchepoflnfkgkaa
