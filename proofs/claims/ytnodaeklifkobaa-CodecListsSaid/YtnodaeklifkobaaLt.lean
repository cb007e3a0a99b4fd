/- CodecRoundTrip: the law. -/
import Derived.Test.YtnodaeklifkobaaLe
namespace Go.Proofs.Ytnodaeklifkobaa
open Go.RowKit

theorem RBs.under {w w' : World} {A : Option Addr} {bs : List UInt8} (h : RBs w w.heap.size A bs) (hb : Below w.heap.size w w') : RBs w' w'.heap.size A bs := by
  intro hp
  obtain ⟨b, off, e, hlt, hc⟩ := h hp
  exact ⟨b, off, e, Nat.lt_of_lt_of_le hlt hb.size, fun j hj => by rw [hb.cell (p := ⟨b, off + j, none⟩) hlt]; exact hc j hj⟩

set_option maxRecDepth 100000 in
set_option maxHeartbeats 3200000 in
theorem roundTrip_any (x : GV) (raw : List UInt8) (w : World) (v : Value) (A : Option Addr) (rc : Nat) (hv : RV w w.heap.size x v) (hrc : raw.length ≤ rc) (hraw : RBs w w.heap.size A raw) :
    Calls Try.prog 6 #[v, .slice A raw.length rc] w fun e w' => e = .returned (.bool true) ∧ Below w.heap.size w w' := by
  have nx := hv.nums
  obtain ⟨a, cap, rfl, -⟩ := hv.parts
  obtain ⟨Q, F, q0, cells, room⟩ := frame1 w (.int .i64 x.kind) (.int .i64 x.num) (.string x.str) (.slice a x.els.length cap) 24
  have hK : big x ≤ 40000 → ∃ (c : Int) (L : List UInt8), L.length ≤ 1000000 ∧ (c = 0 → dec L = some x) ∧
      (∀ w', Q w' → Calls Try.prog 12 #[.agg #[.int .i64 x.kind, .int .i64 x.num, .string x.str, .slice a x.els.length cap]] w' (EncQ Q L c w')) ∧
      (∀ w', Q w' → Calls Try.prog 16 #[.agg #[.int .i64 x.kind, .int .i64 x.num, .string x.str, .slice a x.els.length cap]] w' fun e w'' => e = .returned (.int .i64 c) ∧ Below w'.heap.size w' w'' ∧ Q w'') := fun hb => by
    refine ⟨chk x, encB x, ?_, fun hc => ?_,
      fun w' q => (Encode_any x (by omega) _ w.heap.size _ (F.le q) (F.rv hv q)).mono fun _ _ h => h.q F q,
      fun w' q => (check_any x (by omega) _ w.heap.size _ (F.le q) (F.rv hv q)).mono fun _ _ ⟨h1, h2⟩ => ⟨h1, h2, F.step _ _ q h2⟩⟩
    · have := encB_length x nx (by omega)
      omega
    · unfold encB
      rw [if_pos hc]
      exact dec_enc (by omega) nx hc
  have hK' := Lib.hid hK
  have cells' := Lib.hid cells
  have hraw' := Lib.hid hraw
  clear hK cells nx hraw
  have hlen : (2000 : Int) < raw.length ∨ raw.length ≤ 2000 := by omega
  go_enter Try.func6, Try.ntmps6
  go_wp2_with fail
  refine (sane_any _).mono ?_
  rintro e w1 ⟨rfl, hb1⟩
  have q1 := F.step _ _ q0 hb1
  have hz1 := room _ q1
  obtain ⟨c0, c1, c2, c3⟩ := cells'.out _ q1
  clear hb1
  go_wp2_with fail
  have hl := RL.one (t := 24) (((F.rv hv q1).alloc (by omega) (.cells #[.int .i64 x.kind, .int .i64 x.num, .string x.str, .slice a x.els.length cap] 24)).mono (by omega : w.heap.size ≤ w1.heap.size + 1)) (Nat.lt_succ_self _) (heap_alloc_new w1 _)
  refine (few_any [x] _ _ _ _ (by simp) hl (by simp)).mono ?_
  rintro e w3 ⟨b, rfl, hf, hb3⟩
  have q3 := F.step _ _ (F.alloc _ _ q1) hb3
  have hf' := Lib.hid hf
  clear hb3 hl c0 c1 c2 c3 q0 q1 hf
  cases b with
  | false =>
    go_wp2_with fail
    go_ret
    exact ⟨rfl, F.below _ q3⟩
  | true =>
    rcases hlen with hlen | hlen
    · go_wp2_with fail
      go_ret
      exact ⟨rfl, F.below _ q3⟩
    · have hlen2 : ¬ ((2000 : Int) < raw.length) := by omega
      obtain ⟨c, L, hL, hdec, hE, hC⟩ := hK'.out (hf'.out rfl x (by simp))
      have hE := Lib.hid hE
      have hC := Lib.hid hC
      have hdec := Lib.hid hdec
      obtain ⟨c0, c1, c2, c3⟩ := cells'.out _ q3
      go_wp2_with fail
      refine (hE.out _ q3).mono ?_
      rintro e w4 ⟨a4, n4, rfl, ho4, hb4, q4⟩
      clear c0 c1 c2 c3
      obtain ⟨c0, c1, c2, c3⟩ := cells'.out _ q4
      go_wp2_with fail
      refine (hC.out _ q4).mono ?_
      rintro e w5 ⟨rfl, hb5, q5⟩
      have ho5 := ho4.below hb5
      clear c0 c1 c2 c3 ho4
      obtain ⟨c0, c1, c2, c3⟩ := cells'.out _ q5
      have hB5 := F.below _ q5
      clear hb4 hb5 q3 q4
      by_cases hc : c = 0
      case' pos =>
        have hd := hdec.out hc
        clear hdec hC hE
        subst hc
        go_wp2_with fail
        refine (Decode_any L hL _ a4 n4 ho5.reads.2.2 ho5.reads.1).mono ?_
        intro e w6 hpost
        rw [DecPost, hd] at hpost
        obtain ⟨v6, rfl, hv6, hb6⟩ := hpost
        obtain ⟨a6, n6, rfl, -⟩ := hv6.parts
        have q6 := F.step _ _ q5 hb6
        have q6a := F.alloc _ (.cells #[.int .i64 x.kind, .int .i64 x.num, .string x.str, .slice a6 x.els.length n6] 24) q6
        have hv6a := hv6.alloc (Nat.le_refl _) (.cells #[.int .i64 x.kind, .int .i64 x.num, .string x.str, .slice a6 x.els.length n6] 24)
        clear c0 c1 c2 c3 ho5 hb6
        obtain ⟨c0, c1, c2, c3⟩ := cells'.out _ q6a
        go_wp2_with fail
        refine (Same_any x x _ w6.heap.size _ _ (by simp) ((F.rv hv q6a).mono (F.le q6)) hv6a).mono ?_
        rintro e w7 ⟨rfl, hb7⟩
        rw [same_refl]
        have q7 := F.step _ _ q6a hb7
        simp only [World.size_alloc] at hb7
        have hz7 : w6.heap.size + 1 ≤ w7.heap.size := by simpa using hb7.size
        obtain ⟨d0, d1, d2, d3⟩ := box4 hb7
        clear c0 c1 c2 c3
        obtain ⟨c0, c1, c2, c3⟩ := cells'.out _ q7
        go_wp2_with fail
        refine (rSame_any x x _ w6.heap.size _ _ (by omega) ((F.rv hv q7).mono (F.le q6)) (hv6a.under hb7 (by omega))).mono ?_
        rintro e w8 ⟨rfl, hb8⟩
        rw [same_refl]
        have q8 := F.step _ _ q7 hb8
        have hB := F.below _ q8
        clear c0 c1 c2 c3 d0 d1 d2 d3 q5 q6 q6a q7 hb7 hb8 hB5
        go_wp2_with fail
      case' neg =>
        have hcn : (c == 0) = false := by simpa using hc
        have hB := hB5
        clear c0 c1 c2 c3 hdec hE hC
        go_wp2_with fail
      all_goals
        refine (Decode_any raw (by omega) _ A rc hrc (RBs.under hraw'.out hB)).mono ?_
        intro e w9 hpost
        rw [DecPost] at hpost
        cases hdr : dec raw with
        | none =>
          rw [hdr] at hpost
          obtain ⟨rfl, hb9⟩ := hpost
          have hB9 := hB.trans (hb9.mono hB.size)
          have hz : ∀ W, RV W 0 (.mk 0 0 ⟨#[]⟩ []) (.agg #[.int .i64 0, .int .i64 0, .string ⟨#[]⟩, .slice none 0 0]) := fun W => RV.leaf (by unfold I64; omega) (by unfold I64; omega) (by simp [maxLen, ByteArray.size])
          unfold zeroV
          clear hdr hb9
          go_wp2_with fail
          refine (Same_any (.mk 0 0 ⟨#[]⟩ []) (.mk 0 0 ⟨#[]⟩ []) _ 0 _ _ (Nat.zero_le _) (hz _) (hz _)).mono ?_
          rintro e w10 ⟨rfl, hb10⟩
          rw [same_refl]
          have hB9a := hB9.alloc hB9.size (.cells #[.int .i64 0, .int .i64 0, .string ⟨#[]⟩, .slice none 0 0] 24)
          go_wp2_with fail
          go_ret
          exact ⟨rfl, hB9a.trans (hb10.mono hB9a.size)⟩
        | some y =>
          rw [hdr] at hpost
          obtain ⟨v9, rfl, hv9, hb9⟩ := hpost
          obtain ⟨hcy, ny, hey⟩ := dec_inv hdr
          have hby : big y ≤ 1000000 := by have := big_enc y (chk_zero hcy).1; rw [hey] at this; omega
          have hex : encB y = raw := by unfold encB; rw [if_pos hcy, hey]
          obtain ⟨a9, n9, rfl, -⟩ := hv9.parts
          have hB9 := hB.trans (hb9.mono hB.size)
          have hv9a := hv9.alloc (Nat.le_refl _) (.cells #[.int .i64 y.kind, .int .i64 y.num, .string y.str, .slice a9 y.els.length n9] 24)
          have hcy' := Lib.hid hcy
          have hex' := Lib.hid hex
          have hby' := Lib.hid hby
          clear hdr hb9 hv9 ny hey hcy hex hby
          go_wp2_with fail
          refine (Encode_any y hby'.out _ w9.heap.size _ (by simp) hv9a).mono ?_
          rintro e w10 ⟨v10, rfl, ho10, hb10⟩
          rw [hex'.out] at ho10
          rw [hcy'.out]
          obtain ⟨a10, n10, rfl⟩ := ho10.len
          have hB9a := hB9.alloc hB9.size (.cells #[.int .i64 y.kind, .int .i64 y.num, .string y.str, .slice a9 y.els.length n9] 24)
          have hB10 := hB9a.trans (hb10.mono hB9a.size)
          simp only [World.size_alloc] at hb10
          have hz10 : w9.heap.size + 1 ≤ w10.heap.size := by simpa using hb10.size
          obtain ⟨d0, d1, d2, d3⟩ := box4 hb10
          have k1 := ho10.conv
          have k2 := conv_str (c := rc) (RBs.under hraw'.out hB10)
          clear ho10 hB9a
          go_wp2_with fail
          refine (check_any y hby'.out _ w9.heap.size _ (by omega) (hv9a.under hb10 (by omega))).mono ?_
          rintro e w11 ⟨rfl, hb11⟩
          rw [hcy'.out]
          go_wp2_with fail
          go_ret
          exact ⟨rfl, hB10.trans (hb11.mono hB10.size)⟩
end Go.Proofs.Ytnodaeklifkobaa
