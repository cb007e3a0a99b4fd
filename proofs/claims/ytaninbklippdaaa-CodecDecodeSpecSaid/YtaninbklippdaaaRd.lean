/- The reference's Decode. -/
import Derived.Test.YtaninbklippdaaaRz
import Derived.Deep.RegionLaw
import Derived.Test.YtaninbklippdaaaDe
import Derived.Test.YtaninbklippdaaaCv
import Derived.Test.YtaninbklippdaaaPl
namespace Go.Proofs.Ytaninbklippdaaa
open Go.RowKit

/-- What the reference's Decode holds ahead of its test, and behind whatever leaves it alone. -/
theorem dec_mid {bs : List UInt8} {w w1 : World} {A : Option Addr} {c k' : Nat} {bad' : Bool} {x : GV} {a : Option Addr} {cap : Nat} (hr : RBs w w.heap.size A bs)
    (hx : RVS w1 (fun b => ((w.alloc (.cells #[.int .i64 0, .int .i64 0, .string ⟨#[]⟩, .slice none 0 0] 26)).alloc (.cells #[.slice A bs.length c, .int .i64 0, .bool false] 45)).heap.size ≤ b ∧ b < w1.heap.size) x (.agg #[.int .i64 x.kind, .int .i64 x.num, .string x.str, .slice a x.els.length cap]))
    (hst : RS w1 w.heap.size (w.heap.size + 1) bs k' bad')
    (hup : Upd ((w.alloc (.cells #[.int .i64 0, .int .i64 0, .string ⟨#[]⟩, .slice none 0 0] 26)).alloc (.cells #[.slice A bs.length c, .int .i64 0, .bool false] 45)) w1 (w.heap.size + 1)) :
    ∀ W', Below (w1.alloc (.cells #[.int .i64 x.kind, .int .i64 x.num, .string x.str, .slice a x.els.length cap] 26)).heap.size (w1.alloc (.cells #[.int .i64 x.kind, .int .i64 x.num, .string x.str, .slice a x.els.length cap] 26)) W' →
      W'.cell? ⟨w.heap.size + 1, 2, none⟩ = some (.bool bad') ∧ W'.cell? ⟨w.heap.size + 1, 1, none⟩ = some (.int .i64 k') ∧
      W'.cell? ⟨w1.heap.size, 0, none⟩ = some (.int .i64 x.kind) ∧ W'.cell? ⟨w1.heap.size, 1, none⟩ = some (.int .i64 x.num) ∧ W'.cell? ⟨w1.heap.size, 2, none⟩ = some (.string x.str) ∧ W'.cell? ⟨w1.heap.size, 3, none⟩ = some (.slice a x.els.length cap) ∧
      (convert 22 9 (.slice A bs.length c)).run Try.prog W' = .ok (.string ⟨bs.toArray⟩) W' ∧
      (W'.cell? ⟨w.heap.size, 0, none⟩ = some (.int .i64 0) ∧ W'.cell? ⟨w.heap.size, 1, none⟩ = some (.int .i64 0) ∧ W'.cell? ⟨w.heap.size, 2, none⟩ = some (.string ⟨#[]⟩) ∧ W'.cell? ⟨w.heap.size, 3, none⟩ = some (.slice none 0 0)) ∧
      (W'.frozen? ⟨w.heap.size, 0, none⟩ = false ∧ W'.frozen? ⟨w.heap.size, 1, none⟩ = false ∧ W'.frozen? ⟨w.heap.size, 2, none⟩ = false ∧ W'.frozen? ⟨w.heap.size, 3, none⟩ = false) ∧
      Below w.heap.size w W' ∧ RVS W' (fun b => w.heap.size + 2 ≤ b ∧ b < W'.heap.size) x (.agg #[.int .i64 x.kind, .int .i64 x.num, .string x.str, .slice a x.els.length cap]) := by
  intro W' hb
  have hz1 : w.heap.size + 2 ≤ w1.heap.size := by have := hup.size; simpa using this
  have hzb := hb.size
  simp only [World.size_alloc] at hb hzb
  have hk1 : ∀ b o, b < w1.heap.size → W'.cell? ⟨b, o, none⟩ = w1.cell? ⟨b, o, none⟩ := fun b o h => (hb.cell (p := ⟨b, o, none⟩) (by show b < _; omega)).trans (World.cell?_alloc_lt w1 _ ⟨b, o, none⟩ h)
  have hP := heap_alloc_new w1 (.cells #[.int .i64 x.kind, .int .i64 x.num, .string x.str, .slice a x.els.length cap] 26)
  have hP' := (hb.block w1.heap.size (by omega)).trans hP
  have hN0 : W'.heap[w.heap.size]? = some (.cells #[.int .i64 0, .int .i64 0, .string ⟨#[]⟩, .slice none 0 0] 26) := by
    rw [hb.block _ (by omega), Below.heap_alloc w1 _ _ (by omega), hup.block w.heap.size (by simp only [World.size_alloc]; omega) (by intro e; injection e with e; omega), Below.heap_alloc _ _ _ (by simp)]
    exact heap_alloc_new w _
  have hk0 : ∀ b o, b < w.heap.size → W'.cell? ⟨b, o, none⟩ = w.cell? ⟨b, o, none⟩ := fun b o h => by
    rw [hk1 b o (by omega), hup.cell (by simp; omega) (by omega), World.cell?_alloc_lt _ _ ⟨b, o, none⟩ (by show b < _; simp; omega), World.cell?_alloc_lt _ _ ⟨b, o, none⟩ h]
  refine ⟨(hk1 _ _ (by omega)).trans hst.c2, (hk1 _ _ (by omega)).trans hst.c1, by simp [World.cell?, hP'], by simp [World.cell?, hP'], by simp [World.cell?, hP'], by simp [World.cell?, hP'], ?_, ?_, ?_, ?_, ?_⟩
  · refine conv_str (B := w.heap.size) fun hp => ?_
    obtain ⟨b, off, e, hb, hcell⟩ := hr hp
    exact ⟨b, off, e, hb, fun j hj => (hk0 _ _ hb).trans (hcell j hj)⟩
  · refine ⟨?_, ?_, ?_, ?_⟩ <;> simp [World.cell?, hN0]
  · refine ⟨?_, ?_, ?_, ?_⟩ <;> simp [World.frozen?, hN0]
  · refine ⟨hb.os.trans hup.os, hb.tape.trans hup.tape, hb.output.trans hup.output, by omega, fun k hk => ?_⟩
    rw [hb.block _ (by omega), Below.heap_alloc w1 _ _ (by omega), hup.block k (by simp; omega) (by intro e; injection e with e; omega), Below.heap_alloc _ _ _ (by simp; omega), Below.heap_alloc _ _ _ hk]
  · refine (hx.keep (w' := W') fun b o h => hk1 b o h.2).mono fun b h => ⟨by have := h.1; simpa using this, by omega⟩

theorem dec_strong {bs : List UInt8} {k' : Nat} {bad' : Bool} {x : GV} (h : ∀ y r, dval 16 (bs.drop 0) = some (y, r) → x = y ∧ bad' = false ∧ bs.drop k' = r) (hkl : k' ≤ bs.length) {y : GV} (hy : dec bs = some y) : x = y ∧ bad' = false ∧ k' = bs.length := by
  unfold dec at hy
  cases hv : dval 16 bs with
  | none => rw [hv] at hy; cases hy
  | some p =>
    rw [hv] at hy
    simp only [Option.bind_some] at hy
    split at hy
    · rename_i h0
      simp only [Option.some.injEq] at hy
      obtain ⟨h1, h2, h3⟩ := h p.1 p.2 hv
      refine ⟨h1.trans hy, h2, ?_⟩
      rw [← h3, List.length_drop] at h0
      omega
    · cases hy

theorem chk_bad {x : GV} (h : ¬ chk x = 0) : chk x = 1 ∨ chk x = 2 := by
  unfold chk at h ⊢
  by_cases h1 : formed x = true
  · rw [if_pos h1] at h ⊢
    by_cases h2 : 16 < dep x
    · rw [if_pos h2]; exact .inr rfl
    · rw [if_neg h2] at h; exact absurd rfl h
  · rw [if_neg h1]; exact .inl rfl

attribute [local irreducible] Calls
set_option maxRecDepth 100000 in
set_option maxHeartbeats 6400000 in
theorem RDecode_any (bs : List UInt8) (hlen : bs.length ≤ 1000000) (w : World) (A : Option Addr) (c : Nat) (hc : bs.length ≤ c) (hr : RBs w w.heap.size A bs) : Calls Try.prog 6 #[.slice A bs.length c] w (DecPost bs w) := by
  have hst : RS ((w.alloc (.cells #[.int .i64 0, .int .i64 0, .string ⟨#[]⟩, .slice none 0 0] 26)).alloc (.cells #[.slice A bs.length c, .int .i64 0, .bool false] 45)) w.heap.size (w.heap.size + 1) bs 0 false := by
    refine ⟨⟨A, c, ?_, hc, fun hp => ?_⟩, ?_, ?_, fun i => World.frozen?_alloc_at _ _ _ _ (by simp)⟩
    · rw [World.cell?_alloc_at _ _ _ _ (by simp)]; rfl
    · obtain ⟨b, off, e, hb, hcell⟩ := hr hp
      refine ⟨b, off, e, hb, fun j hj => ?_⟩
      rw [World.cell?_alloc_past _ _ _ (by simp; omega), World.cell?_alloc_past _ _ _ hb]
      exact hcell j hj
    · rw [World.cell?_alloc_at _ _ _ _ (by simp)]; rfl
    · rw [World.cell?_alloc_at _ _ _ _ (by simp)]; rfl
  have hV := rvalue_any 16 (by omega) _ w.heap.size (w.heap.size + 1) bs 0 hlen (by omega) (by simp) (Nat.zero_le _) hst
  rw [show (16 : Int) - ((16 : Nat) : Int) = 0 by omega] at hV
  have hV := Lib.hid hV
  have hrH := Lib.hid hr
  clear hst hr
  go_enter Try.func6, Try.ntmps6
  go_wp2_with fail
  refine hV.out.mono ?_
  rintro e w1 ⟨x, v, k', bad', rfl, hx, -, hkl, hbg, hst1, hup1, hstr⟩
  obtain ⟨a, cap, rfl⟩ := hx.form
  have hxH := Lib.hid hx
  have hstH := Lib.hid hst1
  have hupH := Lib.hid hup1
  have hstrH := Lib.hid hstr
  have hbgH := Lib.hid hbg
  clear hx hst1 hup1 hstr hbg hV
  go_wp2_with fail
  have hmid := Lib.hid (dec_mid (x := x) hrH.out hxH.out hstH.out hupH.out)
  have hz1 : w.heap.size + 2 ≤ w1.heap.size := by have := hupH.out.size; simpa using this
  have hnd : Hid (∀ y, dec bs = some y → x = y ∧ bad' = false ∧ k' = bs.length) := fun y hy => dec_strong hstrH.out hkl hy
  have hnums : Nums x := (hxH.out.lt (fun b hb => hb.2)).nums
  have hnums := Lib.hid hnums
  clear hrH hxH hstH hupH hstrH
  generalize hW2 : w1.alloc (.cells #[.int .i64 x.kind, .int .i64 x.num, .string x.str, .slice a x.els.length cap] 26) = W2 at *
  have hz2 : W2.heap.size = w1.heap.size + 1 := by rw [← hW2, World.size_alloc]
  have hWH := Lib.hid hW2
  clear hW2
  obtain ⟨c2, c1, p0, p1, p2, p3, hcv, ⟨g0, g1, g2, g3⟩, ⟨f0, f1, f2, f3⟩, hbelow⟩ := hmid.out W2 (Below.refl _ _)
  have hbelow := Lib.hid hbelow
  cases bad' with
  | true =>
    have hdec : Hid (dec bs = none) := by
      show _ = _
      cases h : dec bs with
      | none => rfl
      | some y => cases (hnd.out y h).2.1
    go_quiet (fail)
    go_wp2_with fail
    exact bodyPost_ret (v := .tuple #[.agg #[.int .i64 0, .int .i64 0, .string ⟨#[]⟩, .slice none 0 0], .int .i64 10]) (by simp [results, Try.results6, go_sem, *]) rfl (by
      unfold DecPost
      rw [hdec.out]
      exact ⟨rfl, below_set (below_set (below_set (below_set (dN hbelow.out.1 _) (Nat.le_refl _) _ _) (Nat.le_refl _) _ _) (Nat.le_refl _) _ _) (Nat.le_refl _) _ _⟩)
  | false =>
    have hbig : big x ≤ 1000000 := by have := hbgH.out; simp at this; omega
    by_cases hat : k' = bs.length
    · subst hat
      have hS : Hid (∀ W, Below W2.heap.size W2 W → W.cell? ⟨w.heap.size + 1, 2, none⟩ = some (.bool false) ∧ W.cell? ⟨w.heap.size + 1, 1, none⟩ = some (.int .i64 bs.length) ∧ W.cell? ⟨w1.heap.size, 0, none⟩ = some (.int .i64 x.kind) ∧ W.cell? ⟨w1.heap.size, 1, none⟩ = some (.int .i64 x.num) ∧ W.cell? ⟨w1.heap.size, 2, none⟩ = some (.string x.str) ∧ W.cell? ⟨w1.heap.size, 3, none⟩ = some (.slice a x.els.length cap) ∧ (convert 22 9 (.slice A bs.length c)).run Try.prog W = .ok (.string ⟨bs.toArray⟩) W) := fun W hb => by
        obtain ⟨q2, q1, r0, r1, r2, r3, r4, -⟩ := hmid.out W hb
        exact ⟨q2, q1, r0, r1, r2, r3, r4⟩
      have hbd : Hid (Below W2.heap.size W2 W2.drew) := (⟨rfl, rfl, rfl, Nat.le_refl _, fun _ _ => rfl⟩ : Below W2.heap.size W2 W2.drew)
      have hC := Lib.hid (rcheck_any x hbig W2.drew W2.heap.size _ (Nat.le_refl _) ((hmid.out W2.drew hbd.out).2.2.2.2.2.2.2.2.2.2.lt (fun b hb => hb.2)))
      have hbigH := Lib.hid hbig
      clear hbig hbgH
      by_cases hck : chk x = 0
      · rw [hck] at hC
        have hfm := Lib.hid (chk_zero hck).1
        have hckH := Lib.hid hck
        clear hck
        by_cases hen : enc x = bs
        · have hdec : Hid (dec bs = some x) := by show _ = _; rw [← hen]; exact dec_enc hbigH.out hnums.out hckH.out
          have henH := Lib.hid hen
          clear hen hnd g0 g1 g2 g3 f0 f1 f2 f3
          first
            | (go_region_law (first
                | (go_simp; go_at_call 19; refine hC.out.mono ?_; rintro e w3 ⟨rfl, hb3⟩
                   have hb3 : Hid (Below W2.heap.size W2 w3) := unD hb3
                   have hE := Lib.hid (rencode_any x hbigH.out hfm.out w3 w3.heap.size _ (Nat.le_refl _) ((hmid.out w3 hb3.out).2.2.2.2.2.2.2.2.2.2.lt (fun b hb => hb.2)))
                   clear c2 c1 p0 p1 p2 p3 hcv
                   obtain ⟨-, -, p0, p1, p2, p3, hcv⟩ := hS.out w3 hb3.out)
                | (go_simp; go_at_call 20; refine hE.out.mono ?_; rintro e w4 ⟨v4, rfl, ho4, hb4⟩
                   obtain ⟨a4, n4, rfl⟩ := ho4.len
                   have hcv4 := ho4.conv
                   rw [henH.out] at hcv4 ⊢
                   have hb4 : Hid (Below W2.heap.size W2 w4) := hb3.out.trans (hb4.mono hb3.out.size)
                   clear ho4 hcv p0 p1 p2 p3
                   obtain ⟨-, -, -, -, -, -, hcv⟩ := hS.out w4 hb4.out)))
            | fail
          all_goals
            obtain ⟨-, -, p0, p1, p2, p3, -, ⟨g0, g1, g2, g3⟩, ⟨f0, f1, f2, f3⟩, hbw⟩ := hmid.out w4 hb4.out
            have hbw := Lib.hid hbw
            go_wp2_with fail
            exact bodyPost_ret (v := .tuple #[.agg #[.int .i64 x.kind, .int .i64 x.num, .string x.str, .slice a x.els.length cap], .int .i64 0]) (by simp [results, Try.results6, go_sem, *]) rfl (by
              unfold DecPost
              rw [hdec.out]
              exact ⟨_, rfl, (RVS.sets4 (N := w.heap.size) (fun b hb => by omega) hbw.out.2).lt (fun b hb => by simpa [World.setCell] using hb.2), below_set (below_set (below_set (below_set hbw.out.1 (Nat.le_refl _) _ _) (Nat.le_refl _) _ _) (Nat.le_refl _) _ _) (Nat.le_refl _) _ _⟩)
        · have hdec : Hid (dec bs = none) := by
            show _ = _
            cases h : dec bs with
            | none => rfl
            | some y => exact absurd ((hnd.out y h).1 ▸ (dec_inv h).2.2) hen
          have hne : (enc x == bs) = false := by rw [beq_eq_false_iff_ne]; exact hen
          clear hen hnd g0 g1 g2 g3 f0 f1 f2 f3
          first
            | (go_region_law (first
                | (go_simp; go_at_call 19; refine hC.out.mono ?_; rintro e w3 ⟨rfl, hb3⟩
                   have hb3 : Hid (Below W2.heap.size W2 w3) := unD hb3
                   have hE := Lib.hid (rencode_any x hbigH.out hfm.out w3 w3.heap.size _ (Nat.le_refl _) ((hmid.out w3 hb3.out).2.2.2.2.2.2.2.2.2.2.lt (fun b hb => hb.2)))
                   clear c2 c1 p0 p1 p2 p3 hcv
                   obtain ⟨-, -, p0, p1, p2, p3, hcv⟩ := hS.out w3 hb3.out)
                | (go_simp; go_at_call 20; refine hE.out.mono ?_; rintro e w4 ⟨v4, rfl, ho4, hb4⟩
                   obtain ⟨a4, n4, rfl⟩ := ho4.len
                   have hcv4 := ho4.conv
                   skip
                   have hb4 : Hid (Below W2.heap.size W2 w4) := hb3.out.trans (hb4.mono hb3.out.size)
                   clear ho4 hcv p0 p1 p2 p3
                   obtain ⟨-, -, -, -, -, -, hcv⟩ := hS.out w4 hb4.out)))
            | fail
          all_goals
            obtain ⟨-, -, -, -, -, -, -, ⟨g0, g1, g2, g3⟩, ⟨f0, f1, f2, f3⟩, hbw⟩ := hmid.out w4 hb4.out
            have hbw := Lib.hid hbw
            go_wp2_with fail
            exact bodyPost_ret (v := .tuple #[.agg #[.int .i64 0, .int .i64 0, .string ⟨#[]⟩, .slice none 0 0], .int .i64 10]) (by simp [results, Try.results6, go_sem, *]) rfl (by
              unfold DecPost
              rw [hdec.out]
              exact ⟨rfl, below_set (below_set (below_set (below_set hbw.out.1 (Nat.le_refl _) _ _) (Nat.le_refl _) _ _) (Nat.le_refl _) _ _) (Nat.le_refl _) _ _⟩)
      · have hdec : Hid (dec bs = none) := by
          show _ = _
          cases h : dec bs with
          | none => rfl
          | some y => exact absurd ((hnd.out y h).1 ▸ (dec_inv h).1) hck
        have hcc := chk_bad hck
        clear hck hnd hcv
        rcases hcc with hcc | hcc
        all_goals
          rw [hcc] at hC
          have hcH := Lib.hid hcc
          clear hcc
          first
            | (go_region_law
                (go_simp; go_at_call 19; refine hC.out.mono ?_; rintro e w3 ⟨rfl, hb3⟩
                 have hb3 : Hid (Below W2.heap.size W2 w3) := unD hb3
                 clear c2 c1 p0 p1 p2 p3 g0 g1 g2 g3 f0 f1 f2 f3
                 obtain ⟨-, -, -, -, -, -, -, ⟨g0, g1, g2, g3⟩, ⟨f0, f1, f2, f3⟩, hbw⟩ := hmid.out w3 hb3.out
                 have hbw := Lib.hid hbw))
            | fail
          all_goals
            go_wp2_with fail
            exact bodyPost_ret (v := .tuple #[.agg #[.int .i64 0, .int .i64 0, .string ⟨#[]⟩, .slice none 0 0], .int .i64 10]) (by simp [results, Try.results6, go_sem, *]) rfl (by
              unfold DecPost
              rw [hdec.out]
              exact ⟨rfl, below_set (below_set (below_set (below_set hbw.out.1 (Nat.le_refl _) _ _) (Nat.le_refl _) _ _) (Nat.le_refl _) _ _) (Nat.le_refl _) _ _⟩)
    · have hdec : Hid (dec bs = none) := by
        show _ = _
        cases h : dec bs with
        | none => rfl
        | some y => exact absurd (hnd.out y h).2.2 hat
      have hat' : ((k' : Int) != bs.length) = true := by rw [bne_iff_ne]; omega
      clear hnd hat hbig
      go_quiet (fail)
      go_wp2_with fail
      exact bodyPost_ret (v := .tuple #[.agg #[.int .i64 0, .int .i64 0, .string ⟨#[]⟩, .slice none 0 0], .int .i64 10]) (by simp [results, Try.results6, go_sem, *]) rfl (by
        unfold DecPost
        rw [hdec.out]
        exact ⟨rfl, below_set (below_set (below_set (below_set (dN hbelow.out.1 _) (Nat.le_refl _) _ _) (Nat.le_refl _) _ _) (Nat.le_refl _) _ _) (Nat.le_refl _) _ _⟩)
end Go.Proofs.Ytaninbklippdaaa
