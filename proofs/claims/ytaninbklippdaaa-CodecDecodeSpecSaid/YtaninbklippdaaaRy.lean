/- The reference's reader: a list, walked. -/
import Derived.Test.YtaninbklippdaaaRx
import Derived.Deep.RegionLaw
namespace Go.Proofs.Ytaninbklippdaaa
open Go.RowKit

/-- What a reading that failed may count besides. -/
def lim (b : Bool) (n : Nat) : Nat := match b with | true => n | false => 0
theorem lim_true (n : Nat) : lim true n = n := rfl
theorem lim_false (n : Nat) : lim false n = 0 := rfl
theorem Box.alloc {w : World} {M : Nat} {lv : Value} (h : Box w M lv) (hM : M < w.heap.size) (o : Obj) : Box (w.alloc o) M lv := h.of (Below.heap_alloc w o M hM)
theorem Box.s3 {w : World} {M : Nat} {lv : Value} (h : Box w M lv) : w.cell? ⟨M, 3, none⟩ = some lv ∧ w.frozen? ⟨M, 3, none⟩ = false := ⟨h.b3, h.free 3⟩
theorem LS.drewn {w : World} {N : Nat} {v : Value} {l : List GV} (h : LS w N v l) : LS w.drew N v l := by
  obtain ⟨Vs, h1, h2, h3⟩ := h.row
  refine ⟨Vs, h1, h2.drew, fun i h h' => ?_⟩
  have hk : ∀ b o, (N ≤ b ∧ b < w.heap.size ∧ v.ownBlock ≠ some b) → w.drew.cell? ⟨b, o, none⟩ = w.cell? ⟨b, o, none⟩ := fun _ _ _ => rfl
  exact RVS.keep hk (h3 i h h')
theorem upd_trans {w w1 w2 : World} {R : Nat} (h1 : Upd w w1 R) (h2 : Upd w1 w2 R) : Upd w w2 R := h1.trans h2
attribute [local irreducible] Calls
set_option maxRecDepth 100000 in
set_option maxHeartbeats 6400000 in
theorem rlist_of (d' : Nat) (hd : d' + 1 ≤ 16) (ih : ∀ (w : World) (B R : Nat) (bs : List UInt8) (k : Nat), bs.length ≤ 1000000 → B ≤ R → R < w.heap.size → k ≤ bs.length → RS w B R bs k false →
      Calls Try.prog 18 #[.pointer (some ⟨R, 0, none⟩), .int .i64 ((16 : Int) - d')] w (RValP d' bs k w B R))
    (w : World) (B R : Nat) (bs : List UInt8) (k : Nat) (hlen : bs.length ≤ 1000000) (hB : B ≤ R) (hR : R < w.heap.size) (hlt : k < bs.length) (hc : bs[k] = 3) (h : RS w B R bs k false) :
    Calls Try.prog 18 #[.pointer (some ⟨R, 0, none⟩), .int .i64 ((16 : Int) - (d' + 1 : Nat))] w (RValP (d' + 1) bs k w B R) := by
  have ihH := Lib.hid ih
  clear ih
  have hst0 := Lib.hid (h.alloc hB hR (.cells #[.int .i64 0, .int .i64 0, .string ⟨#[]⟩, .slice none 0 0] 26))
  have hne1 : ¬ R = w.heap.size := by omega
  have hne2 : ¬ w.heap.size = R := by omega
  have hdc : Hid (bs.drop k = 3 :: bs.drop (k + 1)) := by show _ = _; rw [drop_cons hlt, hc]
  have hY := rnext_yes _ B R bs k false hB hlen hlt hst0.out
  rw [hc] at hY
  have hY := Lib.hid hY
  obtain ⟨z, hz⟩ : ∃ z : Int, z = 16 - ((d' + 1 : Nat) : Int) := ⟨_, rfl⟩
  rw [← hz]
  have hz16 : (z == 16) = false := by rw [beq_eq_false_iff_ne]; omega
  have hz1 : Hid ((16 : Int) - d' = z + 1) := by show _ = _; omega
  have hzw : IntKind.i64.wrap (z + 1) = z + 1 := IntWalk.i64_in _ (by omega)
  clear h hc
  have hzH := Lib.hid hz
  clear hz
  go_enter Try.func18, Try.ntmps18
  go_wp2_with fail
  refine hY.out.mono ?_
  rintro e w1 ⟨rfl, hst1, hup1, hsz1⟩
  have hN := Lib.hid (rnumber_any w1 B R bs (k + 1) hB hlen (by omega) hst1)
  have hup1 := Lib.hid hup1
  have hsz1 := Lib.hid hsz1
  clear hst1 hY
  go_wp2_with fail
  refine hN.out.mono ?_
  rintro e w2 ⟨u, k', bad', rfl, hu, hkk, hkl, hst2, hup2, hsz2, hstr⟩
  have hup := hup1.out.trans hup2
  obtain ⟨⟨g0, g1, g2, g3⟩, f0, f1, f2, f3⟩ := res4 hup hR
  obtain ⟨⟨A, cp, s0, sc, sb⟩, s1, s2, sf⟩ := hst2
  have sf1 := sf 1
  have sf2 := sf 2
  have hst2 : Hid (RS w2 B R bs k' bad') := ⟨⟨A, cp, s0, sc, sb⟩, s1, s2, sf⟩
  have hup := Lib.hid hup
  have hstr := Lib.hid (strong3 (d := d') hdc.out hstr)
  have hM : w2.heap.size = w.heap.size + 1 := by rw [hsz2, hsz1.out, World.size_alloc]
  clear hup2 hsz2 sf sb hN hup1 hsz1 hst0
  have hwr : IntKind.u64.wrap ((bs.length : Int) - k') = (bs.length : Int) - k' := by rw [IntKind.wrap_u64]; omega
  cases bad' with
  | true =>
    go_wp2_with fail
    go_quiet (fail)
    go_wp2_with fail
    exact bodyPost_ret (v := .agg #[.int .i64 0, .int .i64 0, .string ⟨#[]⟩, .slice none 0 0]) (by simp [results, Try.results18, go_sem, *]) rfl
      ⟨.mk 0 0 ⟨#[]⟩ [], _, k', true, rfl, RVS.leaf (by unfold I64; omega) (by unfold I64; omega) (by simp [maxLen, ByteArray.size]), by omega, hkl, by rw [big_leaf, show (⟨#[]⟩ : ByteArray).size = 0 from rfl, if_pos rfl]; omega,
        (((((hst2.out.draw _).set2 hB true).set_ hB hR _).set_ hB hR _).set_ hB hR _).set_ hB hR _, (((((hup.out.draw _).trans (Upd.set1 _ _ _ _)).alloc.set_ (Nat.le_refl _) _).set_ (Nat.le_refl _) _).set_ (Nat.le_refl _) _).set_ (Nat.le_refl _) _,
        fun y r hy => by cases (hstr.out y r hy).1⟩
  | false =>
    by_cases hbig : bs.length - k' < u
    · have hbig' : (bs.length : Int) - k' < u := by omega
      go_wp2_with fail
      go_quiet (fail)
      go_wp2_with fail
      exact bodyPost_ret (v := .agg #[.int .i64 0, .int .i64 0, .string ⟨#[]⟩, .slice none 0 0]) (by simp [results, Try.results18, go_sem, *]) rfl
        ⟨.mk 0 0 ⟨#[]⟩ [], _, k', true, rfl, RVS.leaf (by unfold I64; omega) (by unfold I64; omega) (by simp [maxLen, ByteArray.size]), by omega, hkl, by rw [big_leaf, show (⟨#[]⟩ : ByteArray).size = 0 from rfl, if_pos rfl]; omega,
          (((((hst2.out.draw _).set2 hB true).set_ hB hR _).set_ hB hR _).set_ hB hR _).set_ hB hR _, (((((hup.out.draw _).trans (Upd.set1 _ _ _ _)).alloc.set_ (Nat.le_refl _) _).set_ (Nat.le_refl _) _).set_ (Nat.le_refl _) _).set_ (Nat.le_refl _) _,
          fun y r hy => by have := (hstr.out y r hy).2.1; omega⟩
    · have hbig' : decide ((bs.length : Int) - k' < u) = false := decide_eq_false (by omega)
      go_wp2_with fail
      go_quiet (fail)
      go_wp2_with fail
      have hb0 := Box.new (w := w2.drewN nq) (M := w.heap.size + 1) hM 26
      have hR0 := (hst2.out.draw nq).alloc hB (by show R < w2.heap.size; omega) (.cells #[.int .i64 3, .int .i64 0, .string ⟨#[]⟩, .slice none 0 0] 26)
      have hU0 := (hup.out.draw nq).al2 (.cells #[.int .i64 3, .int .i64 0, .string ⟨#[]⟩, .slice none 0 0] 26)
      have hN0 : ((w2.drewN nq).alloc (.cells #[.int .i64 3, .int .i64 0, .string ⟨#[]⟩, .slice none 0 0] 26)).heap.size = w.heap.size + 2 := by rw [World.size_alloc]; show w2.heap.size + 1 = _; omega
      have hstrH := Lib.hid (fun y r hy => (hstr.out y r hy).2.2)
      have hul : u ≤ bs.length - k' := by omega
      clear hbig hbig' hwr g0 g1 g2 g3 f0 f1 f2 f3 s0 s1 s2 sf1 sf2 hst2 hup hstr hM
      generalize (w2.drewN nq).alloc (.cells #[.int .i64 3, .int .i64 0, .string ⟨#[]⟩, .slice none 0 0] 26) = W0 at *
      go_loopw [9] (fun i wr => ∃ (j : Nat) (dn : List GV) (lv : Value) (kj : Nat) (badj : Bool), j ≤ u ∧ i = .int .u64 j ∧ Hid (dn.length = j) ∧ Hid (Box wr (w.heap.size + 1) lv) ∧ Hid (LS wr (w.heap.size + 2) lv dn) ∧ k' ≤ kj ∧ kj ≤ bs.length ∧ Hid (RS wr B R bs kj badj) ∧
        Hid (Upd (w.alloc (.cells #[.int .i64 0, .int .i64 0, .string ⟨#[]⟩, .slice none 0 0] 26)) wr R) ∧ Hid (w.heap.size + 2 ≤ wr.heap.size) ∧ Hid (bigAll dn ≤ (kj - k') + lim badj (d' + 1)) ∧
        Hid (∀ y r, dval (d' + 1) (bs.drop k) = some (y, r) → badj = false ∧ ∃ l', dvals (dval d') (u - j) (bs.drop kj) = some (l', r) ∧ y = GV.mk 3 0 ⟨#[]⟩ (dn ++ l'))) (fun i _ => u - (intOf i).toNat)
      case atStart => exact ⟨0, [], .slice none 0 0, k', false, Nat.zero_le _, rfl, rfl, hb0, LS.nil _ _, Nat.le_refl _, hkl, hR0, hU0, by show _ ≤ _; omega, by show bigAll [] ≤ _; rw [bigAll]; exact Nat.zero_le _, fun y r hy => ⟨rfl, by
        obtain ⟨l, h1, h2⟩ := hstrH.out y r hy
        exact ⟨l, h1, h2⟩⟩⟩
      case round =>
        obtain ⟨j, dn, lv, kj, badj, hj, rfl, hdn, hbx, hls, hkj, hkjl, hst, hup, hsz, hbg, hstr⟩ := hrel
        clear hb0 hR0 hU0 hN0 hstrH
        have hflag := hst.out.c2
        cases badj with
        | true =>
          obtain ⟨⟨g0, g1, g2, g3⟩, f0, f1, f2, f3⟩ := res4 hup.out hR
          have hdnl : dn.length ≤ 1000000 := by have := hdn.out; omega
          obtain ⟨a, cap, rfl, hval⟩ := hls.out.val hdnl
          obtain ⟨q0, q1, q2, q3, -⟩ := hbx.out
          have hval := Lib.hid hval
          have hno : Hid (∀ y r, ¬ dval (d' + 1) (bs.drop k) = some (y, r)) := fun y r hy => by cases (hstr.out y r hy).1
          clear hls hbx hstr
          by_cases hju : j < u
          · have hju' : (j : Int) < u := by omega
            go_wp2_with fail
            exact bodyPost_ret (v := .agg #[.int .i64 3, .int .i64 0, .string ⟨#[]⟩, .slice a dn.length cap]) (by simp [results, Try.results18, go_sem, *]) rfl
              ⟨.mk 3 0 ⟨#[]⟩ dn, _, kj, true, rfl, (RVS.sets4 (N := w.heap.size) (fun b hb => by omega) hval.out).mono fun b hb => ⟨by omega, by simpa [World.setCell] using hb.2⟩, by omega, hkjl, by
                have := hbg.out
                rw [lim_true] at this
                rw [if_pos rfl, big, show (⟨#[]⟩ : ByteArray).size = 0 from rfl]
                omega, (((hst.out.set_ hB hR _).set_ hB hR _).set_ hB hR _).set_ hB hR _, (((hup.out.alloc.set_ (Nat.le_refl _) _).set_ (Nat.le_refl _) _).set_ (Nat.le_refl _) _).set_ (Nat.le_refl _) _,
                fun y r hy => (hno.out y r hy).elim⟩
          · have hju' : ¬ (j : Int) < u := by omega
            go_wp2_with fail
            exact bodyPost_ret (v := .agg #[.int .i64 3, .int .i64 0, .string ⟨#[]⟩, .slice a dn.length cap]) (by simp [results, Try.results18, go_sem, *]) rfl
              ⟨.mk 3 0 ⟨#[]⟩ dn, _, kj, true, rfl, (RVS.sets4 (N := w.heap.size) (fun b hb => by omega) hval.out).mono fun b hb => ⟨by omega, by simpa [World.setCell] using hb.2⟩, by omega, hkjl, by
                have := hbg.out
                rw [lim_true] at this
                rw [if_pos rfl, big, show (⟨#[]⟩ : ByteArray).size = 0 from rfl]
                omega, (((hst.out.set_ hB hR _).set_ hB hR _).set_ hB hR _).set_ hB hR _, (((hup.out.alloc.set_ (Nat.le_refl _) _).set_ (Nat.le_refl _) _).set_ (Nat.le_refl _) _).set_ (Nat.le_refl _) _,
                fun y r hy => (hno.out y r hy).elim⟩
        | false =>
          by_cases hju : j < u
          · have hju' : (j : Int) < u := by omega
            have hsz' := hsz.out
            have hbxd : Hid (Box wr.drew (w.heap.size + 1) lv) := (⟨hbx.out.b0, hbx.out.b1, hbx.out.b2, hbx.out.b3, hbx.out.free⟩ : Box wr.drew (w.heap.size + 1) lv)
            have hlsd : Hid (LS wr.drew (w.heap.size + 2) lv dn) := hls.out.drewn
            have hIH := ihH.out wr.drew B R bs kj hlen hB (by show R < wr.heap.size; omega) hkjl (by rw [World.drew_is_drewN]; exact hst.out.draw 1)
            rw [hz1.out] at hIH
            have hIH := Lib.hid hIH
            have hupd : Hid (Upd (w.alloc (.cells #[.int .i64 0, .int .i64 0, .string ⟨#[]⟩, .slice none 0 0] 26)) wr.drew R) := by
              show Upd _ _ _
              rw [World.drew_is_drewN]
              exact hup.out.draw 1
            have hdl : Hid (dn.length ≤ 1000000) := by have := hdn.out; show _ ≤ _; omega
            have hR2 : Hid (R < w.heap.size + 2) := by show _ < _; omega
            obtain ⟨q3, qf⟩ := hbx.out.s3
            clear hst hup hbx hls
            go_wp2_with fail
            go_region_law (first
                | (refine step_val rfl _ _ rfl (by rfl) hlsd.out hsz.out hR2.out hup2.out hx2.out o42.out (by rfl) hdl.out ?_; intro v3 w3 hls3 hg3 hlow3
                   obtain ⟨a3, c3, rfl, -⟩ := hls3.val hl3.out
                   have hbx3 : Hid (Box w3 (w.heap.size + 1) lv) := hbx1.out.of (block_grow hg3 hM1.out (fun e => by have := hlow3 _ e; omega))
                   obtain ⟨q3, qf⟩ := hbx3.out.s3
                   have hls3 := Lib.hid hls3
                   have hg3 := Lib.hid hg3
                   have hlow3 := Lib.hid hlow3)
                | (go_simp; go_at_call 18; refine hIH.out.mono ?_; rintro e w1 ⟨x, v, k2, bad2, rfl, hx2, hk2, hkl2, hbg2, hst2, hup2, hstr2⟩
                   obtain ⟨x0, x1, x2, x3, rfl, o40, o41, o42, o43⟩ := hx2.shape
                   have hz2 := hup2.size
                   have hbx1 : Hid (Box w1 (w.heap.size + 1) lv) := by
                     have e1 : w1.heap[w.heap.size + 1]? = wr.drew.heap[w.heap.size + 1]? := by
                       refine hup2.block (w.heap.size + 1) ?_ ?_
                       · show _ < wr.heap.size; omega
                       · intro e; injection e with e; omega
                     exact hbxd.out.of e1
                   have hM1 : Hid (w.heap.size + 1 < w1.heap.size) := by
                     have hz3 : wr.heap.size ≤ w1.heap.size := hz2
                     show _ < _
                     omega
                   have hl3 : Hid ((dn ++ [x]).length ≤ 1000000) := by have := hdn.out; show _ ≤ _; rw [List.length_append, List.length_singleton]; omega
                   obtain ⟨q3, qf⟩ := hbx1.out.s3
                   obtain ⟨q3b, qfb⟩ := (hbx1.out.alloc hM1.out (.cells #[x0, x1, x2, x3] 26)).s3
                   have o42 := Lib.hid (And.intro o40 (And.intro o41 (And.intro o42 o43)))
                   have hx2 := Lib.hid hx2
                   have hup2 := Lib.hid hup2
                   have hst2 := Lib.hid hst2
                   have hbg2 := Lib.hid hbg2
                   have hstr2 := Lib.hid hstr2
                   clear o40 o41 o43 hz2 hIH))
            all_goals
              have hs1 := hM1.out
              have hs2 := hg3.out.size
              simp only [World.size_alloc] at hs2
              have hblk : ∀ b, b < w.heap.size + 2 → w3.heap[b]? = w1.heap[b]? := fun b hb => block_grow hg3.out (by omega) (fun e => by have := hlow3.out b e; omega)
              have hls4 : LS w3 (w.heap.size + 2) (.slice a3 (dn.length + 1) c3) (dn ++ [x]) := by
                have := hls3.out
                simpa using this
              have hR4 : Hid (RS (w3.setCell ⟨w.heap.size + 1, 3, none⟩ (.slice a3 (dn.length + 1) c3)) B R bs k2 bad2) := (hst2.out.keep (fun o => World.cell?_of_block (hblk R (by omega))) (fun i => World.frozen?_of_block (hblk R (by omega))) (fun b o hb => World.cell?_of_block (hblk b (by omega)))).set_ hB (by omega) _
              have hU4 : Hid (Upd (w.alloc (.cells #[.int .i64 0, .int .i64 0, .string ⟨#[]⟩, .slice none 0 0] 26)) (w3.setCell ⟨w.heap.size + 1, 3, none⟩ (.slice a3 (dn.length + 1) c3)) R) := ((hupd.out.trans hup2.out).grow hg3.out (fun b hb => by have := hlow3.out b hb; simp; omega)).set_ (by simp) _
              have hB4 : Hid (Box (w3.setCell ⟨w.heap.size + 1, 3, none⟩ (.slice a3 (dn.length + 1) c3)) (w.heap.size + 1) (.slice a3 (dn.length + 1) c3)) := hbx3.out.put _
              have hL4 : Hid (LS (w3.setCell ⟨w.heap.size + 1, 3, none⟩ (.slice a3 (dn.length + 1) c3)) (w.heap.size + 2) (.slice a3 (dn.length + 1) c3) (dn ++ [x])) := hls4.put (by omega) _
              have hZ4 : Hid (w.heap.size + 2 ≤ (w3.setCell ⟨w.heap.size + 1, 3, none⟩ (.slice a3 (dn.length + 1) c3)).heap.size) := by
                show _ ≤ _
                rw [set_size]
                omega
              have hG4 : Hid (bigAll (dn ++ [x]) ≤ (k2 - k') + lim bad2 (d' + 1)) := by
                show _ ≤ _
                have h1 := hbg.out
                have h2 := hbg2.out
                rw [lim_false] at h1
                rw [bigAll_snoc]
                cases bad2
                · rw [if_neg (by decide)] at h2
                  rw [lim_false]
                  omega
                · rw [if_pos rfl] at h2
                  rw [lim_true]
                  omega
              have hS4 : Hid (∀ y r, dval (d' + 1) (bs.drop k) = some (y, r) → bad2 = false ∧ ∃ l', dvals (dval d') (u - (j + 1)) (bs.drop k2) = some (l', r) ∧ y = GV.mk 3 0 ⟨#[]⟩ ((dn ++ [x]) ++ l')) := fun y r hy => by
                obtain ⟨-, l', h1, h2⟩ := hstr.out y r hy
                rw [show u - j = (u - (j + 1)) + 1 by omega] at h1
                obtain ⟨h3, l2, h4, h5⟩ := strongS hstr2.out h1
                exact ⟨h3, l2, h4, by rw [h2, h5, List.append_assoc]; rfl⟩
              have hdn4 : Hid ((dn ++ [x]).length = j + 1) := by show _ = _; rw [List.length_append, hdn.out]; rfl
              clear hs1 hs2 hblk hls4 q3b qfb hls3 hg3 hlow3 hbx3 hstr hstr2 hbg hbg2 hst2 hup2 hx2 o42 hbx1 hM1 hl3 hbxd hlsd hupd
              generalize w3.setCell ⟨w.heap.size + 1, 3, none⟩ (.slice a3 (dn.length + 1) c3) = W4 at *
              go_wp2_with fail
              go_roundw
              case rel => exact ⟨j + 1, dn ++ [x], _, k2, bad2, by omega, by go_num, hdn4, hB4, hL4, by omega, hkl2, hR4, hU4, hZ4, hG4, hS4⟩
              case measure => simp [intOf]; omega
          · have hju' : ¬ (j : Int) < u := by omega
            obtain ⟨⟨g0, g1, g2, g3⟩, f0, f1, f2, f3⟩ := res4 hup.out hR
            have hdnl : dn.length ≤ 1000000 := by have := hdn.out; omega
            obtain ⟨a, cap, rfl, hval⟩ := hls.out.val hdnl
            obtain ⟨q0, q1, q2, q3, -⟩ := hbx.out
            have hval := Lib.hid hval
            have hfin : Hid (∀ y r, dval (d' + 1) (bs.drop k) = some (y, r) → GV.mk 3 0 ⟨#[]⟩ dn = y ∧ bs.drop kj = r) := fun y r hy => by
              obtain ⟨-, l', h1, h2⟩ := hstr.out y r hy
              rw [show u - j = 0 by omega, dvals] at h1
              simp only [Option.some.injEq, Prod.mk.injEq] at h1
              rw [h2, ← h1.1, List.append_nil]
              exact ⟨rfl, h1.2⟩
            clear hls hbx hstr
            go_wp2_with fail
            exact bodyPost_ret (v := .agg #[.int .i64 3, .int .i64 0, .string ⟨#[]⟩, .slice a dn.length cap]) (by simp [results, Try.results18, go_sem, *]) rfl
              ⟨.mk 3 0 ⟨#[]⟩ dn, _, kj, false, rfl, (RVS.sets4 (N := w.heap.size) (fun b hb => by omega) hval.out).mono fun b hb => ⟨by omega, by simpa [World.setCell] using hb.2⟩, by omega, hkjl, by
                have := hbg.out
                rw [lim_false] at this
                rw [if_neg (by decide), big, show (⟨#[]⟩ : ByteArray).size = 0 from rfl]
                omega, (((hst.out.set_ hB hR _).set_ hB hR _).set_ hB hR _).set_ hB hR _, (((hup.out.alloc.set_ (Nat.le_refl _) _).set_ (Nat.le_refl _) _).set_ (Nat.le_refl _) _).set_ (Nat.le_refl _) _,
                fun y r hy => ⟨(hfin.out y r hy).1, rfl, (hfin.out y r hy).2⟩⟩
end Go.Proofs.Ytaninbklippdaaa
