/- The reader: value; Decode. -/
import Derived.Test.YtaninbklippdaaaVl
import Derived.Recover
import Derived.Defers
namespace Go.Proofs.Ytaninbklippdaaa
open Go.RowKit

theorem Upd.alloc {w w1 : World} {R : Nat} {o : Obj} (h : Upd (w.alloc o) w1 R) : Upd w w1 R :=
  ⟨h.os, h.tape, h.output, by have := h.size; simp only [World.size_alloc] at this; omega, fun k hk hne => (h.block k (by simp; omega) hne).trans (Below.heap_alloc w o k hk)⟩
theorem Upd.set_ {w w1 : World} {R N j : Nat} (h : Upd w w1 R) (hN : w.heap.size ≤ N) (u : Value) : Upd w (w1.setCell ⟨N, j, none⟩ u) R :=
  ⟨h.os, h.tape, h.output, by simpa [World.setCell] using h.size, fun k hk hne => (Below.heap_setCell w1 ⟨N, j, none⟩ u k (by show k ≠ N; omega)).trans (h.block k hk hne)⟩
theorem St.set_ {w : World} {B R N j : Nat} {bs : List UInt8} (h : St w B R bs) (hB : B ≤ R) (hN : R < N) (u : Value) : St (w.setCell ⟨N, j, none⟩ u) B R bs :=
  h.far (fun o => World.cell?_setCell_other _ _ _ _ (by intro e; injection e with e; omega)) (World.frozen?_setCell _ _ _ _) (fun b o hb => World.cell?_setCell_other _ _ _ _ (by intro e; injection e with e; omega))

/-- The result's block, made first, behind whatever leaves it alone. -/
theorem res4 {w w1 : World} {R : Nat} {x0 x1 x2 x3 : Value} {t : TypeId} (h : Upd (w.alloc (.cells #[x0, x1, x2, x3] t)) w1 R) (hR : R < w.heap.size) :
    (w1.cell? ⟨w.heap.size, 0, none⟩ = some x0 ∧ w1.cell? ⟨w.heap.size, 1, none⟩ = some x1 ∧ w1.cell? ⟨w.heap.size, 2, none⟩ = some x2 ∧ w1.cell? ⟨w.heap.size, 3, none⟩ = some x3) ∧
    w1.frozen? ⟨w.heap.size, 0, none⟩ = false ∧ w1.frozen? ⟨w.heap.size, 1, none⟩ = false ∧ w1.frozen? ⟨w.heap.size, 2, none⟩ = false ∧ w1.frozen? ⟨w.heap.size, 3, none⟩ = false := by
  have hb : w1.heap[w.heap.size]? = some (.cells #[x0, x1, x2, x3] t) := by
    rw [h.block w.heap.size (by simp) (by intro e; injection e with e; omega)]
    exact heap_alloc_new w _
  refine ⟨⟨?_, ?_, ?_, ?_⟩, ?_, ?_, ?_, ?_⟩ <;> simp [World.cell?, World.frozen?, hb]

theorem St.alloc {w : World} {B R : Nat} {bs : List UInt8} (h : St w B R bs) (hB : B ≤ R) (hR : R < w.heap.size) (o : Obj) : St (w.alloc o) B R bs :=
  h.far (fun _ => World.cell?_alloc_lt w o _ hR) (World.frozen?_of_block (Below.heap_alloc w o R hR)) (fun b o' hb => World.cell?_alloc_lt w o ⟨b, o', none⟩ (by show b < _; omega))

theorem RVS.leaf {w : World} {S : Nat → Prop} {k n : Int} {s : ByteArray} (hk : I64 k) (hn : I64 n) (hs : s.size ≤ maxLen) : RVS w S (.mk k n s []) (.agg #[.int .i64 k, .int .i64 n, .string s, .slice none 0 0]) :=
  .mk k n s [] none 0 0 0 (fun _ => .nilFunc) hk hn hs (by simp) (by simp [maxLen]) (by simp) (by simp) (fun i h => absurd h (by simp)) (fun i h => absurd h (by simp))

theorem RVS.sets4 {w : World} {S : Nat → Prop} {N : Nat} {u0 u1 u2 u3 : Value} {v : GV} {x : Value} (hS : ∀ b, S b → b ≠ N) (h : RVS w S v x) :
    RVS ((((w.setCell ⟨N, 0, none⟩ u0).setCell ⟨N, 1, none⟩ u1).setCell ⟨N, 2, none⟩ u2).setCell ⟨N, 3, none⟩ u3) S v x :=
  h.keep fun b o hb => by
    have hne : ∀ j, (⟨N, j, none⟩ : Addr) ≠ ⟨b, o, none⟩ := fun j e => by injection e with e; exact hS b hb e.symm
    rw [World.cell?_setCell_other _ _ _ _ (hne 3), World.cell?_setCell_other _ _ _ _ (hne 2), World.cell?_setCell_other _ _ _ _ (hne 1), World.cell?_setCell_other _ _ _ _ (hne 0)]

theorem RBs.take {w : World} {B n : Nat} {A : Option Addr} {bs : List UInt8} (h : RBs w B A bs) : RBs w B A (bs.take n) := by
  intro hp
  rw [List.length_take] at hp
  obtain ⟨b, off, e, hb, hc⟩ := h (by omega)
  refine ⟨b, off, e, hb, fun j hj => ?_⟩
  rw [List.length_take] at hj
  rw [hc j (by omega), List.getElem_take]
theorem RBs.upd {w w' : World} {B R : Nat} {A : Option Addr} {bs : List UInt8} (h : RBs w B A bs) (hu : Upd w w' R) (hB : B ≤ R) (hR : R < w.heap.size) : RBs w' B A bs := by
  intro hp
  obtain ⟨b, off, e, hb, hc⟩ := h hp
  exact ⟨b, off, e, hb, fun j hj => by rw [hu.cell (by omega) (by omega)]; exact hc j hj⟩

theorem dval_nil (d : Nat) : dval d [] = none := by cases d <;> rfl
theorem dval_cons (d : Nat) (c : UInt8) (r : List UInt8) : dval d (c :: r) = if c = 1 then (rnum r 0 0).map fun p => (.mk 1 (sgn p.1) ⟨#[]⟩ [], p.2)
      else if c = 2 then (rnum r 0 0).bind fun p => if p.1 ≤ p.2.length then some (.mk 2 0 ⟨(p.2.take p.1).toArray⟩ [], p.2.drop p.1) else none
      else if c = 3 then (dlist d r).map fun q => (.mk 3 0 ⟨#[]⟩ q.1, q.2)
      else none := by
  cases d with
  | zero => simp [dval, dlist]
  | succ d =>
    simp only [dval, dlist]
    split
    · rfl
    · split
      · rfl
      · split
        · cases rnum r 0 0 <;> simp
        · rfl
theorem dlist_len {d : Nat} {bs : List UInt8} {l : List GV} {r : List UInt8} (h : dlist d bs = some (l, r)) : l.length ≤ bs.length := by
  cases d with
  | zero => simp [dlist] at h
  | succ d =>
    simp only [dlist] at h
    cases h1 : rnum bs 0 0 with
    | none => rw [h1] at h; cases h
    | some p =>
      rw [h1] at h
      simp only [Option.bind_some] at h
      have h2 := dvals_shorter (dval_shorter d) p.1 p.2 (l := l) (r := r) h
      have h3 := rnum_shorter bs 0 0 (u := p.1) (r := p.2) h1
      omega

set_option maxRecDepth 100000 in
set_option maxHeartbeats 3200000 in
theorem value_of (d : Nat) (_hd : d ≤ 16) (ih' : Hid (∀ (w : World) (B R : Nat) (bs : List UInt8), bs.length ≤ 1000000 → B ≤ R → R < w.heap.size → St w B R bs →
      Calls Try.prog 29 #[.pointer (some ⟨R, 0, none⟩), .int .i64 d] w (ListPost (dlist d bs) w B R)))
    (w : World) (B R : Nat) (bs : List UInt8) (hlen : bs.length ≤ 1000000) (hB : B ≤ R) (hR : R < w.heap.size) (hst : St w B R bs) :
    Calls Try.prog 16 #[.pointer (some ⟨R, 0, none⟩), .int .i64 d] w (ValPost (dval d bs) w B R) := by
  have hst1 := hst.alloc hB hR (.cells #[.int .i64 0, .int .i64 0, .string ⟨#[]⟩, .slice none 0 0] 26)
  have hz0 : R < (w.alloc (.cells #[.int .i64 0, .int .i64 0, .string ⟨#[]⟩, .slice none 0 0] 26)).heap.size := by simp; omega
  cases bs with
  | nil =>
    have hfin := Lib.hid (dval_nil d)
    go_enter Try.func16, Try.ntmps16
    go_wp2_with fail
    refine (take_no _ B R [] 1 (by simp) (by omega) (by simp) hst1).mono ?_
    rintro e w1 ⟨rfl, rfl⟩
    go_wp2_with fail
    refine ⟨rfl, ?_⟩
    rw [hfin.out]
    exact ⟨rfl, (Upd.refl _ _).alloc⟩
  | cons c r =>
    obtain ⟨⟨A, hc, hr⟩, hf⟩ := hst1
    obtain ⟨b0, off, rfl, hb0, hcell⟩ := hr (by simp)
    have hc0 := hcell 0 (by simp)
    simp only [Nat.add_zero, List.getElem_cons_zero] at hc0
    have hlt := World.block_lt_of_cell? _ _ hc0
    have hr6 : r.length ≤ 1000000 := by simp at hlen; omega
    have hdv := Lib.hid (dval_cons d c r)
    go_enter Try.func16, Try.ntmps16
    go_wp2_with fail
    refine (take_yes _ B R (c :: r) 1 (by simp) hlen hB _ hc hf hr).mono ?_
    rintro e w1 ⟨rfl, hst2, hup1, hsz1⟩
    have hst2 : St w1 B R r := hst2
    have hc1 := take_any_cell hup1 hlt (by omega) hc0
    have hz1 : R < w1.heap.size := by rw [hsz1]; exact hz0
    have hsz1' := Lib.hid hsz1
    clear hsz1 hcell hc hr hf hc0 hlt
    by_cases h1 : c = 1
    · subst h1
      have hN := Lib.hid (numeral_rd w1 B R r hr6 hB hz1 hst2)
      cases hres : rnum r 0 0 with
      | none =>
        rw [hres] at hN
        have hfin : Hid (dval d (1 :: r) = none) := by rw [hdv.out, hres]; rfl
        clear hres
        go_wp2_with fail
        refine hN.out.mono ?_
        rintro e w2 ⟨rfl, hup2, hsz2⟩
        clear hsz2
        go_wp2_with fail
        refine ⟨rfl, ?_⟩
        rw [hfin.out]
        exact ⟨rfl, (hup1.trans hup2).alloc⟩
      | some p =>
        obtain ⟨u, r2⟩ := p
        rw [hres] at hN
        have hult := rnum_lt r 0 0 (by simp) (by omega) hres
        have hfin : Hid (dval d (1 :: r) = some (.mk 1 (sgn u) ⟨#[]⟩ [], r2)) := by rw [hdv.out, hres]; rfl
        clear hres
        go_wp2_with fail
        refine hN.out.mono ?_
        rintro e w2 ⟨rfl, hst3, hup2, hsz2⟩
        have hup := hup1.trans hup2
        obtain ⟨⟨g0, g1, g2, g3⟩, f0, f1, f2, f3⟩ := res4 hup hR
        clear hsz2
        go_wp2_with fail
        refine (signed_any u (by omega) (by omega) _).mono ?_
        rintro e w3 ⟨rfl, rfl⟩
        go_wp2_with fail
        rw [hfin.out]
        exact bodyPost_ret (v := .agg #[.int .i64 1, .int .i64 (sgn u), .string ⟨#[]⟩, .slice none 0 0]) (by simp [results, Try.results16, go_sem, *]) rfl
          ⟨_, rfl, RVS.leaf (by unfold I64; omega) (sgn_range (by omega) (by omega)) (by simp [maxLen, ByteArray.size]), (((hst3.set_ hB hR _).set_ hB hR _).set_ hB hR _).set_ hB hR _, (((hup.alloc.set_ (Nat.le_refl _) _).set_ (Nat.le_refl _) _).set_ (Nat.le_refl _) _).set_ (Nat.le_refl _) _⟩
    · by_cases h2 : c = 2
      · subst h2
        have hN := Lib.hid (numeral_rd w1 B R r hr6 hB hz1 hst2)
        cases hres : rnum r 0 0 with
        | none =>
          rw [hres] at hN
          have hfin : Hid (dval d (2 :: r) = none) := by rw [hdv.out, hres]; rfl
          clear hres
          go_wp2_with fail
          refine hN.out.mono ?_
          rintro e w2 ⟨rfl, hup2, hsz2⟩
          clear hsz2
          go_wp2_with fail
          refine ⟨rfl, ?_⟩
          rw [hfin.out]
          exact ⟨rfl, (hup1.trans hup2).alloc⟩
        | some p =>
          obtain ⟨u, r2⟩ := p
          rw [hres] at hN
          have hult := rnum_lt r 0 0 (by simp) (by omega) hres
          have hrl := rnum_shorter r 0 0 hres
          by_cases hu : u ≤ r2.length
          · have hfin : Hid (dval d (2 :: r) = some (.mk 2 0 ⟨(r2.take u).toArray⟩ [], r2.drop u)) := by rw [hdv.out, hres]; show (if u ≤ r2.length then _ else _) = _; rw [if_pos hu]
            clear hres
            go_wp2_with fail
            refine hN.out.mono ?_
            rintro e w2 ⟨rfl, hst3, hup2, hsz2⟩
            have hz2 : R < w2.heap.size := by rw [hsz2]; exact hz1
            clear hsz2
            obtain ⟨⟨A2, hc2, hr2⟩, hf2⟩ := hst3
            go_wp2_with fail
            refine (take_yes _ B R r2 u hu (by omega) hB _ hc2 hf2 hr2).mono ?_
            rintro e w3 ⟨rfl, hst4, hup3, hsz3⟩
            have hup := (hup1.trans hup2).trans hup3
            obtain ⟨⟨g0, g1, g2, g3⟩, f0, f1, f2, f3⟩ := res4 hup hR
            have hcv := conv_str (c := u) ((hr2.upd hup3 hB hz2).take (n := u))
            rw [List.length_take, Nat.min_eq_left hu] at hcv
            clear hsz3 hc2 hr2 hf2
            go_wp2_with fail
            rw [hfin.out]
            exact bodyPost_ret (v := .agg #[.int .i64 2, .int .i64 0, .string ⟨(r2.take u).toArray⟩, .slice none 0 0]) (by simp [results, Try.results16, go_sem, *]) rfl
              ⟨_, rfl, RVS.leaf (by unfold I64; omega) (by unfold I64; omega) (by simp [maxLen, ByteArray.size]; omega), (((hst4.set_ hB hR _).set_ hB hR _).set_ hB hR _).set_ hB hR _, (((hup.alloc.set_ (Nat.le_refl _) _).set_ (Nat.le_refl _) _).set_ (Nat.le_refl _) _).set_ (Nat.le_refl _) _⟩
          · have hfin : Hid (dval d (2 :: r) = none) := by rw [hdv.out, hres]; show (if u ≤ r2.length then _ else _) = _; rw [if_neg hu]
            clear hres
            go_wp2_with fail
            refine hN.out.mono ?_
            rintro e w2 ⟨rfl, hst3, hup2, hsz2⟩
            clear hsz2
            go_wp2_with fail
            refine (take_no _ B R r2 u (by omega) (by omega) (by omega) hst3).mono ?_
            rintro e w3 ⟨rfl, rfl⟩
            go_wp2_with fail
            refine ⟨rfl, ?_⟩
            rw [hfin.out]
            exact ⟨rfl, (hup1.trans hup2).alloc⟩
      · by_cases h3 : c = 3
        · subst h3
          have hL := Lib.hid (ih'.out w1 B R r hr6 hB hz1 hst2)
          cases hres : dlist d r with
          | none =>
            rw [hres] at hL
            have hfin : Hid (dval d (3 :: r) = none) := by rw [hdv.out, hres]; rfl
            clear hres
            go_wp2_with fail
            refine hL.out.mono ?_
            rintro e w2 ⟨rfl, hup2⟩
            go_wp2_with fail
            refine ⟨rfl, ?_⟩
            rw [hfin.out]
            exact ⟨rfl, (hup1.trans hup2).alloc⟩
          | some q =>
            obtain ⟨l, r2⟩ := q
            rw [hres] at hL
            have hll := dlist_len hres
            have hfin : Hid (dval d (3 :: r) = some (.mk 3 0 ⟨#[]⟩ l, r2)) := by rw [hdv.out, hres]; rfl
            clear hres
            go_wp2_with fail
            refine hL.out.mono ?_
            rintro e w2 ⟨v, rfl, hls, hst3, hup2⟩
            have hup := hup1.trans hup2
            obtain ⟨⟨g0, g1, g2, g3⟩, f0, f1, f2, f3⟩ := res4 hup hR
            obtain ⟨a, cap, rfl, hval⟩ := hls.val (by omega)
            have hval' := Lib.hid hval
            clear hls hval
            go_wp2_with fail
            rw [hfin.out]
            have hsw := hsz1'.out
            simp only [World.size_alloc] at hsw
            exact bodyPost_ret (v := .agg #[.int .i64 3, .int .i64 0, .string ⟨#[]⟩, .slice a l.length cap]) (by simp [results, Try.results16, go_sem, *]) rfl
              ⟨_, rfl, (RVS.sets4 (N := w.heap.size) (fun b hb => by omega) hval'.out).mono fun b hb => ⟨by omega, by simpa [World.setCell] using hb.2⟩, (((hst3.set_ hB hR _).set_ hB hR _).set_ hB hR _).set_ hB hR _, (((hup.alloc.set_ (Nat.le_refl _) _).set_ (Nat.le_refl _) _).set_ (Nat.le_refl _) _).set_ (Nat.le_refl _) _⟩
        · have n1 : ((c.toNat : Int) == 1) = false := beq_eq_false_iff_ne.2 (fun e => h1 (UInt8.toNat_inj.1 (by show c.toNat = 1; omega)))
          have n2 : ((c.toNat : Int) == 2) = false := beq_eq_false_iff_ne.2 (fun e => h2 (UInt8.toNat_inj.1 (by show c.toNat = 2; omega)))
          have n3 : ((c.toNat : Int) == 3) = false := beq_eq_false_iff_ne.2 (fun e => h3 (UInt8.toNat_inj.1 (by show c.toNat = 3; omega)))
          have hfin : Hid (dval d (c :: r) = none) := by rw [hdv.out, if_neg h1, if_neg h2, if_neg h3]; rfl
          clear h1 h2 h3
          go_wp2_with fail
          refine ⟨rfl, ?_⟩
          rw [hfin.out]
          exact ⟨rfl, hup1.alloc⟩

theorem value_any (d : Nat) : d ≤ 16 → ∀ (w : World) (B R : Nat) (bs : List UInt8), bs.length ≤ 1000000 → B ≤ R → R < w.heap.size → St w B R bs →
    Calls Try.prog 16 #[.pointer (some ⟨R, 0, none⟩), .int .i64 d] w (ValPost (dval d bs) w B R) := by
  induction d with
  | zero =>
    intro hd w B R bs hlen hB hR hst
    exact value_of 0 hd (Lib.hid (list_of 0 hd fun d' e => absurd e (by omega))) w B R bs hlen hB hR hst
  | succ d ih =>
    intro hd w B R bs hlen hB hR hst
    refine value_of (d + 1) hd (Lib.hid (list_of (d + 1) hd fun d' e => ?_)) w B R bs hlen hB hR hst
    have e2 : d' = d := by omega
    subst e2
    exact ih (by omega)
end Go.Proofs.Ytaninbklippdaaa
