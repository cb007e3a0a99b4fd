/- The reader: value, list. -/
import Derived.Test.YtaninbklippdaaaRn
import Derived.Laws.BytesArg
namespace Go.Proofs.Ytaninbklippdaaa
open Go.RowKit

/-! Plain -/
def dvals (f : List UInt8 → Option (GV × List UInt8)) : Nat → List UInt8 → Option (List GV × List UInt8)
  | 0, bs => some ([], bs)
  | n + 1, bs => (f bs).bind fun p => (dvals f n p.2).map fun q => (p.1 :: q.1, q.2)
/-- The value that is next, and what remains. -/
def dval : Nat → List UInt8 → Option (GV × List UInt8)
  | 0, bs => match bs with
    | [] => none
    | c :: r => if c = 1 then (rnum r 0 0).map fun p => (.mk 1 (sgn p.1) ⟨#[]⟩ [], p.2)
      else if c = 2 then (rnum r 0 0).bind fun p => if p.1 ≤ p.2.length then some (.mk 2 0 ⟨(p.2.take p.1).toArray⟩ [], p.2.drop p.1) else none
      else none
  | d + 1, bs => match bs with
    | [] => none
    | c :: r => if c = 1 then (rnum r 0 0).map fun p => (.mk 1 (sgn p.1) ⟨#[]⟩ [], p.2)
      else if c = 2 then (rnum r 0 0).bind fun p => if p.1 ≤ p.2.length then some (.mk 2 0 ⟨(p.2.take p.1).toArray⟩ [], p.2.drop p.1) else none
      else if c = 3 then (rnum r 0 0).bind fun p => (dvals (dval d) p.1 p.2).map fun q => (.mk 3 0 ⟨#[]⟩ q.1, q.2)
      else none
/-- A list: its number of elements, and the elements. -/
def dlist : Nat → List UInt8 → Option (List GV × List UInt8)
  | 0, _ => none
  | d + 1, bs => (rnum bs 0 0).bind fun p => dvals (dval d) p.1 p.2

theorem rnum_shorter : ∀ (bs : List UInt8) (sh acc : Nat) {u : Nat} {r : List UInt8}, rnum bs sh acc = some (u, r) → r.length < bs.length
  | [], _, _, _, _, h => by simp [rnum] at h
  | b :: t, sh, acc, u, r, h => by
    rw [rnum] at h
    split at h
    · cases h
    · split at h
      · have := rnum_shorter t _ _ h
        simp; omega
      · split at h
        · cases h
        · simp only [Option.some.injEq, Prod.mk.injEq] at h
          rw [h.2]; simp
theorem rnum_lt : ∀ (bs : List UInt8) (sh acc : Nat) {u : Nat} {r : List UInt8}, acc < 2 ^ sh → acc < 18446744073709551616 → rnum bs sh acc = some (u, r) → u < 18446744073709551616
  | [], _, _, _, _, _, _, h => by simp [rnum] at h
  | b :: t, sh, acc, u, r, ha, ha2, h => by
    rw [rnum] at h
    split at h
    · cases h
    · rename_i hov
      have hm := acc_more ha (Nat.mod_lt b.toNat (by omega)) (by omega) ha2
      split at h
      · exact rnum_lt t _ _ hm.1 hm.2 h
      · split at h
        · cases h
        · simp only [Option.some.injEq, Prod.mk.injEq] at h
          omega
theorem dvals_shorter {f : List UInt8 → Option (GV × List UInt8)} (hf : ∀ bs x r, f bs = some (x, r) → r.length < bs.length) : ∀ (n : Nat) (bs : List UInt8) {l : List GV} {r : List UInt8}, dvals f n bs = some (l, r) → r.length + n ≤ bs.length ∧ l.length = n
  | 0, bs, l, r, h => by simp only [dvals, Option.some.injEq, Prod.mk.injEq] at h; obtain ⟨rfl, rfl⟩ := h; simp
  | n + 1, bs, l, r, h => by
    rw [dvals] at h
    cases h1 : f bs with
    | none => rw [h1] at h; cases h
    | some p =>
      rw [h1] at h
      simp only [Option.bind_some] at h
      cases h2 : dvals f n p.2 with
      | none => rw [h2] at h; cases h
      | some q =>
        rw [h2] at h
        simp only [Option.map_some, Option.some.injEq, Prod.mk.injEq] at h
        obtain ⟨rfl, rfl⟩ := h
        have h3 := hf bs p.1 p.2 h1
        have h4 := dvals_shorter hf n p.2 (l := q.1) (r := q.2) h2
        simp; omega
theorem dval_shorter : ∀ (d : Nat) (bs : List UInt8) (x : GV) (r : List UInt8), dval d bs = some (x, r) → r.length < bs.length := by
  intro d
  induction d with
  | zero =>
    intro bs x r h
    cases bs with
    | nil => simp [dval] at h
    | cons c t =>
      simp only [dval] at h
      split at h
      · cases h1 : rnum t 0 0 with
        | none => rw [h1] at h; cases h
        | some p => rw [h1] at h; simp at h; have := rnum_shorter t 0 0 (u := p.1) (r := p.2) h1; rw [← h.2]; simp; omega
      · split at h
        · cases h1 : rnum t 0 0 with
          | none => rw [h1] at h; cases h
          | some p =>
            rw [h1] at h
            simp only [Option.bind_some] at h
            split at h
            · simp at h; have := rnum_shorter t 0 0 (u := p.1) (r := p.2) h1; rw [← h.2]; simp; omega
            · cases h
        · cases h
  | succ d ih =>
    intro bs x r h
    cases bs with
    | nil => simp [dval] at h
    | cons c t =>
      simp only [dval] at h
      split at h
      · cases h1 : rnum t 0 0 with
        | none => rw [h1] at h; cases h
        | some p => rw [h1] at h; simp at h; have := rnum_shorter t 0 0 (u := p.1) (r := p.2) h1; rw [← h.2]; simp; omega
      · split at h
        · cases h1 : rnum t 0 0 with
          | none => rw [h1] at h; cases h
          | some p =>
            rw [h1] at h
            simp only [Option.bind_some] at h
            split at h
            · simp at h; have := rnum_shorter t 0 0 (u := p.1) (r := p.2) h1; rw [← h.2]; simp; omega
            · cases h
        · split at h
          · cases h1 : rnum t 0 0 with
            | none => rw [h1] at h; cases h
            | some p =>
              rw [h1] at h
              simp only [Option.bind_some] at h
              cases h2 : dvals (dval d) p.1 p.2 with
              | none => rw [h2] at h; cases h
              | some q =>
                rw [h2] at h
                simp at h
                have := rnum_shorter t 0 0 (u := p.1) (r := p.2) h1
                have := dvals_shorter ih p.1 p.2 (l := q.1) (r := q.2) h2
                rw [← h.2]; simp; omega
          · cases h

/-! Readings over a set of blocks -/
inductive RVS (w : World) (S : Nat → Prop) : GV → Value → Prop
  | mk (k n : Int) (s : ByteArray) (l : List GV) (a : Option Addr) (cap b off : Nat) (V : Nat → Value)
      (hk : I64 k) (hn : I64 n) (hs : s.size ≤ maxLen) (hcap : l.length ≤ cap) (hmax : cap ≤ maxLen) (hbyte : l.length ≤ 9223372036854775807)
      (ha : 0 < l.length → a = some ⟨b, off, none⟩ ∧ S b)
      (hV : ∀ i (h : i < l.length), RVS w S l[i] (V i))
      (hc : ∀ i, i < l.length → Cells4 w b (off + i * 4) (V i)) :
      RVS w S (.mk k n s l) (.agg #[.int .i64 k, .int .i64 n, .string s, .slice a l.length cap])
theorem RVS.keep {w w' : World} {S : Nat → Prop} (hk : ∀ b o, S b → w'.cell? ⟨b, o, none⟩ = w.cell? ⟨b, o, none⟩) {v : GV} {x : Value} (h : RVS w S v x) : RVS w' S v x := by
  induction h with
  | mk k n s l a cap b off V hk' hn hs hcap hmax hbyte ha hV hc ih =>
    exact RVS.mk k n s l a cap b off V hk' hn hs hcap hmax hbyte ha ih fun i hi => (hc i hi).keep fun o => hk b o (ha (by omega)).2
theorem RVS.mono {w : World} {S S' : Nat → Prop} (hS : ∀ b, S b → S' b) {v : GV} {x : Value} (h : RVS w S v x) : RVS w S' v x := by
  induction h with
  | mk k n s l a cap b off V hk' hn hs hcap hmax hbyte ha hV hc ih =>
    exact RVS.mk k n s l a cap b off V hk' hn hs hcap hmax hbyte (fun h => ⟨(ha h).1, hS _ (ha h).2⟩) ih hc
theorem RVS.lt {w : World} {S : Nat → Prop} {B : Nat} (hS : ∀ b, S b → b < B) {v : GV} {x : Value} (h : RVS w S v x) : RV w B v x := by
  induction h with
  | mk k n s l a cap b off V hk' hn hs hcap hmax hbyte ha hV hc ih =>
    exact RV.mk k n s l a cap b off V hk' hn hs hcap hmax hbyte (fun h => ⟨(ha h).1, hS _ (ha h).2⟩) ih hc
theorem RVS.shape {w : World} {S : Nat → Prop} {v : GV} {x : Value} (h : RVS w S v x) : ∃ x0 x1 x2 x3, x = .agg #[x0, x1, x2, x3] ∧ x0.oneCell' = true ∧ x1.oneCell' = true ∧ x2.oneCell' = true ∧ x3.oneCell' = true := by
  cases h; exact ⟨_, _, _, _, rfl, rfl, rfl, rfl, rfl⟩

/-- Elements that were read, in a row of the call's own, from block N on. -/
structure LS (w : World) (N : Nat) (v : Value) (l : List GV) : Prop where
  row : ∃ Vs : List Value, Vs.length = l.length ∧ w.ownsRow N 26 4 v l.length (Vs.flatMap fun x => x.cells.toList) ∧
    ∀ i (h : i < l.length) (h' : i < Vs.length), RVS w (fun b => N ≤ b ∧ b < w.heap.size ∧ v.ownBlock ≠ some b) l[i] Vs[i]

theorem LS.nil (w : World) (N : Nat) : LS w N (.slice none 0 0) [] := ⟨[], rfl, World.ownsRow_nil w N _ 4, fun i h => absurd h (by simp)⟩

def ValPost (res : Option (GV × List UInt8)) (w : World) (B R : Nat) (e : Ending) (w' : World) : Prop :=
  match res with
  | some (x, r) => ∃ v, e = .returned v ∧ RVS w' (fun b => w.heap.size ≤ b ∧ b < w'.heap.size) x v ∧ St w' B R r ∧ Upd w w' R
  | none => e = .panicked boom ∧ Upd w w' R
def ListPost (res : Option (List GV × List UInt8)) (w : World) (B R : Nat) (e : Ending) (w' : World) : Prop :=
  match res with
  | some (l, r) => ∃ v, e = .returned v ∧ LS w' w.heap.size v l ∧ St w' B R r ∧ Upd w w' R
  | none => e = .panicked boom ∧ Upd w w' R

theorem conv_str {w : World} {B c : Nat} {A : Option Addr} {bs : List UInt8} (h : RBs w B A bs) : (convert 22 9 (.slice A bs.length c)).run Try.prog w = .ok (.string ⟨bs.toArray⟩) w := by
  rcases Nat.eq_zero_or_pos bs.length with h0 | h0
  · have hb : bs = [] := List.eq_nil_of_length_eq_zero h0
    subst hb
    cases A with
    | none => exact run_convert_bytes_nil (P := Try.prog) w 22 5 Try.underlying22 Try.underlying5 0 c 9 Try.underlying9
    | some a =>
      have hl := run_loadCells_list (P := Try.prog) w a [] (by simp)
      show (convert 22 9 (.slice (some a) 0 c)).run Try.prog w = _
      rw [run_convert_bytes_string w 22 9 5 (some a) 0 c Try.underlying22 Try.underlying5 Try.underlying9, run_bytesToString w a 0 c [] hl]
      rfl
  · obtain ⟨b, off, rfl, hb, hc⟩ := h h0
    rw [run_convert_bytes_arg (P := Try.prog) w 22 5 Try.underlying22 Try.underlying5 b off bs.length c (bs.map fun b => (b.toNat : Int)) (by simp) (fun i hi => by rw [hc i hi]; simp [List.getD, hi]) 9 Try.underlying9]
    congr 2
    simp [strOfNums, Function.comp_def]

/-- The reader's state, where its block and the bytes are as they were. -/
theorem St.far {w w' : World} {B R : Nat} {bs : List UInt8} (h : St w B R bs) (hc : ∀ o, w'.cell? ⟨R, o, none⟩ = w.cell? ⟨R, o, none⟩) (hf : w'.frozen? ⟨R, 0, none⟩ = w.frozen? ⟨R, 0, none⟩) (hk : ∀ b o, b < B → w'.cell? ⟨b, o, none⟩ = w.cell? ⟨b, o, none⟩) : St w' B R bs := by
  obtain ⟨⟨A, h1, h2⟩, h3⟩ := h
  refine ⟨⟨A, (hc 0).trans h1, fun hp => ?_⟩, hf.trans h3⟩
  obtain ⟨b, off, e, hb, hcell⟩ := h2 hp
  exact ⟨b, off, e, hb, fun j hj => (hk b _ hb).trans (hcell j hj)⟩

theorem Try.infoV : (Try.prog.info? 26).map (fun i => (i.zero, i.size, i.bytes)) = some (some (.agg #[.int .i64 0, .int .i64 0, .string ⟨#[]⟩, .slice none 0 0]), 4, 56) := by kernel_rfl

/-- One element more: what the value's call, the element's own block and the append leave. -/
theorem LS.step {w wr w1 w3 : World} {N R g cap : Nat} {v : Value} {l : List GV} {x : GV} {x0 x1 x2 x3 : Value} {Vs : List Value} (hN : N = w.heap.size) (hRN : R < N)
    (hVl : Vs.length = l.length) (hVs : ∀ i (h : i < l.length) (h' : i < Vs.length), RVS wr (fun b => N ≤ b ∧ b < wr.heap.size ∧ v.ownBlock ≠ some b) l[i] Vs[i])
    (hrow : wr.ownsRow N 26 4 v l.length (Vs.flatMap fun x => x.cells.toList))
    (hx : RVS w1 (fun b => wr.heap.size ≤ b ∧ b < w1.heap.size) x (.agg #[x0, x1, x2, x3])) (hu1 : Upd wr w1 R) (hu : Upd w wr R)
    (hown : w3.ownsRow N 26 4 (.slice (some ⟨g, 0, none⟩) (l.length + 1) cap) (l.length + 1) ((Vs.flatMap fun x => x.cells.toList) ++ [x0, x1, x2, x3]))
    (hg : (w1.alloc (.cells #[x0, x1, x2, x3] 26)).grownBy w3 v.ownBlock) (hat : v.ownBlock = some g ∨ g = w1.heap.size + 1) :
    LS w3 N (.slice (some ⟨g, 0, none⟩) (l ++ [x]).length cap) (l ++ [x]) ∧ Upd w w3 R := by
  have hlt := hrow.lt
  have hz1 := hu1.size
  have hz := hu.size
  have hz3 := hg.size
  simp only [World.size_alloc] at hz3
  have hkeep : ∀ b o, b < w1.heap.size → v.ownBlock ≠ some b → w3.cell? ⟨b, o, none⟩ = w1.cell? ⟨b, o, none⟩ := fun b o hb hne => by
    rw [World.grownBy.cell_far hg ⟨b, o, none⟩ (by simp; omega) (Ne.symm hne)]
    exact World.cell?_alloc_lt w1 _ ⟨b, o, none⟩ hb
  refine ⟨⟨Vs ++ [.agg #[x0, x1, x2, x3]], by simp [hVl], ?_, ?_⟩, ?_⟩
  · have e : (Vs ++ [Value.agg #[x0, x1, x2, x3]]).flatMap (fun x : Value => x.cells.toList) = (Vs.flatMap fun x => x.cells.toList) ++ [x0, x1, x2, x3] := by simp [List.flatMap_append, Value.cells]
    rw [e, List.length_append, List.length_singleton]
    exact hown
  · intro i h h'
    by_cases hi : i < l.length
    · rw [List.getElem_append_left hi, List.getElem_append_left (by omega)]
      have h1 := (hVs i hi (by omega)).keep (w' := w1) fun b o hb => hu1.cell hb.2.1 (by omega)
      have h2 := h1.keep (w' := w3) fun b o hb => hkeep b o (by omega) hb.2.2
      refine h2.mono fun b hb => ⟨hb.1, by omega, ?_⟩
      show some g ≠ some b
      rcases hat with hat | hat
      · rw [← hat]; exact hb.2.2
      · intro e; injection e with e; omega
    · have hi' : i = l.length := by simp at h; omega
      subst hi'
      rw [List.getElem_append_right (Nat.le_refl _), List.getElem_append_right (by omega)]
      simp only [Nat.sub_self, hVl, List.getElem_singleton]
      have h2 := hx.keep (w' := w3) fun b o hb => hkeep b o hb.2 (fun e => by have := (hlt b e).2; omega)
      refine h2.mono fun b hb => ⟨by omega, by omega, ?_⟩
      show some g ≠ some b
      intro e
      injection e with e
      rcases hat with hat | hat
      · have := (hlt g hat).2; omega
      · omega
  · refine ⟨hg.os.trans (hu1.os.trans hu.os), hg.tape.trans (hu1.tape.trans hu.tape), hg.output.trans (hu1.output.trans hu.output), by omega, fun k hk hne => ?_⟩
    rw [hg.block k (by simp; omega) (fun e => by have := (hlt k e.symm).1; omega), Below.heap_alloc w1 _ k (by omega), hu1.block k (by omega) hne, hu.block k hk hne]

theorem dvals_none {f : List UInt8 → Option (GV × List UInt8)} {n : Nat} {bs : List UInt8} (h : f bs = none) : dvals f (n + 1) bs = none := by rw [dvals, h]; rfl

theorem take_any_cell {w w1 : World} {R b0 off : Nat} {c : Value} (h : Upd w w1 R) (hlt : b0 < w.heap.size) (hne : b0 ≠ R) (hc : w.cell? ⟨b0, off, none⟩ = some c) : w1.cell? ⟨b0, off, none⟩ = some c := by
  rw [h.cell hlt hne]; exact hc

set_option maxRecDepth 100000 in
set_option maxHeartbeats 1600000 in
theorem list_of (d : Nat) (hd : d ≤ 16) (ih : ∀ d', d = d' + 1 → ∀ (w : World) (B R : Nat) (bs : List UInt8), bs.length ≤ 1000000 → B ≤ R → R < w.heap.size → St w B R bs →
      Calls Try.prog 16 #[.pointer (some ⟨R, 0, none⟩), .int .i64 d'] w (ValPost (dval d' bs) w B R))
    (w : World) (B R : Nat) (bs : List UInt8) (hlen : bs.length ≤ 1000000) (hB : B ≤ R) (hR : R < w.heap.size) (h : St w B R bs) :
    Calls Try.prog 29 #[.pointer (some ⟨R, 0, none⟩), .int .i64 d] w (ListPost (dlist d bs) w B R) := by
  have ih' := Lib.hid ih
  clear ih
  by_cases h0 : d = 0
  · subst h0
    go_enter Try.func29, Try.ntmps29
    go_wp2_with fail
    exact ⟨rfl, rfl, Upd.refl _ _⟩
  · have hd0 : ((d : Int) == 0) = false := beq_eq_false_iff_ne.2 (by omega)
    obtain ⟨d', rfl⟩ : ∃ d', d = d' + 1 := ⟨d - 1, by omega⟩
    clear h0
    have hdl : Hid (dlist (d' + 1) bs = (rnum bs 0 0).bind fun p => dvals (dval d') p.1 p.2) := rfl
    have hN := Lib.hid (numeral_rd w B R bs hlen hB hR h)
    cases hres : rnum bs 0 0 with
    | none =>
      have hres' := Lib.hid hres
      rw [hres] at hN
      clear hres
      go_enter Try.func29, Try.ntmps29
      go_wp2_with fail
      refine hN.out.mono ?_
      rintro e w1 ⟨rfl, hup, hsz⟩
      clear hsz
      go_wp2_with fail
      refine ⟨rfl, ?_⟩
      rw [hdl.out, hres'.out]
      exact ⟨rfl, hup⟩
    | some p =>
      obtain ⟨u, r⟩ := p
      have hres' := Lib.hid hres
      rw [hres] at hN
      have hult := rnum_lt bs 0 0 (by simp) (by omega) hres
      have hrl := rnum_shorter bs 0 0 hres
      clear hres
      have hdl2 : Hid (dlist (d' + 1) bs = dvals (dval d') u r) := by rw [hdl.out, hres'.out]; rfl
      go_enter Try.func29, Try.ntmps29
      go_wp2_with fail
      refine hN.out.mono ?_
      rintro e w1 ⟨rfl, hst, hup, hsz⟩
      have hsz' := Lib.hid hsz
      clear hsz
      go_wp2_with fail
      go_loopw [4, 10] (fun lv i wr => ∃ (k : Nat) (dn : List GV) (bs' : List UInt8), k ≤ u ∧ i = .int .u64 k ∧ Hid (dn.length = k) ∧ Hid (dvals (dval d') u r = (dvals (dval d') (u - k) bs').map fun q => (dn ++ q.1, q.2)) ∧ LS wr w.heap.size lv dn ∧ St wr B R bs' ∧ Upd w wr R ∧ bs'.length + k ≤ r.length) (fun _ i _ => u - (intOf i).toNat)
      case atStart => exact ⟨0, [], r, Nat.zero_le _, rfl, rfl, by cases dvals (dval d') u r <;> simp [Hid, *], LS.nil _ _, hst, hup, by omega⟩
      case round =>
        obtain ⟨k, dn, bs', hk, rfl, hdn, heq, hls, hst, hup, hbl⟩ := hrel
        have hz := hup.size
        by_cases hlt : k < u
        · have hbl6 : bs'.length ≤ 1000000 := by omega
          have hV := Lib.hid (ih'.out d' rfl wr B R bs' hbl6 hB (by omega) hst)
          have hun : u - k = (u - k - 1) + 1 := by omega
          have hdv : Hid (dvals (dval d') (u - k) bs' = (dval d' bs').bind fun p => (dvals (dval d') (u - (k + 1)) p.2).map fun q => (p.1 :: q.1, q.2)) := by
            rw [hun, dvals]; rfl
          clear hun
          cases hval : dval d' bs' with
          | none =>
            rw [hval] at hV
            have hval' := Lib.hid hval
            clear hval
            go_wp2_with fail
            refine hV.out.mono ?_
            rintro e w2 ⟨rfl, hup2⟩
            go_wp2_with fail
            refine ⟨rfl, ?_⟩
            rw [hdl2.out, heq.out, hdv.out, hval'.out]
            exact ⟨rfl, hup.trans hup2⟩
          | some p =>
            obtain ⟨x, r2⟩ := p
            rw [hval] at hV
            have hsh := dval_shorter d' bs' x r2 hval
            have hval' := Lib.hid hval
            clear hval
            obtain ⟨Vs, hVl, hrow, hVs⟩ := hls.row
            have hVl' := Lib.hid hVl
            have hVs' := Lib.hid hVs
            clear hVl hVs hls
            go_wp2_with fail
            refine hV.out.mono ?_
            rintro e w2 ⟨v, rfl, hx, hst2, hup2⟩
            obtain ⟨x0, x1, x2, x3, rfl, o0, o1, o2, o3⟩ := hx.shape
            have hx' := Lib.hid hx
            clear hx
            have hz2 := hup2.size
            have hrow2 := hrow.kept (row := some R) hup2 (by
              by_cases hv : u4.ownBlock = none
              · exact .inl hv
              · right; intro e; have := (hrow.lt R e).1; omega)
            obtain ⟨i0, hi0, hi1, hi2, hi3⟩ := info_parts Try.infoV
            have hdnl : dn.length ≤ 1000000 := by have := hdn.out; omega
            go_wp2_with (at_builtin; refine wpList_append_lies _ rfl _ _ 24 rfl w.heap.size 26 i0 _ 4 56 Try.underlying24 hi0 hi1 hi2 hi3 rfl (by decide) u4 dn.length _ rfl (hrow2.alloc _) ⟨w2.heap.size, 0, none⟩ 1 1 [x0, x1, x2, x3] rfl rfl (World.news_of_block (cs := #[x0, x1, x2, x3]) (heap_alloc_new w2 _)) (by simp [o0, o1, o2, o3]) (by omega) (by unfold maxLen; omega) (by omega) (by simp; omega) _ rfl ?_; intro g cap w3 hown hgrow hat hlt3)
            simp only [World.size_alloc] at hat
            obtain ⟨hls3, hup3⟩ := LS.step rfl hR hVl'.out hVs'.out hrow hx'.out hup2 hup hown hgrow hat
            have hblk : ∀ b, b < w.heap.size → w3.heap[b]? = w2.heap[b]? := fun b hb => by
              rw [hgrow.block b (by simp; omega) (fun e => by have := (hrow.lt b e.symm).1; omega)]
              exact Below.heap_alloc w2 _ b (by omega)
            have hst3 : St w3 B R r2 := hst2.far (fun o => World.cell?_of_block (hblk R hR)) (World.frozen?_of_block (hblk R hR)) (fun b o hb => World.cell?_of_block (hblk b (by omega)))
            have heq3 : Hid (dvals (dval d') u r = (dvals (dval d') (u - (k + 1)) r2).map fun q => (dn ++ [x] ++ q.1, q.2)) := by
              rw [heq.out, hdv.out, hval'.out]
              show (((some (x, r2)).bind fun p => (dvals (dval d') (u - (k + 1)) p.2).map fun q => (p.1 :: q.1, q.2)).map fun q => (dn ++ q.1, q.2)) = _
              simp only [Option.bind_some]
              generalize dvals (dval d') (u - (k + 1)) r2 = z
              cases z <;> simp
            clear hblk
            go_roundw
            case rel => exact ⟨k + 1, dn ++ [x], r2, by omega, by go_num, by show (dn ++ [x]).length = k + 1; rw [List.length_append, hdn.out]; rfl, heq3, by simpa using hls3, hst3, hup3, by omega⟩
            case measure => simp [intOf]; omega
        · go_wp2_with fail
          go_ret
          rw [hdl2.out, heq.out, show u - k = 0 from by omega]
          exact ⟨_, rfl, by simpa using hls, hst, hup⟩

theorem LS.val {w : World} {N : Nat} {v : Value} {l : List GV} (h : LS w N v l) (hl : l.length ≤ 1000000) : ∃ a cap, v = .slice a l.length cap ∧ RVS w (fun b => N ≤ b ∧ b < w.heap.size) (.mk 3 0 ⟨#[]⟩ l) (.agg #[.int .i64 3, .int .i64 0, .string ⟨#[]⟩, .slice a l.length cap]) := by
  obtain ⟨Vs, hVl, hrow, hVs⟩ := h.row
  have hk : I64 3 := by unfold I64; omega
  have hn : I64 0 := by unfold I64; omega
  rcases Nat.eq_zero_or_pos l.length with h0 | h0
  · have hl0 : l = [] := List.eq_nil_of_length_eq_zero h0
    subst hl0
    rcases hrow.2 with ⟨rfl, _⟩ | ⟨g, cap, cur, rfl, hb, hh, hnc, hcm, _⟩
    · exact ⟨none, 0, rfl, .mk 3 0 _ [] none 0 0 0 (fun _ => .nilFunc) hk hn (by simp [maxLen, ByteArray.size]) (by simp) (by simp [maxLen]) (by simp) (by simp) (fun i h => absurd h (by simp)) (fun i h => absurd h (by simp))⟩
    · exact ⟨_, cap, rfl, .mk 3 0 _ [] _ cap 0 0 (fun _ => .nilFunc) hk hn (by simp [maxLen, ByteArray.size]) (by simp) hcm (by simp) (by simp) (fun i h => absurd h (by simp)) (fun i h => absurd h (by simp))⟩
  · obtain ⟨g, cap, rfl, hb, hlt⟩ := hrow.form h0
    have hcells := hrow.cells (g := g) rfl
    have hcap : l.length ≤ cap ∧ cap ≤ maxLen := by
      rcases hrow.2 with ⟨e, _⟩ | ⟨g', cap', cur, e, _, _, h1, h2, _⟩
      · cases e
      · injection e with _ _ e3; subst e3; exact ⟨h1, h2⟩
    have hshape : ∀ i (h : i < Vs.length), ∃ x0 x1 x2 x3, Vs[i] = .agg #[x0, x1, x2, x3] := fun i h => by
      obtain ⟨x0, x1, x2, x3, e, _⟩ := (hVs i (by omega) h).shape
      exact ⟨x0, x1, x2, x3, e⟩
    have hflat : ∀ (Ws : List Value), (∀ i (h : i < Ws.length), ∃ x0 x1 x2 x3, Ws[i] = Value.agg #[x0, x1, x2, x3]) → ∀ i (h : i < Ws.length) x0 x1 x2 x3, Ws[i] = Value.agg #[x0, x1, x2, x3] →
        (Ws.flatMap fun x => x.cells.toList)[i * 4]? = some x0 ∧ (Ws.flatMap fun x => x.cells.toList)[i * 4 + 1]? = some x1 ∧ (Ws.flatMap fun x => x.cells.toList)[i * 4 + 2]? = some x2 ∧ (Ws.flatMap fun x => x.cells.toList)[i * 4 + 3]? = some x3 := by
      intro Ws
      induction Ws with
      | nil => intro _ i h; simp at h
      | cons y t iht =>
        intro hs i h x0 x1 x2 x3 e
        obtain ⟨y0, y1, y2, y3, ey⟩ := hs 0 (by simp)
        simp only [List.getElem_cons_zero] at ey
        subst ey
        cases i with
        | zero =>
          simp only [List.getElem_cons_zero, Value.agg.injEq, Array.mk.injEq, List.cons.injEq, and_true] at e
          obtain ⟨rfl, rfl, rfl, rfl⟩ := e
          simp [Value.cells]
        | succ i =>
          simp only [List.getElem_cons_succ] at e
          have h4 := iht (fun j hj => by have := hs (j + 1) (by simp; omega); simpa using this) i (by simpa using h) x0 x1 x2 x3 e
          have e4 : ∀ j, (((Value.agg #[y0, y1, y2, y3]) :: t).flatMap fun x => x.cells.toList)[(i + 1) * 4 + j]? = (t.flatMap fun x => x.cells.toList)[i * 4 + j]? := fun j => by
            rw [List.flatMap_cons, List.getElem?_append_right (by simp [Value.cells]; omega)]
            congr 1
            simp [Value.cells]; omega
          refine ⟨(e4 0).trans h4.1, (e4 1).trans h4.2.1, (e4 2).trans h4.2.2.1, (e4 3).trans h4.2.2.2⟩
    refine ⟨_, cap, rfl, .mk 3 0 _ l _ cap g 0 (fun i => Vs.getD i .nilFunc) hk hn (by simp [maxLen, ByteArray.size]) hcap.1 hcap.2 (by omega) (fun _ => ⟨rfl, hb, hlt⟩) (fun i h => ?_) (fun i h => ?_)⟩
    · have hi : i < Vs.length := by omega
      have e : Vs.getD i .nilFunc = Vs[i] := by simp [List.getD, hi]
      rw [e]
      exact (hVs i h hi).mono fun b hb => ⟨hb.1, hb.2.1⟩
    · have hi : i < Vs.length := by omega
      have e : Vs.getD i .nilFunc = Vs[i] := by simp [List.getD, hi]
      obtain ⟨x0, x1, x2, x3, ex⟩ := hshape i hi
      have hf := hflat Vs hshape i hi x0 x1 x2 x3 ex
      have hadd : ∀ j, (⟨g, 0, none⟩ : Addr).add j = ⟨g, j, none⟩ := fun j => by unfold Addr.add; split <;> simp_all
      have hc := fun j u (hu : (Vs.flatMap fun x => x.cells.toList)[j]? = some u) => hcells j u hu
      simp only [hadd] at hc
      rw [e]
      exact ⟨x0, x1, x2, x3, ex, by simpa using hc _ _ hf.1, by simpa using hc _ _ hf.2.1, by simpa using hc _ _ hf.2.2.1, by simpa using hc _ _ hf.2.2.2⟩
end Go.Proofs.Ytaninbklippdaaa
