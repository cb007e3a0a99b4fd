/- Rows of bytes that a call appends to: writeNumeral, and the reference's numeral. -/
import Derived.Test.YtbhpmeljmkoebaaDoorKNm
namespace Go.Proofs.YtbhpmeljmkoebaaDoor.K
open Go.RowKit

/-- Bytes as cells. -/
def BV (l : List UInt8) : List Value := l.map fun b => .int .u8 (b.toNat : Int)
theorem BV_length (l : List UInt8) : (BV l).length = l.length := by simp [BV]
theorem BV_append (l m : List UInt8) : BV (l ++ m) = BV l ++ BV m := by simp [BV]
theorem BV_one (l : List UInt8) : ∀ u ∈ BV l, u.oneCell' = true := by
  intro u hu
  simp only [BV, List.mem_map] at hu
  obtain ⟨b, _, rfl⟩ := hu
  rfl

/-- The slice value v owns a row of bytes, from block B on. -/
def OB (w : World) (B : Nat) (v : Value) (l : List UInt8) : Prop := w.ownsRow B 5 1 v l.length (BV l)

/-- From w to w' the row of v became the row of v', with the bytes l; all else that was there is as it was. -/
structure App (w w' : World) (B : Nat) (v v' : Value) (l : List UInt8) : Prop where
  own : OB w' B v' l
  grow : w.grownBy w' v.ownBlock
  lies : v'.ownBlock = v.ownBlock ∨ ∃ k, v'.ownBlock = some k ∧ w.heap.size ≤ k

theorem App.trans {w w1 w2 : World} {B : Nat} {v v1 v2 : Value} {l1 l2 : List UInt8} (h : App w w1 B v v1 l1) (k : App w1 w2 B v1 v2 l2) : App w w2 B v v2 l2 := by
  refine ⟨k.own, ⟨k.grow.os.trans h.grow.os, k.grow.tape.trans h.grow.tape, k.grow.output.trans h.grow.output, Nat.le_trans h.grow.size k.grow.size, fun i hi hne => ?_⟩, ?_⟩
  · rw [k.grow.block i (Nat.lt_of_lt_of_le hi h.grow.size) ?_, h.grow.block i hi hne]
    intro e
    rcases h.lies with hl | ⟨g, hg, hge⟩
    · exact hne (e.trans hl)
    · rw [hg] at e
      injection e with e
      omega
  · rcases k.lies with hk | ⟨g, hg, hge⟩
    · rw [hk]; exact h.lies
    · exact .inr ⟨g, hg, Nat.le_trans h.grow.size hge⟩

theorem App.refl {w : World} {B : Nat} {v : Value} {l : List UInt8} (h : OB w B v l) : App w w B v v l := ⟨h, ⟨rfl, rfl, rfl, Nat.le_refl _, fun _ _ _ => rfl⟩, .inl rfl⟩
theorem OB.lt {w : World} {B : Nat} {v : Value} {l : List UInt8} (h : OB w B v l) : ∀ k, v.ownBlock = some k → B ≤ k ∧ k < w.heap.size := World.ownsRow.lt h
theorem OB.alloc {w : World} {B : Nat} {v : Value} {l : List UInt8} (h : OB w B v l) (o : Obj) : OB (w.alloc o) B v l := World.ownsRow.alloc h o
theorem OB.drew {w : World} {B : Nat} {v : Value} {l : List UInt8} (h : OB w B v l) : OB w.drew B v l := h
theorem App.undrew {w w' : World} {B : Nat} {v v' : Value} {l : List UInt8} (h : App w.drew w' B v v' l) : App w w' B v v' l := ⟨h.own, ⟨h.grow.os, h.grow.tape, h.grow.output, h.grow.size, h.grow.block⟩, h.lies⟩
/-- A block that was there, and is not v's row, is not the row of v' either. -/
theorem App.far {w w' : World} {B : Nat} {v v' : Value} {l : List UInt8} (h : App w w' B v v' l) {g : Nat} (hg : g < w.heap.size) (hne : v.ownBlock ≠ some g) : v'.ownBlock ≠ some g := by
  rcases h.lies with hl | ⟨k, hk, hge⟩
  · rw [hl]; exact hne
  · rw [hk]; intro e; injection e with e; omega
/-- Behind a step that makes blocks alone. -/
theorem OB.below {w w' : World} {B : Nat} {v : Value} {l : List UInt8} (h : OB w B v l) (hb : Below w.heap.size w w') : OB w' B v l :=
  World.ownsRow.kept (row := none) h ⟨hb.os, hb.tape, hb.output, hb.size, fun k hk _ => hb.block k hk⟩ (by cases hv : v.ownBlock <;> simp)
theorem App.of_below {w w' : World} {B : Nat} {v : Value} {l : List UInt8} (h : OB w B v l) (hb : Below w.heap.size w w') : App w w' B v v l :=
  ⟨h.below hb, ⟨hb.os, hb.tape, hb.output, hb.size, fun k hk _ => hb.block k hk⟩, .inl rfl⟩
theorem App.alloc {w w' : World} {B : Nat} {v v' : Value} {l : List UInt8} (h : App w w' B v v' l) (o : Obj) : App w (w'.alloc o) B v v' l :=
  h.trans (App.of_below h.own ((Below.refl _ _).alloc (Nat.le_refl _) o))
/-- What an append leaves below a block. -/
theorem App.below {w w' : World} {B : Nat} {v v' : Value} {l m : List UInt8} (h : App w w' B v v' l) (ho : OB w B v m) (hB : B ≤ w.heap.size) : Below B w w' :=
  (Below.refl B w).grown h.grow hB fun k hk => (ho.lt k hk).1
/-- A block that lies apart from v's row. -/
theorem App.cell {w w' : World} {B : Nat} {v v' : Value} {l : List UInt8} (h : App w w' B v v' l) {p : Addr} (hp : p.block < w.heap.size) (hne : v.ownBlock ≠ some p.block) : w'.cell? p = w.cell? p :=
  h.grow.cell_far p hp (fun e => hne e.symm)
theorem App.none_below {w w' : World} {B : Nat} {v v' : Value} {l : List UInt8} (h : App w w' B v v' l) (hv : v.ownBlock = none) : Below w.heap.size w w' :=
  (Below.refl _ w).grown h.grow (Nat.le_refl _) (by rw [hv]; intro k hk; cases hk)

theorem Tryd.info8 : (Tryd.prog.info? 5).map (fun i => (i.zero, i.size, i.bytes)) = some (some (.int .u8 0), 1, 1) := by kernel_rfl

theorem u8_digit (u : Nat) (h : u < 128) : (.int .u8 (u : Int)) = (Value.int .u8 ((UInt8.ofNat u).toNat : Int)) := by
  have : (UInt8.ofNat u).toNat = u := by simp; omega
  rw [this]
theorem u8_digit' (u : Nat) : (.int .u8 ((u : Int) % 128 + 128)) = (Value.int .u8 ((UInt8.ofNat (u % 128 + 128)).toNat : Int)) := by
  have : (UInt8.ofNat (u % 128 + 128)).toNat = u % 128 + 128 := by simp; omega
  rw [this]; simp

/-- append of bytes that lie somewhere. -/
theorem app_law {ops : Array Oper} {rest : List Oper} {o : Oper} {a : Act} {Q : Exit → Act → World → Prop} {w : World} (hgd : o.guard = none) (s x : Operand)
    (ho : o.op = .call { callee := .builtin .append, args := #[s, x], argTypes := #[23, 23] })
    (B : Nat) (v : Value) (l : List UInt8) (hs : a.eval s = v) (hown : OB w B v l) (ad : Addr) (bs : List UInt8) (c : Nat) (hx : a.eval x = .slice (some ad) bs.length c)
    (hc : ∀ j u, (BV bs)[j]? = some u → w.cell? (ad.add j) = some u) (hpos : 0 < bs.length) (hlen : l.length + bs.length ≤ 1000000000) (hB : B ≤ w.heap.size)
    (h : ∀ v' w', App w w' B v v' (l ++ bs) → wpList Tryd.prog ops Q rest (a.put o.dst v') w') : wpList Tryd.prog ops Q (o :: rest) a w := by
  obtain ⟨i0, hi0, hz0, hz1, hz2⟩ := info_parts Tryd.info8
  refine wpList_append_lies w hgd s x 23 ho B 5 i0 (.int .u8 0) 1 1 Tryd.underlying23 hi0 hz0 hz1 hz2 rfl (by decide) v l.length (BV l) hs hown ad bs.length c (BV bs) hx (by simp [BV_length]) hc (BV_one bs) hpos (by unfold maxLen; omega) (by omega) hB _ rfl ?_
  intro g cap w1 h1 h2 h3 _
  refine h _ w1 ⟨?_, h2, ?_⟩
  · unfold OB
    rw [List.length_append, BV_append]
    exact h1
  · rcases h3 with h3 | h3
    · exact .inl h3.symm
    · exact .inr ⟨g, rfl, by omega⟩

/-- The bytes of a block that was just made. -/
theorem new_bytes (w : World) (bs : List UInt8) (t : TypeId) : ∀ j u, (BV bs)[j]? = some u → (w.alloc (.cells (BV bs).toArray t)).cell? ((⟨w.heap.size, 0, none⟩ : Addr).add j) = some u :=
  World.news_of_block (heap_alloc_new w _)

/-- append(b, c) of one byte: the byte's own block is made first. -/
theorem app_one {ops : Array Oper} {rest : List Oper} {o : Oper} {a : Act} {Q : Exit → Act → World → Prop} {w w0 : World} (hgd : o.guard = none) (s x : Operand)
    (ho : o.op = .call { callee := .builtin .append, args := #[s, x], argTypes := #[23, 23] })
    (B : Nat) (v v0 : Value) (l : List UInt8) (hs : a.eval s = v) (ha : App w0 w B v0 v l) (c : UInt8) (hx : a.eval x = .slice (some ⟨w.heap.size, 0, none⟩) 1 1) (hlen : l.length ≤ 900000000) (hB : B ≤ w.heap.size)
    (h : ∀ v' w', App w0 w' B v0 v' (l ++ [c]) → wpList Tryd.prog ops Q rest (a.put o.dst v') w') : wpList Tryd.prog ops Q (o :: rest) a (w.alloc (.cells #[.int .u8 (c.toNat : Int)] 5)) :=
  app_law hgd s x ho B v l hs (ha.own.alloc _) ⟨w.heap.size, 0, none⟩ [c] 1 hx (new_bytes w [c] _) (by simp) (by simp; omega) (by simp; omega) fun v' w' h' => h v' w' ((ha.alloc _).trans h')

set_option maxRecDepth 100000 in
set_option maxHeartbeats 400000 in
theorem writeNumeral_any (u0 : Nat) (hu : u0 ≤ 18446744073709551615) (w : World) (B : Nat) (v : Value) (l : List UInt8) (hB : B ≤ w.heap.size) (hv : OB w B v l) (hl : l.length ≤ 100000000) :
    Calls Tryd.prog 83 #[v, .int .u64 u0] w fun e w' => ∃ v', e = .returned v' ∧ App w w' B v v' (l ++ digs u0) := by
  have hd := digs_le10 u0 hu
  go_enter Tryd.func83, Tryd.ntmps83
  go_wp2_with fail
  go_loopw [0, 1] (fun b x wr => ∃ (u : Nat) (m : List UInt8), u ≤ 18446744073709551615 ∧ x = .int .u64 u ∧ m.length + (digs u).length ≤ 100000010 ∧ l ++ digs u0 = m ++ digs u ∧ App w wr B v b m) (fun _ x _ => (intOf x).toNat)
  case atStart => exact ⟨u0, l, hu, rfl, by omega, rfl, App.refl hv⟩
  case round =>
    obtain ⟨u, m, hu1, rfl, hlen, he, ha⟩ := hrel
    have he' := Lib.hid he
    clear he
    have hz := ha.grow.size
    by_cases hs : u < 128
    · have hds := Lib.hid (digs_small hs)
      have hdv := Lib.hid (u8_digit u hs)
      go_wp2_with (at_builtin; rw [hdv.out]; refine app_one rfl _ _ rfl B _ v m rfl ha (UInt8.ofNat u) rfl (by omega) (by omega) ?_; intro v' w' ha')
      go_ret
      exact ⟨_, rfl, by rw [he'.out, hds.out]; exact ha'⟩
    · have hds := Lib.hid (digs_big hs)
      have hdv := Lib.hid (u8_digit' u)
      go_wp2_with (at_builtin; rw [hdv.out]; refine app_one rfl _ _ rfl B _ v m rfl ha (UInt8.ofNat (u % 128 + 128)) rfl (by omega) (by omega) ?_; intro v' w' ha')
      go_roundw
      case rel => exact ⟨u / 128, _, by omega, by go_num, by rw [hds.out] at hlen; simp at hlen ⊢; omega, by rw [he'.out, hds.out]; simp, ha'⟩
      case measure => simp [intOf]; omega

theorem OB.src {w : World} {B : Nat} {v : Value} {l : List UInt8} (h : OB w B v l) (hl : 0 < l.length) :
    ∃ g c, v = .slice (some ⟨g, 0, none⟩) l.length c ∧ B ≤ g ∧ g < w.heap.size ∧ ∀ j u, (BV l)[j]? = some u → w.cell? ((⟨g, 0, none⟩ : Addr).add j) = some u := by
  obtain ⟨g, c, e, hb, hlt⟩ := World.ownsRow.form h hl
  exact ⟨g, c, e, hb, hlt, World.ownsRow.cells h (by rw [e]; rfl)⟩
theorem OB.nil (w : World) (B : Nat) : OB w B (.slice none 0 0) [] := World.ownsRow_nil w B _ 1
theorem OB.lit (w : World) (B : Nat) (l : List UInt8) (hB : B ≤ w.heap.size) (hl : l.length ≤ 1000000000) : OB (w.alloc (.cells (BV l).toArray 5)) B (.slice (some ⟨w.heap.size, 0, none⟩) l.length l.length) l := by
  have h := World.ownsRow_lit (base := B) (e := 5) (size := 1) w (BV l).toArray l.length hB (by unfold maxLen; omega) (by simp [BV_length])
  simpa [OB] using h
theorem OB.mono {w : World} {B B' : Nat} {v : Value} {l : List UInt8} (h : OB w B v l) (hB : B' ≤ B) : OB w B' v l := by
  refine ⟨h.1, ?_⟩
  rcases h.2 with h' | ⟨g, cap, cur, e, hb, r⟩
  · exact .inl h'
  · exact .inr ⟨g, cap, cur, e, Nat.le_trans hB hb, r⟩

set_option maxRecDepth 100000 in
set_option maxHeartbeats 400000 in
theorem numeral_any (k : Nat) : ∀ (u : Nat), u < 128 ^ (k + 1) → u ≤ 18446744073709551615 → ∀ (w : World), Calls Tryd.prog 65 #[.int .u64 u] w fun e w' => ∃ v', e = .returned v' ∧ OB w' w.heap.size v' (digs u) ∧ Below w.heap.size w w' := by
  induction k with
  | zero =>
    intro u hu h1 w
    have hs : u < 128 := by simpa using hu
    clear hu
    have hds := Lib.hid (digs_small hs)
    have hdv := Lib.hid (u8_digit u hs)
    go_enter Tryd.func65, Tryd.ntmps65
    go_wp2_with fail
    go_ret
    exact ⟨_, rfl, by rw [hds.out, hdv.out]; exact OB.lit w _ [UInt8.ofNat u] (Nat.le_refl _) (by simp), (Below.refl _ _).alloc (Nat.le_refl _) _⟩
  | succ k ih =>
    intro u hu h1 w
    by_cases hs : u < 128
    · clear hu ih
      have hds := Lib.hid (digs_small hs)
      have hdv := Lib.hid (u8_digit u hs)
      go_enter Tryd.func65, Tryd.ntmps65
      go_wp2_with fail
      go_ret
      exact ⟨_, rfl, by rw [hds.out, hdv.out]; exact OB.lit w _ [UInt8.ofNat u] (Nat.le_refl _) (by simp), (Below.refl _ _).alloc (Nat.le_refl _) _⟩
    · have ih' := Lib.hid (ih (u / 128) (by rw [Nat.div_lt_iff_lt_mul (by omega)]; rw [Nat.pow_succ] at hu; exact hu) (by omega))
      clear hu ih
      have hds := Lib.hid (digs_big hs)
      have hdv := Lib.hid (u8_digit' u)
      have hd := digs_le10 (u / 128) (by omega)
      have hp := digs_pos (u / 128)
      go_enter Tryd.func65, Tryd.ntmps65
      go_wp2_with fail
      refine (ih'.out _).mono ?_
      rintro e w1 ⟨v1, rfl, hv1, hb1⟩
      rw [hdv.out] at hb1 hv1
      have ho := (OB.lit w w.heap.size [UInt8.ofNat (u % 128 + 128)] (Nat.le_refl _) (by simp)).below hb1
      obtain ⟨g, c, rfl, hg, hlt, hc⟩ := hv1.src (by omega)
      simp only [World.size_alloc] at hg hb1
      have hz := hb1.size
      simp only [World.size_alloc] at hz
      go_wp2_with (at_builtin; refine app_law rfl _ _ rfl w.heap.size _ _ rfl ho ⟨g, 0, none⟩ (digs (u / 128)) c rfl hc (by omega) (by simp; omega) (by omega) ?_; intro v' w' ha')
      go_ret
      have hb2 := ha'.below ho (by omega)
      exact ⟨_, rfl, by rw [hds.out]; exact ha'.own, (unbox hb1).trans hb2⟩

/-- append at a step of a region that draws its order: w0 is the world in which the call began. -/
theorem step_app {ops : Array Oper} {o : Oper} {a : Act} {K : Act → World → Prop} {Q : Exit → Act → World → Prop} {E : Prop} {w w0 : World} (hgd : o.guard = none) (s x : Operand)
    (ho : o.op = .call { callee := .builtin .append, args := #[s, x], argTypes := #[23, 23] })
    (B : Nat) (v v0 : Value) (l : List UInt8) (hs : a.eval s = v) (ha : App w0 w B v0 v l) (g : Nat) (bs : List UInt8) (c : Nat) (hx : a.eval x = .slice (some ⟨g, 0, none⟩) bs.length c)
    (hc : ∀ j u, (BV bs)[j]? = some u → w.cell? ((⟨g, 0, none⟩ : Addr).add j) = some u) (hpos : 0 < bs.length) (hlen : l.length + bs.length ≤ 1000000000) (hB : B ≤ w.heap.size)
    (h : ∀ v' w', App w0 w' B v0 v' (l ++ bs) → App w w' B v v' (l ++ bs) → K (a.put o.dst v') w') : if Region.wanted o (yielded ops a.tmps) = true then Oper.wp Tryd.prog o a w K Q else E := by
  obtain ⟨i0, hi0, hz0, hz1, hz2⟩ := info_parts Tryd.info8
  refine step_append_lies w hgd s x 23 ho B 5 i0 (.int .u8 0) 1 1 Tryd.underlying23 hi0 hz0 hz1 hz2 rfl (by decide) v l.length (BV l) hs ha.own ⟨g, 0, none⟩ bs.length c (BV bs) hx (by simp [BV_length]) hc (BV_one bs) hpos (by unfold maxLen; omega) (by omega) hB _ rfl ?_
  intro g' cap w1 h1 h2 h3 _
  have hA : App w w1 B v (.slice (some ⟨g', 0, none⟩) (l.length + bs.length) cap) (l ++ bs) := by
    refine ⟨?_, h2, ?_⟩
    · unfold OB
      rw [List.length_append, BV_append]
      exact h1
    · rcases h3 with h3 | h3
      · exact .inl h3.symm
      · exact .inr ⟨g', rfl, by omega⟩
  exact h _ w1 (ha.trans hA) hA

theorem one_byte {w : World} {g : Nat} {c : UInt8} (h : w.cell? ⟨g, 0, none⟩ = some (.int .u8 (c.toNat : Int))) : ∀ j u, (BV [c])[j]? = some u → w.cell? ((⟨g, 0, none⟩ : Addr).add j) = some u := by
  intro j u hu
  cases j with
  | zero => simp only [BV, List.map_cons, List.map_nil, List.getElem?_cons_zero, Option.some.injEq] at hu; subst hu; exact h
  | succ j => simp [BV] at hu

theorem keep4 {w w' : World} {g : Nat} {x0 x1 x2 x3 : Value} (hk : ∀ o, w'.cell? ⟨g, o, none⟩ = w.cell? ⟨g, o, none⟩)
    (h : w.cell? ⟨g, 0, none⟩ = some x0 ∧ w.cell? ⟨g, 1, none⟩ = some x1 ∧ w.cell? ⟨g, 2, none⟩ = some x2 ∧ w.cell? ⟨g, 3, none⟩ = some x3) :
    w'.cell? ⟨g, 0, none⟩ = some x0 ∧ w'.cell? ⟨g, 1, none⟩ = some x1 ∧ w'.cell? ⟨g, 2, none⟩ = some x2 ∧ w'.cell? ⟨g, 3, none⟩ = some x3 :=
  ⟨(hk 0).trans h.1, (hk 1).trans h.2.1, (hk 2).trans h.2.2.1, (hk 3).trans h.2.2.2⟩

/-- Two blocks made first; then whatever leaves them alone. -/
theorem unbox2 {w wr : World} {o o' : Obj} (hb : Below (w.heap.size + 2) ((w.alloc o).alloc o') wr) : Below w.heap.size w wr :=
  (((Below.refl _ _).alloc (Nat.le_refl _) _).alloc (by simp) _).trans (hb.mono (by omega))
theorem box4_2 {w wr : World} {x0 x1 x2 x3 : Value} {t : TypeId} {o : Obj} (hb : Below (w.heap.size + 2) ((w.alloc (.cells #[x0, x1, x2, x3] t)).alloc o) wr) :
    wr.cell? ⟨w.heap.size, 0, none⟩ = some x0 ∧ wr.cell? ⟨w.heap.size, 1, none⟩ = some x1 ∧ wr.cell? ⟨w.heap.size, 2, none⟩ = some x2 ∧ wr.cell? ⟨w.heap.size, 3, none⟩ = some x3 := by
  refine ⟨?_, ?_, ?_, ?_⟩ <;> (rw [hb.cell (by simp), World.cell?_alloc_past _ _ _ (by simp), World.cell?_alloc_at _ _ _ _ rfl]; rfl)
theorem second_cell {w wr : World} {x : Value} {t : TypeId} {o : Obj} (hb : Below (w.heap.size + 2) ((w.alloc o).alloc (.cells #[x] t)) wr) : wr.cell? ⟨w.heap.size + 1, 0, none⟩ = some x := by
  rw [hb.cell (by simp), World.cell?_alloc_at _ _ _ _ (by simp)]; rfl
end Go.Proofs.YtbhpmeljmkoebaaDoor.K
