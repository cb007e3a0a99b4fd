/- Rows of bytes that a call appends to; slices.Grow of nothing; slices.Concat of two. -/
import Derived.Test.YtalphobaohffnaaDoorDg
import Derived.Deep.AppendSrc
import Derived.Deep.Draws
import Derived.Deep.AppendLies
import Derived.Lib.AppendZerosOnto
namespace Go.Proofs.YtalphobaohffnaaDoor
open Go.RowKit

/-- The slice value v owns a row of bytes, from block B on. -/
def OB (w : World) (B : Nat) (v : Value) (l : List UInt8) : Prop := w.ownsRow B 5 1 v l.length (BV l)

/-- From w to w' the row of v became the row of v', with the bytes l; all else that was there is as it was. -/
structure App (w w' : World) (B : Nat) (v v' : Value) (l : List UInt8) : Prop where
  own : OB w' B v' l
  grow : w.grownBy w' v.ownBlock
  lies : v'.ownBlock = v.ownBlock ∨ ∃ k, v'.ownBlock = some k ∧ w.heap.size ≤ k

theorem App.trans {w w1 w2 : World} {B : Nat} {v v1 v2 : Value} {l1 l2 : List UInt8} (h : App w w1 B v v1 l1) (k : App w1 w2 B v1 v2 l2) : App w w2 B v v2 l2 := by
  refine ⟨k.own, ⟨k.grow.os.trans h.grow.os, k.grow.tape.trans h.grow.tape, k.grow.output.trans h.grow.output, Nat.le_trans h.grow.size k.grow.size, fun i hi hne => ?_⟩, ?_⟩
  · rw [k.grow.block i (Nat.lt_of_lt_of_le hi h.grow.size) ?_, h.grow.block i hi hne]
    intro e
    rcases h.lies with hl | ⟨g, hg, hge⟩
    · exact hne (e.trans hl)
    · rw [hg] at e
      injection e with e
      omega
  · rcases k.lies with hk | ⟨g, hg, hge⟩
    · rw [hk]; exact h.lies
    · exact .inr ⟨g, hg, Nat.le_trans h.grow.size hge⟩

theorem App.refl {w : World} {B : Nat} {v : Value} {l : List UInt8} (h : OB w B v l) : App w w B v v l := ⟨h, ⟨rfl, rfl, rfl, Nat.le_refl _, fun _ _ _ => rfl⟩, .inl rfl⟩
theorem OB.lt {w : World} {B : Nat} {v : Value} {l : List UInt8} (h : OB w B v l) : ∀ k, v.ownBlock = some k → B ≤ k ∧ k < w.heap.size := World.ownsRow.lt h
theorem OB.alloc {w : World} {B : Nat} {v : Value} {l : List UInt8} (h : OB w B v l) (o : Obj) : OB (w.alloc o) B v l := World.ownsRow.alloc h o
theorem OB.drew {w : World} {B : Nat} {v : Value} {l : List UInt8} (h : OB w B v l) : OB w.drew B v l := h
theorem App.undrew {w w' : World} {B : Nat} {v v' : Value} {l : List UInt8} (h : App w.drew w' B v v' l) : App w w' B v v' l := ⟨h.own, ⟨h.grow.os, h.grow.tape, h.grow.output, h.grow.size, h.grow.block⟩, h.lies⟩
/-- A block that was there, and is not v's row, is not the row of v' either. -/
theorem App.far {w w' : World} {B : Nat} {v v' : Value} {l : List UInt8} (h : App w w' B v v' l) {g : Nat} (hg : g < w.heap.size) (hne : v.ownBlock ≠ some g) : v'.ownBlock ≠ some g := by
  rcases h.lies with hl | ⟨k, hk, hge⟩
  · rw [hl]; exact hne
  · rw [hk]; intro e; injection e with e; omega
/-- Behind a step that makes blocks alone. -/
theorem OB.below {w w' : World} {B : Nat} {v : Value} {l : List UInt8} (h : OB w B v l) (hb : Below w.heap.size w w') : OB w' B v l :=
  World.ownsRow.kept (row := none) h ⟨hb.os, hb.tape, hb.output, hb.size, fun k hk _ => hb.block k hk⟩ (by cases hv : v.ownBlock <;> simp)
theorem App.of_below {w w' : World} {B : Nat} {v : Value} {l : List UInt8} (h : OB w B v l) (hb : Below w.heap.size w w') : App w w' B v v l :=
  ⟨h.below hb, ⟨hb.os, hb.tape, hb.output, hb.size, fun k hk _ => hb.block k hk⟩, .inl rfl⟩
theorem App.alloc {w w' : World} {B : Nat} {v v' : Value} {l : List UInt8} (h : App w w' B v v' l) (o : Obj) : App w (w'.alloc o) B v v' l :=
  h.trans (App.of_below h.own ((Below.refl _ _).alloc (Nat.le_refl _) o))
/-- What an append leaves below a block. -/
theorem App.below {w w' : World} {B : Nat} {v v' : Value} {l m : List UInt8} (h : App w w' B v v' l) (ho : OB w B v m) (hB : B ≤ w.heap.size) : Below B w w' :=
  (Below.refl B w).grown h.grow hB fun k hk => (ho.lt k hk).1
/-- A block that lies apart from v's row. -/
theorem App.cell {w w' : World} {B : Nat} {v v' : Value} {l : List UInt8} (h : App w w' B v v' l) {p : Addr} (hp : p.block < w.heap.size) (hne : v.ownBlock ≠ some p.block) : w'.cell? p = w.cell? p :=
  h.grow.cell_far p hp (fun e => hne e.symm)
theorem App.none_below {w w' : World} {B : Nat} {v v' : Value} {l : List UInt8} (h : App w w' B v v' l) (hv : v.ownBlock = none) : Below w.heap.size w w' :=
  (Below.refl _ w).grown h.grow (Nat.le_refl _) (by rw [hv]; intro k hk; cases hk)

theorem Tryd.info8 : (Tryd.prog.info? 5).map (fun i => (i.zero, i.size, i.bytes)) = some (some (.int .u8 0), 1, 1) := by kernel_rfl

theorem OB.src {w : World} {B : Nat} {v : Value} {l : List UInt8} (h : OB w B v l) (hl : 0 < l.length) :
    ∃ g c, v = .slice (some ⟨g, 0, none⟩) l.length c ∧ B ≤ g ∧ g < w.heap.size ∧ ∀ j u, (BV l)[j]? = some u → w.cell? ((⟨g, 0, none⟩ : Addr).add j) = some u := by
  obtain ⟨g, c, e, hb, hlt⟩ := World.ownsRow.form h hl
  exact ⟨g, c, e, hb, hlt, World.ownsRow.cells h (by rw [e]; rfl)⟩
theorem OB.nil (w : World) (B : Nat) : OB w B (.slice none 0 0) [] := World.ownsRow_nil w B _ 1
theorem OB.lit (w : World) (B : Nat) (l : List UInt8) (hB : B ≤ w.heap.size) (hl : l.length ≤ 1000000000) : OB (w.alloc (.cells (BV l).toArray 5)) B (.slice (some ⟨w.heap.size, 0, none⟩) l.length l.length) l := by
  have h := World.ownsRow_lit (base := B) (e := 5) (size := 1) w (BV l).toArray l.length hB (by unfold maxLen; omega) (by simp [BV_length])
  simpa [OB] using h
theorem OB.mono {w : World} {B B' : Nat} {v : Value} {l : List UInt8} (h : OB w B v l) (hB : B' ≤ B) : OB w B' v l := by
  refine ⟨h.1, ?_⟩
  rcases h.2 with h' | ⟨g, cap, cur, e, hb, r⟩
  · exact .inl h'
  · exact .inr ⟨g, cap, cur, e, Nat.le_trans hB hb, r⟩

theorem run_append_src_own {P : Program} (w : World) (base : Nat) (t tx ty e : TypeId) (i : TypeInfo) (z : Value) (ht : P.underlying t = some (.slice e)) (hi : P.info? e = some i) (hz : i.zero = some z)
    (hsize : i.size = 1) (hby : i.bytes = 1) (hzs : z.cells.size = 1) (v : Value) (n : Nat) (xs : List Value) (hown : w.ownsRow base e 1 v n xs)
    (x : Value) (m : Nat) (news : List Value) (hs : Src P 1 tx x m news w) (hlen : n + m ≤ 1000000000) (hbase : base ≤ w.heap.size) :
    ∃ v' w', (Builtin.append_ #[t, tx] ty #[v, x]).run P w = .ok v' w' ∧ w'.ownsRow base e 1 v' (n + m) (xs ++ news) ∧ w.grownBy w' v.ownBlock ∧ (v'.ownBlock = v.ownBlock ∨ v'.ownBlock = some w.heap.size) := by
  have hnl : news.length = m := by have := hs.newsLen; omega
  have hln : (xs ++ news).length = (n + m) * 1 := by rw [List.length_append, hown.1, hnl]; omega
  have hs' : Src P i.size tx x m news w := by rw [hsize]; exact hs
  have h63 : ((n + m : Nat) : Int) ≤ 9223372036854775807 := by omega
  have grown : ∀ (old : Nat), old < n + m → ∀ (row : Option Nat),
      (w.drew.alloc (.cells ((xs ++ news).toArray ++ Builtin.zeroCells z.cells (grownCap w (n + m) old e - (n + m))) e)).ownsRow base e 1
        (.slice (some ⟨w.heap.size, 0, none⟩) (n + m) (grownCap w (n + m) old e)) (n + m) (xs ++ news) ∧
      w.grownBy (w.drew.alloc (.cells ((xs ++ news).toArray ++ Builtin.zeroCells z.cells (grownCap w (n + m) old e - (n + m))) e)) row := by
    intro old ho row
    have hge := grownCap_ge w (n + m) old e
    have hcm : grownCap w (n + m) old e ≤ maxLen := grownCap_le_maxLen w (n + m) old e (by unfold maxLen; omega)
    refine ⟨⟨hln, .inr ⟨w.heap.size, _, _, rfl, hbase, heap_alloc_new w.drew _, hge, hcm, ?_, ?_⟩⟩, ⟨rfl, rfl, rfl, by simp, fun k hk _ => Below.heap_alloc w.drew _ k hk⟩⟩
    · simp only [Array.size_append, List.size_toArray, size_zeroCells, hzs, hln]
      omega
    · simp only [Array.toList_append]
      rw [← hln]
      exact List.take_left
  rcases hown.2 with ⟨rfl, rfl⟩ | ⟨g, cap, cur, rfl, hbg, hg, hnc, hcm, hcs, htake⟩
  · have hx : xs = [] := List.eq_nil_of_length_eq_zero (by simpa using hown.1)
    subst hx
    by_cases hm : m = 0
    · subst hm
      have hn : news = [] := List.eq_nil_of_length_eq_zero hnl
      subst hn
      refine ⟨.slice none 0 0, w, ?_, World.ownsRow_nil w base e 1, ⟨rfl, rfl, rfl, Nat.le_refl _, fun _ _ _ => rfl⟩, .inl rfl⟩
      rcases hs.kind with ⟨e', hk⟩ | hk <;> simp [Builtin.append_, run_underlying ht, run_underlying hk, sizeOf, typeInfo, hi, hs'.len, hs'.cells]
    · have hr := run_append_grow_src (P := P) w t tx ty e i z ht hi hz none 0 0 [] (by simp [Builtin.firstCells]) x m news hs' (by omega) h63 (growslice_fits (by omega) (by rw [hby]; omega))
      have hgr := grown 0 (by omega) (Value.ownBlock (.slice none 0 0))
      exact ⟨_, _, hr, hgr.1, hgr.2, .inr rfl⟩
  · by_cases hroom : n + m ≤ cap
    · have hfit : n + 0 + news.length ≤ cur.size := by rw [hnl, hcs]; omega
      have hst := run_storeCells_at P g n e news 0 cur w hg hfit hs.one
      simp only [Nat.add_zero] at hst
      have hr : (Builtin.append_ #[t, tx] ty #[.slice (some ⟨g, 0, none⟩) n cap, x]).run P w = .ok (.slice (some ⟨g, 0, none⟩) (n + m) cap) (w.setRow g (cur.toList.take n ++ news ++ cur.toList.drop (n + news.length)).toArray) := by
        rcases hs.kind with ⟨e', hk⟩ | hk <;> simp [Builtin.append_, run_underlying ht, run_underlying hk, sizeOf, typeInfo, hi, hs'.len, hroom, hs.cells, Addr.add_lit, hsize, hst]
      refine ⟨_, _, hr, ⟨hln, .inr ⟨g, cap, _, rfl, hbg, setRow_heap w g cur _ e _ hg, hroom, hcm, ?_, ?_⟩⟩, ⟨rfl, rfl, rfl, by simp, fun k _ hk => setRow_other w g k _ (fun e => hk (by simp [Value.ownBlock, e]))⟩, .inl rfl⟩
      · simp only [List.size_toArray, List.length_append, List.length_take, List.length_drop, Array.length_toList]
        omega
      · have ht' : cur.toList.take n = xs := by simpa using htake
        rw [ht', ← hln]
        exact List.take_left
    · have holds : ∀ j u, xs[j]? = some u → w.drew.cell? ((⟨g, 0, none⟩ : Addr).add j) = some u := fun j u hu => by simpa using hown.cells (g := g) rfl j u hu
      have hold : (Builtin.firstCells i.size n (.slice (some ⟨g, 0, none⟩) n cap)).run P w.drew = .ok xs.toArray w.drew := run_firstCells_some w.drew i.size n ⟨g, 0, none⟩ n cap xs (by rw [hsize]; exact hown.1) holds
      have hr := run_append_grow_src (P := P) w t tx ty e i z ht hi hz (some ⟨g, 0, none⟩) n cap xs hold x m news hs' (by omega) h63 (growslice_fits (by omega) (by rw [hby]; omega))
      have hgr := grown cap (by omega) (Value.ownBlock (.slice (some ⟨g, 0, none⟩) n cap))
      exact ⟨_, _, hr, hgr.1, hgr.2, .inr rfl⟩

theorem OB.reads {w : World} {B : Nat} {a : Option Addr} {n c : Nat} {l : List UInt8} (h : OB w B (.slice a n c) l) : RBs w w.heap.size a l ∧ n = l.length ∧ l.length ≤ c := by
  have hn : n = l.length ∧ l.length ≤ c := by
    rcases h.2 with ⟨e, h0⟩ | ⟨g, cap, cur, e, _, _, hle, _⟩
    · injection e with _ e2 e3; subst e2; subst e3; exact ⟨h0.symm, by omega⟩
    · injection e with _ e2 e3; subst e2; subst e3; exact ⟨rfl, hle⟩
  refine ⟨fun hp => ?_, hn⟩
  obtain ⟨g, cc, e, _, hlt, hc⟩ := h.src hp
  injection e with e1
  subst e1
  refine ⟨g, 0, rfl, hlt, fun j hj => ?_⟩
  have hadd : (⟨g, 0, none⟩ : Addr).add j = ⟨g, j, none⟩ := by unfold Addr.add; split <;> simp_all
  rw [Nat.zero_add, ← hadd]
  exact hc j _ (by simp [BV, hj])


theorem add_none (b o i : Nat) : (⟨b, o, none⟩ : Addr).add i = ⟨b, o + i, none⟩ := by unfold Addr.add; split <;> simp_all
theorem RBs.src {w : World} {B c : Nat} {A : Option Addr} {bs : List UInt8} (h : RBs w B A bs) (hA : A = none → bs = []) : Src Tryd.prog 1 22 (.slice A bs.length c) bs.length (BV bs) w := by
  cases A with
  | none =>
    rw [hA rfl]
    exact Src.ofNil w Tryd.underlying22 c
  | some a =>
    refine Src.ofSlice w Tryd.underlying22 a bs.length c (BV bs) (by rw [BV_length, Nat.mul_one]) (fun j u hu => ?_) (BV_one bs)
    have hj : j < bs.length := by
      have := (List.getElem?_eq_some_iff.1 hu).1
      rwa [BV_length] at this
    obtain ⟨b, off, e, hb, hc⟩ := h (by omega)
    injection e with e
    subst e
    rw [add_none, hc j hj]
    simp only [BV, List.getElem?_map, List.getElem?_eq_getElem hj, Option.map_some] at hu
    exact hu
/-- append of whatever bytes. -/
theorem app_src {ops : Array Oper} {rest : List Oper} {o : Oper} {a : Act} {Q : Exit → Act → World → Prop} {w : World} (hgd : o.guard = none) (s x : Operand)
    (ho : o.op = .call { callee := .builtin .append, args := #[s, x], argTypes := #[22, 22] })
    (B : Nat) (v : Value) (l bs : List UInt8) (vx : Value) (hs : a.eval s = v) (hown : OB w B v l) (hx : a.eval x = vx) (hsrc : Src Tryd.prog 1 22 vx bs.length (BV bs) w) (hlen : l.length + bs.length ≤ 1000000000) (hB : B ≤ w.heap.size)
    (h : ∀ v' w', App w w' B v v' (l ++ bs) → wpList Tryd.prog ops Q rest (a.put o.dst v') w') : wpList Tryd.prog ops Q (o :: rest) a w := by
  obtain ⟨i0, hi0, hz0, hz1, hz2⟩ := info_parts Tryd.info8
  obtain ⟨v', w', hr, h2, h3, h4⟩ := run_append_src_own (P := Tryd.prog) w B 22 22 o.type 5 i0 (.int .u8 0) Tryd.underlying22 hi0 hz0 hz1 hz2 rfl v l.length (BV l) hown vx bs.length (BV bs) hsrc hlen hB
  refine Lib.wpList_append_run w hgd s x _ _ ho v vx hs hx v' w' hr (h v' w' ⟨?_, h3, ?_⟩)
  · unfold OB
    rw [List.length_append, BV_append]
    exact h2
  · rcases h4 with h4 | h4
    · exact .inl h4
    · exact .inr ⟨_, h4, Nat.le_refl _⟩

set_option maxRecDepth 100000 in
set_option maxHeartbeats 1000000 in
/-- slices.Grow of the nil slice. -/
theorem grow_any (n : Nat) (hn : n ≤ 1000000000) (w : World) : Calls Tryd.prog 32 #[.slice none 0 0, .int .i64 n] w fun e w' => ∃ v, e = .returned v ∧ OB w' w.heap.size v [] ∧ Below w.heap.size w w' := by
  obtain ⟨i0, hi0, hz0, hz1, hz2⟩ := info_parts Tryd.info8
  by_cases h0 : n = 0
  · subst h0
    go_enter Tryd.func32, Tryd.ntmps32
    go_wp2_with fail
    go_ret
    exact ⟨_, rfl, OB.nil _ _, Below.refl _ _⟩
  · have hr : ∀ ty, (Builtin.append_ #[22, 3] ty #[.slice none 0 0, .int .i64 (n : Int)]).run Tryd.prog w = .ok (.slice (some ⟨w.heap.size, 0, none⟩) n (grownCap w n 0 5)) (w.alloc (.cells (Builtin.zeroCells #[.int .u8 0] n ++ Builtin.zeroCells #[.int .u8 0] (grownCap w n 0 5 - n)) 5)).drew := fun ty => by
      have h := Lib.run_append_grow_zeros w 22 3 ty 5 i0 (.int .u8 0) .i64 .i64 Tryd.underlying22 Tryd.underlying3 hi0 hz0 none 0 0 [] (run_firstCells_none w.drew i0.size 0 0 0) n (by omega) (by omega) (by omega) (by omega) (by rw [hz2]; omega) (growslice_fits (by omega) (by rw [hz2]; omega))
      have e : ∀ o, w.drew.alloc o = (w.alloc o).drew := fun _ => rfl
      simpa [Value.cells, e] using h
    have hge := grownCap_ge w n 0 5
    have hcm : grownCap w n 0 5 ≤ maxLen := grownCap_le_maxLen w n 0 5 (by unfold maxLen; omega)
    generalize grownCap w n 0 5 = G at *
    have hpos : ¬ ((n : Int) ≤ 0) := by omega
    have hpos2 : (0 : Int) < n := by omega
    have hG : (0 : Int) ≤ G := by omega
    have hG2 : G ≤ 9223372036854775807 := by unfold maxLen at hcm; omega
    have hcm' := Lib.hid hcm
    clear hcm hi0 hz0 hz1 hz2
    have hb : Below w.heap.size w (w.alloc (.cells (Builtin.zeroCells #[.int .u8 0] n ++ Builtin.zeroCells #[.int .u8 0] (G - n)) 5)).drew := dN ((Below.refl _ _).alloc (Nat.le_refl _) _) 1
    have hob : OB (w.alloc (.cells (Builtin.zeroCells #[.int .u8 0] n ++ Builtin.zeroCells #[.int .u8 0] (G - n)) 5)).drew w.heap.size (.slice (some ⟨w.heap.size, 0, none⟩) 0 G) [] := by
      refine ⟨rfl, .inr ⟨w.heap.size, G, _, rfl, Nat.le_refl _, heap_alloc_new w _, Nat.zero_le _, hcm'.out, ?_, by simp [BV]⟩⟩
      simp only [Array.size_append, size_zeroCells]
      simp
      omega
    have hb' := Lib.hid hb
    have hob' := Lib.hid hob
    clear hb hob
    go_enter Tryd.func32, Tryd.ntmps32
    go_wp2_with (at_builtin; refine Lib.wpList_append_run _ rfl _ _ _ _ rfl _ _ rfl rfl _ _ (hr _) ?_)
    go_ret
    exact ⟨_, rfl, hob'.out, hb'.out⟩

/-- Two slices of bytes side by side: what Concat is called with. -/
structure Two (w : World) (b : Nat) (x y : List UInt8) (ax ay : Option Addr) (cx cy : Nat) : Prop where
  c0 : w.cell? ⟨b, 0, none⟩ = some (.slice ax x.length cx)
  c1 : w.cell? ⟨b, 1, none⟩ = some (.slice ay y.length cy)
  r0 : RBs w w.heap.size ax x
  r1 : RBs w w.heap.size ay y
  n0 : ax = none → x = []
  n1 : ay = none → y = []
theorem RBs.below {w w' : World} {A : Option Addr} {bs : List UInt8} (h : RBs w w.heap.size A bs) (hb : Below w.heap.size w w') : RBs w' w'.heap.size A bs := by
  intro hp
  obtain ⟨b, off, e, hlt, hc⟩ := h hp
  exact ⟨b, off, e, Nat.lt_of_lt_of_le hlt hb.size, fun j hj => by rw [hb.cell (p := ⟨b, off + j, none⟩) hlt]; exact hc j hj⟩
theorem Two.below {w w' : World} {b : Nat} {x y : List UInt8} {ax ay : Option Addr} {cx cy : Nat} (h : Two w b x y ax ay cx cy) (hb : Below w.heap.size w w') (hlt : b < w.heap.size) : Two w' b x y ax ay cx cy :=
  ⟨(hb.cell (p := ⟨b, 0, none⟩) hlt).trans h.c0, (hb.cell (p := ⟨b, 1, none⟩) hlt).trans h.c1, h.r0.below hb, h.r1.below hb, h.n0, h.n1⟩

set_option maxRecDepth 100000 in
set_option maxHeartbeats 2000000 in
/-- slices.Concat of two slices of bytes. -/
theorem concat_any (x y : List UInt8) (hx : x.length + y.length ≤ 100000000) (w : World) (b : Nat) (hb : b < w.heap.size) (ax ay : Option Addr) (cx cy : Nat) (h2 : Two w b x y ax ay cx cy) :
    Calls Tryd.prog 20 #[.slice (some ⟨b, 0, none⟩) 2 2] w fun e w' => ∃ v, e = .returned v ∧ OB w' w.heap.size v (x ++ y) ∧ Below w.heap.size w w' := by
  have h2' := Lib.hid h2
  obtain ⟨c0, c1, -, -, -, -⟩ := h2
  have hs0 : IntKind.i64.wrap ((x.length : Int) + y.length) = x.length + y.length := IntWalk.i64_in _ (by omega)
  go_enter Tryd.func20, Tryd.ntmps20
  go_wp2_with fail
  go_loop [3, 5, 11] (fun n _ i => (i = .int .i64 0 ∧ n = .int .i64 0) ∨ (i = .int .i64 1 ∧ n = .int .i64 x.length) ∨ (i = .int .i64 2 ∧ n = .int .i64 (x.length + y.length))) (fun _ _ i => 2 - (intOf i).toNat)
  case atStart => exact .inl ⟨rfl, rfl⟩
  case round =>
    rcases hrel with ⟨rfl, rfl⟩ | ⟨rfl, rfl⟩ | ⟨rfl, rfl⟩
    · go_wp2_with fail
      go_round
      case rel => exact .inr (.inl ⟨rfl, rfl⟩)
      case measure => simp [intOf]
    · go_wp2_with fail
      go_round
      case rel => exact .inr (.inr ⟨rfl, rfl⟩)
      case measure => simp [intOf]
    · clear c0 c1
      have hg := grow_any (x.length + y.length) (by omega) w
      rw [show (((x.length + y.length : Nat)) : Int) = x.length + y.length by omega] at hg
      have hg' := Lib.hid hg
      clear hg
      go_wp2_with fail
      refine hg'.out.mono ?_
      rintro e w1 ⟨v1, rfl, hob, hb1⟩
      clear hs0
      go_wp2_with fail
      go_loopw [6, 8, 27] (fun v _ i wr => ((i = .int .i64 0 ∧ OB wr w.heap.size v []) ∨ (i = .int .i64 1 ∧ OB wr w.heap.size v x) ∨ (i = .int .i64 2 ∧ OB wr w.heap.size v (x ++ y))) ∧ Below w.heap.size w wr) (fun _ _ i _ => 2 - (intOf i).toNat)
      case atStart => exact ⟨.inl ⟨rfl, hob⟩, hb1⟩
      case round =>
        obtain ⟨hrel, hB⟩ := hrel
        rcases hrel with ⟨rfl, hob⟩ | ⟨rfl, hob⟩ | ⟨rfl, hob⟩
        · obtain ⟨c0, -, r0, -, n0, -⟩ := h2'.out.below hB hb
          have hsrc := r0.src (c := cx) n0
          clear r0 n0
          go_wp2_with (at_builtin; refine app_src rfl _ _ rfl w.heap.size _ [] x _ rfl hob rfl hsrc (by simp; omega) hB.size ?_; intro v6 w6 happ)
          have hB6 := hB.trans (happ.below hob hB.size)
          go_roundw
          case rel => exact ⟨.inr (.inl ⟨rfl, happ.own⟩), hB6⟩
          case measure => simp [intOf]
        · obtain ⟨-, c1, -, r1, -, n1⟩ := h2'.out.below hB hb
          have hsrc := r1.src (c := cy) n1
          clear r1 n1
          go_wp2_with (at_builtin; refine app_src rfl _ _ rfl w.heap.size _ x y _ rfl hob rfl hsrc (by omega) hB.size ?_; intro v6 w6 happ)
          have hB6 := hB.trans (happ.below hob hB.size)
          go_roundw
          case rel => exact ⟨.inr (.inr ⟨rfl, happ.own⟩), hB6⟩
          case measure => simp [intOf]
        · go_wp2_with fail
          go_ret
          exact ⟨_, rfl, hob, hB⟩
end Go.Proofs.YtalphobaohffnaaDoor
