/- append of any row of cells behind a row of the call's own. -/
import Derived.Test.YtjfoihlelkfaoaaDoorPt
namespace Go.Proofs.YtjfoihlelkfaoaaDoor
open Go.RowKit

theorem run_append_any {P : Program} (w : World) (base : Nat) (t tx ty e : TypeId) (i : TypeInfo) (z : Value) (ht : P.underlying t = some (.slice e)) (hi : P.info? e = some i) (hz : i.zero = some z)
    (s by_ : Nat) (hsize : i.size = s) (hby : i.bytes = by_) (hby1 : by_ ≤ 1000) (hzs : z.cells.size = s) (v : Value) (n : Nat) (xs : List Value) (hown : w.ownsRow base e s v n xs)
    (x : Value) (m : Nat) (news : List Value) (hs : Src P s tx x m news w) (hlen : n + m ≤ 1000000000) (hbase : base ≤ w.heap.size) :
    ∃ v' w', (Builtin.append_ #[t, tx] ty #[v, x]).run P w = .ok v' w' ∧ w'.ownsRow base e s v' (n + m) (xs ++ news) ∧ w.grownBy w' v.ownBlock ∧ (v'.ownBlock = v.ownBlock ∨ v'.ownBlock = some w.heap.size) := by
  have hnl : news.length = m * s := hs.newsLen
  have hln : (xs ++ news).length = (n + m) * s := by rw [List.length_append, hown.1, hnl, Nat.add_mul]
  have hs' : Src P i.size tx x m news w := by rw [hsize]; exact hs
  have h63 : ((n + m : Nat) : Int) ≤ 9223372036854775807 := by omega
  have hbb : (n + m) * i.bytes ≤ 1000000000000 := by rw [hby]; exact Nat.le_trans (Nat.mul_le_mul hlen hby1) (by decide)
  have grown : ∀ (old : Nat), old < n + m → ∀ (row : Option Nat),
      (w.drew.alloc (.cells ((xs ++ news).toArray ++ Builtin.zeroCells z.cells (grownCap w (n + m) old e - (n + m))) e)).ownsRow base e s
        (.slice (some ⟨w.heap.size, 0, none⟩) (n + m) (grownCap w (n + m) old e)) (n + m) (xs ++ news) ∧
      w.grownBy (w.drew.alloc (.cells ((xs ++ news).toArray ++ Builtin.zeroCells z.cells (grownCap w (n + m) old e - (n + m))) e)) row := by
    intro old ho row
    have hge := grownCap_ge w (n + m) old e
    have hcm : grownCap w (n + m) old e ≤ maxLen := grownCap_le_maxLen w (n + m) old e (by unfold maxLen; omega)
    refine ⟨⟨hln, .inr ⟨w.heap.size, _, _, rfl, hbase, heap_alloc_new w.drew _, hge, hcm, ?_, ?_⟩⟩, ⟨rfl, rfl, rfl, by simp, fun k hk _ => Below.heap_alloc w.drew _ k hk⟩⟩
    · simp only [Array.size_append, List.size_toArray, size_zeroCells, hzs, hln]
      rw [← Nat.add_mul, Nat.add_sub_cancel' hge]
    · simp only [Array.toList_append]
      rw [← hln]
      exact List.take_left
  rcases hown.2 with ⟨rfl, rfl⟩ | ⟨g, cap, cur, rfl, hbg, hg, hnc, hcm, hcs, htake⟩
  · have hx : xs = [] := List.eq_nil_of_length_eq_zero (by simpa using hown.1)
    subst hx
    by_cases hm : m = 0
    · subst hm
      have hn : news = [] := List.eq_nil_of_length_eq_zero (by simpa using hnl)
      subst hn
      refine ⟨.slice none 0 0, w, ?_, World.ownsRow_nil w base e s, ⟨rfl, rfl, rfl, Nat.le_refl _, fun _ _ _ => rfl⟩, .inl rfl⟩
      rcases hs.kind with ⟨e', hk⟩ | hk <;> simp [Builtin.append_, run_underlying ht, run_underlying hk, sizeOf, typeInfo, hi, hs'.len, hs'.cells]
    · have hr := run_append_grow_src (P := P) w t tx ty e i z ht hi hz none 0 0 [] (by simp [Builtin.firstCells]) x m news hs' (by omega) h63 (growslice_fits (by omega) (by omega))
      have hgr := grown 0 (by omega) (Value.ownBlock (.slice none 0 0))
      exact ⟨_, _, hr, hgr.1, hgr.2, .inr rfl⟩
  · by_cases hroom : n + m ≤ cap
    · have hfit : n * s + 0 + news.length ≤ cur.size := by
        rw [hnl, hcs, Nat.add_zero, ← Nat.add_mul]
        exact Nat.mul_le_mul_right _ hroom
      have hst := run_storeCells_at P g (n * s) e news 0 cur w hg hfit hs.one
      simp only [Nat.add_zero] at hst
      have hr : (Builtin.append_ #[t, tx] ty #[.slice (some ⟨g, 0, none⟩) n cap, x]).run P w = .ok (.slice (some ⟨g, 0, none⟩) (n + m) cap) (w.setRow g (cur.toList.take (n * s) ++ news ++ cur.toList.drop (n * s + news.length)).toArray) := by
        rcases hs.kind with ⟨e', hk⟩ | hk <;> simp [Builtin.append_, run_underlying ht, run_underlying hk, sizeOf, typeInfo, hi, hs'.len, hroom, hs.cells, Addr.add_lit, hsize, hst]
      refine ⟨_, _, hr, ⟨hln, .inr ⟨g, cap, _, rfl, hbg, setRow_heap w g cur _ e _ hg, hroom, hcm, ?_, ?_⟩⟩, ⟨rfl, rfl, rfl, by simp, fun k _ hk => setRow_other w g k _ (fun e => hk (by simp [Value.ownBlock, e]))⟩, .inl rfl⟩
      · have hle : n * s + news.length ≤ cur.size := by omega
        simp only [List.size_toArray, List.length_append, List.length_take, List.length_drop, Array.length_toList]
        rw [hcs] at hle ⊢
        omega
      · rw [htake, ← hln]
        exact List.take_left
    · have holds : ∀ j u, xs[j]? = some u → w.drew.cell? ((⟨g, 0, none⟩ : Addr).add j) = some u := fun j u hu => by simpa using hown.cells (g := g) rfl j u hu
      have hold : (Builtin.firstCells i.size n (.slice (some ⟨g, 0, none⟩) n cap)).run P w.drew = .ok xs.toArray w.drew := run_firstCells_some w.drew i.size n ⟨g, 0, none⟩ n cap xs (by rw [hsize]; exact hown.1) holds
      have hr := run_append_grow_src (P := P) w t tx ty e i z ht hi hz (some ⟨g, 0, none⟩) n cap xs hold x m news hs' (by omega) h63 (growslice_fits (by omega) (by omega))
      have hgr := grown cap (by omega) (Value.ownBlock (.slice (some ⟨g, 0, none⟩) n cap))
      exact ⟨_, _, hr, hgr.1, hgr.2, .inr rfl⟩

theorem RD.src {w : World} {B cap : Nat} {a : Option Addr} {l : List (List UInt8)} (h : RD w B l a cap) : Src Tryd.prog 32 26 (.slice a l.length cap) l.length (l.flatMap BV) w := by
  obtain ⟨h1, h2, h3, h4, b, off, h5, h6⟩ := h
  have hfl := flat_length l h3
  cases a with
  | none =>
    rw [h4 rfl]
    exact Src.ofNil w Tryd.underlying26 cap
  | some a =>
    by_cases hl : 0 < l.length
    · obtain ⟨e, -⟩ := h5 hl
      injection e with e
      subst e
      refine Src.ofSlice w Tryd.underlying26 ⟨b, off, none⟩ l.length cap (l.flatMap BV) hfl (fun j u hu => ?_) ?_
      · have hj : j < l.length * 32 := by
          have := (List.getElem?_eq_some_iff.1 hu).1
          rwa [hfl] at this
        have hq : j / 32 < l.length := by omega
        have hg := flat_get l h3 (j / 32) hq (j % 32) (Nat.mod_lt _ (by omega))
        rw [show j / 32 * 32 + j % 32 = j by omega, hu] at hg
        have := h6 (j / 32) hq (j % 32) u hg.symm
        rw [add_none]
        rwa [show off + j / 32 * 32 + j % 32 = off + j by omega] at this
      · intro u hu
        obtain ⟨d, -, hd⟩ := List.mem_flatMap.1 hu
        exact BV_one d u hd
    · have : l = [] := List.eq_nil_of_length_eq_zero (by omega)
      subst this
      exact Src.ofSlice w Tryd.underlying26 a 0 cap [] rfl (fun j u hu => by simp at hu) (fun u hu => by simp at hu)

/-- append of a list of digests behind another, at a step of a region that draws its order. -/
theorem step_lists {ops : Array Oper} {o : Oper} {a : Act} {K : Act → World → Prop} {Q : Exit → Act → World → Prop} {E : Prop} {w : World} (hgd : o.guard = none) (s x : Operand)
    (ho : o.op = .call { callee := .builtin .append, args := #[s, x], argTypes := #[26, 26] })
    (B : Nat) (v : Value) (l m : List (List UInt8)) (hs : a.eval s = v) (hown : OD w B v l) (b : Option Addr) (cap : Nat) (hx : a.eval x = .slice b m.length cap) {B' : Nat} (hR : RD w B' m b cap) (hlen : l.length + m.length ≤ 1000000000) (hB : B ≤ w.heap.size)
    (h : ∀ v' w', OD w' B v' (l ++ m) → Below B w w' → w.grownBy w' v.ownBlock → (v'.ownBlock = v.ownBlock ∨ v'.ownBlock = some w.heap.size) → K (a.put o.dst v') w') : if Region.wanted o (yielded ops a.tmps) = true then Oper.wp Tryd.prog o a w K Q else E := by
  have hw : Region.wanted o (yielded ops a.tmps) = true := by simp [Region.wanted, hgd]
  rw [if_pos hw]
  obtain ⟨i0, hi0, hz0, hz1, hz2⟩ := info_parts Tryd.infoD
  obtain ⟨v', w', hr, h1, h2, h3⟩ := run_append_any (P := Tryd.prog) w B 26 26 o.type 24 i0 _ Tryd.underlying26 hi0 hz0 32 32 hz1 hz2 (by omega) rfl v l.length (l.flatMap BV) hown (.slice b m.length cap) m.length (m.flatMap BV) hR.src hlen hB
  refine Lib.wp_append_run w s x _ _ ho v (.slice b m.length cap) hs hx v' w' hr (h v' w' ?_ ((Below.refl B w).grown h2 hB (fun k e => (World.ownsRow.lt hown k e).1)) h2 h3)
  unfold OD
  rw [List.length_append, List.flatMap_append]
  exact h1
theorem RD.ofDB {W : World} {g : Nat} {d : List UInt8} {T : TypeId} (h : DB W g T d) (hd : d.length = 32) : RD W W.heap.size [d] (some ⟨g, 0, none⟩) 1 := by
  refine ⟨Nat.le_refl _, by omega, fun e he => by simp at he; subst he; exact hd, fun h => by simp at h, g, 0, fun _ => ⟨rfl, h.lt⟩, fun i hi => ?_⟩
  match i, hi with
  | 0, _ =>
    intro j v hv
    rw [cell_of_row _ g _ _ _ _ h]
    simpa using hv
theorem OD.new {W : World} {N : Nat} (h : N ≤ W.heap.size) : OD (W.alloc (.cells #[] 24)) N (.slice (some ⟨W.heap.size, 0, none⟩) 0 0) [] := World.ownsRow_lit W #[] 0 h (by unfold maxLen; omega) rfl
theorem own_ne {v : Value} {g a b : Nat} (h : v.ownBlock = some a ∨ v.ownBlock = some b) (ha : a ≠ g) (hb : b ≠ g) : v.ownBlock ≠ some g := by
  rcases h with h | h <;> rw [h] <;> intro e <;> injection e with e <;> contradiction
theorem DB.newAt {W : World} {d : List UInt8} {T : TypeId} {g : Nat} (h : W.heap.size = g) : DB (W.alloc (.cells (BV d).toArray T)) g T d := by subst h; exact heap_alloc_new W _
theorem DB.zeroAt {W : World} {g : Nat} (h : W.heap.size = g) : DB (W.alloc (.cells #[.int .u8 0, .int .u8 0, .int .u8 0, .int .u8 0, .int .u8 0, .int .u8 0, .int .u8 0, .int .u8 0, .int .u8 0, .int .u8 0, .int .u8 0, .int .u8 0, .int .u8 0, .int .u8 0, .int .u8 0, .int .u8 0, .int .u8 0, .int .u8 0, .int .u8 0, .int .u8 0, .int .u8 0, .int .u8 0, .int .u8 0, .int .u8 0, .int .u8 0, .int .u8 0, .int .u8 0, .int .u8 0, .int .u8 0, .int .u8 0, .int .u8 0, .int .u8 0] 24)) g 24 zeroD := by subst h; exact (zero_new W).1
theorem OD.newAt {W : World} {N g : Nat} (h : W.heap.size = g) (hN : N ≤ g) : OD (W.alloc (.cells #[] 24)) N (.slice (some ⟨g, 0, none⟩) 0 0) [] := by subst h; exact OD.new hN
theorem OD.al {W : World} {N : Nat} {v : Value} {l : List (List UInt8)} (h : OD W N v l) (o : Obj) : OD (W.alloc o) N v l := World.ownsRow.alloc h o
theorem DB.al {W : World} {g : Nat} {T : TypeId} {d : List UInt8} (h : DB W g T d) (o : Obj) : DB (W.alloc o) g T d := h.below ((Below.refl _ _).alloc (Nat.le_refl _) o) h.lt
theorem DB.gr {W W' : World} {g : Nat} {T : TypeId} {d : List UInt8} {row : Option Nat} (h : DB W g T d) (hg : W.grownBy W' row) (hne : row ≠ some g) : DB W' g T d := by
  unfold DB
  rw [hg.block g h.lt (fun e => hne e.symm)]
  exact h
theorem Below.al {w W : World} (h : Below w.heap.size w W) (o : Obj) : Below w.heap.size w (W.alloc o) := h.alloc h.size o
theorem Below.dr {B : Nat} {w W : World} (h : Below B w W) : Below B w W.drew := dN h 1
theorem RD.al {W : World} {l : List (List UInt8)} {a : Option Addr} {cap : Nat} (h : RD W W.heap.size l a cap) (o : Obj) : RD (W.alloc o) (W.alloc o).heap.size l a cap := h.below ((Below.refl _ _).alloc (Nat.le_refl _) o)
end Go.Proofs.YtjfoihlelkfaoaaDoor
