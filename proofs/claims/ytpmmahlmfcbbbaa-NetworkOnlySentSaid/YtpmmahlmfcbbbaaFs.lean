/- append behind a row of the call's own: rows that hold what it held, or what the result holds, still do. -/
import Derived.Test.YtpmmahlmfcbbbaaFr
import Derived.Test.YtpmmahlmfcbbbaaSo
namespace Go.Proofs.Ytpmmahlmfcbbbaa
open Go.RowKit

theorem below_row {w w' : World} {B g : Nat} (h : Below B w w') (c : Array Value) (hg : B ≤ g) (hB : B ≤ w'.heap.size) : Below B w (w'.setRow g c) := h.grown (grownBy_setRow _ _ _) hB (fun k e => by injection e with e; omega)

theorem ownsRow_inplace {w : World} {base g n s : Nat} {e : TypeId} {v : Value} {xs : List Value} {cur cur' : Array Value} (h : w.ownsRow base e s v n xs) (hg : w.heap[g]? = some (.cells cur e (0, 0))) (hz : cur'.size = cur.size) (ht : cur'.toList.take (n * s) = cur.toList.take (n * s) ∨ cur'.toList.take (n * s) = xs) : (w.setRow g cur').ownsRow base e s v n xs := by
  refine ⟨h.1, ?_⟩
  rcases h.2 with h2 | ⟨g2, cap2, cur2, e2, hb, hg2, hnc, hcm, hcs, htk⟩
  · exact .inl h2
  · by_cases hne : g2 = g
    · subst hne
      rw [hg2] at hg
      injection hg with hg
      injection hg with e1 _ _
      subst e1
      refine .inr ⟨g2, cap2, cur', e2, hb, setRow_heap w g2 cur2 cur' _ _ hg2, hnc, hcm, by rw [hz]; exact hcs, ?_⟩
      rcases ht with ht | ht
      · rw [ht]; exact htk
      · exact ht
    · exact .inr ⟨g2, cap2, cur2, e2, hb, by rw [setRow_other w g g2 _ hne]; exact hg2, hnc, hcm, hcs, htk⟩

/-- What is left alone by an append of m behind n. -/
structure SparedR (N : Nat) (e : TypeId) (s n m : Nat) (xs news : List Value) (w w' : World) : Prop where
  size : w.heap.size ≤ w'.heap.size
  below : Below N w w'
  one : ∀ v, w.ownsRow N e s v n xs → w'.ownsRow N e s v n xs
  two : ∀ v, w.ownsRow N e s v (n + m) (xs ++ news) → w'.ownsRow N e s v (n + m) (xs ++ news)
  few : ∀ k ys v, k ≤ n → w.ownsRow N e s v k ys → w'.ownsRow N e s v k ys
  other : ∀ (b : Nat) (cs : Array Value) (T : TypeId) (fr : Nat × Nat), w.heap[b]? = some (.cells cs T fr) → T ≠ e → w'.heap[b]? = some (.cells cs T fr)
theorem ownsRow_below {w w' : World} {N n s : Nat} {e : TypeId} {v : Value} {xs : List Value} (h : w.ownsRow N e s v n xs) (hb : Below w.heap.size w w') : w'.ownsRow N e s v n xs :=
  World.ownsRow.kept (row := none) h ⟨hb.os, hb.tape, hb.output, hb.size, fun k hk _ => hb.block k hk⟩ (by cases hv : v.ownBlock <;> simp)
theorem SparedR.of {N n m s : Nat} {e : TypeId} {xs news : List Value} {w w' : World} (h : Below w.heap.size w w') (hN : N ≤ w.heap.size) : SparedR N e s n m xs news w w' := ⟨h.size, h.mono hN, fun _ h1 => ownsRow_below h1 h, fun _ h1 => ownsRow_below h1 h, fun _ _ _ _ h1 => ownsRow_below h1 h, fun b _ _ _ h1 _ => (h.block b (Array.getElem?_eq_some_iff.1 h1).1).trans h1⟩

theorem run_append_spare {P : Program} (w : World) (base : Nat) (t tx ty e : TypeId) (i : TypeInfo) (z : Value) (ht : P.underlying t = some (.slice e)) (hi : P.info? e = some i) (hz : i.zero = some z)
    (s by_ : Nat) (hsize : i.size = s) (hby : i.bytes = by_) (hby1 : by_ ≤ 1000) (hzs : z.cells.size = s) (v : Value) (n : Nat) (xs : List Value) (hown : w.ownsRow base e s v n xs)
    (x : Value) (m : Nat) (news : List Value) (hs : Src P s tx x m news w) (hlen : n + m ≤ 1000000000) (hbase : base ≤ w.heap.size) :
    ∃ v' w', (Builtin.append_ #[t, tx] ty #[v, x]).run P w = .ok v' w' ∧ w'.ownsRow base e s v' (n + m) (xs ++ news) ∧ SparedR base e s n m xs news w w' := by
  have hnl : news.length = m * s := hs.newsLen
  have hln : (xs ++ news).length = (n + m) * s := by rw [List.length_append, hown.1, hnl, Nat.add_mul]
  have hs' : Src P i.size tx x m news w := by rw [hsize]; exact hs
  have h63 : ((n + m : Nat) : Int) ≤ 9223372036854775807 := by omega
  have hbb : (n + m) * i.bytes ≤ 1000000000000 := by rw [hby]; exact Nat.le_trans (Nat.mul_le_mul hlen hby1) (by decide)
  have grown : ∀ (old : Nat), old < n + m →
      (w.drew.alloc (.cells ((xs ++ news).toArray ++ Builtin.zeroCells z.cells (grownCap w (n + m) old e - (n + m))) e)).ownsRow base e s
        (.slice (some ⟨w.heap.size, 0, none⟩) (n + m) (grownCap w (n + m) old e)) (n + m) (xs ++ news) ∧
      Below w.heap.size w (w.drew.alloc (.cells ((xs ++ news).toArray ++ Builtin.zeroCells z.cells (grownCap w (n + m) old e - (n + m))) e)) := by
    intro old ho
    have hge := grownCap_ge w (n + m) old e
    have hcm : grownCap w (n + m) old e ≤ maxLen := grownCap_le_maxLen w (n + m) old e (by unfold maxLen; omega)
    refine ⟨⟨hln, .inr ⟨w.heap.size, _, _, rfl, hbase, heap_alloc_new w.drew _, hge, hcm, ?_, ?_⟩⟩, ⟨rfl, rfl, rfl, by simp, fun k hk => Below.heap_alloc w.drew _ k hk⟩⟩
    · simp only [Array.size_append, List.size_toArray, size_zeroCells, hzs, hln]
      rw [← Nat.add_mul, Nat.add_sub_cancel' hge]
    · simp only [Array.toList_append]
      rw [← hln]
      exact List.take_left
  rcases hown.2 with ⟨rfl, rfl⟩ | ⟨g, cap, cur, rfl, hbg, hg, hnc, hcm, hcs, htake⟩
  · have hx : xs = [] := List.eq_nil_of_length_eq_zero (by simpa using hown.1)
    subst hx
    by_cases hm : m = 0
    · subst hm
      have hn : news = [] := List.eq_nil_of_length_eq_zero (by simpa using hnl)
      subst hn
      refine ⟨.slice none 0 0, w, ?_, World.ownsRow_nil w base e s, SparedR.of (Below.refl _ _) hbase⟩
      rcases hs.kind with ⟨e', hk⟩ | hk <;> simp [Builtin.append_, run_underlying ht, run_underlying hk, sizeOf, typeInfo, hi, hs'.len, hs'.cells]
    · have hr := run_append_grow_src (P := P) w t tx ty e i z ht hi hz none 0 0 [] (by simp [Builtin.firstCells]) x m news hs' (by omega) h63 (growslice_fits (by omega) (by omega))
      have hgr := grown 0 (by omega)
      exact ⟨_, _, hr, hgr.1, SparedR.of hgr.2 hbase⟩
  · by_cases hroom : n + m ≤ cap
    · have hfit : n * s + 0 + news.length ≤ cur.size := by
        rw [hnl, hcs, Nat.add_zero, ← Nat.add_mul]
        exact Nat.mul_le_mul_right _ hroom
      have hst := run_storeCells_at P g (n * s) e news 0 cur w hg hfit hs.one
      simp only [Nat.add_zero] at hst
      have hr : (Builtin.append_ #[t, tx] ty #[.slice (some ⟨g, 0, none⟩) n cap, x]).run P w = .ok (.slice (some ⟨g, 0, none⟩) (n + m) cap) (w.setRow g (cur.toList.take (n * s) ++ news ++ cur.toList.drop (n * s + news.length)).toArray) := by
        rcases hs.kind with ⟨e', hk⟩ | hk <;> simp [Builtin.append_, run_underlying ht, run_underlying hk, sizeOf, typeInfo, hi, hs'.len, hroom, hs.cells, Addr.add_lit, hsize, hst]
      have hle : n * s + news.length ≤ cur.size := by omega
      have hsz : (cur.toList.take (n * s) ++ news ++ cur.toList.drop (n * s + news.length)).toArray.size = cur.size := by
        simp only [List.size_toArray, List.length_append, List.length_take, List.length_drop, Array.length_toList]
        rw [hcs] at hle ⊢
        omega
      have ht2 : (cur.toList.take (n * s) ++ news ++ cur.toList.drop (n * s + news.length)).toArray.toList.take ((n + m) * s) = xs ++ news := by
        rw [htake, ← hln]
        exact List.take_left
      have ht1 : (cur.toList.take (n * s) ++ news ++ cur.toList.drop (n * s + news.length)).toArray.toList.take (n * s) = xs := by
        rw [htake]
        show (xs ++ news ++ _).take (n * s) = xs
        rw [List.append_assoc, ← hown.1]
        exact List.take_left
      refine ⟨_, _, hr, ⟨hln, .inr ⟨g, cap, _, rfl, hbg, setRow_heap w g cur _ e _ hg, hroom, hcm, by rw [hsz]; exact hcs, ht2⟩⟩, ⟨by simp, below_row (Below.refl _ _) _ hbg hbase, fun u hu => ownsRow_inplace hu hg hsz (.inr ht1), fun u hu => ownsRow_inplace hu hg hsz (.inr ht2), fun k ys u hk hu => ownsRow_inplace hu hg hsz (.inl ?_), fun b cs T fr hb hT => ?_⟩⟩
      · show (cur.toList.take (n * s) ++ news ++ _).take (k * s) = _
        have hks : k * s ≤ n * s := Nat.mul_le_mul_right _ hk
        have hns : n * s ≤ cur.size := by omega
        rw [List.append_assoc, List.take_append_of_le_length (by rw [List.length_take, Array.length_toList]; omega), List.take_take, Nat.min_eq_left hks]
      · have hne : b ≠ g := fun e1 => by
          subst e1
          rw [hg] at hb
          injection hb with hb
          injection hb with _ e2 _
          exact hT e2.symm
        exact (setRow_other w g b _ hne).trans hb
    · have holds : ∀ j u, xs[j]? = some u → w.drew.cell? ((⟨g, 0, none⟩ : Addr).add j) = some u := fun j u hu => by simpa using hown.cells (g := g) rfl j u hu
      have hold : (Builtin.firstCells i.size n (.slice (some ⟨g, 0, none⟩) n cap)).run P w.drew = .ok xs.toArray w.drew := run_firstCells_some w.drew i.size n ⟨g, 0, none⟩ n cap xs (by rw [hsize]; exact hown.1) holds
      have hr := run_append_grow_src (P := P) w t tx ty e i z ht hi hz (some ⟨g, 0, none⟩) n cap xs hold x m news hs' (by omega) h63 (growslice_fits (by omega) (by omega))
      have hgr := grown cap (by omega)
      exact ⟨_, _, hr, hgr.1, SparedR.of hgr.2 hbase⟩
end Go.Proofs.Ytpmmahlmfcbbbaa
