/- append behind an empty row, and behind a digest: what stands, and what still reads as it did. -/
/- The reference's Tagged, text and two. -/
import Derived.Test.YtalphobaohffnaaDoorTh
import Derived.Test.YtalphobaohffnaaDoorRi
import Derived.Test.YtalphobaohffnaaDoorWs
namespace Go.Proofs.YtalphobaohffnaaDoor
section
open Go.RowKit

/-- Behind an empty row without room: a new block. -/
theorem run_append_fresh {P : Program} (w : World) (base : Nat) (t tx ty e : TypeId) (i : TypeInfo) (z : Value) (ht : P.underlying t = some (.slice e)) (hi : P.info? e = some i) (hz : i.zero = some z)
    (s by_ : Nat) (hsize : i.size = s) (hby : i.bytes = by_) (hby1 : by_ ≤ 1000) (hzs : z.cells.size = s) (g : Nat) (x : Value) (m : Nat) (news : List Value) (hs : Src P s tx x m news w) (hm : 0 < m) (hlen : m ≤ 1000000000) (hbase : base ≤ w.heap.size) :
    ∃ c w', (Builtin.append_ #[t, tx] ty #[.slice (some ⟨g, 0, none⟩) 0 0, x]).run P w = .ok (.slice (some ⟨w.heap.size, 0, none⟩) m c) w' ∧ w'.ownsRow base e s (.slice (some ⟨w.heap.size, 0, none⟩) m c) m news ∧ Below w.heap.size w w' := by
  have hnl : news.length = m * s := hs.newsLen
  have hs' : Src P i.size tx x m news w := by rw [hsize]; exact hs
  have hbb : m * i.bytes ≤ 1000000000000 := by rw [hby]; exact Nat.le_trans (Nat.mul_le_mul hlen hby1) (by decide)
  have hold : (Builtin.firstCells i.size 0 (.slice (some ⟨g, 0, none⟩) 0 0)).run P w.drew = .ok ([] : List Value).toArray w.drew := run_firstCells_some w.drew i.size 0 ⟨g, 0, none⟩ 0 0 [] (by simp) (fun j u hu => by simp at hu)
  have hr := run_append_grow_src (P := P) w t tx ty e i z ht hi hz (some ⟨g, 0, none⟩) 0 0 [] hold x m news hs' (by omega) (by omega) (growslice_fits (by omega) (by rw [Nat.zero_add]; omega))
  simp only [Nat.zero_add] at hr
  have hge := grownCap_ge w m 0 e
  have hcm : grownCap w m 0 e ≤ maxLen := grownCap_le_maxLen w m 0 e (by unfold maxLen; omega)
  refine ⟨_, _, hr, ⟨hnl, .inr ⟨w.heap.size, _, _, rfl, hbase, heap_alloc_new w.drew _, hge, hcm, ?_, ?_⟩⟩, ⟨rfl, rfl, rfl, by simp, fun k hk => Below.heap_alloc w.drew _ k hk⟩⟩
  · simp only [Array.size_append, List.size_toArray, size_zeroCells, hzs, List.nil_append, hnl]
    rw [← Nat.add_mul, Nat.add_sub_cancel' hge]
  · simp only [Array.toList_append, List.nil_append]
    rw [← hnl]
    exact List.take_left

/-- A digest in a block, as what is appended. -/
theorem DB.src {w : World} {g : Nat} {d : List UInt8} {T : TypeId} (h : DB w g T d) (h32 : d.length = 32) : Src Tryd.prog 1 22 (.slice (some ⟨g, 0, none⟩) 32 32) 32 (BV d) w :=
  Src.ofSlice w Tryd.underlying22 ⟨g, 0, none⟩ 32 32 (BV d) (by rw [BV_length, h32]) (fun j u hu => by rw [add_none, cell_of_row w g _ _ _ _ h]; simpa using hu) (BV_one d)

/-- 'append([]byte{}, d[:]...)'. -/
theorem append_first (w : World) (N g gD : Nat) (d : List UInt8) (T ty : TypeId) (hd : d.length = 32) (hg : DB w gD T d) (hN : N ≤ w.heap.size) :
    ∃ c w', (Builtin.append_ #[22, 22] ty #[.slice (some ⟨g, 0, none⟩) 0 0, .slice (some ⟨gD, 0, none⟩) 32 32]).run Tryd.prog w = .ok (.slice (some ⟨w.heap.size, 0, none⟩) 32 c) w' ∧ OB w' N (.slice (some ⟨w.heap.size, 0, none⟩) 32 c) d ∧ Below w.heap.size w w' := by
  obtain ⟨i0, hi0, hz0, hz1, hz2⟩ := info_parts Tryd.info8
  obtain ⟨c, w', h1, h2, h3⟩ := run_append_fresh (P := Tryd.prog) w N 22 22 ty 5 i0 (.int .u8 0) Tryd.underlying22 hi0 hz0 1 1 hz1 hz2 (by omega) rfl g _ 32 (BV d) (hg.src hd) (by omega) (by omega) hN
  refine ⟨c, w', h1, ?_, h3⟩
  unfold OB
  rw [hd]
  exact h2

/-- What is left alone by an append behind a row of the call's own. -/
structure Spared (N : Nat) (a b : List UInt8) (w w' : World) : Prop where
  size : w.heap.size ≤ w'.heap.size
  below : Below N w w'
  one : ∀ v, OB w N v a → OB w' N v a
  two : ∀ v, OB w N v (a ++ b) → OB w' N v (a ++ b)
theorem Spared.of {N : Nat} {a b : List UInt8} {w w' : World} (h : Below w.heap.size w w') (hN : N ≤ w.heap.size) : Spared N a b w w' := ⟨h.size, h.mono hN, fun _ h1 => h1.below h, fun _ h1 => h1.below h⟩
theorem OB.inplace {w : World} {N g : Nat} {v : Value} {l : List UInt8} {cur cur' : Array Value} {T : TypeId} {fr : Nat × Nat} (h : OB w N v l) (hg : w.heap[g]? = some (.cells cur T fr)) (hz : cur'.size = cur.size) (ht : cur'.toList.take l.length = cur.toList.take l.length ∨ cur'.toList.take l.length = BV l) : OB (w.setRow g cur') N v l := by
  refine ⟨h.1, ?_⟩
  rcases h.2 with h2 | ⟨g2, cap2, cur2, e, hb, hg2, hnc, hcm, hcs, htk⟩
  · exact .inl h2
  · by_cases hne : g2 = g
    · subst hne
      rw [hg2] at hg
      injection hg with hg
      injection hg with e1 e2 e3
      subst e1
      refine .inr ⟨g2, cap2, cur', e, hb, setRow_heap w g2 cur2 cur' _ _ hg2, hnc, hcm, by rw [hz]; exact hcs, ?_⟩
      rw [Nat.mul_one] at htk ⊢
      rcases ht with ht | ht
      · rw [ht]; exact htk
      · exact ht
    · exact .inr ⟨g2, cap2, cur2, e, hb, by rw [setRow_other w g g2 _ hne]; exact hg2, hnc, hcm, hcs, htk⟩

/-- 'append(b, d[:]...)' behind a digest. -/
theorem append_second (w : World) (N g c gD : Nat) (a d : List UInt8) (T ty : TypeId) (ha : a.length = 32) (hd : d.length = 32) (hown : OB w N (.slice (some ⟨g, 0, none⟩) 32 c) a) (hg : DB w gD T d) (hN : N ≤ w.heap.size) :
    ∃ g' c' w', (Builtin.append_ #[22, 22] ty #[.slice (some ⟨g, 0, none⟩) 32 c, .slice (some ⟨gD, 0, none⟩) 32 32]).run Tryd.prog w = .ok (.slice (some ⟨g', 0, none⟩) 64 c') w' ∧ OB w' N (.slice (some ⟨g', 0, none⟩) 64 c') (a ++ d) ∧ Spared N a d w w' := by
  obtain ⟨i0, hi0, hz0, hz1, hz2⟩ := info_parts Tryd.info8
  have ht := Tryd.underlying22
  have hs := hg.src hd
  have hs' : Src Tryd.prog i0.size 22 (.slice (some ⟨gD, 0, none⟩) 32 32) 32 (BV d) w := by rw [hz1]; exact hs
  rcases hown.2 with ⟨e, h0⟩ | ⟨g2, cap, cur, e, hbg, hgh, hnc, hcm, hcs, htake⟩
  · rw [ha] at h0; cases h0
  injection e with e1 e2 e3
  injection e1 with e1
  injection e1 with e1 _ _
  subst e1; subst e3
  rw [ha] at hnc htake
  rw [Nat.mul_one] at hcs htake
  by_cases hroom : 32 + 32 ≤ c
  · have hst := run_storeCells_at Tryd.prog g 32 5 (BV d) 0 cur w hgh (by rw [BV_length, hd, hcs]; omega) hs.one
    simp only [Nat.add_zero] at hst
    have hr : (Builtin.append_ #[22, 22] ty #[.slice (some ⟨g, 0, none⟩) 32 c, .slice (some ⟨gD, 0, none⟩) 32 32]).run Tryd.prog w = .ok (.slice (some ⟨g, 0, none⟩) 64 c) (w.setRow g (cur.toList.take 32 ++ BV d ++ cur.toList.drop (32 + (BV d).length)).toArray) := by
      rcases hs.kind with ⟨e', hk⟩ | hk <;> simp [Builtin.append_, run_underlying ht, run_underlying hk, sizeOf, typeInfo, hi0, hs'.len, hroom, hs.cells, Addr.add_lit, hz1, hst]
    have hsz : (cur.toList.take 32 ++ BV d ++ cur.toList.drop (32 + (BV d).length)).toArray.size = cur.size := by
      simp only [List.size_toArray, List.length_append, List.length_take, List.length_drop, Array.length_toList, BV_length, hd]
      omega
    have ht64 : (cur.toList.take 32 ++ BV d ++ cur.toList.drop (32 + (BV d).length)).toArray.toList.take 64 = BV (a ++ d) := by
      rw [htake, BV_append]
      have : (BV a ++ BV d).length = 64 := by rw [List.length_append, BV_length, BV_length, ha, hd]
      show (BV a ++ BV d ++ _).take 64 = _
      rw [← this]
      exact List.take_left
    have ht32 : (cur.toList.take 32 ++ BV d ++ cur.toList.drop (32 + (BV d).length)).toArray.toList.take 32 = BV a := by
      rw [htake]
      show (BV a ++ BV d ++ _).take 32 = _
      rw [List.append_assoc]
      have : (BV a).length = 32 := by rw [BV_length, ha]
      rw [← this]
      exact List.take_left
    have hlad : (a ++ d).length = 64 := by rw [List.length_append, ha, hd]
    refine ⟨g, c, _, hr, ⟨by rw [BV_length, Nat.mul_one], .inr ⟨g, c, _, by rw [hlad], hbg, setRow_heap w g cur _ _ _ hgh, by rw [hlad]; exact hroom, hcm, by rw [hsz, hcs, Nat.mul_one], by rw [hlad]; exact ht64⟩⟩, by simp, ?_, fun v h => h.inplace hgh hsz (.inr (by rw [ha]; exact ht32)), fun v h => h.inplace hgh hsz (.inr (by rw [hlad]; exact ht64))⟩
    exact below_row (Below.refl _ _) _ hbg hN
  · have holds : ∀ j u, (BV a)[j]? = some u → w.drew.cell? ((⟨g, 0, none⟩ : Addr).add j) = some u := fun j u hu => by simpa using World.ownsRow.cells (g := g) hown rfl j u hu
    have hold : (Builtin.firstCells i0.size 32 (.slice (some ⟨g, 0, none⟩) 32 c)).run Tryd.prog w.drew = .ok (BV a).toArray w.drew := run_firstCells_some w.drew i0.size 32 ⟨g, 0, none⟩ 32 c (BV a) (by rw [hz1, BV_length, ha]) holds
    have hr := run_append_grow_src (P := Tryd.prog) w 22 22 ty 5 i0 (.int .u8 0) ht hi0 hz0 (some ⟨g, 0, none⟩) 32 c (BV a) hold _ 32 (BV d) hs' (by omega) (by omega) (growslice_fits (by omega) (by rw [hz2]; omega))
    have hge := grownCap_ge w (32 + 32) c 5
    have hcm2 : grownCap w (32 + 32) c 5 ≤ maxLen := grownCap_le_maxLen w (32 + 32) c 5 (by unfold maxLen; omega)
    have hB : Below w.heap.size w (w.drew.alloc (.cells ((BV a ++ BV d).toArray ++ Builtin.zeroCells (Value.int .u8 0).cells (grownCap w (32 + 32) c 5 - (32 + 32))) 5)) := ⟨rfl, rfl, rfl, by simp, fun k hk => Below.heap_alloc w.drew _ k hk⟩
    have hlad : (a ++ d).length = 64 := by rw [List.length_append, ha, hd]
    have hbl : (BV a ++ BV d).length = 64 := by rw [List.length_append, BV_length, BV_length, ha, hd]
    refine ⟨_, _, _, hr, ⟨by rw [BV_length, Nat.mul_one], .inr ⟨w.heap.size, _, _, by rw [hlad], hN, heap_alloc_new w.drew _, by rw [hlad]; exact hge, hcm2, ?_, ?_⟩⟩, Spared.of hB hN⟩
    · simp only [Array.size_append, List.size_toArray, size_zeroCells, hbl]
      show 64 + (grownCap w (32 + 32) c 5 - (32 + 32)) * 1 = _
      omega
    · simp only [Array.toList_append]
      rw [hlad, BV_append, Nat.mul_one, ← hbl]
      exact List.take_left
end
section
open Go.RowKit

attribute [local irreducible] Calls
set_option maxRecDepth 100000 in
set_option maxHeartbeats 2000000 in
theorem rTagged_any (tag : ByteArray) (ht : tag.size ≤ 100000) (bs : List UInt8) (hl : bs.length ≤ 900000) (w : World) (A : Option Addr) (c : Nat) (hr : RBs w w.heap.size A bs) (hA : A = none → bs = []) :
    Calls Tryd.prog 18 #[.string tag, .slice A bs.length c] w fun e w' => e = .returned (.agg (BV (tagH tag.data.toList bs)).toArray) ∧ Below w.heap.size w w' := by
  obtain ⟨G, W1, hG, hcv, hd1, hB1, hr1⟩ := conv_step w tag
  have hrH := Lib.hid hr
  have hS1 := rSum_any tag.data.toList (by simpa using Nat.le_trans ht (by omega)) W1 _ G hr1 (fun h => by cases h)
  rw [show tag.data.toList.length = tag.size by simp] at hS1
  have hS1' := Lib.hid hS1
  have hd1' := Lib.hid hd1
  have hAH := Lib.hid hA
  have hu : Tryd.prog.underlying 30 = some (.array 32 5) := by kernel_rfl
  have hi : (Tryd.prog.info? 30).map (·.size) = some 32 := by kernel_rfl
  have hs1 : (BV (sha tag.data.toList)).toArray.size = 32 := by rw [List.size_toArray, BV_length, sha_length]
  have hs1' := Lib.hid hs1
  have huH := Lib.hid hu
  clear hr hS1 hd1 hr1 hG hu hA hs1
  go_enter Tryd.func18, Tryd.ntmps18
  go_wp2_with fail
  refine hS1'.out.mono ?_
  rintro e w2 ⟨rfl, hb2⟩
  have hB2 := hB1.trans (hb2.mono hB1.size)
  have hd2 := hd1'.out.below hb2 hd1'.out.lt
  clear hcv hS1'
  have hb3 : Below w2.heap.size w2 (w2.alloc (.cells (BV (sha tag.data.toList)).toArray 30)) := (Below.refl _ _).alloc (Nat.le_refl _) _
  have hd3 : DB (w2.alloc (.cells (BV (sha tag.data.toList)).toArray 30)) w2.heap.size 30 (sha tag.data.toList) := heap_alloc_new _ _
  have hb4 : Below w2.heap.size w2 ((w2.alloc (.cells (BV (sha tag.data.toList)).toArray 30)).alloc (.cells #[] 5)) := hb3.alloc (by simp) _
  have hd4 : DB ((w2.alloc (.cells (BV (sha tag.data.toList)).toArray 30)).alloc (.cells #[] 5)) w2.heap.size 30 (sha tag.data.toList) := hd3.below ((Below.refl _ _).alloc (Nat.le_refl _) _) hd3.lt
  have ho4 : OB ((w2.alloc (.cells (BV (sha tag.data.toList)).toArray 30)).alloc (.cells #[] 5)) (w2.heap.size + 1) (.slice (some ⟨w2.heap.size + 1, 0, none⟩) 0 0) [] := by
    have := OB.lit (w2.alloc (.cells (BV (sha tag.data.toList)).toArray 30)) (w2.heap.size + 1) [] (by simp) (by simp)
    simpa [BV] using this
  have hsrc4 : Src Tryd.prog 1 22 (.slice (some ⟨w2.heap.size, 0, none⟩) 32 32) (sha tag.data.toList).length (BV (sha tag.data.toList)) ((w2.alloc (.cells (BV (sha tag.data.toList)).toArray 30)).alloc (.cells #[] 5)) := by
    rw [sha_length]
    exact hd4.src (sha_length _)
  have hz4 : w2.heap.size + 1 ≤ ((w2.alloc (.cells (BV (sha tag.data.toList)).toArray 30)).alloc (.cells #[] 5)).heap.size := by simp
  have hL0 := sha_length tag.data.toList
  have hstore := heap_alloc_last w2 (.cells #[.int .u8 0, .int .u8 0, .int .u8 0, .int .u8 0, .int .u8 0, .int .u8 0, .int .u8 0, .int .u8 0, .int .u8 0, .int .u8 0, .int .u8 0, .int .u8 0, .int .u8 0, .int .u8 0, .int .u8 0, .int .u8 0, .int .u8 0, .int .u8 0, .int .u8 0, .int .u8 0, .int .u8 0, .int .u8 0, .int .u8 0, .int .u8 0, .int .u8 0, .int .u8 0, .int .u8 0, .int .u8 0, .int .u8 0, .int .u8 0, .int .u8 0, .int .u8 0] 30)
  have hd2H := Lib.hid hd2
  have hB2H := Lib.hid hB2
  have hb4H := Lib.hid hb4
  clear hb3 hd3 hd4 hd2 hB2 hb2 hB1 hb4
  go_wp2_with (first
    | (refine wpList_store_row rfl 30 _ _ rfl w2.heap.size _ rfl rfl 30 _ hstore ?cj ?cl ?ck ?_
       case cj => rw [hi, hs1'.out]
       case cl => rw [hs1'.out]; rfl
       case ck => exact BV_all _
       rw [World.setRow_alloc_new])
    | (at_builtin; refine app_src rfl _ _ rfl (w2.heap.size + 1) _ [] (sha tag.data.toList) _ rfl ho4 rfl hsrc4 (by simp; omega) hz4 ?_; intro v5 w5 happ5
       have hb5 := happ5.below ho4 hz4
       have ho5 : OB w5 (w2.heap.size + 1) v5 (sha tag.data.toList) := happ5.own
       have hbb5 : Below w2.heap.size w2 w5 := hb4H.out.trans (hb5.mono (Nat.le_succ _))
       have hz5 : w2.heap.size + 1 ≤ w5.heap.size := Nat.le_trans hz4 hb5.size
       have hsrc5 := RBs.src (c := c) (RBs.below hrH.out (hB2H.out.trans (hbb5.mono hB2H.out.size))) hAH.out
       clear ho4 hsrc4 hz4 happ5 hb5)
    | (at_builtin; refine app_src rfl _ _ rfl (w2.heap.size + 1) v5 (sha tag.data.toList) bs _ rfl ho5 rfl hsrc5 (by omega) hz5 ?_; intro v7 w7 happ7
       have hb7 := happ7.below ho5 hz5
       have ho7 : OB w7 (w2.heap.size + 1) v7 (sha tag.data.toList ++ bs) := happ7.own
       obtain ⟨g7, c7, rfl, -, -, -⟩ := ho7.src (by rw [List.length_append]; omega)
       have hbb7 : Below w2.heap.size w2 w7 := hbb5.trans (hb7.mono (Nat.le_succ _))
       have hS2 := rSum_any (sha tag.data.toList ++ bs) (by rw [List.length_append]; omega) w7 _ c7 ho7.reads.1 (fun h => by cases h)
       rw [List.length_append, sha_length] at hS2
       clear ho5 hsrc5 happ7 hb7 hbb5 hz5))
  refine hS2.mono ?_
  rintro e w8 ⟨rfl, hb8⟩
  have hbb8 : Below w.heap.size w w8 := (hB2H.out.trans (hbb7.mono hB2H.out.size)).trans (hb8.mono (Nat.le_trans hB2H.out.size hbb7.size))
  have hd8 : DB w8 w.heap.size 30 (List.replicate 32 0) := (hd2H.out.below hbb7 hd2H.out.lt).below hb8 (hd2H.out.below hbb7 hd2H.out.lt).lt
  have hs2 : (BV (sha (sha tag.data.toList ++ bs))).toArray.size = 32 := by rw [List.size_toArray, BV_length, sha_length]
  have hs2' := Lib.hid hs2
  have hu := huH.out
  clear hs2 hS2 hb8 hbb7 ho7 hstore
  go_wp2_with (refine wpList_store_row rfl 30 _ _ rfl w.heap.size _ rfl rfl 30 _ hd8 ?cj ?cl ?ck ?_
               case cj => rw [hi, hs2'.out]
               case cl => rw [hs2'.out]; rfl
               case ck => exact BV_all _)
  have hrow := setRow_heap w8 w.heap.size _ (BV (sha (sha tag.data.toList ++ bs))).toArray _ _ hd8
  exact bodyPost_ret (results_cell_row rfl _ _ w.heap.size 30 _ (0, 0) _ rfl hrow hu rfl (by rw [hi, hs2'.out])) rfl
    ⟨rfl, hbb8.grown (grownBy_setRow _ _ _) hbb8.size (fun k e => by injection e with e; omega)⟩
end
end Go.Proofs.YtalphobaohffnaaDoor
