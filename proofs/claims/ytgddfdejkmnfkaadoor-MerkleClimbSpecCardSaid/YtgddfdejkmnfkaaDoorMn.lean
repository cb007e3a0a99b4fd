/- The next row: hash.next. -/
import Derived.Test.YtgddfdejkmnfkaaDoorMk
import Derived.Test.YtgddfdejkmnfkaaDoorIr
import Derived.Test.YtgddfdejkmnfkaaDoorSo
import Derived.Sort.CutIn
namespace Go.Proofs.YtgddfdejkmnfkaaDoor
open Go.RowKit Go.Shelf

def nextTo (l : List (List UInt8)) (k : Nat) : List (List UInt8) := (List.range k).map fun k => joinM ((l.drop (2 * k)).take 2)
/-- The row after a row. -/
def nextM (l : List (List UInt8)) : List (List UInt8) := nextTo l ((l.length + 1) / 2)
theorem nextTo_len (l : List (List UInt8)) (k : Nat) : (nextTo l k).length = k := by simp [nextTo]
theorem nextTo_succ (l : List (List UInt8)) (k : Nat) : nextTo l (k + 1) = nextTo l k ++ [joinM ((l.drop (2 * k)).take 2)] := by simp [nextTo, List.range_succ]
theorem chunk_len (l : List (List UInt8)) (k : Nat) : ((l.drop (2 * k)).take 2).length = cnt l.length k := by unfold cnt; simp
theorem chunk_pos {l : List (List UInt8)} {k : Nat} (h : k < (l.length + 1) / 2) : 0 < cnt l.length k ∧ cnt l.length k ≤ 2 := by unfold cnt; omega
theorem joinM_32 {r : List (List UInt8)} (h : ∀ d ∈ r, d.length = 32) (hp : 0 < r.length) : (joinM r).length = 32 := by
  match r, hp with
  | [a], _ => exact h a (by simp)
  | a :: b :: _, _ => exact sha_length _
theorem chunk_32 {l : List (List UInt8)} (h : ∀ d ∈ l, d.length = 32) (k : Nat) : ∀ d ∈ (l.drop (2 * k)).take 2, d.length = 32 := fun d hd => h d (List.mem_of_mem_drop (List.mem_of_mem_take hd))
theorem nextTo_32 {l : List (List UInt8)} (h : ∀ d ∈ l, d.length = 32) {m : Nat} (hm : m ≤ (l.length + 1) / 2) : ∀ d ∈ nextTo l m, d.length = 32 := fun d hd => by
  obtain ⟨k, hk, rfl⟩ := List.mem_map.1 hd
  exact joinM_32 (chunk_32 h k) (by rw [chunk_len]; exact (chunk_pos (by have := List.mem_range.1 hk; omega)).1)
theorem nextM_32 {l : List (List UInt8)} (h : ∀ d ∈ l, d.length = 32) : ∀ d ∈ nextM l, d.length = 32 := nextTo_32 h (Nat.le_refl _)
theorem nextM_len (l : List (List UInt8)) : (nextM l).length = (l.length + 1) / 2 := nextTo_len _ _
theorem RD.chunk {w : World} {B b off cap k : Nat} {l : List (List UInt8)} (h : RD w B l (some ⟨b, off, none⟩) cap) (hk : k < (l.length + 1) / 2) : RD w B ((l.drop (2 * k)).take 2) (some ⟨b, off + k * 64, none⟩) (cnt l.length k) := by
  obtain ⟨h1, h2, h3, h4, b', off', h5, h6⟩ := h
  obtain ⟨e, hb⟩ := h5 (by omega)
  simp only [Option.some.injEq, Addr.mk.injEq, and_true] at e
  obtain ⟨rfl, rfl⟩ := e
  have hc := chunk_pos hk
  refine ⟨by rw [chunk_len]; exact Nat.le_refl _, by omega, chunk_32 h3 k, (fun e => by cases e), b, off + k * 64, fun _ => ⟨rfl, hb⟩, fun i hi => ?_⟩
  have hlt : 2 * k + i < l.length := by rw [chunk_len] at hi; unfold cnt at hi; omega
  rw [List.getElem_take, List.getElem_drop, show off + k * 64 + i * 32 = off + (2 * k + i) * 32 by omega]
  exact h6 (2 * k + i) hlt
/-- The box of a row that grows. -/
def RowBox (Bb B : Nat) (f : Nat → List (List UInt8)) (k : Nat) (W : World) : Prop := ∃ a c, W.heap[Bb]? = some (.cells #[.slice a k c] 25 (0, 0)) ∧ OD W B (.slice a k c) (f k)
theorem rowBox_own {Bb B : Nat} {f : Nat → List (List UInt8)} : Own (fun k W => RowBox Bb B f k W) := fun k X Y row hs hg hr => by
  obtain ⟨a, c, h1, h2⟩ := hs
  refine ⟨a, c, cellsOwn (β := Unit) _ (fun _ => _) _ () X Y row h1 hg hr, World.ownsRow.kept h2 hg ?_⟩
  by_cases hn : (Value.slice a k c).ownBlock = none
  · exact .inl hn
  · refine .inr fun e => ?_
    rcases h2.2 with ⟨h0, -⟩ | ⟨g, cap, cur, h0, -, hgc, -⟩
    · rw [h0] at hn; exact hn rfl
    · rw [h0] at e
      obtain ⟨o, ho, hc⟩ := hr g e.symm
      rw [hgc] at ho
      cases ho
      cases hc

theorem keepsOwn {W W' : World} {B : Nat} {v : Value} {l : List (List UInt8)} (ho : OD W B v l) (hg : W.grownBy W' v.ownBlock) : KeepsOthers W W' := ⟨hg.size, fun k o hk hc => by
  refine (hg.block k (Array.getElem?_eq_some_iff.1 hk).1 (fun e => ?_)).trans hk
  rcases ho.2 with ⟨h0, -⟩ | ⟨g, cap, cur, h0, -, hgc, -⟩
  · rw [h0] at e; cases e
  · rw [h0] at e
    injection e with e
    subst e
    rw [hgc] at hk
    cases hk
    cases hc⟩
theorem OD.put {W : World} {B : Nat} {v : Value} {l : List (List UInt8)} (ho : OD W B v l) {b : Nat} (hb : b < B) (u : Value) : OD (W.setCell ⟨b, 0, none⟩ u) B v l :=
  World.ownsRow.kept ho (grownBy_setCell' W b u) (.inr fun e => by have := (World.ownsRow.lt ho _ e).1; omega)
theorem OD.obj {W : World} {B : Nat} {v : Value} {l : List (List UInt8)} (ho : OD W B v l) {b : Nat} {o : Obj} (hb : W.heap[b]? = some o) (hc : o.isCells = false) (o' : Obj) : OD (W.putObj b o') B v l :=
  World.ownsRow.kept ho (grownBy_putObj' W b o') (.inr fun e => by
    rcases ho.2 with ⟨h0, -⟩ | ⟨g, cap, cur, h0, -, hgc, -⟩
    · rw [h0] at e; cases e
    · rw [h0] at e
      injection e with e
      subst e
      rw [hgc] at hb
      cases hb
      cases hc)

attribute [local go_sem] Oper.semAt_some
set_option maxRecDepth 100000 in
set_option maxHeartbeats 4000000 in
theorem next_any (l : List (List UInt8)) (hl0 : 0 < l.length) (hl : l.length ≤ 100000) (w : World) (A : Option Addr) (c : Nat) (hR : RD w w.heap.size l A c) (hK : KT w) (h0 : 0 < w.heap.size) :
    Calls Tryd.prog 28 #[.func (.func 21) #[] #[], .slice A l.length c] w fun e w' => ∃ v, e = .returned v ∧ OD w' w.heap.size v (nextM l) ∧ Below w.heap.size w w' := by
  obtain ⟨b, off, rfl, hbl, -⟩ := hR.at_ (i := 0) hl0
  have h32 := hR.2.2.1
  have hcap := hR.1
  have hRH := Lib.hid hR
  have hKH := Lib.hid hK
  clear hR hK
  refine (callsIn_wide (n := 9)).1 ?_
  have hro : Fence.wide.round = none := rfl
  refine callsIn_of_wp_marks Tryd.func28 rfl trivial ?_ hro
  simp only [Tryd.ntmps28, List.size_toArray, List.length_cons, List.length_nil, Nat.reduceAdd, Nat.reduceSub, Array.replicate_succ, Array.replicate_zero, List.push_toArray, List.append_toArray, List.nil_append, List.cons_append]
  gi_wp2_with (refine ⟨trivial, ?_⟩; gi_at_call 44; refine (callsIn_wide.2 (chunkD_any _ _ _ _)).mono ?_)
  rintro e w3 ⟨rfl, rfl⟩
  gi_wp2
  have b1 := bel1 w (.cells #[.func (.func 21) #[] #[]] 45)
  have k1 := heap_alloc_new w (.cells #[.func (.func 21) #[] #[]] 45)
  obtain ⟨V1, hV1⟩ : ∃ V, w.alloc (.cells #[.func (.func 21) #[] #[]] 45) = V := ⟨_, rfl⟩
  have s1 : V1.heap.size = w.heap.size + 1 := by rw [← hV1]; simp
  rw [hV1] at b1 k1 ⊢
  have b2 := bel1 V1 (.cells #[.slice none 0 0] 25)
  have k2 := heap_alloc_new V1 (.cells #[.slice none 0 0] 25)
  obtain ⟨V2, hV2⟩ : ∃ V, V1.alloc (.cells #[.slice none 0 0] 25) = V := ⟨_, rfl⟩
  have s2 : V2.heap.size = w.heap.size + 1 + 1 := by rw [← hV2]; simp; omega
  rw [hV2] at b2 k2 ⊢
  have b3 := bel1 V2 (.cells #[.slice (some ⟨b, off, none⟩) l.length c] 25)
  have k3 := heap_alloc_new V2 (.cells #[.slice (some ⟨b, off, none⟩) l.length c] 25)
  obtain ⟨V3, hV3⟩ : ∃ V, V2.alloc (.cells #[.slice (some ⟨b, off, none⟩) l.length c] 25) = V := ⟨_, rfl⟩
  have s3 : V3.heap.size = w.heap.size + 1 + 1 + 1 := by rw [← hV3]; simp; omega
  rw [hV3] at b3 k3 ⊢
  have b4 := bel1 V3 (.cells #[.int .i64 2] 3)
  have k4 := heap_alloc_new V3 (.cells #[.int .i64 2] 3)
  obtain ⟨W0, hV4⟩ : ∃ V, V3.alloc (.cells #[.int .i64 2] 3) = V := ⟨_, rfl⟩
  have s4 : W0.heap.size = w.heap.size + 4 := by rw [← hV4]; simp; omega
  rw [hV4] at b4 k4 ⊢
  have q1 := blk_at (blk_at (blk_at k1 b2) b3) b4
  have q2 := blk_at (blk_at k2 b3) b4
  have q3 := blk_at k3 b4
  rw [s1] at q2
  rw [s2] at q3
  rw [s3] at k4
  have hB := ((b1.trans (b2.mono (by omega))).trans (b3.mono (by omega))).trans (b4.mono (by omega))
  clear hV1 hV2 hV3 hV4 b1 b2 b3 b4 k1 k2 k3 s1 s2 s3
  refine wpIn_rangeFunc_at hro (by omega) (gf := 58) (lb := #[.pointer (some ⟨w.heap.size + 1 + 1, 0, none⟩), .pointer (some ⟨w.heap.size + 1 + 1 + 1, 0, none⟩)]) rfl trivial (enters_of Tryd.func58 (by kernel_rfl) rfl)
    (chunkD_gives Fence.wide _ trivial hro (by omega) (w.heap.size + 1 + 1) (w.heap.size + 1 + 1 + 1) b off l.length c (by omega) hcap W0 (by omega) (by omega) (cellAt (i := 0) q3 rfl) (cellAt (i := 0) k4 rfl))
    (fun h1 h2 => ⟨h2.1.trans h1.1, h2.2.trans h1.2⟩) (fun W q o o' hq _ _ _ => KpB.put (by omega) (by omega)) (Below.refl _ _) (fun _ _ => rfl)
    (fun k W => W.heap[w.heap.size]? = some (.cells #[.func (.func 21) #[] #[]] 45 (0, 0)) ∧ RowBox (w.heap.size + 1) (w.heap.size + 4) (nextTo l) k W ∧ (Below w.heap.size w W ∧ w.heap.size + 4 ≤ W.heap.size)) (fun _ _ _ => False)
    (OwnFrom.and (Own.from (cellsOwn (β := Nat) _ (fun _ => #[.func (.func 21) #[] #[]]) _) _) (OwnFrom.and (Own.from rowBox_own _) (OwnFrom.and (ownFrom_below (Nat.le_refl _) (by omega)) (fun _ _ _ _ hs hg _ => Nat.le_trans hs hg.size))))
    (fun _ _ _ _ _ hs _ _ => hs) ⟨q1, ⟨none, 0, q2, OD.nil _ _⟩, hB, by omega⟩
    (fun k a' _ => a' = { tmps := #[.func (.func 21) #[] #[], .slice (some ⟨b, off, none⟩) l.length c, .pointer (some ⟨w.heap.size, 0, none⟩), undef, .pointer (some ⟨w.heap.size + 1, 0, none⟩), .slice (some ⟨b, off + k * 64, none⟩) (cnt l.length k) (cnt l.length k), .slice (some ⟨b, off, none⟩) l.length c, .func (.func 58) #[] #[.pointer (some ⟨w.heap.size + 1 + 1, 0, none⟩), .pointer (some ⟨w.heap.size + 1 + 1 + 1, 0, none⟩)], .slice (some ⟨b, off + k * 64, none⟩) (cnt l.length k) (cnt l.length k), undef, undef, undef, undef, undef, undef, undef], defers := [] })
    (fun _ _ _ _ _ _ hs _ _ => hs) ?assign ?body ?done ?stop
  case assign =>
    rintro lp k W K hk hI hK
    unfold chunkV
    gi_wp2
    exact hK _ _ (KeepsFrom.refl _ _) ⟨rfl, rfl⟩ hI rfl
  case body =>
    rintro lp k a' W1 hlp - hk ⟨hI1, ⟨a2, c2, hI2, hO⟩, hI3, hI4⟩ rfl
    have hN : Hid (∀ W, Below W1.heap.size W1 W → W.cell? ⟨w.heap.size, 0, none⟩ = some (.func (.func 21) #[] #[]) ∧ W.cell? ⟨w.heap.size + 1, 0, none⟩ = some (.slice a2 k c2)) := fun W hW => ⟨cellAt (i := 0) (blk_at hI1 hW) rfl, cellAt (i := 0) (blk_at hI2 hW) rfl⟩
    have hcl := chunk_pos hk
    have hcon : Hid (∀ W, Below W1.heap.size W1 W → Calls Tryd.prog 45 #[.func (.func 21) #[] #[], .slice (some ⟨b, off + k * 64, none⟩) (cnt l.length k) (cnt l.length k)] W fun e w' => e = .returned (.agg (BV (joinM ((l.drop (2 * k)).take 2))).toArray) ∧ Below W.heap.size W w') := fun W hW => by
      have hbw := hI3.trans (hW.mono hI3.size)
      have h := join_any ((l.drop (2 * k)).take 2) (by rw [chunk_len]; exact hcl.1) (by rw [chunk_len]; exact hcl.2) W _ _ ((hRH.out.under hbw hbw.size).chunk hk) (hKH.out.below hbw h0) (Nat.lt_of_lt_of_le h0 hbw.size)
      rwa [chunk_len] at h
    have hj32 := Lib.hid (joinM_32 (chunk_32 h32 k) (by rw [chunk_len]; exact hcl.1))
    have hszj := Lib.hid (DV_size hj32.out)
    replace hI1 := Lib.hid hI1
    replace hI2 := Lib.hid hI2
    replace hO := Lib.hid hO
    gi_upto_region 3 with fail
    refine wpIn_region_pre lp _ ?_ (by kernel_rfl) 5 2 (fun W => Below W1.heap.size W1 W) (fun W W' => Below W.heap.size W W')
      (fun i v W => match i with
        | 0 => v = .slice a2 k c2
        | 1 => v = .func (.func 21) #[] #[]
        | 2 => v = .slice (some ⟨b, off + k * 64, none⟩) (cnt l.length k) (cnt l.length k)
        | 3 => v = .agg (BV (joinM ((l.drop (2 * k)).take 2))).toArray
        | 4 => ∃ g, v = .slice (some ⟨g, 0, none⟩) 1 1 ∧ DB W g 30 (joinM ((l.drop (2 * k)).take 2))
        | _ => True) (fun _ => false)
      (by kernel_rfl) (by kernel_rfl) (by kernel_rfl) (by kernel_rfl) (by kernel_rfl) (by kernel_rfl) (by kernel_rfl) ?_ (fun _ _ h => h.size) (dN (Below.refl _ _) 1) ?_ ?_
    · rintro ⟨_, _, h⟩; exact h
    · intro i v W W' hb hF
      match i, hF with
      | 0, h => exact h
      | 1, h => exact h
      | 2, h => exact h
      | 3, h => exact h
      | 4, ⟨g, h1, h2⟩ => exact ⟨g, h1, blk_at h2 hb⟩
      | _ + 5, _ => trivial
    · refine ⟨?_, ?_, ?_, ?_, ?_, trivial⟩
      · refine stepJ_any rfl fun ac W hAA hG hDD K hK => ?_
        have h4 := hAA.getD (t := 4) (by kernel_rfl)
        simp only [Array.getD_eq_getD_getElem?] at h4
        obtain ⟨k0, k1⟩ := hN.out W hG
        rw [if_pos (by rfl)]
        exact wp_val (v := .slice a2 k c2) (w' := W) (by simp [execOp, Act.eval, h4, go_sem, k1]) (hK _ _ hG (Below.refl _ _) rfl (fun h => by cases h))
      · refine stepJ_any rfl fun ac W hAA hG hDD K hK => ?_
        have h2 := hAA.getD (t := 2) (by kernel_rfl)
        simp only [Array.getD_eq_getD_getElem?] at h2
        obtain ⟨k0, k1⟩ := hN.out W hG
        rw [if_pos (by rfl)]
        exact wp_val (v := .func (.func 21) #[] #[]) (w' := W) (by simp [execOp, Act.eval, h2, go_sem, k0]) (hK _ _ hG (Below.refl _ _) rfl (fun h => by cases h))
      · refine stepJ_any rfl fun ac W hAA hG hDD K hK => ?_
        have h5 := hAA.getD (t := 5) (by kernel_rfl)
        simp only [Array.getD_eq_getD_getElem?] at h5
        rw [if_pos (by rfl)]
        exact wp_val (v := .slice (some ⟨b, off + k * 64, none⟩) (cnt l.length k) (cnt l.length k)) (w' := W) (by simp [execOp, Act.eval, h5, go_sem]) (hK _ _ hG (Below.refl _ _) rfl (fun h => by cases h))
      · refine stepJ_any rfl fun ac W hAA hG hDD K hK => ?_
        have h10 := hDD.get 1 10 _ rfl rfl (by kernel_rfl)
        have h11 := hDD.get 2 11 _ rfl rfl (by kernel_rfl)
        simp only [Array.getD_eq_getD_getElem?] at h10 h11
        rw [if_pos (by rfl)]
        refine wp_call (f := 45) (args := #[.func (.func 21) #[] #[], .slice (some ⟨b, off + k * 64, none⟩) (cnt l.length k) (cnt l.length k)]) (by simp [execOp, Act.eval, h10, h11, go_sem]) ((hcon.out W hG).mono fun e W9 he => ?_)
        obtain ⟨rfl, hbw⟩ := he
        exact hK _ _ (hG.trans (hbw.mono hG.size)) hbw rfl (fun h => by cases h)
      · refine stepJ_any rfl fun ac W hAA hG hDD K hK => ?_
        have h12 := hDD.get 3 12 _ rfl rfl (by kernel_rfl)
        rw [if_pos (by rfl)]
        simp only [Array.getD_eq_getD_getElem?] at h12
        exact wp_val (v := .slice (some ⟨W.heap.size, 0, none⟩) 1 1) (w' := W.alloc (.cells (BV (joinM ((l.drop (2 * k)).take 2))).toArray 30)) (by simp [execOp, Act.eval, h12, hszj.out, go_sem]; rw [one_cells hj32.out]) (hK _ _ (hG.alloc hG.size _) (bel1 W _) ⟨_, rfl, heap_alloc_new W _⟩ (fun h => by cases h))
    intro fu T w9 hG hF hne hltb
    have e9 : T 9 = .slice a2 k c2 := hF 0 _ rfl (by omega)
    have e10 : T 10 = .func (.func 21) #[] #[] := hF 1 _ rfl (by omega)
    have e11 : T 11 = .slice (some ⟨b, off + k * 64, none⟩) (cnt l.length k) (cnt l.length k) := hF 2 _ rfl (by omega)
    have e12 : T 12 = .agg (BV (joinM ((l.drop (2 * k)).take 2))).toArray := hF 3 _ rfl (by omega)
    obtain ⟨g4, e13, hg4⟩ := hF 4 _ rfl (by omega)
    replace e13 : T 13 = _ := e13
    clear hF hne hltb
    simp only [List.take, fillT, List.setIfInBounds_toArray, List.set_cons_zero, List.set_cons_succ, e9, e10, e11, e12, e13]
    clear e9 e10 e11 e12 e13
    have hO9 := hO.out.below hG
    obtain ⟨a5, c5, W5, hr5, hO5, hg5, -⟩ := hO9.app 25 g4 _ hg4 hj32.out (by rw [nextTo_len]; omega) (by have := hG.size; omega)
    have hB5 := (hI3.trans (hG.mono hI3.size)).trans ((hO9.app_below hg5 (by have := hG.size; omega)).mono (by omega))
    have hl5 : (nextTo l k ++ [joinM ((l.drop (2 * k)).take 2)]).length = k + 1 := by rw [List.length_append, nextTo_len]; rfl
    rw [hl5] at hr5 hO5
    rw [← nextTo_succ] at hO5
    have hown := World.ownsRow.lt hO9
    have hx1 := (hg5.block (w.heap.size) (by have := hG.size; omega) (fun e => by have := hown _ e.symm; omega)).trans (blk_at hI1.out hG)
    have hx2 := (hg5.block (w.heap.size + 1) (by have := hG.size; omega) (fun e => by have := hown _ e.symm; omega)).trans (blk_at hI2.out hG)
    refine wpAny_ready (rs := [5]) (by kernel_rfl) (by simp) (AllReady.cons (o := ⟨(some 14), (Op.call { callee := (Callee.builtin Builtin.append), args := #[(Operand.tmp 9), (Operand.tmp 13)], argTypes := #[25, 25] }), _, _, _, none⟩) rfl (fun K1 hK1 => ?_) AllReady.nil)
    rw [if_pos (by rfl)]
    refine Lib.wp_append_run w9 (.tmp 9) (.tmp 13) 25 25 rfl _ _ rfl rfl _ W5 hr5 ?_
    refine hK1 _ _ ?_
    clear hK1 K1
    refine wpAny_ready (rs := [6]) (by kernel_rfl) (by simp) (AllReady.cons (o := ⟨none, (Op.store 25 (Operand.tmp 4) (Operand.tmp 14)), _, _, _, none⟩) rfl (fun K1 hK1 => ?_) AllReady.nil)
    rw [if_pos (by rfl)]
    refine wp_store_one 25 (.tmp 4) (.tmp 14) rfl (w.heap.size + 1) 0 rfl (.slice a5 (k + 1) c5) rfl rfl rfl Tryd.sizeOf25 _ (cellAt (i := 0) hx2 rfl) (frozenAt hx2 0) ?_
    refine hK1 _ _ ?_
    clear hK1 K1
    refine wpAny_done (by kernel_rfl) ?_ _
    have hsz9 := hG.size
    have hx := fun (j : Nat) (hj : j < w.heap.size + 4) => (hg5.block j (by omega) (fun e => by have := hown _ e.symm; omega)).trans (hG.block j (by omega))
    refine ⟨(((keepsBel hG).trans (keepsOwn hO9 hg5)).trans (KeepsOthers.setCell _ _ _)).from _, ⟨?_, ?_⟩, ?_, ⟨a5, c5, setOne hx2, hO5.put (by omega) _⟩, hB5.setCell (p := ⟨w.heap.size + 1, 0, none⟩) (by simp) _, by have := hg5.size; simp; omega⟩
    · exact World.cell?_of_block ((setOther (B := w.heap.size + 1 + 1) 0 (by omega)).trans (hx (w.heap.size + 1 + 1) (by omega)))
    · exact World.cell?_of_block ((setOther (B := w.heap.size + 1 + 1 + 1) 0 (by omega)).trans (hx (w.heap.size + 1 + 1 + 1) (by omega)))
    · exact (setOther 0 (by omega)).trans hx1
  case done =>
    rintro DD W hD ⟨hI1, ⟨a2, c2, hI2, hO⟩, hI3, hI4⟩ hK
    have r0 := cellAt (i := 0) hI2 rfl
    have rf := frozenAt hI2 0
    have hI2' := Lib.hid hI2
    have hK' := Lib.hid hK
    have hO' := Lib.hid hO
    clear hI1 hI2 hK hO
    gi_wp2
    have hkk := (KeepsOthers.setCell W ⟨w.heap.size + 1, 0, none⟩ (.slice a2 ((l.length + 1) / 2) c2)).same DD _ hK'.out rfl
    have hr := setOne (u := .slice a2 ((l.length + 1) / 2) c2) hI2'.out
    refine ⟨by simp, .inl ⟨_, _, rfl, run_takeDeferred hkk, ?_⟩⟩
    have hc := cell_kept (cellAt (i := 0) hr rfl) (grownBy_putObj' _ DD (.deferred none)) (fun r e => by cases e; exact ⟨_, hkk, rfl⟩)
    have hBf := hI3.setCell (p := ⟨w.heap.size + 1, 0, none⟩) (by simp) (.slice a2 ((l.length + 1) / 2) c2)
    refine ⟨.slice a2 ((l.length + 1) / 2) c2, ?_, _, rfl, ownsRow_mono ((hO'.out.put (by omega) _).obj hkk rfl _) (by omega), hBf.trans (belowK_b (w := w) (Nat.le_refl _) _ DD _ _ (by omega) hkk rfl rfl)⟩
    simp [results, Tryd.results28, go_sem, hc]
  case stop =>
    rintro DD c k W _ _ h _
    exact h.elim
end Go.Proofs.YtgddfdejkmnfkaaDoor
