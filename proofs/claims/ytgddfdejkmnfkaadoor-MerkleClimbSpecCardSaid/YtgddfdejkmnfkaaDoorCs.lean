/- The reference's way: its two rows, plainly and in memory. -/
/- The reference's way. -/
/- The reference's way, walked. -/
/- The reference's Length. -/
/- The reference's Climb. -/
/- The reference's Collide. -/
/- MerkleClimbSpec: the law. -/
import Derived.Test.YtgddfdejkmnfkaaDoorQd
import Derived.Test.YtgddfdejkmnfkaaDoorNb
import Derived.Test.YtgddfdejkmnfkaaDoorNf
import Derived.Test.YtgddfdejkmnfkaaDoorQe
import Derived.Test.YtgddfdejkmnfkaaDoorPr
import Derived.Test.YtgddfdejkmnfkaaDoorNd
import Derived.Test.YtgddfdejkmnfkaaDoorMy
namespace Go.Proofs.YtgddfdejkmnfkaaDoor
section
open Go.RowKit

/-- The text that the reference's way lays at the place k: none where the digest is left alone. -/
def wtM (n i : Nat) (leaf : List UInt8) (p : List (List UInt8)) : Nat → List UInt8
  | 0 => leafM leaf
  | k + 1 => if lone n i k = true then [] else stepM (rowI i k) (clM n i leaf p k) (p.getD (used n i k) [])
/-- Where two ways first meet, the text is the one that meet holds. -/
theorem wtM_tx (n i : Nat) (a b : List UInt8) (p q : List (List UInt8)) {K : Nat} (hne : ∀ j, j < K → clM n i a p j ≠ clM n i b q j) (he : clM n i a p K = clM n i b q K) : wtM n i a p K = txM n i a p K ∧ wtM n i b q K = txM n i b q K := by
  cases K with
  | zero => exact ⟨rfl, rfl⟩
  | succ K =>
    by_cases hl : lone n i K = true
    · rw [clM, if_pos hl, clM, if_pos hl] at he
      exact absurd he (hne K (by omega))
    · rw [wtM, if_neg hl, wtM, if_neg hl, txM, if_neg hl, txM, if_neg hl]
      exact ⟨rfl, rfl⟩
/-- The digests of a way, up to the place k. -/
def wdM (n i : Nat) (leaf : List UInt8) (p : List (List UInt8)) (k : Nat) : List (List UInt8) := (List.range (k + 1)).map (clM n i leaf p)
theorem wdM_len (n i : Nat) (leaf : List UInt8) (p : List (List UInt8)) (k : Nat) : (wdM n i leaf p k).length = k + 1 := by simp [wdM]
theorem wdM_succ (n i : Nat) (leaf : List UInt8) (p : List (List UInt8)) (k : Nat) : wdM n i leaf p (k + 1) = wdM n i leaf p k ++ [clM n i leaf p (k + 1)] := by simp [wdM, List.range_succ]
theorem wdM_32 (n i : Nat) (leaf : List UInt8) (p : List (List UInt8)) (k : Nat) : ∀ d ∈ wdM n i leaf p k, d.length = 32 := fun d hd => by
  obtain ⟨j, -, rfl⟩ := List.mem_map.1 hd
  exact clM_len _ _ _ _ _
theorem wdM_get {n i : Nat} {leaf : List UInt8} {p : List (List UInt8)} {k j : Nat} (h : j ≤ k) : (wdM n i leaf p k)[j]'(by rw [wdM_len]; omega) = clM n i leaf p j := by simp [wdM]
/-- A row of slices of bytes of the call's own; each reads as a text below the world's end. -/
def OT (W : World) (B : Nat) (v : Value) (ts : List (List UInt8)) : Prop :=
  ∃ xs : List Value, W.ownsRow B 34 1 v ts.length xs ∧ ∀ j (h : j < ts.length), ∃ a c, xs[j]? = some (.slice a ts[j].length c) ∧ OB W B (.slice a ts[j].length c) ts[j]
theorem OT.below {W W' : World} {B : Nat} {v : Value} {ts : List (List UInt8)} (h : OT W B v ts) (hb : Below W.heap.size W W') (hk : ∀ {u : Value} {n : Nat} {xs : List Value}, W.ownsRow B 34 1 u n xs → W'.ownsRow B 34 1 u n xs) : OT W' B v ts := by
  obtain ⟨xs, h1, h2⟩ := h
  refine ⟨xs, hk h1, fun j hj => ?_⟩
  obtain ⟨a, c, h3, h4⟩ := h2 j hj
  exact ⟨a, c, h3, h4.below hb⟩
/-- Where a row of the call's own lies, and of what type. -/
theorem owns_block {W : World} {B : Nat} {t : TypeId} {s : Nat} {v : Value} {n : Nat} {xs : List Value} (h : W.ownsRow B t s v n xs) {r : Nat} (hr : v.ownBlock = some r) : ∃ cs, W.heap[r]? = some (.cells cs t (0, 0)) := by
  rcases h.2 with ⟨h0, -⟩ | ⟨g, cap, cur, h0, -, hg, -⟩
  · rw [h0] at hr; cases hr
  · rw [h0] at hr
    injection hr with hr
    subst hr
    exact ⟨cur, hg⟩
/-- A row of one type stands while a row of another grows. -/
theorem owns_keeps {W W' : World} {B B' : Nat} {t t' : TypeId} {s s' : Nat} {v v' : Value} {n n' : Nat} {xs xs' : List Value} (h : W.ownsRow B t s v n xs) (h' : W.ownsRow B' t' s' v' n' xs') (ht : t ≠ t') (hg : W.grownBy W' v'.ownBlock) : W'.ownsRow B t s v n xs := by
  refine World.ownsRow.kept h hg ?_
  cases hv : v.ownBlock with
  | none => exact .inl rfl
  | some r =>
    refine .inr fun e => ?_
    obtain ⟨cs, h1⟩ := owns_block h hv
    obtain ⟨cs', h2⟩ := owns_block h' e.symm
    rw [h1] at h2
    injection h2 with h2
    injection h2 with _ h2
    exact ht h2
theorem OT.keeps {W W' : World} {B B' : Nat} {t' : TypeId} {s' : Nat} {v v' : Value} {n' : Nat} {xs' : List Value} {ts : List (List UInt8)} (h : OT W B v ts) (h' : W.ownsRow B' t' s' v' n' xs') (ht : t' ≠ 34) (ht8 : t' ≠ 5) (hg : W.grownBy W' v'.ownBlock) : OT W' B v ts := by
  obtain ⟨xs, h1, h2⟩ := h
  refine ⟨xs, owns_keeps h1 h' (fun e => ht e.symm) hg, fun j hj => ?_⟩
  obtain ⟨a, c, h3, h4⟩ := h2 j hj
  exact ⟨a, c, h3, owns_keeps h4 h' (fun e => ht8 e.symm) hg⟩
theorem OT.step {W W' : World} {B : Nat} {v : Value} {ts : List (List UInt8)} (h : OT W B v ts) (hb : Below W.heap.size W W') : OT W' B v ts := by
  refine OT.below h hb fun {u n xs} h1 => ?_
  refine ⟨h1.1, ?_⟩
  rcases h1.2 with h' | ⟨g, cap, cur, e, hB, hg, r⟩
  · exact .inl h'
  · exact .inr ⟨g, cap, cur, e, hB, blk_at hg hb, r⟩
/-- append of one text. -/
theorem OT.app {W : World} {B : Nat} {v : Value} {ts : List (List UInt8)} (ho : OT W B v ts) (ty : TypeId) (s : Nat) (a : Option Addr) (t : List UInt8) (c : Nat) (hs : W.heap[s]? = some (.cells #[.slice a t.length c] 34 (0, 0))) (hOB : OB W B (.slice a t.length c) t) (hl : ts.length ≤ 1000) (hB : B ≤ W.heap.size) :
    ∃ v' W', (Builtin.append_ #[22, 22] ty #[v, .slice (some ⟨s, 0, none⟩) 1 1]).run Tryd.prog W = .ok v' W' ∧ OT W' B v' (ts ++ [t]) ∧ W.grownBy W' v.ownBlock := by
  obtain ⟨xs, h1, h2⟩ := ho
  obtain ⟨i0, hi0, hz0, hz1, hz2⟩ := info_parts Tryd.infoLs
  obtain ⟨v', W', hr, ho', hg, -⟩ := run_append_src_row (P := Tryd.prog) W B 22 22 ty 34 i0 _ 1 24 Tryd.underlying22 hi0 hz0 hz1 hz2 rfl v ts.length xs h1 (.slice (some ⟨s, 0, none⟩) 1 1) 1 [.slice a t.length c]
    (Src.ofRow Tryd.underlying22 W (some ⟨s, 0, none⟩) 1 1 _ rfl (by decide) (fun _ => ⟨_, rfl, fun j u hu => by rw [add_none, Nat.zero_add, cell_of_row W s j _ _ _ hs]; simpa using hu⟩) (by simp [Value.oneCell'])) (by omega) (by omega) hB
  have hxl : xs.length = ts.length := by have := h1.1; rwa [Nat.mul_one] at this
  refine ⟨v', W', hr, ⟨xs ++ [.slice a t.length c], by rw [List.length_append]; exact ho', fun j hj => ?_⟩, hg⟩
  have k8 : ∀ {u : Value} {l : List UInt8}, OB W B u l → OB W' B u l := fun h => owns_keeps h h1 (by decide) hg
  rw [List.length_append] at hj
  simp only [List.length_cons, List.length_nil, Nat.zero_add] at hj
  by_cases e : j < ts.length
  · obtain ⟨a', c', h3, h4⟩ := h2 j e
    rw [List.getElem_append_left e, List.getElem?_append_left (by omega)]
    exact ⟨a', c', h3, k8 h4⟩
  · obtain rfl : j = ts.length := by omega
    rw [List.getElem_append_right (by omega), List.getElem?_append_right (by omega)]
    simp only [Nat.sub_self, hxl, List.getElem?_cons_zero, List.getElem_cons_zero]
    exact ⟨a, c, rfl, k8 hOB⟩
end
section
open Go.RowKit

def wtL (n i : Nat) (leaf : List UInt8) (p : List (List UInt8)) (k : Nat) : List (List UInt8) := (List.range (k + 1)).map (wtM n i leaf p)
theorem wtL_len (n i : Nat) (leaf : List UInt8) (p : List (List UInt8)) (k : Nat) : (wtL n i leaf p k).length = k + 1 := by simp [wtL]
theorem wtL_succ (n i : Nat) (leaf : List UInt8) (p : List (List UInt8)) (k : Nat) : wtL n i leaf p (k + 1) = wtL n i leaf p k ++ [wtM n i leaf p (k + 1)] := by simp [wtL, List.range_succ]
theorem OD.one {W : World} {B : Nat} {d : List UInt8} (hd : d.length = 32) (hB : B ≤ W.heap.size) : OD (W.alloc (.cells (BV d).toArray 30)) B (.slice (some ⟨W.heap.size, 0, none⟩) 1 1) [d] := by
  have h := World.ownsRow_lit (base := B) (e := 30) (size := 32) W (BV d).toArray 1 hB (by unfold maxLen; omega) (by rw [List.size_toArray, BV_length, hd])
  unfold OD
  simpa using h
theorem OT.one {W : World} {B : Nat} {t : List UInt8} {a : Option Addr} {c : Nat} (ho : OB W B (.slice a t.length c) t) (hB : B ≤ W.heap.size) : OT (W.alloc (.cells #[.slice a t.length c] 34)) B (.slice (some ⟨W.heap.size, 0, none⟩) 1 1) [t] := by
  refine ⟨[.slice a t.length c], ?_, fun j hj => ?_⟩
  · have h := World.ownsRow_lit (base := B) (e := 34) (size := 1) W #[.slice a t.length c] 1 hB (by unfold maxLen; omega) rfl
    simpa using h
  · obtain rfl : j = 0 := by simp at hj; omega
    exact ⟨a, c, rfl, ho.alloc _⟩
end
section
open Go.RowKit

set_option maxRecDepth 100000 in
set_option maxHeartbeats 4000000 in
theorem rWay_any (n ix : Nat) (hn : n ≤ 65536) (hi0 : ix < n) (leaf : List UInt8) (hl : leaf.length ≤ 800000) (p : List (List UInt8)) (hpl : p.length = pathN n ix) (w : World) (A Ap : Option Addr) (c cp : Nat) (hr : RBs w w.heap.size A leaf) (hA : A = none → leaf = []) (hR : RD w w.heap.size p Ap cp) :
    Calls Tryd.prog 34 #[.int .i64 (n : Int), .int .i64 (ix : Int), .slice A leaf.length c, .slice Ap p.length cp] w fun e w' => (∃ v1 v2, e = .returned (.tuple #[v1, v2]) ∧ OD w' w.heap.size v1 (wdM n ix leaf p (rows n)) ∧ OT w' w.heap.size v2 (wtL n ix leaf p (rows n))) ∧ Below w.heap.size w w' := by
  have hu := Lib.hid (show Tryd.prog.underlying 30 = some (.array 32 5) by kernel_rfl)
  have hi := Lib.hid (show (Tryd.prog.info? 30).map (·.size) = some 32 by kernel_rfl)
  have hT : Hid (Calls Tryd.prog 47 #[.string ⟨#[108, 101, 97, 102]⟩, .slice A leaf.length c] w fun e w' => ∃ v, e = .returned v ∧ OB w' w.heap.size v (leafM leaf) ∧ Below w.heap.size w w') := Lib.hid (rText_any leafB (by decide +kernel) leaf (by omega) w A c hr hA)
  have hRH := Lib.hid hR
  have hplH := Lib.hid hpl
  have hll := leafM_len leaf
  clear hr hA hR hpl
  go_enter Tryd.func34, Tryd.ntmps34
  go_wp2_with fail
  refine hT.out.mono ?_
  rintro e w2 ⟨v, rfl, ho, hb2⟩
  obtain ⟨a0, c0, rfl, -⟩ := ho.form
  have hS := Lib.hid (rsum_own ho (by omega) (by omega))
  replace ho := Lib.hid ho
  clear hT hll
  go_wp2_with fail
  refine hS.out.mono ?_
  rintro e w3 ⟨rfl, hb3⟩
  have hcells := one_cells (sha_length (leafM leaf))
  have hsz := DV_size (sha_length (leafM leaf))
  have hB3 := hb2.trans (hb3.mono hb2.size)
  have ho3 := ho.out.below hb3
  have hO := OD.one (W := w3) (sha_length (leafM leaf)) hB3.size
  have hbA := bel1 w3 (.cells (BV (sha (leafM leaf))).toArray 30)
  have hOT := OT.one (W := w3.alloc (.cells (BV (sha (leafM leaf))).toArray 30)) (ho3.below hbA) (Nat.le_trans hB3.size hbA.size)
  have hbB := bel1 (w3.alloc (.cells (BV (sha (leafM leaf))).toArray 30)) (.cells #[.slice a0 (leafM leaf).length c0] 34)
  have hst := Lib.hid (And.intro (hO.below hbB) (And.intro hOT (hB3.trans ((hbA.mono hB3.size).trans (hbB.mono (Nat.le_trans hB3.size hbA.size))))))
  clear hS hb2 hb3 hB3 ho ho3 hO hOT hbA hbB
  go_wp2_with fail
  clear hcells hsz
  go_loopw [0, 1, 11, 12, 13] (fun y z d t u wr => ∃ k : Nat, k ≤ rows n ∧ y = .int .i64 (rowN n k : Int) ∧ z = .int .i64 (rowI ix k : Int) ∧ (∃ a c, d = .slice a (k + 1) c) ∧ (∃ a c, t = .slice a (k + 1) c) ∧ u = .int .i64 (used n ix k : Int) ∧ Hid (OD wr w.heap.size d (wdM n ix leaf p k) ∧ OT wr w.heap.size t (wtL n ix leaf p k) ∧ Below w.heap.size w wr)) (fun y _ _ _ _ _ => (intOf y).toNat)
  case atStart => exact ⟨0, Nat.zero_le _, rfl, rfl, ⟨_, _, rfl⟩, ⟨_, _, rfl⟩, rfl, Lib.hid (by simpa [wdM, wtL, clM, wtM, List.range_succ] using hst.out)⟩
  case round =>
    clear hst
    obtain ⟨k, hk, rfl, rfl, ⟨ad, cd, rfl⟩, ⟨at_, ct, rfl⟩, rfl, hI⟩ := hrel
    have hO := Lib.hid hI.out.1
    have hOT := Lib.hid hI.out.2.1
    have hB := Lib.hid hI.out.2.2
    clear hI
    have hlt := rowI_lt hi0 k
    have hle := rowN_le n k
    have hul := used_le n ix k
    have hr16 := rows_16 hn
    by_cases hlt2 : k < rows n
    · have hgt := rowN_gt k _ hlt2
      have hN1 : rowN n (k + 1) = rowN n k - rowN n k / 2 := by rw [rowN]
      have hI1 : rowI ix (k + 1) = rowI ix k / 2 := by rw [rowI]
      have hlo := lone_at (k := k) hi0
      have hk1 : k + 1 ≤ rows n := hlt2
      obtain ⟨a', c', e', hRD⟩ := hO.out.reads (wdM_32 n ix leaf p k)
      rw [wdM_len] at e'
      injection e' with e1 e2 e3
      subst e1 e3
      obtain ⟨b1, off1, rfl, hb1, hrg⟩ := hRD.at_ (i := k) (by rw [wdM_len]; omega)
      rw [wdM_get (Nat.le_refl k)] at hrg
      have hld := Lib.hid (clM_len n ix leaf p k)
      have hU1 : used n ix (k + 1) = if lone n ix k = true then used n ix k else used n ix k + 1 := by rw [used]
      have hL0 : Hid (lone n ix k = false → used n ix k < p.length) := Lib.hid fun h => by
        have h1 := used_mono n ix (k + 1) (rows n) (by omega)
        rw [used, if_neg (by rw [h]; simp)] at h1
        have := hplH.out
        unfold pathN at this
        omega
      obtain ⟨d, hdk⟩ : ∃ d, clM n ix leaf p k = d := ⟨_, rfl⟩
      rw [hdk] at hrg hld
      replace hdk := Lib.hid hdk
      replace hrg := Lib.hid hrg
      obtain ⟨m, hm⟩ : ∃ m, rowN n k = m := ⟨_, rfl⟩
      obtain ⟨jj, hj⟩ : ∃ j, rowI ix k = j := ⟨_, rfl⟩
      obtain ⟨uk, huk⟩ : ∃ u, used n ix k = u := ⟨_, rfl⟩
      have hokH : Hid (p.getD (used n ix k) [] = p.getD uk []) := Lib.hid (by rw [huk])
      have hparH := Lib.hid hj
      rw [hm, hj] at hlo hlt
      rw [hm] at hgt hN1 hle
      rw [hj] at hI1
      rw [huk] at hU1 hL0 hul
      rw [hm, hj, huk]
      clear hm hj huk
      have hd1 : decide ((1 : Int) < (m : Int)) = true := by simp; omega
      have hw0 : IntKind.i64.wrap ((k : Int) + 1 - 1) = (k : Int) := by rw [IntWalk.i64_in _ (by omega)]; omega
      have hw0' : IntKind.i64.wrap (k : Int) = (k : Int) := IntWalk.i64_in _ (by omega)
      have hw1 : IntKind.i64.wrap ((jj : Int) + 1) = (jj : Int) + 1 := IntWalk.i64_in _ (by omega)
      have hw2 : IntKind.i64.wrap ((m : Int) + 1) = (m : Int) + 1 := IntWalk.i64_in _ (by omega)
      have hw3 : IntKind.i64.wrap ((uk : Int) + 1) = (uk : Int) + 1 := IntWalk.i64_in _ (by omega)
      have hszd := Lib.hid (DV_size hld.out)
      have hkk : k < k + 1 := Nat.lt_succ_self k
      go_upto_region 7 with (first
        | (refine wpList_load_mid rfl 30 _ rfl b1 (off1 + k * 32) rfl _ _ hrg.out hu.out rfl ?ca ?_; case ca => rw [hi.out, BV_length, hld.out])
        | (refine wpList_store_row rfl 30 _ _ rfl wr.heap.size _ rfl rfl 30 _ (heap_alloc_last wr _) ?cj ?cl ?ck ?_
           case cj => rw [hi.out, hszd.out]
           case cl => rw [hszd.out]; rfl
           case ck => exact BV_all _
           rw [World.setRow_alloc_new]))
      have hb3 := bel1 wr (.cells (BV d).toArray 30)
      have hd3 : Hid (DB _ wr.heap.size 30 d) := heap_alloc_new wr (.cells (BV d).toArray 30)
      replace hO := Lib.hid (hO.out.below hb3)
      replace hOT := Lib.hid (hOT.out.step hb3)
      replace hB := Lib.hid (hB.out.trans (hb3.mono hB.out.size))
      generalize wr.alloc (.cells (BV d).toArray 30) = V3 at hd3 hO hOT hB ⊢
      have hV3s := Lib.hid hB.out.size
      clear hb3 hrg hRD hb1
      cases hL : lone n ix k with
      | true =>
        obtain ⟨o1, o2⟩ := hlo.1 hL
        rw [hL, if_pos rfl] at hU1
        have c1 : ((jj : Int) % 2 == 1) = false := beq_eq_false_iff_ne.2 (by omega)
        have c2 : decide ((jj : Int) + 1 < (m : Int)) = false := decide_eq_false (by omega)
        clear o1 o2 hlo
        have hclk : clM n ix leaf p (k + 1) = d := by rw [clM, if_pos hL]; exact hdk.out
        have hwt : wtM n ix leaf p (k + 1) = [] := by rw [wtM, if_pos hL]
        have hb6 := bel1 V3 (.cells (BV d).toArray 30)
        have hO6 := hO.out.below hb6
        have hB6 := hB.out.trans (hb6.mono hB.out.size)
        have hOT6 := hOT.out.step hb6
        obtain ⟨a7, c7, W7, hr7, hO7, hg7, -⟩ := hO6.app 25 V3.heap.size d (heap_alloc_new V3 _) hld.out (by rw [wdM_len]; omega) hB6.size
        have hB7 := hB6.trans (hO6.app_below hg7 hB6.size)
        have hl7 : (wdM n ix leaf p k ++ [d]).length = k + 1 + 1 := by rw [List.length_append, wdM_len]; rfl
        rw [hl7] at hr7 hO7
        rw [← hclk, ← wdM_succ] at hO7
        have hOT7 := hOT6.keeps hO6 (by decide) (by decide) hg7
        have hcells := one_cells hld.out
        have hsz := DV_size hld.out
        have hb8 := bel1 W7 (.cells #[.slice none 0 0] 34)
        have hOT8 := hOT7.step hb8
        obtain ⟨v9, W9, hr9, hOT9, hg9⟩ := hOT8.app 22 W7.heap.size _ ([] : List UInt8) _ (heap_alloc_new W7 (.cells #[.slice none 0 0] 34)) (OB.nil _ _) (by rw [wtL_len]; omega) (by have := hB7.size; simp; omega)
        rw [← hwt, ← wtL_succ] at hOT9
        obtain ⟨a9, c9, rfl⟩ : ∃ a c, v9 = .slice a (k + 1 + 1) c := by
          obtain ⟨xs, h1, -⟩ := hOT9
          rw [wtL_len] at h1
          rcases h1.2 with ⟨h2, h3⟩ | ⟨g2, cap, cur, h2, -⟩
          · omega
          · exact ⟨_, cap, h2⟩
        obtain ⟨xs8, hrow8, -⟩ := hOT8
        have hO9 : OD W9 w.heap.size _ _ := owns_keeps (hO7.below hb8) hrow8 (by decide) hg9
        have hB9 := hB7.trans ((bel1 W7 (.cells #[.slice none 0 0] 34)).mono hB7.size)
        have hB10 := hB9.trans (((Below.refl w.heap.size _).grown hg9 hB9.size (fun q e => (World.ownsRow.lt hrow8 q e).1)))
        have hfin := Lib.hid (And.intro hO9 (And.intro hOT9 hB10))
        replace hr7 := Lib.hid hr7
        replace hr9 := Lib.hid hr9
        clear hb6 hO6 hB6 hOT6 hO7 hg7 hB7 hl7 hOT7 hb8 hrow8 hO9 hOT9 hg9 hB9 hB10 hclk hwt
        go_wp2_with (first
          | (at_builtin; refine Lib.wpList_append_run _ rfl _ _ _ _ rfl _ _ rfl rfl _ _ hr7.out ?_)
          | (at_builtin; refine Lib.wpList_append_run _ rfl _ _ _ _ rfl _ _ rfl rfl _ _ hr9.out ?_)
          | (refine wpList_load_row rfl 30 _ rfl (wr.heap.size) rfl 30 _ (0, 0) _ hd3.out hu.out rfl ?cz ?_; case cz => rw [hi.out, DV_size hld.out]))
        go_roundw
        case rel => exact ⟨k + 1, hk1, congrArg (Value.int .i64) (by rw [hN1]; omega), congrArg (Value.int .i64) (by rw [hI1]; omega), ⟨_, _, rfl⟩, ⟨_, _, rfl⟩, by rw [hU1], hfin.out⟩
        case measure => simp only [intOf]; omega
      | false =>
        rw [hL, if_neg (by simp)] at hU1
        have hup := hL0.out hL
        obtain ⟨b, off, rfl, hbw0, hro0⟩ := (hRH.out.under hB.out hB.out.size).at_ hup
        have hbw := Lib.hid hbw0
        have hro := Lib.hid hro0
        have hlo2 := Lib.hid (hRH.out.2.2.1 p[uk] (List.getElem_mem hup))
        have hok : Hid (p.getD (used n ix k) [] = p[uk]) := Lib.hid (by rw [hokH.out, List.getD_eq_getElem?_getD, List.getElem?_eq_getElem hup, Option.getD_some])
        have hku := Lib.hid hup
        generalize p[uk] = o at hro hlo2 hok
        have hlo3 := Lib.hid hlo
        clear hbw0 hro0 hokH hlo
        have hlo := hlo2
        clear hlo2
        by_cases hodd : jj % 2 = 1
        · have hpar := Lib.hid (show rowI ix k % 2 = 1 by rw [hparH.out]; exact hodd)
          have c1 : ((jj : Int) % 2 == 1) = true := beq_iff_eq.2 (by omega)
          go_upto_region 9 with fail
          refine wp_region_pre 7 0 (fun W => Below V3.heap.size V3 W) (fun W W' => Below W.heap.size W W')
            (fun i v W => match i with
              | 0 => v = .slice (some ⟨b, off, none⟩) p.length cp
              | 1 => v = .int .i64 (uk : Int)
              | 2 => v = .pointer (some ⟨b, off + uk * 32, none⟩)
              | 3 => v = .agg (BV o).toArray
              | 4 => v = .agg (BV d).toArray
              | 5 => ∃ u, v = u ∧ OB W V3.heap.size u (nodeM o d)
              | 6 => ∃ u, v = u ∧ OB W V3.heap.size u (nodeM o d)
              | _ => True) (fun _ => false)
            (by kernel_rfl) (by kernel_rfl) (by kernel_rfl) (by kernel_rfl) (by kernel_rfl) (by kernel_rfl) (by kernel_rfl) ?_ (fun _ _ h => h.size) (dN (Below.refl _ _) 1) ?_ ?_
          · intro i v W W' hb hF
            match i, hF with
            | 0, h => exact h
            | 1, h => exact h
            | 2, h => exact h
            | 3, h => exact h
            | 4, h => exact h
            | 5, ⟨u, h1, h2⟩ => exact ⟨u, h1, h2.below hb⟩
            | 6, ⟨u, h1, h2⟩ => exact ⟨u, h1, h2.below hb⟩
            | _ + 7, _ => trivial
          · refine ⟨?_, ?_, ?_, ?_, ?_, ?_, ?_, trivial⟩
            · refine stepJ_any rfl fun ac W hAA hG hDD K hK => ?_
              have h3 := hAA.getD (t := 3) (by kernel_rfl)
              simp only [Array.getD_eq_getD_getElem?] at h3
              rw [if_pos (by rfl)]
              exact wp_val (v := .slice (some ⟨b, off, none⟩) p.length cp) (w' := W) (by simp [execOp, Act.eval, h3, go_sem]) (hK _ _ hG (Below.refl _ _) rfl (fun h => by cases h))
            · refine stepJ_any rfl fun ac W hAA hG hDD K hK => ?_
              have h13 := hAA.getD (t := 13) (by kernel_rfl)
              simp only [Array.getD_eq_getD_getElem?] at h13
              rw [if_pos (by rfl)]
              exact wp_val (v := .int .i64 (uk : Int)) (w' := W) (by simp [execOp, Act.eval, h13, go_sem]) (hK _ _ hG (Below.refl _ _) rfl (fun h => by cases h))
            · refine stepJ_any rfl fun ac W hAA hG hDD K hK => ?_
              have h42 := hDD.get 0 42 _ rfl rfl (by kernel_rfl)
              have h43 := hDD.get 1 43 _ rfl rfl (by kernel_rfl)
              simp only [Array.getD_eq_getD_getElem?] at h42 h43
              have hku := hku.out
              rw [if_pos (by rfl)]
              exact wp_val (v := .pointer (some ⟨b, off + uk * 32, none⟩)) (w' := W) (by simp [execOp, Act.eval, h42, h43, go_sem, hku]) (hK _ _ hG (Below.refl _ _) rfl (fun h => by cases h))
            · refine stepJ_any rfl fun ac W hAA hG hDD K hK => ?_
              have h44 := hDD.get 2 44 _ rfl rfl (by kernel_rfl)
              rw [if_pos (by rfl)]
              exact wp_load_mid 30 _ rfl b (off + uk * 32) h44 (BV o) _ (fun j v hv => ((hG.cell (p := ⟨b, off + uk * 32 + j, none⟩) hbw.out).trans (hro.out j v hv))) hu.out rfl (by rw [hi.out, BV_length, hlo.out]) (hK _ _ hG (Below.refl _ _) rfl (fun h => by cases h))
            · refine stepJ_any rfl fun ac W hAA hG hDD K hK => ?_
              have h14 := hAA.getD (t := 14) (by kernel_rfl)
              rw [if_pos (by rfl)]
              exact wp_load_mid 30 _ rfl wr.heap.size 0 h14 (BV d) _ (range_of (blk_at hd3.out hG : DB W _ 30 _)) hu.out rfl (by rw [hi.out, BV_length, hld.out]) (hK _ _ hG (Below.refl _ _) rfl (fun h => by cases h))
            · refine stepJ_any rfl fun ac W hAA hG hDD K hK => ?_
              have h45 := hDD.get 3 45 _ rfl rfl (by kernel_rfl)
              have h46 := hDD.get 4 46 _ rfl rfl (by kernel_rfl)
              rw [if_pos (by rfl)]
              simp only [Array.getD_eq_getD_getElem?] at h45 h46
              refine wp_call (f := 48) (args := #[.agg (BV o).toArray, .agg (BV d).toArray]) (by simp [execOp, Act.eval, h45, h46, go_sem]) ((rTwo_any o d hlo.out hld.out W).mono fun e W9 he => ?_)
              obtain ⟨u, rfl, ho, hbw9⟩ := he
              exact hK _ _ (hG.trans (hbw9.mono hG.size)) hbw9 ⟨u, rfl, ho.mono hG.size⟩ (fun h => by cases h)
            · refine stepJ_any rfl fun ac W hAA hG hDD K hK => ?_
              obtain ⟨u5, h47, ho5⟩ := hDD.get 5 47 _ rfl rfl (by kernel_rfl)
              rw [if_pos (by rfl)]
              simp only [Array.getD_eq_getD_getElem?] at h47
              exact wp_val (v := u5) (w' := W) (by simp [execOp, Act.eval, h47, go_sem]) (hK _ _ hG (Below.refl _ _) ⟨u5, rfl, ho5⟩ (fun h => by cases h))
          intro fu T w4 hG hF hne hltb
          have e42 : T 42 = .slice (some ⟨b, off, none⟩) p.length cp := hF 0 _ rfl (by omega)
          have e43 : T 43 = .int .i64 (uk : Int) := hF 1 _ rfl (by omega)
          have e44 : T 44 = .pointer (some ⟨b, off + uk * 32, none⟩) := hF 2 _ rfl (by omega)
          have e45 : T 45 = .agg (BV o).toArray := hF 3 _ rfl (by omega)
          have e46 : T 46 = .agg (BV d).toArray := hF 4 _ rfl (by omega)
          obtain ⟨u5, e47, hou5⟩ := hF 5 _ rfl (by omega)
          replace e47 : T 47 = _ := e47
          obtain ⟨u6, e10, hou6⟩ := hF 6 _ rfl (by omega)
          replace e10 : T 10 = _ := e10
          clear hF hne hltb
          simp only [List.take, fillT, List.setIfInBounds_toArray, List.set_cons_zero, List.set_cons_succ, e42, e43, e44, e45, e46, e47, e10]
          clear e42 e43 e44 e45 e46 e47 e10
          refine wpAny_done (by kernel_rfl) ?_ _
          replace hO := Lib.hid (hO.out.below hG)
          replace hOT := Lib.hid (hOT.out.step hG)
          replace hB := Lib.hid (hB.out.trans (hG.mono hB.out.size))
          have hot := Lib.hid (OB.mono hou6 hV3s.out)
          obtain ⟨a6, c6, rfl, -⟩ := hou6.form
          clear hG hou5 hou6
          have hS := Lib.hid (rsum_own hot.out (by rw [nodeM_len hlo.out hld.out]; omega) (by rw [nodeM_len hlo.out hld.out]; omega))
          go_wp2_with fail
          refine hS.out.mono ?_
          rintro e w5 ⟨rfl, hb5⟩
          clear hS
          replace hO := Lib.hid (hO.out.below hb5)
          replace hOT := Lib.hid (hOT.out.step hb5)
          replace hot := Lib.hid (hot.out.below hb5)
          replace hB := Lib.hid (hB.out.trans (hb5.mono hB.out.size))
          clear hb5
          have hclk : clM n ix leaf p (k + 1) = sha (nodeM o d) := by rw [clM, if_neg (by rw [hL]; simp), hdk.out, hok.out]; unfold stepM; rw [show oth (rowI ix k) = rowI ix k - 1 by unfold oth; rw [if_neg (by have := hpar.out; omega)], if_pos (by have := hpar.out; omega)]
          have hwt : wtM n ix leaf p (k + 1) = (nodeM o d) := by rw [wtM, if_neg (by rw [hL]; simp), hdk.out, hok.out]; unfold stepM; rw [show oth (rowI ix k) = rowI ix k - 1 by unfold oth; rw [if_neg (by have := hpar.out; omega)], if_pos (by have := hpar.out; omega)]
          have hb6 := bel1 w5 (.cells (BV (sha (nodeM o d))).toArray 30)
          have hO6 := hO.out.below hb6
          have hB6 := hB.out.trans (hb6.mono hB.out.size)
          have hOT6 := hOT.out.step hb6
          obtain ⟨a7, c7, W7, hr7, hO7, hg7, -⟩ := hO6.app 25 w5.heap.size (sha (nodeM o d)) (heap_alloc_new w5 _) (sha_length (nodeM o d)) (by rw [wdM_len]; omega) hB6.size
          have hB7 := hB6.trans (hO6.app_below hg7 hB6.size)
          have hl7 : (wdM n ix leaf p k ++ [(sha (nodeM o d))]).length = k + 1 + 1 := by rw [List.length_append, wdM_len]; rfl
          rw [hl7] at hr7 hO7
          rw [← hclk, ← wdM_succ] at hO7
          have hOT7 := hOT6.keeps hO6 (by decide) (by decide) hg7
          have hot7 : OB W7 w.heap.size _ _ := owns_keeps (hot.out.below hb6) hO6 (by decide) hg7
          have hcells := one_cells (sha_length (nodeM o d))
          have hsz := DV_size (sha_length (nodeM o d))
          have hb8 := bel1 W7 (.cells #[.slice a6 (nodeM o d).length c6] 34)
          have hOT8 := hOT7.step hb8
          obtain ⟨v9, W9, hr9, hOT9, hg9⟩ := hOT8.app 22 W7.heap.size _ (nodeM o d) _ (heap_alloc_new W7 (.cells #[.slice a6 (nodeM o d).length c6] 34)) ((hot7.below hb8)) (by rw [wtL_len]; omega) (by have := hB7.size; simp; omega)
          rw [← hwt, ← wtL_succ] at hOT9
          obtain ⟨a9, c9, rfl⟩ : ∃ a c, v9 = .slice a (k + 1 + 1) c := by
            obtain ⟨xs, h1, -⟩ := hOT9
            rw [wtL_len] at h1
            rcases h1.2 with ⟨h2, h3⟩ | ⟨g2, cap, cur, h2, -⟩
            · omega
            · exact ⟨_, cap, h2⟩
          obtain ⟨xs8, hrow8, -⟩ := hOT8
          have hO9 : OD W9 w.heap.size _ _ := owns_keeps (hO7.below hb8) hrow8 (by decide) hg9
          have hB9 := hB7.trans ((bel1 W7 (.cells #[.slice a6 (nodeM o d).length c6] 34)).mono hB7.size)
          have hB10 := hB9.trans (((Below.refl w.heap.size _).grown hg9 hB9.size (fun q e => (World.ownsRow.lt hrow8 q e).1)))
          have hfin := Lib.hid (And.intro hO9 (And.intro hOT9 hB10))
          replace hr7 := Lib.hid hr7
          replace hr9 := Lib.hid hr9
          clear hb6 hO6 hB6 hOT6 hO7 hg7 hB7 hl7 hOT7 hb8 hrow8 hO9 hOT9 hg9 hB9 hB10 hclk hwt hot7
          go_wp2_with (first
            | (at_builtin; refine Lib.wpList_append_run _ rfl _ _ _ _ rfl _ _ rfl rfl _ _ hr7.out ?_)
            | (at_builtin; refine Lib.wpList_append_run _ rfl _ _ _ _ rfl _ _ rfl rfl _ _ hr9.out ?_))
          go_roundw
          case rel => exact ⟨k + 1, hk1, congrArg (Value.int .i64) (by rw [hN1]; omega), congrArg (Value.int .i64) (by rw [hI1]; omega), ⟨_, _, rfl⟩, ⟨_, _, rfl⟩, congrArg (Value.int .i64) (by rw [hU1]; omega), hfin.out⟩
          case measure => simp only [intOf]; omega
        · have hpar := Lib.hid (show rowI ix k % 2 = 0 by rw [hparH.out]; omega)
          have c1 : ((jj : Int) % 2 == 1) = false := beq_eq_false_iff_ne.2 (by omega)
          have c2 : decide ((jj : Int) + 1 < (m : Int)) = true := decide_eq_true (by
            by_cases h : (jj : Int) + 1 < (m : Int)
            · exact h
            · have := hlo3.out.2 (by omega)
              rw [hL] at this
              cases this)
          go_upto_region 10 with fail
          refine wp_region_pre 7 0 (fun W => Below V3.heap.size V3 W) (fun W W' => Below W.heap.size W W')
            (fun i v W => match i with
              | 0 => v = .agg (BV d).toArray
              | 1 => v = .slice (some ⟨b, off, none⟩) p.length cp
              | 2 => v = .int .i64 (uk : Int)
              | 3 => v = .pointer (some ⟨b, off + uk * 32, none⟩)
              | 4 => v = .agg (BV o).toArray
              | 5 => ∃ u, v = u ∧ OB W V3.heap.size u (nodeM d o)
              | 6 => ∃ u, v = u ∧ OB W V3.heap.size u (nodeM d o)
              | _ => True) (fun _ => false)
            (by kernel_rfl) (by kernel_rfl) (by kernel_rfl) (by kernel_rfl) (by kernel_rfl) (by kernel_rfl) (by kernel_rfl) ?_ (fun _ _ h => h.size) (dN (Below.refl _ _) 1) ?_ ?_
          · intro i v W W' hb hF
            match i, hF with
            | 0, h => exact h
            | 1, h => exact h
            | 2, h => exact h
            | 3, h => exact h
            | 4, h => exact h
            | 5, ⟨u, h1, h2⟩ => exact ⟨u, h1, h2.below hb⟩
            | 6, ⟨u, h1, h2⟩ => exact ⟨u, h1, h2.below hb⟩
            | _ + 7, _ => trivial
          · refine ⟨?_, ?_, ?_, ?_, ?_, ?_, ?_, trivial⟩
            · refine stepJ_any rfl fun ac W hAA hG hDD K hK => ?_
              have h14 := hAA.getD (t := 14) (by kernel_rfl)
              rw [if_pos (by rfl)]
              exact wp_load_mid 30 _ rfl wr.heap.size 0 h14 (BV d) _ (range_of (blk_at hd3.out hG : DB W _ 30 _)) hu.out rfl (by rw [hi.out, BV_length, hld.out]) (hK _ _ hG (Below.refl _ _) rfl (fun h => by cases h))
            · refine stepJ_any rfl fun ac W hAA hG hDD K hK => ?_
              have h3 := hAA.getD (t := 3) (by kernel_rfl)
              simp only [Array.getD_eq_getD_getElem?] at h3
              rw [if_pos (by rfl)]
              exact wp_val (v := .slice (some ⟨b, off, none⟩) p.length cp) (w' := W) (by simp [execOp, Act.eval, h3, go_sem]) (hK _ _ hG (Below.refl _ _) rfl (fun h => by cases h))
            · refine stepJ_any rfl fun ac W hAA hG hDD K hK => ?_
              have h13 := hAA.getD (t := 13) (by kernel_rfl)
              simp only [Array.getD_eq_getD_getElem?] at h13
              rw [if_pos (by rfl)]
              exact wp_val (v := .int .i64 (uk : Int)) (w' := W) (by simp [execOp, Act.eval, h13, go_sem]) (hK _ _ hG (Below.refl _ _) rfl (fun h => by cases h))
            · refine stepJ_any rfl fun ac W hAA hG hDD K hK => ?_
              have h49 := hDD.get 1 49 _ rfl rfl (by kernel_rfl)
              have h50 := hDD.get 2 50 _ rfl rfl (by kernel_rfl)
              simp only [Array.getD_eq_getD_getElem?] at h49 h50
              have hku := hku.out
              rw [if_pos (by rfl)]
              exact wp_val (v := .pointer (some ⟨b, off + uk * 32, none⟩)) (w' := W) (by simp [execOp, Act.eval, h49, h50, go_sem, hku]) (hK _ _ hG (Below.refl _ _) rfl (fun h => by cases h))
            · refine stepJ_any rfl fun ac W hAA hG hDD K hK => ?_
              have h51 := hDD.get 3 51 _ rfl rfl (by kernel_rfl)
              rw [if_pos (by rfl)]
              exact wp_load_mid 30 _ rfl b (off + uk * 32) h51 (BV o) _ (fun j v hv => ((hG.cell (p := ⟨b, off + uk * 32 + j, none⟩) hbw.out).trans (hro.out j v hv))) hu.out rfl (by rw [hi.out, BV_length, hlo.out]) (hK _ _ hG (Below.refl _ _) rfl (fun h => by cases h))
            · refine stepJ_any rfl fun ac W hAA hG hDD K hK => ?_
              have h48 := hDD.get 0 48 _ rfl rfl (by kernel_rfl)
              have h52 := hDD.get 4 52 _ rfl rfl (by kernel_rfl)
              rw [if_pos (by rfl)]
              simp only [Array.getD_eq_getD_getElem?] at h48 h52
              refine wp_call (f := 48) (args := #[.agg (BV d).toArray, .agg (BV o).toArray]) (by simp [execOp, Act.eval, h48, h52, go_sem]) ((rTwo_any d o hld.out hlo.out W).mono fun e W9 he => ?_)
              obtain ⟨u, rfl, ho, hbw9⟩ := he
              exact hK _ _ (hG.trans (hbw9.mono hG.size)) hbw9 ⟨u, rfl, ho.mono hG.size⟩ (fun h => by cases h)
            · refine stepJ_any rfl fun ac W hAA hG hDD K hK => ?_
              obtain ⟨u5, h53, ho5⟩ := hDD.get 5 53 _ rfl rfl (by kernel_rfl)
              rw [if_pos (by rfl)]
              simp only [Array.getD_eq_getD_getElem?] at h53
              exact wp_val (v := u5) (w' := W) (by simp [execOp, Act.eval, h53, go_sem]) (hK _ _ hG (Below.refl _ _) ⟨u5, rfl, ho5⟩ (fun h => by cases h))
          intro fu T w4 hG hF hne hltb
          have e48 : T 48 = .agg (BV d).toArray := hF 0 _ rfl (by omega)
          have e49 : T 49 = .slice (some ⟨b, off, none⟩) p.length cp := hF 1 _ rfl (by omega)
          have e50 : T 50 = .int .i64 (uk : Int) := hF 2 _ rfl (by omega)
          have e51 : T 51 = .pointer (some ⟨b, off + uk * 32, none⟩) := hF 3 _ rfl (by omega)
          have e52 : T 52 = .agg (BV o).toArray := hF 4 _ rfl (by omega)
          obtain ⟨u5, e53, hou5⟩ := hF 5 _ rfl (by omega)
          replace e53 : T 53 = _ := e53
          obtain ⟨u6, e10, hou6⟩ := hF 6 _ rfl (by omega)
          replace e10 : T 10 = _ := e10
          clear hF hne hltb
          simp only [List.take, fillT, List.setIfInBounds_toArray, List.set_cons_zero, List.set_cons_succ, e48, e49, e50, e51, e52, e53, e10]
          clear e48 e49 e50 e51 e52 e53 e10
          refine wpAny_done (by kernel_rfl) ?_ _
          replace hO := Lib.hid (hO.out.below hG)
          replace hOT := Lib.hid (hOT.out.step hG)
          replace hB := Lib.hid (hB.out.trans (hG.mono hB.out.size))
          have hot := Lib.hid (OB.mono hou6 hV3s.out)
          obtain ⟨a6, c6, rfl, -⟩ := hou6.form
          clear hG hou5 hou6
          have hS := Lib.hid (rsum_own hot.out (by rw [nodeM_len hld.out hlo.out]; omega) (by rw [nodeM_len hld.out hlo.out]; omega))
          go_wp2_with fail
          refine hS.out.mono ?_
          rintro e w5 ⟨rfl, hb5⟩
          clear hS
          replace hO := Lib.hid (hO.out.below hb5)
          replace hOT := Lib.hid (hOT.out.step hb5)
          replace hot := Lib.hid (hot.out.below hb5)
          replace hB := Lib.hid (hB.out.trans (hb5.mono hB.out.size))
          clear hb5
          have hclk : clM n ix leaf p (k + 1) = sha (nodeM d o) := by rw [clM, if_neg (by rw [hL]; simp), hdk.out, hok.out]; unfold stepM; rw [show oth (rowI ix k) = rowI ix k + 1 by unfold oth; rw [if_pos hpar.out], if_neg (by omega)]
          have hwt : wtM n ix leaf p (k + 1) = (nodeM d o) := by rw [wtM, if_neg (by rw [hL]; simp), hdk.out, hok.out]; unfold stepM; rw [show oth (rowI ix k) = rowI ix k + 1 by unfold oth; rw [if_pos hpar.out], if_neg (by omega)]
          have hb6 := bel1 w5 (.cells (BV (sha (nodeM d o))).toArray 30)
          have hO6 := hO.out.below hb6
          have hB6 := hB.out.trans (hb6.mono hB.out.size)
          have hOT6 := hOT.out.step hb6
          obtain ⟨a7, c7, W7, hr7, hO7, hg7, -⟩ := hO6.app 25 w5.heap.size (sha (nodeM d o)) (heap_alloc_new w5 _) (sha_length (nodeM d o)) (by rw [wdM_len]; omega) hB6.size
          have hB7 := hB6.trans (hO6.app_below hg7 hB6.size)
          have hl7 : (wdM n ix leaf p k ++ [(sha (nodeM d o))]).length = k + 1 + 1 := by rw [List.length_append, wdM_len]; rfl
          rw [hl7] at hr7 hO7
          rw [← hclk, ← wdM_succ] at hO7
          have hOT7 := hOT6.keeps hO6 (by decide) (by decide) hg7
          have hot7 : OB W7 w.heap.size _ _ := owns_keeps (hot.out.below hb6) hO6 (by decide) hg7
          have hcells := one_cells (sha_length (nodeM d o))
          have hsz := DV_size (sha_length (nodeM d o))
          have hb8 := bel1 W7 (.cells #[.slice a6 (nodeM d o).length c6] 34)
          have hOT8 := hOT7.step hb8
          obtain ⟨v9, W9, hr9, hOT9, hg9⟩ := hOT8.app 22 W7.heap.size _ (nodeM d o) _ (heap_alloc_new W7 (.cells #[.slice a6 (nodeM d o).length c6] 34)) ((hot7.below hb8)) (by rw [wtL_len]; omega) (by have := hB7.size; simp; omega)
          rw [← hwt, ← wtL_succ] at hOT9
          obtain ⟨a9, c9, rfl⟩ : ∃ a c, v9 = .slice a (k + 1 + 1) c := by
            obtain ⟨xs, h1, -⟩ := hOT9
            rw [wtL_len] at h1
            rcases h1.2 with ⟨h2, h3⟩ | ⟨g2, cap, cur, h2, -⟩
            · omega
            · exact ⟨_, cap, h2⟩
          obtain ⟨xs8, hrow8, -⟩ := hOT8
          have hO9 : OD W9 w.heap.size _ _ := owns_keeps (hO7.below hb8) hrow8 (by decide) hg9
          have hB9 := hB7.trans ((bel1 W7 (.cells #[.slice a6 (nodeM d o).length c6] 34)).mono hB7.size)
          have hB10 := hB9.trans (((Below.refl w.heap.size _).grown hg9 hB9.size (fun q e => (World.ownsRow.lt hrow8 q e).1)))
          have hfin := Lib.hid (And.intro hO9 (And.intro hOT9 hB10))
          replace hr7 := Lib.hid hr7
          replace hr9 := Lib.hid hr9
          clear hb6 hO6 hB6 hOT6 hO7 hg7 hB7 hl7 hOT7 hb8 hrow8 hO9 hOT9 hg9 hB9 hB10 hclk hwt hot7
          go_wp2_with (first
            | (at_builtin; refine Lib.wpList_append_run _ rfl _ _ _ _ rfl _ _ rfl rfl _ _ hr7.out ?_)
            | (at_builtin; refine Lib.wpList_append_run _ rfl _ _ _ _ rfl _ _ rfl rfl _ _ hr9.out ?_))
          go_roundw
          case rel => exact ⟨k + 1, hk1, congrArg (Value.int .i64) (by rw [hN1]; omega), congrArg (Value.int .i64) (by rw [hI1]; omega), ⟨_, _, rfl⟩, ⟨_, _, rfl⟩, congrArg (Value.int .i64) (by rw [hU1]; omega), hfin.out⟩
          case measure => simp only [intOf]; omega
    · obtain rfl : k = rows n := by omega
      have hend := rowN_end n
      have hd1 : decide ((1 : Int) < (rowN n (rows n) : Int)) = false := by simp; omega
      go_wp2_with fail
      go_ret2
      exact ⟨⟨_, _, rfl, hO.out, hOT.out⟩, hB.out⟩
end
section
open Go.RowKit

set_option maxRecDepth 100000 in
set_option maxHeartbeats 2000000 in
theorem rLength_any (N I : Nat) (hn : N ≤ 65536) (hIN : I < N) (w : World) :
    Calls Tryd.prog 33 #[.int .i64 (N : Int), .int .i64 (I : Int)] w fun e w' => e = .returned (.int .i64 (pathN N I : Int)) ∧ Below w.heap.size w w' := by
  have hB := Below.refl w.heap.size w
  go_enter Tryd.func33, Tryd.ntmps33
  go_wp2_with fail
  go_loopw [0, 1, 5] (fun y z x wr => ∃ k : Nat, k ≤ rows N ∧ x = .int .i64 (used N I k : Int) ∧ y = .int .i64 (rowN N k : Int) ∧ z = .int .i64 (rowI I k : Int) ∧ wr = w) (fun y _ _ _ => (intOf y).toNat)
  case atStart => exact ⟨0, Nat.zero_le _, rfl, rfl, rfl, rfl⟩
  case round =>
    obtain ⟨k, hk, rfl, rfl, rfl, rfl⟩ := hrel
    have hlt := rowI_lt hIN k
    have hle := rowN_le N k
    have hul := used_le N I k
    have hr16 := rows_16 hn
    by_cases hlt2 : k < rows N
    · have hgt := rowN_gt k _ hlt2
      have hN1 : rowN N (k + 1) = rowN N k - rowN N k / 2 := by rw [rowN]
      have hI1 : rowI I (k + 1) = rowI I k / 2 := by rw [rowI]
      have hU1 : used N I (k + 1) = if lone N I k = true then used N I k else used N I k + 1 := by rw [used]
      have hlo := lone_at (k := k) hIN
      have hk1 : k + 1 ≤ rows N := hlt2
      generalize rowN N k = m at *
      generalize rowI I k = j at *
      generalize used N I k = u at *
      have hd1 : decide ((1 : Int) < (m : Int)) = true := by simp; omega
      have hw1 : IntKind.i64.wrap ((j : Int) + 1) = (j : Int) + 1 := IntWalk.i64_in _ (by omega)
      have hw2 : IntKind.i64.wrap ((m : Int) + 1) = (m : Int) + 1 := IntWalk.i64_in _ (by omega)
      have hw3 : IntKind.i64.wrap ((u : Int) + 1) = (u : Int) + 1 := IntWalk.i64_in _ (by omega)
      by_cases hlone : lone N I k = true
      · obtain ⟨o1, o2⟩ := hlo.1 hlone
        rw [if_pos hlone] at hU1
        have c1 : ((j : Int) % 2 == 1) = false := beq_eq_false_iff_ne.2 (by omega)
        have c2 : decide ((j : Int) + 1 < (m : Int)) = false := decide_eq_false (by omega)
        clear o1 o2
        go_wp2_with fail
        go_roundw
        case rel => exact ⟨k + 1, hk1, by rw [hU1], congrArg (Value.int .i64) (by rw [hN1]; omega), congrArg (Value.int .i64) (by rw [hI1]; omega), by first | rfl | trivial⟩
        case measure => simp only [intOf]; omega
      · rw [if_neg hlone] at hU1
        have c1 : ((j : Int) % 2 == 1 || decide ((j : Int) + 1 < (m : Int))) = true := by
          by_cases h : (j : Int) % 2 = 1
          · simp [h]
          · have : (j : Int) + 1 < (m : Int) := by
              by_cases h2 : (j : Int) + 1 < (m : Int)
              · exact h2
              · exact absurd (hlo.2 (by omega)) hlone
            simp [this]
        go_wp2_with fail
        all_goals
          go_roundw
          case rel => exact ⟨k + 1, hk1, congrArg (Value.int .i64) (by rw [hU1]; omega), congrArg (Value.int .i64) (by rw [hN1]; omega), congrArg (Value.int .i64) (by rw [hI1]; omega), by first | rfl | trivial⟩
          case measure => simp only [intOf]; omega
    · obtain rfl : k = rows N := by omega
      have hend := rowN_end N
      have hd1 : decide ((1 : Int) < (rowN N (rows N) : Int)) = false := by simp; omega
      have hpn : used N I (rows N) = pathN N I := rfl
      rw [hpn]
      go_wp2_with fail
      go_ret
      exact ⟨rfl, hB⟩
end
section
open Go.RowKit

set_option maxRecDepth 100000 in
set_option maxHeartbeats 2000000 in
theorem rClimb_any (n i : Int) (leaf : List UInt8) (hl : leaf.length ≤ 800000) (p : List (List UInt8)) (w : World) (A Ap : Option Addr) (c cp : Nat) (hr : RBs w w.heap.size A leaf) (hA : A = none → leaf = []) (hR : RD w w.heap.size p Ap cp) :
    Calls Tryd.prog 18 #[.int .i64 n, .int .i64 i, .slice A leaf.length c, .slice Ap p.length cp] w fun e w' => e = .returned (.tuple #[.agg (BV (climbP n i leaf p).1).toArray, .int .i64 (climbP n i leaf p).2]) ∧ Below w.heap.size w w' := by
  have hu : Tryd.prog.underlying 30 = some (.array 32 5) := by kernel_rfl
  have hi : (Tryd.prog.info? 30).map (·.size) = some 32 := by kernel_rfl
  have hb := bel1 w (.cells #[.int .u8 0, .int .u8 0, .int .u8 0, .int .u8 0, .int .u8 0, .int .u8 0, .int .u8 0, .int .u8 0, .int .u8 0, .int .u8 0, .int .u8 0, .int .u8 0, .int .u8 0, .int .u8 0, .int .u8 0, .int .u8 0, .int .u8 0, .int .u8 0, .int .u8 0, .int .u8 0, .int .u8 0, .int .u8 0, .int .u8 0, .int .u8 0, .int .u8 0, .int .u8 0, .int .u8 0, .int .u8 0, .int .u8 0, .int .u8 0, .int .u8 0, .int .u8 0] 30)
  have hz := zero_new w
  have hs0 := Lib.hid (DV_size (show zeroD.length = 32 from rfl))
  by_cases hg : n ≤ 65536 ∧ 0 ≤ i ∧ i < n
  case neg =>
    have hv : climbP n i leaf p = (zeroD, 1) := by unfold climbP; rw [if_pos (by rw [Bool.eq_false_iff]; intro h; exact hg (isPl_iff.1 h))]
    rw [hv]
    have hbad : (decide ((65536 : Int) < n) || decide (i < 0) || decide (n ≤ i)) = true := by simp; omega
    clear hr hA hR hv
    obtain ⟨V, hV⟩ : ∃ V, w.alloc (.cells #[.int .u8 0, .int .u8 0, .int .u8 0, .int .u8 0, .int .u8 0, .int .u8 0, .int .u8 0, .int .u8 0, .int .u8 0, .int .u8 0, .int .u8 0, .int .u8 0, .int .u8 0, .int .u8 0, .int .u8 0, .int .u8 0, .int .u8 0, .int .u8 0, .int .u8 0, .int .u8 0, .int .u8 0, .int .u8 0, .int .u8 0, .int .u8 0, .int .u8 0, .int .u8 0, .int .u8 0, .int .u8 0, .int .u8 0, .int .u8 0, .int .u8 0, .int .u8 0] 30) = V := ⟨_, rfl⟩
    rw [hV] at hb hz
    replace hV := Lib.hid hV
    replace hb := Lib.hid hb
    go_enter Tryd.func18, Tryd.ntmps18
    go_upto_region 1 with fail
    rw [hV.out]
    go_wp2_with (refine wpList_store_row rfl 30 _ _ rfl w.heap.size (BV zeroD).toArray rfl rfl 30 _ hz ?cj ?cl ?ck ?_
                 case cj => rw [hi, hs0.out]
                 case cl => rw [hs0.out]
                 case ck => exact BV_all _)
    all_goals
      have hrow := setRow_heap V w.heap.size _ (BV zeroD).toArray _ _ hz
      exact bodyPost_ret (results_row_tmp rfl _ _ w.heap.size 30 _ (0, 0) _ rfl hrow hu rfl (by rw [hi, hs0.out])) rfl ⟨rfl, below_row hb.out _ (Nat.le_refl _) hb.out.size⟩
  obtain ⟨g1, g2, g3⟩ := hg
  obtain ⟨N, rfl⟩ : ∃ N : Nat, n = N := ⟨n.toNat, by omega⟩
  obtain ⟨I, rfl⟩ : ∃ I : Nat, i = I := ⟨i.toNat, by omega⟩
  have hIN : I < N := by omega
  have q1 : decide ((65536 : Int) < (N : Int)) = false := decide_eq_false (by omega)
  have q2 : decide ((I : Int) < 0) = false := decide_eq_false (by omega)
  have q3 : decide ((N : Int) ≤ (I : Int)) = false := decide_eq_false (by omega)
  have q4 : decide (N ≤ I) = false := decide_eq_false (by omega)
  have hpl1 : isPl (N : Int) (I : Int) = true := isPl_iff.2 (by omega)
  obtain ⟨V, hV⟩ : ∃ V, w.alloc (.cells #[.int .u8 0, .int .u8 0, .int .u8 0, .int .u8 0, .int .u8 0, .int .u8 0, .int .u8 0, .int .u8 0, .int .u8 0, .int .u8 0, .int .u8 0, .int .u8 0, .int .u8 0, .int .u8 0, .int .u8 0, .int .u8 0, .int .u8 0, .int .u8 0, .int .u8 0, .int .u8 0, .int .u8 0, .int .u8 0, .int .u8 0, .int .u8 0, .int .u8 0, .int .u8 0, .int .u8 0, .int .u8 0, .int .u8 0, .int .u8 0, .int .u8 0, .int .u8 0] 30) = V := ⟨_, rfl⟩
  rw [hV] at hb hz
  replace hV := Lib.hid hV
  have hLn := Lib.hid (rLength_any N I (by omega) hIN V)
  have hrV := Lib.hid (hr.lift hb hb.size)
  have hRV := Lib.hid (hR.under hb hb.size)
  replace hA := Lib.hid hA
  replace hb := Lib.hid hb
  replace hz := Lib.hid hz
  clear hr hR
  by_cases hpp : p.length = pathN N I
  case neg =>
    have hv : climbP N I leaf p = (zeroD, 70) := by unfold climbP; rw [if_neg (by rw [hpl1]; decide), if_pos (by simpa using hpp)]
    rw [hv]
    have hne : ((p.length : Int) != (pathN N I : Int)) = true := by simp only [bne_iff_ne, ne_eq]; omega
    clear hv hpp hpl1
    go_enter Tryd.func18, Tryd.ntmps18
    go_wp2_with fail
    rw [hV.out]
    refine hLn.out.mono ?_
    rintro e w2 ⟨rfl, hb2⟩
    have hz2 : w2.heap[w.heap.size]? = some (.cells (BV zeroD).toArray 30 (0, 0)) := blk_at hz.out hb2
    have hB2 := Lib.hid (hb.out.trans (hb2.mono hb.out.size))
    clear hLn hb2
    go_wp2_with (refine wpList_store_row rfl 30 _ _ rfl w.heap.size (BV zeroD).toArray rfl rfl 30 _ hz2 ?cj ?cl ?ck ?_
                 case cj => rw [hi, hs0.out]
                 case cl => rw [hs0.out]
                 case ck => exact BV_all _)
    have hrow := setRow_heap w2 w.heap.size _ (BV zeroD).toArray _ _ hz2
    exact bodyPost_ret (results_row_tmp rfl _ _ w.heap.size 30 _ (0, 0) _ rfl hrow hu rfl (by rw [hi, hs0.out])) rfl ⟨rfl, below_row hB2.out _ (Nat.le_refl _) hB2.out.size⟩
  have hv : climbP N I leaf p = (clM N I leaf p (rows N), 0) := by unfold climbP; rw [if_neg (by rw [hpl1]; decide), if_neg (by simpa using hpp)]; rfl
  have hvH := Lib.hid hv
  have hne : ((p.length : Int) != (pathN N I : Int)) = false := by simp only [bne_eq_false_iff_eq]; omega
  have hWy : Hid (∀ W, Below V.heap.size V W → Calls Tryd.prog 34 #[.int .i64 (N : Int), .int .i64 (I : Int), .slice A leaf.length c, .slice Ap p.length cp] W fun e w' => (∃ v1 v2, e = .returned (.tuple #[v1, v2]) ∧ OD w' W.heap.size v1 (wdM N I leaf p (rows N)) ∧ OT w' W.heap.size v2 (wtL N I leaf p (rows N))) ∧ Below W.heap.size W w') := Lib.hid fun W hW =>
    rWay_any N I (by omega) hIN leaf hl p hpp W A Ap c cp (hrV.out.lift hW hW.size) hA.out (hRV.out.under hW hW.size)
  have hr16 := rows_16 (show N ≤ 65536 by omega)
  clear hv hpp hpl1
  go_enter Tryd.func18, Tryd.ntmps18
  go_wp2_with fail
  rw [hV.out]
  refine hLn.out.mono ?_
  rintro e w2 ⟨rfl, hb2⟩
  replace hWy := Lib.hid (hWy.out w2 hb2)
  have hz2 := Lib.hid (blk_at hz.out hb2)
  have hB2 := Lib.hid (hb.out.trans (hb2.mono hb.out.size))
  clear hLn hb2 hz hb
  go_wp2_with fail
  refine hWy.out.mono ?_
  rintro e w3 ⟨⟨v1, v2, rfl, ho1, -⟩, hb3⟩
  obtain ⟨a1, c1, e1, hR1⟩ := ho1.reads (wdM_32 N I leaf p (rows N))
  rw [wdM_len] at e1
  subst e1
  obtain ⟨b, off, rfl, -, hrg⟩ := hR1.at_ (i := rows N) (by rw [wdM_len]; omega)
  rw [wdM_get (Nat.le_refl _)] at hrg
  have hld := clM_len N I leaf p (rows N)
  have hz3 : w3.heap[w.heap.size]? = some (.cells (BV zeroD).toArray 30 (0, 0)) := blk_at hz2.out hb3
  have hB3 := Lib.hid (hB2.out.trans (hb3.mono hB2.out.size))
  generalize clM N I leaf p (rows N) = d at hrg hld hvH
  generalize rows N = k at hrg hr16 ⊢
  have hsd := Lib.hid (DV_size hld)
  replace hrg := Lib.hid hrg
  have hw0 : IntKind.i64.wrap ((k : Int) + 1 - 1) = (k : Int) := by rw [IntWalk.i64_in _ (by omega)]; omega
  have hw0' : IntKind.i64.wrap (k : Int) = (k : Int) := IntWalk.i64_in _ (by omega)
  have hkk : k < k + 1 := Nat.lt_succ_self k
  clear hWy hb3 ho1 hR1 hB2 hz2
  go_wp2_with (first
    | (refine wpList_load_mid rfl 30 _ rfl b (off + k * 32) rfl _ _ hrg.out hu rfl ?ca ?_; case ca => rw [hi, BV_length, hld])
    | (refine wpList_store_row rfl 30 _ _ rfl w.heap.size _ rfl rfl 30 _ hz3 ?cj ?cl ?ck ?_
       case cj => rw [hi, hsd.out]
       case cl => rw [hsd.out]; rfl
       case ck => exact BV_all _))
  have hrow := setRow_heap w3 w.heap.size _ (BV d).toArray _ _ hz3
  exact bodyPost_ret (results_row_tmp rfl _ _ w.heap.size 30 _ (0, 0) _ rfl hrow hu rfl (by rw [hi, hsd.out])) rfl ⟨by rw [hvH.out]; rfl, below_row hB3.out _ (Nat.le_refl _) hB3.out.size⟩
end
section
open Go.RowKit

theorem wtL_get {n i : Nat} {leaf : List UInt8} {p : List (List UInt8)} {k j : Nat} (h : j ≤ k) : (wtL n i leaf p k)[j]'(by rw [wtL_len]; omega) = wtM n i leaf p j := by simp [wtL]
theorem OD.all {W : World} {B : Nat} {v : Value} {l : List (List UInt8)} (h : OD W B v l) (h32 : ∀ d ∈ l, d.length = 32) (hp : 0 < l.length) :
    ∃ g o cap, v = .slice (some ⟨g, o, none⟩) l.length cap ∧ g < W.heap.size ∧ ∀ k (hk : k < l.length), W.rangeAt g (o + k * 32) (BV l[k]) := by
  obtain ⟨a, cap, rfl, h1, h2, h3, h4, b, off, h5, h6⟩ := h.reads h32
  obtain ⟨rfl, hb⟩ := h5 hp
  exact ⟨b, off, cap, rfl, hb, h6⟩
theorem OT.all {W : World} {B : Nat} {v : Value} {ts : List (List UInt8)} (h : OT W B v ts) (hp : 0 < ts.length) :
    ∃ g o cap, v = .slice (some ⟨g, o, none⟩) ts.length cap ∧ g < W.heap.size ∧ ∀ k (hk : k < ts.length), ∃ a c, W.cell? ⟨g, o + k, none⟩ = some (.slice a ts[k].length c) ∧ OB W B (.slice a ts[k].length c) ts[k] := by
  obtain ⟨xs, h1, h2⟩ := h
  obtain ⟨g, cap, e, -, hlt⟩ := World.ownsRow.form h1 hp
  refine ⟨g, 0, cap, e, hlt, fun k hk => ?_⟩
  obtain ⟨a, c, h3, h4⟩ := h2 k hk
  have h5 := World.ownsRow.cells h1 (by rw [e]; rfl) k _ h3
  rw [add_none] at h5
  exact ⟨a, c, h5, h4⟩

set_option maxRecDepth 100000 in
set_option maxHeartbeats 4000000 in
theorem rCollide_no (n i : Int) (a b : List UInt8) (hla : a.length ≤ 800000) (hlb : b.length ≤ 800000) (p q : List (List UInt8)) (w : World) (A B Ap Bq : Option Addr) (ca cb cp cq : Nat) (hra : RBs w w.heap.size A a) (hna : A = none → a = []) (hrb : RBs w w.heap.size B b) (hnb : B = none → b = []) (hRp : RD w w.heap.size p Ap cp) (hRq : RD w w.heap.size q Bq cq)
    (hno : (climbP n i a p).2 ≠ 0 ∨ (climbP n i b q).2 ≠ 0 ∨ (climbP n i a p).1 ≠ (climbP n i b q).1 ∨ a = b) :
    Calls Tryd.prog 20 #[.int .i64 n, .int .i64 i, .slice A a.length ca, .slice B b.length cb, .slice Ap p.length cp, .slice Bq q.length cq] w fun e w' => e = .returned (.tuple #[.slice none 0 0, .slice none 0 0, .bool false]) ∧ Below w.heap.size w w' := by
  have hu : Tryd.prog.underlying 30 = some (.array 32 5) := by kernel_rfl
  have hi : (Tryd.prog.info? 30).map (·.size) = some 32 := by kernel_rfl
  obtain ⟨d1, e1, h1⟩ : ∃ d e, climbP n i a p = (d, e) := ⟨_, _, rfl⟩
  obtain ⟨d2, e2, h2⟩ : ∃ d e, climbP n i b q = (d, e) := ⟨_, _, rfl⟩
  have l1 : d1.length = 32 := by have := climbP_len n i a p; rw [h1] at this; exact this
  have l2 : d2.length = 32 := by have := climbP_len n i b q; rw [h2] at this; exact this
  have hsw1 := Lib.hid (DV_size l1)
  have hsw2 := Lib.hid (DV_size l2)
  have hC1 := rClimb_any n i a hla p w A Ap ca cp hra hna hRp
  rw [h1] at hC1
  replace hC1 := Lib.hid hC1
  have hrbH := Lib.hid hrb
  have hRqH := Lib.hid hRq
  have hraH := Lib.hid hra
  rw [h1, h2] at hno
  replace hno := Lib.hid hno
  clear hra hRp hrb hRq h1
  go_enter Tryd.func20, Tryd.ntmps20
  go_wp2_with fail
  refine hC1.out.mono ?_
  rintro e w1 ⟨rfl, hb1⟩
  clear hC1
  go_wp2_with (refine wpList_store_row rfl 30 _ _ rfl w1.heap.size _ rfl rfl 30 _ (heap_alloc_last w1 _) ?cj ?cl ?ck ?_
               case cj => rw [hi, hsw1.out]
               case cl => rw [hsw1.out]; rfl
               case ck => exact BV_all _
               rw [World.setRow_alloc_new])
  have hB1 := hb1.trans ((bel1 w1 (.cells (BV d1).toArray 30)).mono hb1.size)
  have kd1 : DB (w1.alloc (.cells (BV d1).toArray 30)) w1.heap.size 30 d1 := heap_alloc_new w1 _
  have s1 : (w1.alloc (.cells (BV d1).toArray 30)).heap.size = w1.heap.size + 1 := by simp
  generalize w1.alloc (.cells (BV d1).toArray 30) = V1 at hB1 kd1 s1 ⊢
  have hC2 := rClimb_any n i b hlb q V1 B Bq cb cq (hrbH.out.lift hB1 hB1.size) hnb (hRqH.out.under hB1 hB1.size)
  rw [h2] at hC2
  replace hC2 := Lib.hid hC2
  clear h2 hb1
  refine hC2.out.mono ?_
  rintro e w2 ⟨rfl, hb2⟩
  clear hC2
  go_upto_region 3 with (refine wpList_store_row rfl 30 _ _ rfl w2.heap.size _ rfl rfl 30 _ (heap_alloc_last w2 _) ?cj ?cl ?ck ?_
                         case cj => rw [hi, hsw2.out]
                         case cl => rw [hsw2.out]; rfl
                         case ck => exact BV_all _
                         rw [World.setRow_alloc_new])
  have kd1 := blk_at (blk_at kd1 hb2) (bel1 w2 (.cells (BV d2).toArray 30))
  have hB2 := hB1.trans (hb2.mono hB1.size)
  have hB := Lib.hid (hB2.trans ((bel1 w2 (.cells (BV d2).toArray 30)).mono hB2.size))
  have kd2 := heap_alloc_new w2 (.cells (BV d2).toArray 30)
  generalize w2.alloc (.cells (BV d2).toArray 30) = V2 at hB kd1 kd2 ⊢
  clear hB1 hB2 hb2
  replace hB := Lib.hid hB.out
  by_cases c1 : e1 = 0
  case neg =>
    have g1 : (e1 != 0) = true := by simpa using c1
    clear hno kd1 kd2 c1
    go_wp2_with fail
    go_ret3
    exact ⟨rfl, hB.out⟩
  case pos =>
    subst c1
    by_cases c2 : e2 = 0
    case neg =>
      have g2 : (e2 != 0) = true := by simpa using c2
      clear hno kd1 kd2 c2
      go_wp2_with fail
      go_ret3
      exact ⟨rfl, hB.out⟩
    case pos =>
      subst c2
      have eq := fun W => eq_digest d1 d2 l1 l2 W
      by_cases c3 : d1 = d2
      case neg =>
        have g3 : (d1 == d2) = false := beq_eq_false_iff_ne.2 c3
        have g4 : (d1 != d2) = true := by simpa using c3
        clear hno c3
        go_wp2_with (first
          | (refine wpList_load_guarded (by rfl) 30 _ (by rfl) w1.heap.size (by rfl) 30 _ (0, 0) _ kd1 hu rfl (by rw [hi, hsw1.out]) ?_)
          | (refine wpList_load_guarded (by rfl) 30 _ (by rfl) w2.heap.size (by rfl) 30 _ (0, 0) _ kd2 hu rfl (by rw [hi, hsw2.out]) ?_))
        go_ret3
        exact ⟨rfl, hB.out⟩
      case pos =>
        have g3 : (d1 == d2) = true := beq_iff_eq.2 c3
        have g4 : (d1 != d2) = false := by simpa using c3
        have hab : a = b := by
          rcases hno.out with h | h | h | h
          · exact absurd rfl h
          · exact absurd rfl h
          · exact absurd c3 h
          · exact h
        have cv1 := conv_str (c := ca) (hraH.out.lift hB.out hB.out.size)
        have cv2 := conv_str (c := cb) (hrbH.out.lift hB.out hB.out.size)
        subst hab
        clear hno c3
        go_wp2_with (first
          | (refine wpList_load_guarded (by rfl) 30 _ (by rfl) w1.heap.size (by rfl) 30 _ (0, 0) _ kd1 hu rfl (by rw [hi, hsw1.out]) ?_)
          | (refine wpList_load_guarded (by rfl) 30 _ (by rfl) w2.heap.size (by rfl) 30 _ (0, 0) _ kd2 hu rfl (by rw [hi, hsw2.out]) ?_))
        go_ret3
        exact ⟨rfl, hB.out⟩

set_option maxRecDepth 100000 in
set_option maxHeartbeats 4000000 in
theorem rCollide_yes (n ix : Nat) (hn : n ≤ 65536) (hi0 : ix < n) (a b : List UInt8) (hla : a.length ≤ 800000) (hlb : b.length ≤ 800000) (p q : List (List UInt8)) (hpl : p.length = pathN n ix) (hql : q.length = pathN n ix) (w : World) (A B Ap Bq : Option Addr) (ca cb cp cq : Nat) (hra : RBs w w.heap.size A a) (hna : A = none → a = []) (hrb : RBs w w.heap.size B b) (hnb : B = none → b = []) (hRp : RD w w.heap.size p Ap cp) (hRq : RD w w.heap.size q Bq cq)
    (hab : a ≠ b) (hdd : clM n ix a p (rows n) = clM n ix b q (rows n)) :
    Calls Tryd.prog 20 #[.int .i64 (n : Int), .int .i64 (ix : Int), .slice A a.length ca, .slice B b.length cb, .slice Ap p.length cp, .slice Bq q.length cq] w fun e w' => (∃ v1 v2 K, e = .returned (.tuple #[v1, v2, .bool true]) ∧ OB w' w.heap.size v1 (txM n ix a p K) ∧ OB w' w.heap.size v2 (txM n ix b q K) ∧ (∀ j, j < K → clM n ix a p j ≠ clM n ix b q j) ∧ clM n ix a p K = clM n ix b q K) ∧ Below w.heap.size w w' := by
  have hu : Tryd.prog.underlying 30 = some (.array 32 5) := by kernel_rfl
  have hi : (Tryd.prog.info? 30).map (·.size) = some 32 := by kernel_rfl
  have h1 := climbP_ok n ix hn hi0 a p hpl
  have h2 := climbP_ok n ix hn hi0 b q hql
  have l1 := clM_len n ix a p (rows n)
  have l2 := clM_len n ix b q (rows n)
  have hWx : Hid (∀ W, Below w.heap.size w W → Calls Tryd.prog 34 #[.int .i64 (n : Int), .int .i64 (ix : Int), .slice A a.length ca, .slice Ap p.length cp] W fun e w' => (∃ v1 v2, e = .returned (.tuple #[v1, v2]) ∧ OD w' W.heap.size v1 (wdM n ix a p (rows n)) ∧ OT w' W.heap.size v2 (wtL n ix a p (rows n))) ∧ Below W.heap.size W w') := Lib.hid fun W hW =>
    rWay_any n ix hn hi0 a hla p hpl W A Ap ca cp (hra.lift hW hW.size) hna (hRp.under hW hW.size)
  have hWy : Hid (∀ W, Below w.heap.size w W → Calls Tryd.prog 34 #[.int .i64 (n : Int), .int .i64 (ix : Int), .slice B b.length cb, .slice Bq q.length cq] W fun e w' => (∃ v1 v2, e = .returned (.tuple #[v1, v2]) ∧ OD w' W.heap.size v1 (wdM n ix b q (rows n)) ∧ OT w' W.heap.size v2 (wtL n ix b q (rows n))) ∧ Below W.heap.size W w') := Lib.hid fun W hW =>
    rWay_any n ix hn hi0 b hlb q hql W B Bq cb cq (hrb.lift hW hW.size) hnb (hRq.under hW hW.size)
  have hmt := Lib.hid hdd
  have hTX : Hid (∀ K, (∀ j, j < K → clM n ix a p j ≠ clM n ix b q j) → clM n ix a p K = clM n ix b q K → wtM n ix a p K = txM n ix a p K ∧ wtM n ix b q K = txM n ix b q K) := Lib.hid fun K hne he => wtM_tx n ix a b p q hne he
  have hR16 := rows_16 (show n ≤ 65536 by omega)
  generalize clM n ix a p (rows n) = d1 at h1 l1 hdd
  generalize clM n ix b q (rows n) = d2 at h2 l2 hdd
  have hd' := Lib.hid hdd
  have hab' := Lib.hid hab
  clear hpl hql hdd hab
  have hsw1 := Lib.hid (DV_size l1)
  have hsw2 := Lib.hid (DV_size l2)
  have hC1 := rClimb_any (n : Int) (ix : Int) a hla p w A Ap ca cp hra hna hRp
  rw [h1] at hC1
  replace hC1 := Lib.hid hC1
  have hrbH := Lib.hid hrb
  have hRqH := Lib.hid hRq
  have hraH := Lib.hid hra
  replace hRp := Lib.hid hRp
  clear hra hrb hRq h1
  go_enter Tryd.func20, Tryd.ntmps20
  go_wp2_with fail
  refine hC1.out.mono ?_
  rintro e w1 ⟨rfl, hb1⟩
  clear hC1
  go_wp2_with (refine wpList_store_row rfl 30 _ _ rfl w1.heap.size _ rfl rfl 30 _ (heap_alloc_last w1 _) ?cj ?cl ?ck ?_
               case cj => rw [hi, hsw1.out]
               case cl => rw [hsw1.out]; rfl
               case ck => exact BV_all _
               rw [World.setRow_alloc_new])
  have hB1 := hb1.trans ((bel1 w1 (.cells (BV d1).toArray 30)).mono hb1.size)
  have kd1 : DB (w1.alloc (.cells (BV d1).toArray 30)) w1.heap.size 30 d1 := heap_alloc_new w1 _
  have s1 : (w1.alloc (.cells (BV d1).toArray 30)).heap.size = w1.heap.size + 1 := by simp
  generalize w1.alloc (.cells (BV d1).toArray 30) = V1 at hB1 kd1 s1 ⊢
  have hC2 := rClimb_any (n : Int) (ix : Int) b hlb q V1 B Bq cb cq (hrbH.out.lift hB1 hB1.size) hnb (hRqH.out.under hB1 hB1.size)
  rw [h2] at hC2
  replace hC2 := Lib.hid hC2
  clear h2 hb1
  refine hC2.out.mono ?_
  rintro e w2 ⟨rfl, hb2⟩
  clear hC2
  go_upto_region 3 with (refine wpList_store_row rfl 30 _ _ rfl w2.heap.size _ rfl rfl 30 _ (heap_alloc_last w2 _) ?cj ?cl ?ck ?_
                         case cj => rw [hi, hsw2.out]
                         case cl => rw [hsw2.out]; rfl
                         case ck => exact BV_all _
                         rw [World.setRow_alloc_new])
  have kd1 := blk_at (blk_at kd1 hb2) (bel1 w2 (.cells (BV d2).toArray 30))
  have hB2 := hB1.trans (hb2.mono hB1.size)
  have hB := Lib.hid (hB2.trans ((bel1 w2 (.cells (BV d2).toArray 30)).mono hB2.size))
  have kd2 := heap_alloc_new w2 (.cells (BV d2).toArray 30)
  generalize w2.alloc (.cells (BV d2).toArray 30) = V2 at hB kd1 kd2 ⊢
  clear hB1 hB2 hb2
  replace hB := Lib.hid hB.out
  have hdd := hd'.out
  have hab := hab'.out
  have eq := fun W => eq_digest d1 d2 l1 l2 W
  have g3 : (d1 == d2) = true := beq_iff_eq.2 hdd
  have g4 : (d1 != d2) = false := by simpa using hdd
  have g5 : (a == b) = false := beq_eq_false_iff_ne.2 hab
  have cv1 := conv_str (c := ca) (hraH.out.lift hB.out hB.out.size)
  have cv2 := conv_str (c := cb) (hrbH.out.lift hB.out hB.out.size)
  clear hdd hab hd' hab'
  go_wp2_with (first
    | (refine wpList_load_guarded (by rfl) 30 _ (by rfl) w1.heap.size (by rfl) 30 _ (0, 0) _ kd1 hu rfl (by rw [hi, hsw1.out]) ?_)
    | (refine wpList_load_guarded (by rfl) 30 _ (by rfl) w2.heap.size (by rfl) 30 _ (0, 0) _ kd2 hu rfl (by rw [hi, hsw2.out]) ?_))
  clear eq g3 g4 g5 cv1 cv2 kd1 kd2
  refine (hWx.out V2 hB.out).mono ?_
  rintro e w3 ⟨⟨vx, vs, rfl, hox, hos⟩, hb3⟩
  obtain ⟨bx, ox, cx, e1, hbx, hX⟩ := OD.all hox (wdM_32 n ix a p (rows n)) (by rw [wdM_len]; omega)
  obtain ⟨bs, os, cs, e2, hbs, hS⟩ := OT.all hos (by rw [wtL_len]; omega)
  rw [wdM_len] at e1
  rw [wtL_len] at e2
  subst e1 e2
  have hx : Hid (∀ k, k ≤ rows n → w3.rangeAt bx (ox + k * 32) (BV (clM n ix a p k))) := fun k hk => by
    have := hX k (by rw [wdM_len]; omega)
    rwa [wdM_get hk] at this
  have hs : Hid (∀ k, k ≤ rows n → ∃ sa sc, w3.cell? ⟨bs, os + k, none⟩ = some (.slice sa (wtM n ix a p k).length sc) ∧ OB w3 w.heap.size (.slice sa (wtM n ix a p k).length sc) (wtM n ix a p k)) := fun k hk => by
    obtain ⟨sa, sc, h1, h2⟩ := hS k (by rw [wtL_len]; omega)
    rw [wtL_get hk] at h1 h2
    exact ⟨sa, sc, h1, OB.mono h2 hB.out.size⟩
  replace hB := Lib.hid (hB.out.trans (hb3.mono hB.out.size))
  clear hX hS hox hos hb3 hWx
  go_wp2_with fail
  refine (hWy.out w3 hB.out).mono ?_
  rintro e V ⟨⟨vy, vt, rfl, hoy, hot⟩, hb4⟩
  obtain ⟨by_, oy, cy, e1, hby, hY⟩ := OD.all hoy (wdM_32 n ix b q (rows n)) (by rw [wdM_len]; omega)
  obtain ⟨bt, ot, ct, e2, hbt, hT⟩ := OT.all hot (by rw [wtL_len]; omega)
  rw [wdM_len] at e1
  rw [wtL_len] at e2
  subst e1 e2
  have hy : Hid (∀ k, k ≤ rows n → V.rangeAt by_ (oy + k * 32) (BV (clM n ix b q k))) := fun k hk => by
    have := hY k (by rw [wdM_len]; omega)
    rwa [wdM_get hk] at this
  have ht : Hid (∀ k, k ≤ rows n → ∃ sa sc, V.cell? ⟨bt, ot + k, none⟩ = some (.slice sa (wtM n ix b q k).length sc) ∧ OB V w.heap.size (.slice sa (wtM n ix b q k).length sc) (wtM n ix b q k)) := fun k hk => by
    obtain ⟨sa, sc, h1, h2⟩ := hT k (by rw [wtL_len]; omega)
    rw [wtL_get hk] at h1 h2
    exact ⟨sa, sc, h1, OB.mono h2 hB.out.size⟩
  replace hx : Hid (∀ k, k ≤ rows n → V.rangeAt bx (ox + k * 32) (BV (clM n ix a p k))) := Lib.hid fun k hk j v hj => (hb4.cell (p := ⟨bx, ox + k * 32 + j, none⟩) hbx).trans (hx.out k hk j v hj)
  replace hs : Hid (∀ k, k ≤ rows n → ∃ sa sc, V.cell? ⟨bs, os + k, none⟩ = some (.slice sa (wtM n ix a p k).length sc) ∧ OB V w.heap.size (.slice sa (wtM n ix a p k).length sc) (wtM n ix a p k)) := Lib.hid fun k hk => by
    obtain ⟨sa, sc, h1, h2⟩ := hs.out k hk
    exact ⟨sa, sc, (hb4.cell (p := ⟨bs, os + k, none⟩) hbs).trans h1, h2.below hb4⟩
  replace hbx := Lib.hid (Nat.lt_of_lt_of_le hbx hb4.size)
  replace hbs := Lib.hid (Nat.lt_of_lt_of_le hbs hb4.size)
  replace hby := Lib.hid hby
  replace hbt := Lib.hid hbt
  replace hB := Lib.hid (hB.out.trans (hb4.mono hB.out.size))
  have lx : Hid (∀ k, (clM n ix a p k).length = 32) := fun k => clM_len n ix a p k
  have ly : Hid (∀ k, (clM n ix b q k).length = 32) := fun k => clM_len n ix b q k
  clear hY hT hoy hot hb4 hWy hraH hrbH hRqH hRp hna hnb l1 l2 hsw1 hsw2
  generalize hf : clM n ix a p = f at *
  generalize hg : clM n ix b q = g at *
  replace hf := Lib.hid hf
  replace hg := Lib.hid hg
  generalize wtM n ix a p = fs at *
  generalize wtM n ix b q = gs at *
  generalize rows n = R at *
  go_wp2_with fail
  go_loopw [23] (fun i wr => ∃ k : Nat, i = .int .i64 (k : Int) ∧ k ≤ R ∧ Hid (Below V.heap.size V wr) ∧ Hid (∀ j, j < k → f j ≠ g j)) (fun i _ => R - (intOf i).toNat)
  case atStart => exact ⟨0, rfl, by omega, Below.refl _ _, fun j hj => by omega⟩
  case round =>
    obtain ⟨k, rfl, hk, hb, hno⟩ := hrel
    have i0 : (0 : Int) ≤ k := by omega
    have i1 : (k : Int) < (R : Int) + 1 := by omega
    obtain ⟨sa, sc, hc1, ho1⟩ := hs.out k hk
    obtain ⟨ta, tc, hc2, ho2⟩ := ht.out k hk
    have hxk : Hid (∀ W, Below wr.heap.size wr W → W.rangeAt bx (ox + k * 32) (BV (f k))) := fun W hW j v hj => (hW.cell (p := ⟨bx, ox + k * 32 + j, none⟩) (Nat.lt_of_lt_of_le hbx.out hb.out.size)).trans ((hb.out.cell (p := ⟨bx, ox + k * 32 + j, none⟩) hbx.out).trans (hx.out k hk j v hj))
    have hyk : Hid (∀ W, Below wr.heap.size wr W → W.rangeAt by_ (oy + k * 32) (BV (g k))) := fun W hW j v hj => (hW.cell (p := ⟨by_, oy + k * 32 + j, none⟩) (Nat.lt_of_lt_of_le hby.out hb.out.size)).trans ((hb.out.cell (p := ⟨by_, oy + k * 32 + j, none⟩) hby.out).trans (hy.out k hk j v hj))
    have hsk0 : wr.cell? ⟨bs, os + k, none⟩ = some (.slice sa (fs k).length sc) := (hb.out.cell (p := ⟨bs, os + k, none⟩) hbs.out).trans hc1
    have htk0 : wr.cell? ⟨bt, ot + k, none⟩ = some (.slice ta (gs k).length tc) := (hb.out.cell (p := ⟨bt, ot + k, none⟩) hbt.out).trans hc2
    have hsz : bs < wr.heap.size ∧ bt < wr.heap.size := ⟨Nat.lt_of_lt_of_le hbs.out hb.out.size, Nat.lt_of_lt_of_le hbt.out hb.out.size⟩
    replace hsk0 := Lib.hid hsk0
    replace htk0 := Lib.hid htk0
    replace hsz := Lib.hid hsz
    replace ho1 := Lib.hid (ho1.below hb.out)
    replace ho2 := Lib.hid (ho2.below hb.out)
    have lfk := Lib.hid (lx.out k)
    have lgk := Lib.hid (ly.out k)
    have hkH := Lib.hid hk
    clear hc1 hc2 hx hy hs ht hbx hby hbs hbt lx ly
    by_cases hfg : f k = g k
    · have eqk : Hid (∀ W, (Op.equalIn 10000 30 (.agg (BV (f k)).toArray) (.agg (BV (g k)).toArray)).run Tryd.prog W = .ok true W) := Lib.hid (fun W => by
        have h := eq_digest (f k) (g k) lfk.out lgk.out W
        rwa [beq_iff_eq.2 hfg] at h)
      obtain ⟨t1, t2⟩ := hTX.out k hno.out hfg
      rw [t1] at ho1
      rw [t2] at ho2
      have hfgH := Lib.hid hfg
      have ht1 := Lib.hid t1
      have ht2 := Lib.hid t2
      clear hfg t1 t2 hTX hmt hk
      go_upto_region 10 with fail
      refine wp_region_pre 9 0 (fun W => Below wr.heap.size wr W) (fun W W' => Below W.heap.size W W')
        (fun i v W => match i with
          | 0 => v = .slice (some ⟨bx, ox, none⟩) (R + 1) cx
          | 1 => v = .int .i64 (k : Int)
          | 2 => v = .pointer (some ⟨bx, ox + k * 32, none⟩)
          | 3 => v = .agg (BV (f k)).toArray
          | 4 => v = .slice (some ⟨by_, oy, none⟩) (R + 1) cy
          | 5 => v = .int .i64 (k : Int)
          | 6 => v = .pointer (some ⟨by_, oy + k * 32, none⟩)
          | 7 => v = .agg (BV (g k)).toArray
          | 8 => v = .bool true
          | _ => True) (fun _ => false)
        (by kernel_rfl) (by kernel_rfl) (by kernel_rfl) (by kernel_rfl) (by kernel_rfl) (by kernel_rfl) (by kernel_rfl) ?_ (fun _ _ h => h.size) (dN (Below.refl _ _) 1) ?_ ?_
      · intro i v W W' hb hF
        match i, hF with
        | 0, h => exact h
        | 1, h => exact h
        | 2, h => exact h
        | 3, h => exact h
        | 4, h => exact h
        | 5, h => exact h
        | 6, h => exact h
        | 7, h => exact h
        | 8, h => exact h
        | _ + 9, _ => trivial
      · refine ⟨?_, ?_, ?_, ?_, ?_, ?_, ?_, ?_, ?_, trivial⟩
        · refine stepJ_any rfl fun ac W hAA hG hDD K hK => ?_
          have h19 := hAA.getD (t := 19) (by kernel_rfl)
          simp only [Array.getD_eq_getD_getElem?] at h19
          rw [if_pos (by rfl)]
          exact wp_val (v := .slice (some ⟨bx, ox, none⟩) (R + 1) cx) (w' := W) (by simp [execOp, Act.eval, h19, go_sem]) (hK _ _ hG (Below.refl _ _) rfl (fun h => by cases h))
        · refine stepJ_any rfl fun ac W hAA hG hDD K hK => ?_
          have h23 := hAA.getD (t := 23) (by kernel_rfl)
          simp only [Array.getD_eq_getD_getElem?] at h23
          rw [if_pos (by rfl)]
          exact wp_val (v := .int .i64 (k : Int)) (w' := W) (by simp [execOp, Act.eval, h23, go_sem]) (hK _ _ hG (Below.refl _ _) rfl (fun h => by cases h))
        · refine stepJ_any rfl fun ac W hAA hG hDD K hK => ?_
          have h80 := hDD.get 0 80 _ rfl rfl (by kernel_rfl)
          have h81 := hDD.get 1 81 _ rfl rfl (by kernel_rfl)
          simp only [Array.getD_eq_getD_getElem?] at h80 h81
          rw [if_pos (by rfl)]
          exact wp_val (v := .pointer (some ⟨bx, ox + k * 32, none⟩)) (w' := W) (by simp [execOp, Act.eval, h80, h81, go_sem, i0, i1]) (hK _ _ hG (Below.refl _ _) rfl (fun h => by cases h))
        · refine stepJ_any rfl fun ac W hAA hG hDD K hK => ?_
          have h82 := hDD.get 2 82 _ rfl rfl (by kernel_rfl)
          rw [if_pos (by rfl)]
          exact wp_load_mid 30 _ rfl bx (ox + k * 32) h82 (BV (f k)) _ (hxk.out W hG) hu rfl (by rw [hi, BV_length, lfk.out]) (hK _ _ hG (Below.refl _ _) rfl (fun h => by cases h))
        · refine stepJ_any rfl fun ac W hAA hG hDD K hK => ?_
          have h21 := hAA.getD (t := 21) (by kernel_rfl)
          simp only [Array.getD_eq_getD_getElem?] at h21
          rw [if_pos (by rfl)]
          exact wp_val (v := .slice (some ⟨by_, oy, none⟩) (R + 1) cy) (w' := W) (by simp [execOp, Act.eval, h21, go_sem]) (hK _ _ hG (Below.refl _ _) rfl (fun h => by cases h))
        · refine stepJ_any rfl fun ac W hAA hG hDD K hK => ?_
          have h23 := hAA.getD (t := 23) (by kernel_rfl)
          simp only [Array.getD_eq_getD_getElem?] at h23
          rw [if_pos (by rfl)]
          exact wp_val (v := .int .i64 (k : Int)) (w' := W) (by simp [execOp, Act.eval, h23, go_sem]) (hK _ _ hG (Below.refl _ _) rfl (fun h => by cases h))
        · refine stepJ_any rfl fun ac W hAA hG hDD K hK => ?_
          have h84 := hDD.get 4 84 _ rfl rfl (by kernel_rfl)
          have h85 := hDD.get 5 85 _ rfl rfl (by kernel_rfl)
          simp only [Array.getD_eq_getD_getElem?] at h84 h85
          rw [if_pos (by rfl)]
          exact wp_val (v := .pointer (some ⟨by_, oy + k * 32, none⟩)) (w' := W) (by simp [execOp, Act.eval, h84, h85, go_sem, i0, i1]) (hK _ _ hG (Below.refl _ _) rfl (fun h => by cases h))
        · refine stepJ_any rfl fun ac W hAA hG hDD K hK => ?_
          have h86 := hDD.get 6 86 _ rfl rfl (by kernel_rfl)
          rw [if_pos (by rfl)]
          exact wp_load_mid 30 _ rfl by_ (oy + k * 32) h86 (BV (g k)) _ (hyk.out W hG) hu rfl (by rw [hi, BV_length, lgk.out]) (hK _ _ hG (Below.refl _ _) rfl (fun h => by cases h))
        · refine stepJ_any rfl fun ac W hAA hG hDD K hK => ?_
          have h83 := hDD.get 3 83 _ rfl rfl (by kernel_rfl)
          have h87 := hDD.get 7 87 _ rfl rfl (by kernel_rfl)
          simp only [Array.getD_eq_getD_getElem?] at h83 h87
          have eq1 := eqk.out
          rw [if_pos (by rfl)]
          exact wp_val (v := .bool true) (w' := W) (by simp [execOp, Act.eval, h83, h87, go_sem, eq1]) (hK _ _ hG (Below.refl _ _) rfl (fun h => by cases h))
      intro fu T W9 hG hF hne hltb
      have e80 : T 80 = .slice (some ⟨bx, ox, none⟩) (R + 1) cx := hF 0 _ rfl (by omega)
      have e81 : T 81 = .int .i64 (k : Int) := hF 1 _ rfl (by omega)
      have e82 : T 82 = .pointer (some ⟨bx, ox + k * 32, none⟩) := hF 2 _ rfl (by omega)
      have e83 : T 83 = .agg (BV (f k)).toArray := hF 3 _ rfl (by omega)
      have e84 : T 84 = .slice (some ⟨by_, oy, none⟩) (R + 1) cy := hF 4 _ rfl (by omega)
      have e85 : T 85 = .int .i64 (k : Int) := hF 5 _ rfl (by omega)
      have e86 : T 86 = .pointer (some ⟨by_, oy + k * 32, none⟩) := hF 6 _ rfl (by omega)
      have e87 : T 87 = .agg (BV (g k)).toArray := hF 7 _ rfl (by omega)
      have e88 : T 88 = .bool true := hF 8 _ rfl (by omega)
      clear hF hne hltb
      simp only [List.take, fillT, List.setIfInBounds_toArray, List.set_cons_zero, List.set_cons_succ, e80, e81, e82, e83, e84, e85, e86, e87, e88]
      clear e80 e81 e82 e83 e84 e85 e86 e87 e88
      refine wpAny_done (by kernel_rfl) ?_ _
      have hG9 := Lib.hid hG
      have hsk : Hid (∀ W, Below W9.heap.size W9 W → W.cell? ⟨bs, os + k, none⟩ = some (.slice sa (fs k).length sc)) := fun W hW => (hW.cell (p := ⟨bs, os + k, none⟩) (Nat.lt_of_lt_of_le hsz.out.1 hG9.out.size)).trans ((hG9.out.cell (p := ⟨bs, os + k, none⟩) hsz.out.1).trans hsk0.out)
      have htk : Hid (∀ W, Below W9.heap.size W9 W → W.cell? ⟨bt, ot + k, none⟩ = some (.slice ta (gs k).length tc)) := fun W hW => (hW.cell (p := ⟨bt, ot + k, none⟩) (Nat.lt_of_lt_of_le hsz.out.2 hG9.out.size)).trans ((hG9.out.cell (p := ⟨bt, ot + k, none⟩) hsz.out.2).trans htk0.out)
      clear hG hxk hyk hsk0 htk0 hsz eqk lfk lgk
      go_upto_region 11 with fail
      refine wp_region_pre 11 0 (fun W => Below W9.heap.size W9 W) (fun W W' => Below W.heap.size W W')
        (fun i v W => match i with
          | 0 => v = .slice (some ⟨bs, os, none⟩) (R + 1) cs
          | 1 => v = .int .i64 (k : Int)
          | 2 => v = .pointer (some ⟨bs, os + k, none⟩)
          | 3 => v = .slice sa (fs k).length sc
          | 4 => v = .slice (some ⟨bt, ot, none⟩) (R + 1) ct
          | 5 => v = .int .i64 (k : Int)
          | 6 => v = .pointer (some ⟨bt, ot + k, none⟩)
          | 7 => v = .slice ta (gs k).length tc
          | 8 => v = .slice sa (fs k).length sc
          | 9 => v = .slice ta (gs k).length tc
          | 10 => v = .bool true
          | _ => True) (fun _ => false)
        (by kernel_rfl) (by kernel_rfl) (by kernel_rfl) (by kernel_rfl) (by kernel_rfl) (by kernel_rfl) (by kernel_rfl) ?_ (fun _ _ h => h.size) (dN (Below.refl _ _) 1) ?_ ?_
      · intro i v W W' hb hF
        match i, hF with
        | 0, h => exact h
        | 1, h => exact h
        | 2, h => exact h
        | 3, h => exact h
        | 4, h => exact h
        | 5, h => exact h
        | 6, h => exact h
        | 7, h => exact h
        | 8, h => exact h
        | 9, h => exact h
        | 10, h => exact h
        | _ + 11, _ => trivial
      · refine ⟨?_, ?_, ?_, ?_, ?_, ?_, ?_, ?_, ?_, ?_, ?_, trivial⟩
        · refine stepJ_any rfl fun ac W hAA hG hDD K hK => ?_
          have h20 := hAA.getD (t := 20) (by kernel_rfl)
          simp only [Array.getD_eq_getD_getElem?] at h20
          rw [if_pos (by rfl)]
          exact wp_val (v := .slice (some ⟨bs, os, none⟩) (R + 1) cs) (w' := W) (by simp [execOp, Act.eval, h20, go_sem]) (hK _ _ hG (Below.refl _ _) rfl (fun h => by cases h))
        · refine stepJ_any rfl fun ac W hAA hG hDD K hK => ?_
          have h23 := hAA.getD (t := 23) (by kernel_rfl)
          simp only [Array.getD_eq_getD_getElem?] at h23
          rw [if_pos (by rfl)]
          exact wp_val (v := .int .i64 (k : Int)) (w' := W) (by simp [execOp, Act.eval, h23, go_sem]) (hK _ _ hG (Below.refl _ _) rfl (fun h => by cases h))
        · refine stepJ_any rfl fun ac W hAA hG hDD K hK => ?_
          have h89 := hDD.get 0 89 _ rfl rfl (by kernel_rfl)
          have h90 := hDD.get 1 90 _ rfl rfl (by kernel_rfl)
          simp only [Array.getD_eq_getD_getElem?] at h89 h90
          rw [if_pos (by rfl)]
          exact wp_val (v := .pointer (some ⟨bs, os + k, none⟩)) (w' := W) (by simp [execOp, Act.eval, h89, h90, go_sem, i0, i1]) (hK _ _ hG (Below.refl _ _) rfl (fun h => by cases h))
        · refine stepJ_any rfl fun ac W hAA hG hDD K hK => ?_
          have h91 := hDD.get 2 91 _ rfl rfl (by kernel_rfl)
          simp only [Array.getD_eq_getD_getElem?] at h91
          have m1 := hsk.out W hG
          rw [if_pos (by rfl)]
          exact wp_val (v := .slice sa (fs k).length sc) (w' := W) (by simp [execOp, Act.eval, h91, go_sem, m1]) (hK _ _ hG (Below.refl _ _) rfl (fun h => by cases h))
        · refine stepJ_any rfl fun ac W hAA hG hDD K hK => ?_
          have h22 := hAA.getD (t := 22) (by kernel_rfl)
          simp only [Array.getD_eq_getD_getElem?] at h22
          rw [if_pos (by rfl)]
          exact wp_val (v := .slice (some ⟨bt, ot, none⟩) (R + 1) ct) (w' := W) (by simp [execOp, Act.eval, h22, go_sem]) (hK _ _ hG (Below.refl _ _) rfl (fun h => by cases h))
        · refine stepJ_any rfl fun ac W hAA hG hDD K hK => ?_
          have h23 := hAA.getD (t := 23) (by kernel_rfl)
          simp only [Array.getD_eq_getD_getElem?] at h23
          rw [if_pos (by rfl)]
          exact wp_val (v := .int .i64 (k : Int)) (w' := W) (by simp [execOp, Act.eval, h23, go_sem]) (hK _ _ hG (Below.refl _ _) rfl (fun h => by cases h))
        · refine stepJ_any rfl fun ac W hAA hG hDD K hK => ?_
          have h93 := hDD.get 4 93 _ rfl rfl (by kernel_rfl)
          have h94 := hDD.get 5 94 _ rfl rfl (by kernel_rfl)
          simp only [Array.getD_eq_getD_getElem?] at h93 h94
          rw [if_pos (by rfl)]
          exact wp_val (v := .pointer (some ⟨bt, ot + k, none⟩)) (w' := W) (by simp [execOp, Act.eval, h93, h94, go_sem, i0, i1]) (hK _ _ hG (Below.refl _ _) rfl (fun h => by cases h))
        · refine stepJ_any rfl fun ac W hAA hG hDD K hK => ?_
          have h95 := hDD.get 6 95 _ rfl rfl (by kernel_rfl)
          simp only [Array.getD_eq_getD_getElem?] at h95
          have m1 := htk.out W hG
          rw [if_pos (by rfl)]
          exact wp_val (v := .slice ta (gs k).length tc) (w' := W) (by simp [execOp, Act.eval, h95, go_sem, m1]) (hK _ _ hG (Below.refl _ _) rfl (fun h => by cases h))
        · refine stepJ_any rfl fun ac W hAA hG hDD K hK => ?_
          have h92 := hDD.get 3 92 _ rfl rfl (by kernel_rfl)
          simp only [Array.getD_eq_getD_getElem?] at h92
          rw [if_pos (by rfl)]
          exact wp_val (v := .slice sa (fs k).length sc) (w' := W) (by simp [execOp, Act.eval, h92, go_sem]) (hK _ _ hG (Below.refl _ _) rfl (fun h => by cases h))
        · refine stepJ_any rfl fun ac W hAA hG hDD K hK => ?_
          have h96 := hDD.get 7 96 _ rfl rfl (by kernel_rfl)
          simp only [Array.getD_eq_getD_getElem?] at h96
          rw [if_pos (by rfl)]
          exact wp_val (v := .slice ta (gs k).length tc) (w' := W) (by simp [execOp, Act.eval, h96, go_sem]) (hK _ _ hG (Below.refl _ _) rfl (fun h => by cases h))
        · refine stepJ_any rfl fun ac W hAA hG hDD K hK => ?_
          rw [if_pos (by rfl)]
          exact wp_val (v := .bool true) (w' := W) (by simp [execOp, Act.eval, go_sem]) (hK _ _ hG (Below.refl _ _) rfl (fun h => by cases h))
      intro fu T W8 hG hF hne hltb
      have e89 : T 89 = .slice (some ⟨bs, os, none⟩) (R + 1) cs := hF 0 _ rfl (by omega)
      have e90 : T 90 = .int .i64 (k : Int) := hF 1 _ rfl (by omega)
      have e91 : T 91 = .pointer (some ⟨bs, os + k, none⟩) := hF 2 _ rfl (by omega)
      have e92 : T 92 = .slice sa (fs k).length sc := hF 3 _ rfl (by omega)
      have e93 : T 93 = .slice (some ⟨bt, ot, none⟩) (R + 1) ct := hF 4 _ rfl (by omega)
      have e94 : T 94 = .int .i64 (k : Int) := hF 5 _ rfl (by omega)
      have e95 : T 95 = .pointer (some ⟨bt, ot + k, none⟩) := hF 6 _ rfl (by omega)
      have e96 : T 96 = .slice ta (gs k).length tc := hF 7 _ rfl (by omega)
      have e12 : T 12 = .slice sa (fs k).length sc := hF 8 _ rfl (by omega)
      have e13 : T 13 = .slice ta (gs k).length tc := hF 9 _ rfl (by omega)
      have e14 : T 14 = .bool true := hF 10 _ rfl (by omega)
      clear hF hne hltb
      simp only [List.take, fillT, List.setIfInBounds_toArray, List.set_cons_zero, List.set_cons_succ, e89, e90, e91, e92, e93, e94, e95, e96, e12, e13, e14]
      clear e89 e90 e91 e92 e93 e94 e95 e96 e12 e13 e14
      refine wpAny_done (by kernel_rfl) ?_ _
      have hz1 := Lib.hid (hb.out.trans (hG9.out.mono hb.out.size))
      have hz2 := Lib.hid (hB.out.trans ((hz1.out.trans (hG.mono hz1.out.size)).mono hB.out.size))
      have hq1 := (ho1.out.below hG9.out).below hG
      have hq2 := (ho2.out.below hG9.out).below hG
      rw [← ht1.out] at hq1
      rw [← ht2.out] at hq2
      clear hG hsk htk i0 i1
      go_wp2_with fail
      go_ret3
      rw [ht1.out] at hq1
      rw [ht2.out] at hq2
      rw [← hf.out] at hfgH hno
      rw [← hg.out] at hfgH hno
      exact ⟨⟨_, _, k, rfl, by rw [ht1.out]; exact hq1, by rw [ht2.out]; exact hq2, hno.out, hfgH.out⟩, hz2.out⟩
    · have eqk : Hid (∀ W, (Op.equalIn 10000 30 (.agg (BV (f k)).toArray) (.agg (BV (g k)).toArray)).run Tryd.prog W = .ok false W) := Lib.hid (fun W => by
        have h := eq_digest (f k) (g k) lfk.out lgk.out W
        rwa [beq_eq_false_iff_ne.2 hfg] at h)
      have hkR : k < R := by
        rcases Nat.lt_or_ge k R with h | h
        · exact h
        · obtain rfl : k = R := by omega
          exact absurd hmt.out hfg
      have hfgH := Lib.hid hfg
      clear hfg hTX hmt ho1 ho2 hsk0 htk0 hsz
      go_upto_region 10 with fail
      refine wp_region_pre 9 0 (fun W => Below wr.heap.size wr W) (fun W W' => Below W.heap.size W W')
        (fun i v W => match i with
          | 0 => v = .slice (some ⟨bx, ox, none⟩) (R + 1) cx
          | 1 => v = .int .i64 (k : Int)
          | 2 => v = .pointer (some ⟨bx, ox + k * 32, none⟩)
          | 3 => v = .agg (BV (f k)).toArray
          | 4 => v = .slice (some ⟨by_, oy, none⟩) (R + 1) cy
          | 5 => v = .int .i64 (k : Int)
          | 6 => v = .pointer (some ⟨by_, oy + k * 32, none⟩)
          | 7 => v = .agg (BV (g k)).toArray
          | 8 => v = .bool false
          | _ => True) (fun _ => false)
        (by kernel_rfl) (by kernel_rfl) (by kernel_rfl) (by kernel_rfl) (by kernel_rfl) (by kernel_rfl) (by kernel_rfl) ?_ (fun _ _ h => h.size) (dN (Below.refl _ _) 1) ?_ ?_
      · intro i v W W' hb hF
        match i, hF with
        | 0, h => exact h
        | 1, h => exact h
        | 2, h => exact h
        | 3, h => exact h
        | 4, h => exact h
        | 5, h => exact h
        | 6, h => exact h
        | 7, h => exact h
        | 8, h => exact h
        | _ + 9, _ => trivial
      · refine ⟨?_, ?_, ?_, ?_, ?_, ?_, ?_, ?_, ?_, trivial⟩
        · refine stepJ_any rfl fun ac W hAA hG hDD K hK => ?_
          have h19 := hAA.getD (t := 19) (by kernel_rfl)
          simp only [Array.getD_eq_getD_getElem?] at h19
          rw [if_pos (by rfl)]
          exact wp_val (v := .slice (some ⟨bx, ox, none⟩) (R + 1) cx) (w' := W) (by simp [execOp, Act.eval, h19, go_sem]) (hK _ _ hG (Below.refl _ _) rfl (fun h => by cases h))
        · refine stepJ_any rfl fun ac W hAA hG hDD K hK => ?_
          have h23 := hAA.getD (t := 23) (by kernel_rfl)
          simp only [Array.getD_eq_getD_getElem?] at h23
          rw [if_pos (by rfl)]
          exact wp_val (v := .int .i64 (k : Int)) (w' := W) (by simp [execOp, Act.eval, h23, go_sem]) (hK _ _ hG (Below.refl _ _) rfl (fun h => by cases h))
        · refine stepJ_any rfl fun ac W hAA hG hDD K hK => ?_
          have h80 := hDD.get 0 80 _ rfl rfl (by kernel_rfl)
          have h81 := hDD.get 1 81 _ rfl rfl (by kernel_rfl)
          simp only [Array.getD_eq_getD_getElem?] at h80 h81
          rw [if_pos (by rfl)]
          exact wp_val (v := .pointer (some ⟨bx, ox + k * 32, none⟩)) (w' := W) (by simp [execOp, Act.eval, h80, h81, go_sem, i0, i1]) (hK _ _ hG (Below.refl _ _) rfl (fun h => by cases h))
        · refine stepJ_any rfl fun ac W hAA hG hDD K hK => ?_
          have h82 := hDD.get 2 82 _ rfl rfl (by kernel_rfl)
          rw [if_pos (by rfl)]
          exact wp_load_mid 30 _ rfl bx (ox + k * 32) h82 (BV (f k)) _ (hxk.out W hG) hu rfl (by rw [hi, BV_length, lfk.out]) (hK _ _ hG (Below.refl _ _) rfl (fun h => by cases h))
        · refine stepJ_any rfl fun ac W hAA hG hDD K hK => ?_
          have h21 := hAA.getD (t := 21) (by kernel_rfl)
          simp only [Array.getD_eq_getD_getElem?] at h21
          rw [if_pos (by rfl)]
          exact wp_val (v := .slice (some ⟨by_, oy, none⟩) (R + 1) cy) (w' := W) (by simp [execOp, Act.eval, h21, go_sem]) (hK _ _ hG (Below.refl _ _) rfl (fun h => by cases h))
        · refine stepJ_any rfl fun ac W hAA hG hDD K hK => ?_
          have h23 := hAA.getD (t := 23) (by kernel_rfl)
          simp only [Array.getD_eq_getD_getElem?] at h23
          rw [if_pos (by rfl)]
          exact wp_val (v := .int .i64 (k : Int)) (w' := W) (by simp [execOp, Act.eval, h23, go_sem]) (hK _ _ hG (Below.refl _ _) rfl (fun h => by cases h))
        · refine stepJ_any rfl fun ac W hAA hG hDD K hK => ?_
          have h84 := hDD.get 4 84 _ rfl rfl (by kernel_rfl)
          have h85 := hDD.get 5 85 _ rfl rfl (by kernel_rfl)
          simp only [Array.getD_eq_getD_getElem?] at h84 h85
          rw [if_pos (by rfl)]
          exact wp_val (v := .pointer (some ⟨by_, oy + k * 32, none⟩)) (w' := W) (by simp [execOp, Act.eval, h84, h85, go_sem, i0, i1]) (hK _ _ hG (Below.refl _ _) rfl (fun h => by cases h))
        · refine stepJ_any rfl fun ac W hAA hG hDD K hK => ?_
          have h86 := hDD.get 6 86 _ rfl rfl (by kernel_rfl)
          rw [if_pos (by rfl)]
          exact wp_load_mid 30 _ rfl by_ (oy + k * 32) h86 (BV (g k)) _ (hyk.out W hG) hu rfl (by rw [hi, BV_length, lgk.out]) (hK _ _ hG (Below.refl _ _) rfl (fun h => by cases h))
        · refine stepJ_any rfl fun ac W hAA hG hDD K hK => ?_
          have h83 := hDD.get 3 83 _ rfl rfl (by kernel_rfl)
          have h87 := hDD.get 7 87 _ rfl rfl (by kernel_rfl)
          simp only [Array.getD_eq_getD_getElem?] at h83 h87
          have eq1 := eqk.out
          rw [if_pos (by rfl)]
          exact wp_val (v := .bool false) (w' := W) (by simp [execOp, Act.eval, h83, h87, go_sem, eq1]) (hK _ _ hG (Below.refl _ _) rfl (fun h => by cases h))
      intro fu T W9 hG hF hne hltb
      have e80 : T 80 = .slice (some ⟨bx, ox, none⟩) (R + 1) cx := hF 0 _ rfl (by omega)
      have e81 : T 81 = .int .i64 (k : Int) := hF 1 _ rfl (by omega)
      have e82 : T 82 = .pointer (some ⟨bx, ox + k * 32, none⟩) := hF 2 _ rfl (by omega)
      have e83 : T 83 = .agg (BV (f k)).toArray := hF 3 _ rfl (by omega)
      have e84 : T 84 = .slice (some ⟨by_, oy, none⟩) (R + 1) cy := hF 4 _ rfl (by omega)
      have e85 : T 85 = .int .i64 (k : Int) := hF 5 _ rfl (by omega)
      have e86 : T 86 = .pointer (some ⟨by_, oy + k * 32, none⟩) := hF 6 _ rfl (by omega)
      have e87 : T 87 = .agg (BV (g k)).toArray := hF 7 _ rfl (by omega)
      have e88 : T 88 = .bool false := hF 8 _ rfl (by omega)
      clear hF hne hltb
      simp only [List.take, fillT, List.setIfInBounds_toArray, List.set_cons_zero, List.set_cons_succ, e80, e81, e82, e83, e84, e85, e86, e87, e88]
      clear e80 e81 e82 e83 e84 e85 e86 e87 e88
      refine wpAny_done (by kernel_rfl) ?_ _
      replace hb := Lib.hid (hb.out.trans (hG.mono hb.out.size))
      clear hG hxk hyk eqk lfk lgk
      go_wp2_with fail
      go_roundw
      case rel => exact ⟨k + 1, by go_num, by omega, hb, fun j hj => by
        by_cases e : j = k
        · rw [e]; exact hfgH.out
        · exact hno.out j (by omega)⟩
      case measure => simp [intOf]; omega
end
section
open Go.RowKit

theorem first_same {f g : Nat → List UInt8} {K L : Nat} (h1 : ∀ j, j < K → f j ≠ g j) (h2 : f K = g K) (h3 : ∀ j, j < L → f j ≠ g j) (h4 : f L = g L) : K = L := by
  rcases Nat.lt_trichotomy K L with h | h | h
  · exact absurd h2 (h3 K h)
  · exact h
  · exact absurd h4 (h1 L h)
theorem climbP_zero {n i : Int} {a : List UInt8} {p : List (List UInt8)} (h : (climbP n i a p).2 = 0) : isPl n i = true ∧ p.length = pathN n.toNat i.toNat := by
  unfold climbP at h
  split at h
  · cases h
  · rename_i h1
    split at h
    · cases h
    · rename_i h2
      exact ⟨by simpa using h1, by simpa using h2⟩
theorem RBs.nil_of {w : World} {B : Nat} {A : Option Addr} {l : List UInt8} (h : RBs w B A l) : A = none → l = [] := fun e => by
  subst e
  cases l with
  | nil => rfl
  | cons x r =>
    obtain ⟨b, o, h1, -⟩ := h (by simp)
    cases h1

set_option maxRecDepth 100000 in
set_option maxHeartbeats 2000000 in
theorem climbs_law (n i : Int) (a b : List UInt8) (p q : List (List UInt8)) (w : World) (A B Ap Bq : Option Addr) (ca cb cp cq : Nat) (hra : RBs w w.heap.size A a) (hrb : RBs w w.heap.size B b) (hRp : RD w w.heap.size p Ap cp) (hRq : RD w w.heap.size q Bq cq) (hK : KT w) (h0 : 0 < w.heap.size) :
    Calls Tryd.prog 4 #[.int .i64 n, .int .i64 i, .slice A a.length ca, .slice B b.length cb, .slice Ap p.length cp, .slice Bq q.length cq] w fun e w' => e = .returned (.bool true) ∧ Below w.heap.size w w' := by
  have hKH := Lib.hid hK
  have hu := Lib.hid (show Tryd.prog.underlying 30 = some (.array 32 5) by kernel_rfl)
  have hi := Lib.hid (show (Tryd.prog.info? 30).map (·.size) = some 32 by kernel_rfl)
  have hS := Lib.hid (sane_any w hK h0)
  have hna := hra.nil_of
  have hnb := hrb.nil_of
  clear hK
  replace hra := Lib.hid hra
  replace hrb := Lib.hid hrb
  replace hRp := Lib.hid hRp
  replace hRq := Lib.hid hRq
  replace hna := Lib.hid hna
  replace hnb := Lib.hid hnb
  go_enter Tryd.func4, Tryd.ntmps4
  go_wp2_with fail
  refine hS.out.mono ?_
  rintro e w1 ⟨rfl, hb1⟩
  clear hS
  replace hb1 := Lib.hid hb1
  by_cases hsz : a.length ≤ 200 ∧ b.length ≤ 200 ∧ p.length ≤ 20 ∧ q.length ≤ 20
  case neg =>
    have hbad : (decide ((200 : Int) < (a.length : Int)) || decide ((200 : Int) < (b.length : Int)) || decide ((20 : Int) < (p.length : Int)) || decide ((20 : Int) < (q.length : Int))) = true := by simp; omega
    go_wp2_with fail
    all_goals
      go_ret
      exact ⟨rfl, hb1.out⟩
  obtain ⟨z1, z2, z3, z4⟩ := hsz
  have f1 : decide ((200 : Int) < (a.length : Int)) = false := decide_eq_false (by omega)
  have f2 : decide ((200 : Int) < (b.length : Int)) = false := decide_eq_false (by omega)
  have f3 : decide ((20 : Int) < (p.length : Int)) = false := decide_eq_false (by omega)
  have f4 : decide ((20 : Int) < (q.length : Int)) = false := decide_eq_false (by omega)
  obtain ⟨d1, e1, h1⟩ : ∃ d e, climbP n i a p = (d, e) := ⟨_, _, rfl⟩
  have l1 : d1.length = 32 := by have := climbP_len n i a p; rw [h1] at this; exact this
  have hs1 := Lib.hid (DV_size l1)
  have hC1 := Climb_any n i a (by omega) p w1 A Ap ca cp (hra.out.lift hb1.out hb1.out.size) hna.out (hRp.out.under hb1.out hb1.out.size) (hKH.out.below hb1.out h0) (Nat.lt_of_lt_of_le h0 hb1.out.size)
  rw [h1] at hC1
  replace hC1 := Lib.hid hC1
  replace h1 := Lib.hid h1
  go_wp2_with fail
  refine hC1.out.mono ?_
  rintro e w2 ⟨rfl, hb2⟩
  clear hC1
  replace hb1 := Lib.hid (hb1.out.trans (hb2.mono hb1.out.size))
  clear hb2
  go_wp2_with (refine wpList_store_row rfl 30 _ _ rfl w2.heap.size _ rfl rfl 30 _ (heap_alloc_last w2 _) ?cj ?cl ?ck ?_
               case cj => rw [hi.out, hs1.out]
               case cl => rw [hs1.out]; rfl
               case ck => exact BV_all _
               rw [World.setRow_alloc_new])
  have hb := bel1 w2 (.cells (BV d1).toArray 30)
  have k1 : Hid (DB _ w2.heap.size 30 d1) := heap_alloc_new w2 (.cells (BV d1).toArray 30)
  replace hb1 := Lib.hid (hb1.out.trans (hb.mono hb1.out.size))
  clear hb
  generalize w2.alloc (.cells (BV d1).toArray 30) = V1 at hb1 k1 ⊢
  have hC2 := rClimb_any n i a (by omega) p V1 A Ap ca cp (hra.out.lift hb1.out hb1.out.size) hna.out (hRp.out.under hb1.out hb1.out.size)
  rw [h1.out] at hC2
  replace hC2 := Lib.hid hC2
  refine hC2.out.mono ?_
  rintro e w3 ⟨rfl, hb2⟩
  clear hC2
  replace hb1 := Lib.hid (hb1.out.trans (hb2.mono hb1.out.size))
  replace k1 := Lib.hid (blk_at k1.out hb2)
  clear hb2
  go_wp2_with (refine wpList_store_row rfl 30 _ _ rfl w3.heap.size _ rfl rfl 30 _ (heap_alloc_last w3 _) ?cj ?cl ?ck ?_
               case cj => rw [hi.out, hs1.out]
               case cl => rw [hs1.out]; rfl
               case ck => exact BV_all _
               rw [World.setRow_alloc_new])
  have hb := bel1 w3 (.cells (BV d1).toArray 30)
  have k2 : Hid (DB _ w3.heap.size 30 d1) := heap_alloc_new w3 (.cells (BV d1).toArray 30)
  replace hb1 := Lib.hid (hb1.out.trans (hb.mono hb1.out.size))
  replace k1 := Lib.hid (blk_at k1.out hb)
  clear hb
  generalize w3.alloc (.cells (BV d1).toArray 30) = V2 at hb1 k1 k2 ⊢
  have eq : ∀ W, (Op.equalIn 10000 30 (.agg (BV d1).toArray) (.agg (BV d1).toArray)).run Tryd.prog W = .ok true W := fun W => by
    have h := eq_digest d1 d1 l1 l1 W
    rwa [beq_self_eq_true] at h
  clear f1 f2 f3 f4
  by_cases hyes : (climbP n i a p).2 = 0 ∧ (climbP n i b q).2 = 0 ∧ (climbP n i a p).1 = (climbP n i b q).1 ∧ a ≠ b
  case neg =>
    have hno : (climbP n i a p).2 ≠ 0 ∨ (climbP n i b q).2 ≠ 0 ∨ (climbP n i a p).1 ≠ (climbP n i b q).1 ∨ a = b := by
      by_cases c1 : (climbP n i a p).2 = 0
      · by_cases c2 : (climbP n i b q).2 = 0
        · by_cases c3 : (climbP n i a p).1 = (climbP n i b q).1
          · refine .inr (.inr (.inr ?_))
            by_cases c4 : a = b
            · exact c4
            · exact absurd ⟨c1, c2, c3, c4⟩ hyes
          · exact .inr (.inr (.inl c3))
        · exact .inr (.inl c2)
      · exact .inl c1
    have hCo := Lib.hid (Collide_no n i a b (by omega) (by omega) p q V2 A B Ap Bq ca cb cp cq (hra.out.lift hb1.out hb1.out.size) hna.out (hrb.out.lift hb1.out hb1.out.size) hnb.out (hRp.out.under hb1.out hb1.out.size) (hRq.out.under hb1.out hb1.out.size) (hKH.out.below hb1.out h0) (Nat.lt_of_lt_of_le h0 hb1.out.size) hno)
    replace hno := Lib.hid hno
    clear hyes
    refine hCo.out.mono ?_
    rintro e w4 ⟨rfl, hb2⟩
    clear hCo
    replace hb1 := Lib.hid (hb1.out.trans (hb2.mono hb1.out.size))
    replace k1 := Lib.hid (blk_at k1.out hb2)
    replace k2 := Lib.hid (blk_at k2.out hb2)
    clear hb2
    go_wp2_with fail
    refine (rCollide_no n i a b (by omega) (by omega) p q w4 A B Ap Bq ca cb cp cq (hra.out.lift hb1.out hb1.out.size) hna.out (hrb.out.lift hb1.out hb1.out.size) hnb.out (hRp.out.under hb1.out hb1.out.size) (hRq.out.under hb1.out hb1.out.size) hno.out).mono ?_
    rintro e w5 ⟨rfl, hb2⟩
    replace hb1 := Lib.hid (hb1.out.trans (hb2.mono hb1.out.size))
    have k1 := blk_at k1.out hb2
    have k2 := blk_at k2.out hb2
    have cvn : ∀ W, (convert 34 9 (.slice none 0 0)).run Tryd.prog W = .ok (.string ⟨#[]⟩) W := fun W => conv_str (c := 0) (B := W.heap.size) (A := none) (bs := []) (fun h => absurd h (Nat.lt_irrefl 0))
    clear hb2 hno
    go_wp2_with (first
      | (refine wpList_load_guarded (by rfl) 30 _ (by rfl) w2.heap.size (by rfl) 30 _ (0, 0) _ k1 hu.out rfl (by rw [hi.out, hs1.out]) ?_)
      | (refine wpList_load_guarded (by rfl) 30 _ (by rfl) w3.heap.size (by rfl) 30 _ (0, 0) _ k2 hu.out rfl (by rw [hi.out, hs1.out]) ?_))
    all_goals
      go_ret
      exact ⟨rfl, hb1.out⟩
  obtain ⟨y1, y2, hdd, hab⟩ := hyes
  obtain ⟨hpl1, hpp⟩ := climbP_zero y1
  obtain ⟨-, hqq⟩ := climbP_zero y2
  obtain ⟨g1, g2, g3⟩ := isPl_iff.1 hpl1
  obtain ⟨N, rfl⟩ : ∃ N : Nat, n = N := ⟨n.toNat, by omega⟩
  obtain ⟨I, rfl⟩ : ∃ I : Nat, i = I := ⟨i.toNat, by omega⟩
  simp only [Int.toNat_natCast] at hpp hqq
  rw [climbP_ok N I (by omega) (by omega) a p hpp, climbP_ok N I (by omega) (by omega) b q hqq] at hdd
  have hmt : clM N I a p (rows N) = clM N I b q (rows N) := hdd
  have hRo : Hid (∀ W, Below w.heap.size w W → Calls Tryd.prog 20 #[.int .i64 (N : Int), .int .i64 (I : Int), .slice A a.length ca, .slice B b.length cb, .slice Ap p.length cp, .slice Bq q.length cq] W fun e w' => (∃ v1 v2 K, e = .returned (.tuple #[v1, v2, .bool true]) ∧ OB w' W.heap.size v1 (txM N I a p K) ∧ OB w' W.heap.size v2 (txM N I b q K) ∧ (∀ j, j < K → clM N I a p j ≠ clM N I b q j) ∧ clM N I a p K = clM N I b q K) ∧ Below W.heap.size W w') := Lib.hid fun W hW =>
    rCollide_yes N I (by omega) (by omega) a b (by omega) (by omega) p q hpp hqq W A B Ap Bq ca cb cp cq (hra.out.lift hW hW.size) hna.out (hrb.out.lift hW hW.size) hnb.out (hRp.out.under hW hW.size) (hRq.out.under hW hW.size) hab hmt
  have hCo := Lib.hid (Collide_yes N I (by omega) (by omega) a b (by omega) (by omega) p q hpp hqq V2 A B Ap Bq ca cb cp cq (hra.out.lift hb1.out hb1.out.size) hna.out (hrb.out.lift hb1.out hb1.out.size) hnb.out (hRp.out.under hb1.out hb1.out.size) (hRq.out.under hb1.out hb1.out.size) (hKH.out.below hb1.out h0) (Nat.lt_of_lt_of_le h0 hb1.out.size) hab hmt)
  refine hCo.out.mono ?_
  rintro e w4 ⟨⟨v1, v2, K, rfl, ho1, ho2, hk1, hk2, hk3⟩, hb2⟩
  have hk4 : Hid (clM N I a p K = clM N I b q K) := by
    show _ = _
    by_cases h : K < rows N
    · exact hk3 h
    · obtain rfl : K = rows N := by omega
      exact hmt
  replace hk2 := Lib.hid hk2
  replace hb1 := Lib.hid (hb1.out.trans (hb2.mono hb1.out.size))
  replace k1 := Lib.hid (blk_at k1.out hb2)
  replace k2 := Lib.hid (blk_at k2.out hb2)
  replace ho1 := Lib.hid ho1
  replace ho2 := Lib.hid ho2
  clear hCo hb2 hk1 hk3 hmt hdd hab hpp hqq hpl1 y1 y2 h1
  go_wp2_with fail
  refine (hRo.out w4 hb1.out).mono ?_
  rintro e w5 ⟨⟨v3, v4, L, rfl, ho3, ho4, hl2, hl3⟩, hb2⟩
  obtain rfl : K = L := first_same hk2.out hk4.out hl2 hl3
  replace hb1 := Lib.hid (hb1.out.trans (hb2.mono hb1.out.size))
  have k1 := blk_at k1.out hb2
  have k2 := blk_at k2.out hb2
  have ho1 := ho1.out.below hb2
  have ho2 := ho2.out.below hb2
  clear hl2 hl3 hk2 hk4 hb2 hRo
  generalize txM N I a p K = t1 at *
  generalize txM N I b q K = t2 at *
  obtain ⟨x1, y1, rfl, -⟩ := ho1.form
  obtain ⟨x2, y2, rfl, -⟩ := ho2.form
  obtain ⟨x3, y3, rfl, -⟩ := ho3.form
  obtain ⟨x4, y4, rfl, -⟩ := ho4.form
  have cv1 := conv_str ho1.reads.1 (c := y1)
  have cv2 := conv_str ho2.reads.1 (c := y2)
  have cv3 := conv_str ho3.reads.1 (c := y3)
  have cv4 := conv_str ho4.reads.1 (c := y4)
  clear ho1 ho2 ho3 ho4
  go_wp2_with (first
    | (refine wpList_load_guarded (by rfl) 30 _ (by rfl) w2.heap.size (by rfl) 30 _ (0, 0) _ k1 hu.out rfl (by rw [hi.out, hs1.out]) ?_)
    | (refine wpList_load_guarded (by rfl) 30 _ (by rfl) w3.heap.size (by rfl) 30 _ (0, 0) _ k2 hu.out rfl (by rw [hi.out, hs1.out]) ?_))
  all_goals
    go_ret
    exact ⟨rfl, hb1.out⟩
end
end Go.Proofs.YtgddfdejkmnfkaaDoor
