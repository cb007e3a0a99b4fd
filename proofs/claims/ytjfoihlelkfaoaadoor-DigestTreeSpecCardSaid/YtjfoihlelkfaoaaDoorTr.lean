/- The digest of a list: Tree. -/
import Derived.Test.YtjfoihlelkfaoaaDoorRd
namespace Go.Proofs.YtjfoihlelkfaoaaDoor
open Go.RowKit

def emptyB : ByteArray := ⟨#[101, 109, 112, 116, 121]⟩
def treeF : Nat → List (List UInt8) → List UInt8
  | 0, _ => tagH emptyB.data.toList []
  | f + 1, l => if l.length = 0 then tagH emptyB.data.toList [] else if l.length = 1 then leafH (l.getD 0 []) else nodeH (treeF f (l.take (half l.length))) (treeF f (l.drop (half l.length)))
/-- The digest of a list. -/
def treeH (l : List (List UInt8)) : List UInt8 := treeF l.length l
theorem treeF_enough (f : Nat) : ∀ (g : Nat) (l : List (List UInt8)), l.length ≤ f → l.length ≤ g → l.length ≤ 4611686018427387904 → treeF f l = treeF g l := by
  induction f with
  | zero =>
    intro g l h _ _
    have h0 : l.length = 0 := by omega
    cases g with
    | zero => rfl
    | succ g => rw [treeF, treeF, if_pos h0]
  | succ f ih =>
    intro g l h1 h2 h3
    cases g with
    | zero =>
      have h0 : l.length = 0 := by omega
      rw [treeF, treeF, if_pos h0]
    | succ g =>
      rw [treeF, treeF]
      split
      · rfl
      · split
        · rfl
        · have hb := half_bounds l.length (by omega) (by omega)
          rw [ih g (l.take (half l.length)) (by rw [List.length_take]; omega) (by rw [List.length_take]; omega) (by rw [List.length_take]; omega),
            ih g (l.drop (half l.length)) (by rw [List.length_drop]; omega) (by rw [List.length_drop]; omega) (by rw [List.length_drop]; omega)]
theorem treeH_nil : treeH [] = tagH emptyB.data.toList [] := rfl
theorem treeH_one (d : List UInt8) : treeH [d] = leafH d := by simp [treeH, treeF]
theorem treeH_two (l : List (List UInt8)) (h : 2 ≤ l.length) (hm : l.length ≤ 4611686018427387904) : treeH l = nodeH (treeH (l.take (half l.length))) (treeH (l.drop (half l.length))) := by
  have hb := half_bounds l.length h (by omega)
  obtain ⟨n, hn⟩ : ∃ n, l.length = n + 1 := ⟨l.length - 1, by omega⟩
  have e : treeH l = nodeH (treeF n (l.take (half l.length))) (treeF n (l.drop (half l.length))) := by
    unfold treeH
    rw [hn, treeF, if_neg (by omega), if_neg (by omega), ← hn]
  rw [e]
  unfold treeH
  rw [treeF_enough n (l.take (half l.length)).length _ (by rw [List.length_take]; omega) (Nat.le_refl _) (by rw [List.length_take]; omega),
    treeF_enough n (l.drop (half l.length)).length _ (by rw [List.length_drop]; omega) (Nat.le_refl _) (by rw [List.length_drop]; omega)]
theorem treeH_length (l : List (List UInt8)) : (treeH l).length = 32 := by
  unfold treeH
  cases l with
  | nil => exact tagH_length _ _
  | cons d r =>
    rw [List.length_cons, treeF]
    split
    · exact tagH_length _ _
    · split
      · exact tagH_length _ _
      · exact tagH_length _ _

/-- A block of a result, made first. -/
theorem zero_new (w : World) : DB (w.alloc (.cells #[.int .u8 0, .int .u8 0, .int .u8 0, .int .u8 0, .int .u8 0, .int .u8 0, .int .u8 0, .int .u8 0, .int .u8 0, .int .u8 0, .int .u8 0, .int .u8 0, .int .u8 0, .int .u8 0, .int .u8 0, .int .u8 0, .int .u8 0, .int .u8 0, .int .u8 0, .int .u8 0, .int .u8 0, .int .u8 0, .int .u8 0, .int .u8 0, .int .u8 0, .int .u8 0, .int .u8 0, .int .u8 0, .int .u8 0, .int .u8 0, .int .u8 0, .int .u8 0] 24)) w.heap.size 24 (List.replicate 32 0) ∧ Below w.heap.size w (w.alloc (.cells #[.int .u8 0, .int .u8 0, .int .u8 0, .int .u8 0, .int .u8 0, .int .u8 0, .int .u8 0, .int .u8 0, .int .u8 0, .int .u8 0, .int .u8 0, .int .u8 0, .int .u8 0, .int .u8 0, .int .u8 0, .int .u8 0, .int .u8 0, .int .u8 0, .int .u8 0, .int .u8 0, .int .u8 0, .int .u8 0, .int .u8 0, .int .u8 0, .int .u8 0, .int .u8 0, .int .u8 0, .int .u8 0, .int .u8 0, .int .u8 0, .int .u8 0, .int .u8 0] 24)) :=
  ⟨heap_alloc_new w _, (Below.refl _ _).alloc (Nat.le_refl _) _⟩

set_option maxRecDepth 100000 in
set_option maxHeartbeats 2000000 in
theorem tree_nil (w : World) (a : Option Addr) (cap : Nat) (hK : KT w) (h0 : 0 < w.heap.size) : Calls Tryd.prog 8 #[.slice a 0 cap] w fun e w' => e = .returned (DV (treeH [])) ∧ Below w.heap.size w w' := by
  have hKH := Lib.hid hK
  clear hK
  unfold DV
  rw [treeH_nil]
  go_enter Tryd.func8, Tryd.ntmps8
  go_wp2_with fail
  obtain ⟨hd, hB⟩ := zero_new w
  have hT : Calls Tryd.prog 15 #[.string emptyB, .slice none 0 0] _ (fun e w' => e = .returned (.agg (BV (tagH emptyB.data.toList [])).toArray) ∧ Below _ _ w') := Tagged_any emptyB (by decide) [] (by simp) (w.alloc (.cells #[.int .u8 0, .int .u8 0, .int .u8 0, .int .u8 0, .int .u8 0, .int .u8 0, .int .u8 0, .int .u8 0, .int .u8 0, .int .u8 0, .int .u8 0, .int .u8 0, .int .u8 0, .int .u8 0, .int .u8 0, .int .u8 0, .int .u8 0, .int .u8 0, .int .u8 0, .int .u8 0, .int .u8 0, .int .u8 0, .int .u8 0, .int .u8 0, .int .u8 0, .int .u8 0, .int .u8 0, .int .u8 0, .int .u8 0, .int .u8 0, .int .u8 0, .int .u8 0] 24)) none 0 (fun h => by simp at h) (fun _ => rfl) (hKH.out.below hB h0) (by simp)
  refine hT.mono ?_
  rintro e w2 ⟨rfl, hb2⟩
  have hd4 := hd.below hb2 hd.lt
  have hB2 := hB.trans (hb2.mono hB.size)
  have hs1 : (BV (tagH emptyB.data.toList [])).toArray.size = 32 := DV_size (tagH_length _ _)
  have hs1' := Lib.hid hs1
  have hu : Tryd.prog.underlying 24 = some (.array 32 5) := by kernel_rfl
  have hi : (Tryd.prog.info? 24).map (·.size) = some 32 := by kernel_rfl
  clear hT hd hB hb2 hs1
  go_wp2_with (refine wpList_store_row rfl 24 _ _ rfl w.heap.size _ rfl rfl 24 _ hd4 ?cj ?cl ?ck ?_
               case cj => rw [hi, hs1'.out]
               case cl => rw [hs1'.out]; rfl
               case ck => exact BV_all _)
  have hrow := setRow_heap w2 w.heap.size _ (BV (tagH emptyB.data.toList [])).toArray _ _ hd4
  exact bodyPost_ret (results_cell_row rfl _ _ w.heap.size 24 _ (0, 0) _ rfl hrow hu rfl (by rw [hi, hs1'.out])) rfl
    ⟨rfl, hB2.grown (grownBy_setRow _ _ _) hB2.size (fun k e => by injection e with e; omega)⟩

set_option maxRecDepth 100000 in
set_option maxHeartbeats 2000000 in
theorem tree_one (d : List UInt8) (w : World) (a : Option Addr) (cap : Nat) (hR : RD w w.heap.size [d] a cap) (hK : KT w) (h0 : 0 < w.heap.size) : Calls Tryd.prog 8 #[.slice a 1 cap] w fun e w' => e = .returned (DV (treeH [d])) ∧ Below w.heap.size w w' := by
  have hKH := Lib.hid hK
  have hd32 : d.length = 32 := hR.2.2.1 d (by simp)
  obtain ⟨b, off, rfl, hb, hr⟩ := hR.at_ (i := 0) (by simp)
  clear hK hR
  unfold DV
  rw [treeH_one]
  have hu : Tryd.prog.underlying 24 = some (.array 32 5) := by kernel_rfl
  have hi : (Tryd.prog.info? 24).map (·.size) = some 32 := by kernel_rfl
  have hlen : (BV d).length = 32 := by rw [BV_length, hd32]
  have hlen' := Lib.hid hlen
  obtain ⟨hd, hB⟩ := zero_new w
  have hr' : (w.alloc (.cells #[.int .u8 0, .int .u8 0, .int .u8 0, .int .u8 0, .int .u8 0, .int .u8 0, .int .u8 0, .int .u8 0, .int .u8 0, .int .u8 0, .int .u8 0, .int .u8 0, .int .u8 0, .int .u8 0, .int .u8 0, .int .u8 0, .int .u8 0, .int .u8 0, .int .u8 0, .int .u8 0, .int .u8 0, .int .u8 0, .int .u8 0, .int .u8 0, .int .u8 0, .int .u8 0, .int .u8 0, .int .u8 0, .int .u8 0, .int .u8 0, .int .u8 0, .int .u8 0] 24)).rangeAt b off (BV d) := fun j v hv => by
    have := hr j v (by simpa using hv)
    rw [hB.cell (p := ⟨b, off + j, none⟩) hb]
    simpa using this
  clear hr hlen
  go_enter Tryd.func8, Tryd.ntmps8
  go_wp2_with (refine wpList_load_mid rfl 24 _ rfl b off rfl _ _ hr' hu rfl ?ca ?_; case ca => rw [hi, hlen'.out])
  have hT : Calls Tryd.prog 19 #[.agg (BV d).toArray] _ (fun e w' => e = .returned (.agg (BV (leafH d)).toArray) ∧ Below _ _ w') := leaf_any d hd32 (w.alloc (.cells #[.int .u8 0, .int .u8 0, .int .u8 0, .int .u8 0, .int .u8 0, .int .u8 0, .int .u8 0, .int .u8 0, .int .u8 0, .int .u8 0, .int .u8 0, .int .u8 0, .int .u8 0, .int .u8 0, .int .u8 0, .int .u8 0, .int .u8 0, .int .u8 0, .int .u8 0, .int .u8 0, .int .u8 0, .int .u8 0, .int .u8 0, .int .u8 0, .int .u8 0, .int .u8 0, .int .u8 0, .int .u8 0, .int .u8 0, .int .u8 0, .int .u8 0, .int .u8 0] 24)) (hKH.out.below hB h0) (by simp)
  refine hT.mono ?_
  rintro e w2 ⟨rfl, hb2⟩
  have hd4 := hd.below hb2 hd.lt
  have hB2 := hB.trans (hb2.mono hB.size)
  have hs1 : (BV (leafH d)).toArray.size = 32 := DV_size (tagH_length _ _)
  have hs1' := Lib.hid hs1
  clear hT hd hB hb2 hs1
  go_wp2_with (refine wpList_store_row rfl 24 _ _ rfl w.heap.size _ rfl rfl 24 _ hd4 ?cj ?cl ?ck ?_
               case cj => rw [hi, hs1'.out]
               case cl => rw [hs1'.out]; rfl
               case ck => exact BV_all _)
  have hrow := setRow_heap w2 w.heap.size _ (BV (leafH d)).toArray _ _ hd4
  exact bodyPost_ret (results_cell_row rfl _ _ w.heap.size 24 _ (0, 0) _ rfl hrow hu rfl (by rw [hi, hs1'.out])) rfl
    ⟨rfl, hB2.grown (grownBy_setRow _ _ _) hB2.size (fun k e => by injection e with e; omega)⟩

/-- What Tree does at a list. -/
def TreeAt (l : List (List UInt8)) : Prop := ∀ (w : World) (a : Option Addr) (cap : Nat), RD w w.heap.size l a cap → KT w → 0 < w.heap.size → Calls Tryd.prog 8 #[.slice a l.length cap] w fun e w' => e = .returned (.agg (BV (treeH l)).toArray) ∧ Below w.heap.size w w'

set_option maxRecDepth 100000 in
set_option maxHeartbeats 4000000 in
theorem tree_two (l : List (List UInt8)) (h2 : 2 ≤ l.length) (hm : l.length ≤ 1000000000) (ih1 : TreeAt (l.take (half l.length))) (ih2 : TreeAt (l.drop (half l.length))) : TreeAt l := by
  intro w a cap hR hK h0
  have hKH := Lib.hid hK
  have hRH := Lib.hid hR
  have hb := half_bounds l.length h2 (by omega)
  obtain ⟨a1, hs1, hR1⟩ := hR.to (k := half l.length) (by omega)
  obtain ⟨a2, hs2, hR2⟩ := hR.from_ (k := half l.length) (by omega)
  have hlt : (l.take (half l.length)).length = half l.length := by rw [List.length_take]; omega
  have hld : (l.drop (half l.length)).length = l.length - half l.length := List.length_drop
  have hF := first_any l.length h2 (by omega)
  have hcap : l.length ≤ cap := hR.1
  have hfin := treeH_two l h2 (by omega)
  have i1 : TreeAt (l.take (half l.length)) := ih1
  have i2 : TreeAt (l.drop (half l.length)) := ih2
  unfold TreeAt at i1 i2
  rw [hlt] at i1
  rw [hld] at i2
  have hlA := treeH_length (l.take (half l.length))
  have hlB := treeH_length (l.drop (half l.length))
  generalize treeH (l.take (half l.length)) = dA at i1 hfin hlA
  generalize treeH (l.drop (half l.length)) = dB at i2 hfin hlB
  generalize half l.length = k at *
  have hF' := Lib.hid hF
  have i1' := Lib.hid i1
  have i2' := Lib.hid i2
  have hR1' := Lib.hid hR1
  have hR2' := Lib.hid hR2
  have hfin' := Lib.hid hfin
  have z0 : ((l.length : Int) == 0) = false := beq_eq_false_iff_ne.2 (by omega)
  have z1 : ((l.length : Int) == 1) = false := beq_eq_false_iff_ne.2 (by omega)
  have k0 : (0 : Int) ≤ k := by omega
  have k1 : (k : Int) ≤ l.length := by omega
  have k2 : (k : Int) ≤ cap := by omega
  have hu : Tryd.prog.underlying 24 = some (.array 32 5) := by kernel_rfl
  have hi : (Tryd.prog.info? 24).map (·.size) = some 32 := by kernel_rfl
  obtain ⟨hd, hB⟩ := zero_new w
  have hlA' := Lib.hid hlA
  have hlB' := Lib.hid hlB
  clear hF i1 i2 hR1 hR2 hfin hK hR ih1 ih2 hlt hld hlA hlB hRH
  go_enter Tryd.func8, Tryd.ntmps8
  go_wp2_with fail
  refine (hF'.out _).mono ?_
  rintro e w1 ⟨rfl, rfl⟩
  go_wp2_with fail
  generalize w.alloc (.cells #[.int .u8 0, .int .u8 0, .int .u8 0, .int .u8 0, .int .u8 0, .int .u8 0, .int .u8 0, .int .u8 0, .int .u8 0, .int .u8 0, .int .u8 0, .int .u8 0, .int .u8 0, .int .u8 0, .int .u8 0, .int .u8 0, .int .u8 0, .int .u8 0, .int .u8 0, .int .u8 0, .int .u8 0, .int .u8 0, .int .u8 0, .int .u8 0, .int .u8 0, .int .u8 0, .int .u8 0, .int .u8 0, .int .u8 0, .int .u8 0, .int .u8 0, .int .u8 0] 24) = w1 at hd hB ⊢
  have hd' := Lib.hid hd
  have hB' := Lib.hid hB
  have hB1 : Below w.heap.size w w1.drew := dN hB 1
  have hT1 := i1'.out w1.drew a1 cap (hR1'.out.below hB1) (hKH.out.below hB1 h0) (Nat.lt_of_lt_of_le h0 hB1.size)
  have hT1' := Lib.hid hT1
  have hs0' := Lib.hid (DV_size (d := nodeH dA dB) (tagH_length _ _))
  clear hd hB hB1 hT1
  go_region_held3 (fun _ => True) (trivial)
    (first
      | (go_at_call 21; refine hN'.out.mono ?_; rintro e w6 ⟨rfl, hb6⟩
         have hd6 := hd5'.out.below hb6 hd5'.out.lt
         have ho1 := BV_one (nodeH dA dB)
         have hth : w6.there w.heap.size 0 (BV (nodeH dA dB)).length := there_of hd6 (by rw [BV_length]; exact Nat.le_of_eq ((tagH_length _ _).trans (by simp)))
         have hB6 := hB5'.out.trans (hb6.mono hB5'.out.size)
         have hrow := setRow_heap w6 w.heap.size _ (BV (nodeH dA dB)).toArray _ _ hd6
         have heq := setCells_row hd6 (by simp) (tagH_length nodeB.data.toList (dA ++ dB))
         have hB7 := hB6.grown (grownBy_setRow w6 w.heap.size (BV (nodeH dA dB)).toArray) hB6.size (fun k e => by injection e with e; omega)
         have hrow' := Lib.hid hrow
         have heq' : Hid (w6.setCells w.heap.size 0 (BV (nodeH dA dB)) = w6.setRow w.heap.size (BV (nodeH dA dB)).toArray) := heq
         have hB7' := Lib.hid hB7
         clear hd6 hb6 hrow heq hB6 hB7)
      | (go_at_call 8; refine hT2'.out.mono ?_; rintro e w5 ⟨rfl, hb5⟩
         have hd5 := hd4'.out.below hb5 hd4'.out.lt
         have hB5 := hB4'.out.trans (hb5.mono hB4'.out.size)
         have hN : Calls Tryd.prog 21 #[.agg (BV dA).toArray, .agg (BV dB).toArray] w5 (fun e w' => e = .returned (.agg (BV (nodeH dA dB)).toArray) ∧ Below w5.heap.size w5 w') := node_any dA dB hlA'.out hlB'.out w5 (hKH.out.below hB5 h0) (Nat.lt_of_lt_of_le h0 hB5.size)
         have hN' := Lib.hid hN
         have hd5' := Lib.hid hd5
         have hB5' := Lib.hid hB5
         clear hN hd5 hB5 hb5 hT2')
      | (go_at_call 8; refine hT1'.out.mono ?_; rintro e w4 ⟨rfl, hb4⟩
         have hb4 : Below w1.heap.size w1 w4 := ⟨hb4.os, hb4.tape, hb4.output, hb4.size, hb4.block⟩
         have hd4 := hd'.out.below hb4 hd'.out.lt
         have hB4 := hB'.out.trans (hb4.mono hB'.out.size)
         have hT2 := i2'.out w4 a2 (cap - k) (hR2'.out.below hB4) (hKH.out.below hB4 h0) (Nat.lt_of_lt_of_le h0 hB4.size)
         have hT2' := Lib.hid hT2
         have hd4' := Lib.hid hd4
         have hB4' := Lib.hid hB4
         clear hT2 hd4 hB4 hb4 hT1'))
  rw [heq'.out]
  have hfr := hrow'.out
  have hfB := hB7'.out
  generalize w6.setRow w.heap.size (BV (nodeH dA dB)).toArray = w7 at hfr hfB ⊢
  clear ho1 hth
  go_wp2_with fail
  exact bodyPost_ret (results_cell_row rfl _ _ w.heap.size 24 _ (0, 0) _ rfl hfr hu rfl (by rw [hi, hs0'.out])) rfl ⟨by rw [hfin'.out], hfB⟩

theorem Tree_all (n : Nat) : ∀ l : List (List UInt8), l.length ≤ n → l.length ≤ 1000000000 → TreeAt l := by
  induction n with
  | zero =>
    intro l h _
    have : l = [] := List.eq_nil_of_length_eq_zero (by omega)
    subst this
    exact fun w a cap _ hK h0 => tree_nil w a cap hK h0
  | succ n ih =>
    intro l h hm
    match l, h, hm with
    | [], _, _ => exact fun w a cap _ hK h0 => tree_nil w a cap hK h0
    | [d], _, _ => exact fun w a cap hR hK h0 => tree_one d w a cap hR hK h0
    | x :: y :: r, h, hm =>
      have h2 : 2 ≤ (x :: y :: r).length := by simp
      have hb := half_bounds (x :: y :: r).length h2 (by omega)
      exact tree_two _ h2 hm (ih _ (by rw [List.length_take]; omega) (by rw [List.length_take]; omega)) (ih _ (by rw [List.length_drop]; omega) (by rw [List.length_drop]; omega))
theorem Tree_any (l : List (List UInt8)) (hm : l.length ≤ 1000000000) (w : World) (a : Option Addr) (cap : Nat) (hR : RD w w.heap.size l a cap) (hK : KT w) (h0 : 0 < w.heap.size) :
    Calls Tryd.prog 8 #[.slice a l.length cap] w fun e w' => e = .returned (.agg (BV (treeH l)).toArray) ∧ Below w.heap.size w w' := Tree_all l.length l (Nat.le_refl _) hm w a cap hR hK h0
end Go.Proofs.YtjfoihlelkfaoaaDoor
