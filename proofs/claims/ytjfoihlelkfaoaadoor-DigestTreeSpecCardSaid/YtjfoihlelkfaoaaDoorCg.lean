/- Climb, of any list of digests. -/
import Derived.Test.YtjfoihlelkfaoaaDoorPt
import Derived.Test.YtjfoihlelkfaoaaDoorKp
namespace Go.Proofs.YtjfoihlelkfaoaaDoor
open Go.RowKit

set_option maxRecDepth 100000 in
set_option maxHeartbeats 2000000 in
/-- Numbers that are none of a list. -/
theorem Climb_arg (d : List UInt8) (i n : Int) (h : n < 1 ∨ 1099511627776 < n ∨ i < 0 ∨ n ≤ i) (w : World) (v : Value) : Calls Tryd.prog 13 #[.agg (BV d).toArray, .int .i64 i, .int .i64 n, v] w fun e w' => e = .returned (.tuple #[.agg (BV zeroD).toArray, .int .i64 1]) ∧ Below w.heap.size w w' := by
  obtain ⟨hd1, hd2, hB⟩ := box_zero w d
  have hu : Tryd.prog.underlying 24 = some (.array 32 5) := by kernel_rfl
  have hi : (Tryd.prog.info? 24).map (·.size) = some 32 := by kernel_rfl
  have hs1' := Lib.hid (show (BV zeroD).toArray.size = 32 from rfl)
  have hd3 : ((w.alloc (.cells (BV d).toArray 24)).alloc (.cells #[.int .u8 0, .int .u8 0, .int .u8 0, .int .u8 0, .int .u8 0, .int .u8 0, .int .u8 0, .int .u8 0, .int .u8 0, .int .u8 0, .int .u8 0, .int .u8 0, .int .u8 0, .int .u8 0, .int .u8 0, .int .u8 0, .int .u8 0, .int .u8 0, .int .u8 0, .int .u8 0, .int .u8 0, .int .u8 0, .int .u8 0, .int .u8 0, .int .u8 0, .int .u8 0, .int .u8 0, .int .u8 0, .int .u8 0, .int .u8 0, .int .u8 0, .int .u8 0] 24)).heap[w.heap.size + 1]? = some (.cells (BV zeroD).toArray 24 (0, 0)) := hd2
  have hself := setRow_self _ (w.heap.size + 1) _ _ _ hd3
  have hself' := Lib.hid hself
  have hB' := Lib.hid hB
  clear hself hd1 hd2 hB
  have h' : n < 1 ∨ (¬ n < 1 ∧ 1099511627776 < n) ∨ (¬ n < 1 ∧ ¬ 1099511627776 < n ∧ i < 0) ∨ (¬ n < 1 ∧ ¬ 1099511627776 < n ∧ ¬ i < 0 ∧ n ≤ i) := by omega
  clear h
  go_enter Tryd.func13, Tryd.ntmps13
  rcases h' with h1 | ⟨h1, h2⟩ | ⟨h1, h2, h3⟩ | ⟨h1, h2, h3, h4⟩
  all_goals
    go_wp2_with (first
      | (refine wpList_load_row rfl 24 _ rfl (w.heap.size + 1) rfl 24 _ (0, 0) _ hd3 hu rfl ?ci ?_; case ci => rw [hi, hs1'.out])
      | (refine wpList_store_row rfl 24 _ _ rfl (w.heap.size + 1) _ rfl rfl 24 _ hd3 ?cj rfl ?ck ?_; case cj => rw [hi, hs1'.out]
         case ck => exact BV_all _))
    rw [hself'.out]
    exact bodyPost_ret (results_row_tmp rfl _ _ (w.heap.size + 1) 24 _ (0, 0) _ rfl hd3 hu rfl (by rw [hi, hs1'.out])) rfl ⟨rfl, hB'.out⟩

set_option maxRecDepth 100000 in
set_option maxHeartbeats 2000000 in
/-- A path of another length. -/
theorem Climb_len (d : List UInt8) (i n : Nat) (hn : n ≤ 1099511627776) (hi0 : i < n) (m : Nat) (hm : m ≠ (desc i n).length) (w : World) (a : Option Addr) (cap : Nat) : Calls Tryd.prog 13 #[.agg (BV d).toArray, .int .i64 i, .int .i64 n, .slice a m cap] w fun e w' => e = .returned (.tuple #[.agg (BV zeroD).toArray, .int .i64 1]) ∧ Below w.heap.size w w' := by
  obtain ⟨hd1, hd2, hB⟩ := box_zero w d
  have hdes := descent_any i n hn (.inl hi0)
  generalize desc i n = D at *
  have hdes' := Lib.hid hdes
  have g1 : ¬ ((n : Int) < 1) := by omega
  have g2 : ¬ (1099511627776 < (n : Int)) := by omega
  have g3 : ¬ ((i : Int) < 0) := by omega
  have g4 : ¬ ((n : Int) ≤ i) := by omega
  have hne : ((m : Int) != (D.length : Int)) = true := by simp; omega
  clear hdes
  go_enter Tryd.func13, Tryd.ntmps13
  go_wp2_with fail
  refine (hdes'.out _).mono ?_
  rintro e w1 ⟨v1, rfl, hob, hb1⟩
  obtain ⟨a1, c1, rfl⟩ : ∃ a1 c1, v1 = .slice a1 D.length c1 := by
    rcases hob.2 with ⟨h, h0⟩ | ⟨g, cap, cur, h, -⟩
    · exact ⟨none, 0, by rw [h0]; exact h⟩
    · exact ⟨_, cap, h⟩
  have hd3 := hd2.below hb1 hd2.lt
  have hB1 := hB.trans (hb1.mono hB.size)
  have hu : Tryd.prog.underlying 24 = some (.array 32 5) := by kernel_rfl
  have hi : (Tryd.prog.info? 24).map (·.size) = some 32 := by kernel_rfl
  have hs1' := Lib.hid (show (BV zeroD).toArray.size = 32 from rfl)
  have hd3 : w1.heap[w.heap.size + 1]? = some (.cells (BV zeroD).toArray 24 (0, 0)) := hd3
  have hself := setRow_self w1 (w.heap.size + 1) _ _ _ hd3
  have hself' := Lib.hid hself
  clear hob hb1 hd1 hd2 hB hself
  go_wp2_with (first
    | (refine wpList_load_row rfl 24 _ rfl (w.heap.size + 1) rfl 24 _ (0, 0) _ hd3 hu rfl ?ci ?_; case ci => rw [hi, hs1'.out])
    | (refine wpList_store_row rfl 24 _ _ rfl (w.heap.size + 1) _ rfl rfl 24 _ hd3 ?cj rfl ?ck ?_; case cj => rw [hi, hs1'.out]
       case ck => exact BV_all _))
  rw [hself'.out]
  exact bodyPost_ret (results_row_tmp rfl _ _ (w.heap.size + 1) 24 _ (0, 0) _ rfl hd3 hu rfl (by rw [hi, hs1'.out])) rfl ⟨rfl, hB1⟩

def stepH (b : Bool) (x r : List UInt8) : List UInt8 := if b then nodeH x r else nodeH r x
/-- What k steps of a climb lead to. -/
def upTo (d : List UInt8) (D : List Bool) (p : List (List UInt8)) : Nat → List UInt8
  | 0 => leafH d
  | k + 1 => stepH (D.getD (D.length - 1 - k) false) (p.getD k []) (upTo d D p k)
theorem stepH_length (b : Bool) (x r : List UInt8) : (stepH b x r).length = 32 := by unfold stepH; split <;> exact tagH_length _ _
theorem upTo_length (d : List UInt8) (D : List Bool) (p : List (List UInt8)) (k : Nat) : (upTo d D p k).length = 32 := by
  cases k with
  | zero => exact tagH_length _ _
  | succ k => exact stepH_length _ _ _

theorem grown_trans {a b c : World} {r : Option Nat} (h : a.grownBy b r) (k : b.grownBy c r) : a.grownBy c r :=
  ⟨k.os.trans h.os, k.tape.trans h.tape, k.output.trans h.output, Nat.le_trans h.size k.size, fun j hj hr => (k.block j (Nat.lt_of_lt_of_le hj h.size) hr).trans (h.block j hj hr)⟩
theorem grown_below {a b : World} {r : Option Nat} (h : Below a.heap.size a b) : a.grownBy b r := ⟨h.os, h.tape, h.output, h.size, fun j hj _ => h.block j hj⟩
theorem below_grown {a b : World} {N g : Nat} (h : a.grownBy b (some g)) (hN : N ≤ g) (hs : N ≤ a.heap.size) : Below N a b := (Below.refl N a).grown h hs (fun k e => by injection e with e; omega)

theorem OBo.kept {w w' : World} {B g : Nat} {v : Value} {l : List Bool} (h : OBo w B v l) (hg : w.grownBy w' (some g)) (hgB : g < B) : OBo w' B v l := by
  refine World.ownsRow.kept (row := some g) h hg ?_
  cases e : v.ownBlock with
  | none => exact .inl rfl
  | some k =>
    refine .inr fun e' => ?_
    injection e' with e'
    have := (World.ownsRow.lt h k e).1
    omega
theorem OBo.get {w : World} {B n c k : Nat} {a : Option Addr} {l : List Bool} (h : OBo w B (.slice a n c) l) (hk : k < l.length) : ∃ g, a = some ⟨g, 0, none⟩ ∧ B ≤ g ∧ g < w.heap.size ∧ w.cell? ⟨g, k, none⟩ = some (.bool (l.getD k false)) := by
  rcases h.2 with ⟨e, h0⟩ | ⟨g, cap, cur, e, hb, hg, hnc, hcm, hcs, ht⟩
  · omega
  · injection e with e1 e2 e3
    subst e1
    refine ⟨g, rfl, hb, (Array.getElem?_eq_some_iff.1 hg).1, ?_⟩
    rw [cell_of_row w g k _ _ _ hg, ← Array.getElem?_toList, ← List.getElem?_take_of_lt (show k < l.length * 1 by omega), ht]
    simp [BB, List.getD_eq_getElem?_getD, hk]

set_option maxRecDepth 100000 in
set_option maxHeartbeats 4000000 in
theorem Climb_ok (d : List UInt8) (hd : d.length = 32) (i n : Nat) (hn : n ≤ 1099511627776) (hi0 : i < n) (p : List (List UInt8)) (hm : p.length = (desc i n).length) (w : World) (a : Option Addr) (cap : Nat) (hR : RD w w.heap.size p a cap) (hK : KT w) (h0 : 0 < w.heap.size) :
    Calls Tryd.prog 13 #[.agg (BV d).toArray, .int .i64 i, .int .i64 n, .slice a p.length cap] w fun e w' => e = .returned (.tuple #[.agg (BV (upTo d (desc i n) p p.length)).toArray, .int .i64 0]) ∧ Below w.heap.size w w' := by
  have hKH := Lib.hid hK
  have hRH := Lib.hid hR
  have hpn : p.length ≤ 1099511627776 := by have := desc_length n i n (Nat.le_refl _) (by omega); omega
  obtain ⟨hd1, hd2, hB⟩ := box_zero w d
  have hdes := descent_any i n hn (.inl hi0)
  generalize desc i n = D at *
  have hdes' := Lib.hid hdes
  have hm' := Lib.hid hm
  clear hm
  have g1 : ¬ ((n : Int) < 1) := by omega
  have g2 : ¬ (1099511627776 < (n : Int)) := by omega
  have g3 : ¬ ((i : Int) < 0) := by omega
  have g4 : ¬ ((n : Int) ≤ i) := by omega
  clear hdes hK hR
  go_enter Tryd.func13, Tryd.ntmps13
  go_wp2_with fail
  refine (hdes'.out _).mono ?_
  rintro e w1 ⟨v1, rfl, hob, hb1⟩
  obtain ⟨a1, c1, rfl⟩ : ∃ a1 c1, v1 = .slice a1 p.length c1 := by
    rw [hm'.out]
    rcases hob.2 with ⟨h, h0⟩ | ⟨g, cap, cur, h, -⟩
    · exact ⟨none, 0, by rw [h0]; exact h⟩
    · exact ⟨_, cap, h⟩
  have hd3 := hd2.below hb1 hd2.lt
  have hd4 := hd1.below hb1 hd1.lt
  have hB1 := hB.trans (hb1.mono hB.size)
  have hu : Tryd.prog.underlying 24 = some (.array 32 5) := by kernel_rfl
  have hi : (Tryd.prog.info? 24).map (·.size) = some 32 := by kernel_rfl
  have hs1' := Lib.hid (DV_size hd)
  have hs2' := Lib.hid (DV_size (d := leafH d) (tagH_length _ _))
  have hL : Calls Tryd.prog 19 #[.agg (BV d).toArray] w1 (fun e w' => e = .returned (.agg (BV (leafH d)).toArray) ∧ Below w1.heap.size w1 w') := leaf_any d hd w1 (hKH.out.below hB1 h0) (Nat.lt_of_lt_of_le h0 hB1.size)
  have hL' := Lib.hid hL
  have hd3' := Lib.hid hd3
  have hob1 : OBo w1 (w.heap.size + 2) (.slice a1 p.length c1) D := by simpa using hob
  have hob' := Lib.hid hob1
  clear hob hob1 hb1 hd1 hd2 hB hL hd3
  go_wp2_with (refine wpList_load_row rfl 24 _ rfl w.heap.size rfl 24 _ (0, 0) _ hd4 hu rfl ?ci ?_; case ci => rw [hi, hs1'.out])
  refine hL'.out.mono ?_
  rintro e w2 ⟨rfl, hb2⟩
  have hd5 := hd3'.out.below hb2 hd3'.out.lt
  have hB2 := hB1.trans (hb2.mono hB1.size)
  have hz2 : w.heap.size + 1 < w2.heap.size := hd5.lt
  have hrow : DB (w2.setRow (w.heap.size + 1) (BV (leafH d)).toArray) (w.heap.size + 1) 24 (leafH d) := setRow_heap w2 (w.heap.size + 1) _ (BV (leafH d)).toArray _ _ hd5
  have hB3 := hB2.grown (grownBy_setRow w2 (w.heap.size + 1) (BV (leafH d)).toArray) hB2.size (fun k e => by injection e with e; omega)
  have hob3 : OBo (w2.setRow (w.heap.size + 1) (BV (leafH d)).toArray) (w.heap.size + 2) (.slice a1 p.length c1) D := by
    exact (hob'.out.kept (grown_below (r := some (w.heap.size + 1)) hb2) (by omega)).kept (grownBy_setRow _ _ _) (by omega)
  have hrow' := Lib.hid hrow
  have hB3' := Lib.hid hB3
  have hob3' := Lib.hid hob3
  have hz3 : w.heap.size + 1 < (w2.setRow (w.heap.size + 1) (BV (leafH d)).toArray).heap.size := by simpa using hz2
  clear hd4 hrow hB3 hB2 hB1 hb2 hob3 hob'
  go_wp2_with (refine wpList_store_row rfl 24 _ _ rfl (w.heap.size + 1) _ rfl rfl 24 _ hd5 ?cj ?cl ?ck ?_
               case cj => rw [hi, hs2'.out]
               case cl => rw [hs2'.out]; rfl
               case ck => exact BV_all _)
  generalize w2.setRow (w.heap.size + 1) (BV (leafH d)).toArray = w3 at hrow' hB3' hob3' hz3 ⊢
  clear hd5
  go_loopw [42] (fun x wr => ∃ k : Nat, x = .int .i64 k ∧ k ≤ p.length ∧ Hid (DB wr (w.heap.size + 1) 24 (upTo d D p k)) ∧ Hid (w3.grownBy wr (some (w.heap.size + 1)))) (fun x _ => p.length - (intOf x).toNat)
  case atStart => exact ⟨0, rfl, by omega, hrow', Lib.hid ⟨rfl, rfl, rfl, Nat.le_refl _, fun _ _ _ => rfl⟩⟩
  case round =>
    obtain ⟨k, rfl, hk, hcur, hgr⟩ := hrel
    have hBr : Below w.heap.size w wr := hB3'.out.trans (below_grown hgr.out (by omega) (by omega))
    have hzr : w.heap.size + 1 < wr.heap.size := hcur.out.lt
    by_cases hkp : k < p.length
    · obtain ⟨b, off, rfl, hbl, hel⟩ := (hRH.out.under hBr (Nat.le_refl _)).at_ hkp
      have hx32 : p[k].length = 32 := hRH.out.2.2.1 _ (List.getElem_mem hkp)
      have hgd : p.getD k [] = p[k] := by rw [List.getD_eq_getElem?_getD, List.getElem?_eq_getElem hkp]; rfl
      have hr32 := upTo_length d D p k
      have hup : upTo d D p (k + 1) = stepH (D.getD (D.length - 1 - k) false) (p.getD k []) (upTo d D p k) := rfl
      rw [hgd] at hup
      obtain ⟨g, rfl, hgB, hglt, hcell⟩ := (hob3'.out.kept hgr.out (by omega)).get (k := D.length - 1 - k) (by have := hm'.out; omega)
      rw [← hm'.out] at hup hcell
      generalize p[k] = x at *
      generalize upTo d D p k = r at *
      have hz := (zero_new wr).1
      have hBz := (zero_new wr).2
      have y1 : DB ((wr.alloc (.cells #[.int .u8 0, .int .u8 0, .int .u8 0, .int .u8 0, .int .u8 0, .int .u8 0, .int .u8 0, .int .u8 0, .int .u8 0, .int .u8 0, .int .u8 0, .int .u8 0, .int .u8 0, .int .u8 0, .int .u8 0, .int .u8 0, .int .u8 0, .int .u8 0, .int .u8 0, .int .u8 0, .int .u8 0, .int .u8 0, .int .u8 0, .int .u8 0, .int .u8 0, .int .u8 0, .int .u8 0, .int .u8 0, .int .u8 0, .int .u8 0, .int .u8 0, .int .u8 0] 24)).setRow wr.heap.size (BV x).toArray) wr.heap.size 24 x := hz.store
      have y2 : DB ((wr.alloc (.cells #[.int .u8 0, .int .u8 0, .int .u8 0, .int .u8 0, .int .u8 0, .int .u8 0, .int .u8 0, .int .u8 0, .int .u8 0, .int .u8 0, .int .u8 0, .int .u8 0, .int .u8 0, .int .u8 0, .int .u8 0, .int .u8 0, .int .u8 0, .int .u8 0, .int .u8 0, .int .u8 0, .int .u8 0, .int .u8 0, .int .u8 0, .int .u8 0, .int .u8 0, .int .u8 0, .int .u8 0, .int .u8 0, .int .u8 0, .int .u8 0, .int .u8 0, .int .u8 0] 24)).setRow wr.heap.size (BV x).toArray) (w.heap.size + 1) 24 r := (hcur.out.below hBz hcur.out.lt).far _ (by omega)
      have hBW : Below wr.heap.size wr ((wr.alloc (.cells #[.int .u8 0, .int .u8 0, .int .u8 0, .int .u8 0, .int .u8 0, .int .u8 0, .int .u8 0, .int .u8 0, .int .u8 0, .int .u8 0, .int .u8 0, .int .u8 0, .int .u8 0, .int .u8 0, .int .u8 0, .int .u8 0, .int .u8 0, .int .u8 0, .int .u8 0, .int .u8 0, .int .u8 0, .int .u8 0, .int .u8 0, .int .u8 0, .int .u8 0, .int .u8 0, .int .u8 0, .int .u8 0, .int .u8 0, .int .u8 0, .int .u8 0, .int .u8 0] 24)).setRow wr.heap.size (BV x).toArray) := below_row hBz _ (Nat.le_refl _) (by simp)
      have hcW : ((wr.alloc (.cells #[.int .u8 0, .int .u8 0, .int .u8 0, .int .u8 0, .int .u8 0, .int .u8 0, .int .u8 0, .int .u8 0, .int .u8 0, .int .u8 0, .int .u8 0, .int .u8 0, .int .u8 0, .int .u8 0, .int .u8 0, .int .u8 0, .int .u8 0, .int .u8 0, .int .u8 0, .int .u8 0, .int .u8 0, .int .u8 0, .int .u8 0, .int .u8 0, .int .u8 0, .int .u8 0, .int .u8 0, .int .u8 0, .int .u8 0, .int .u8 0, .int .u8 0, .int .u8 0] 24)).setRow wr.heap.size (BV x).toArray).cell? ⟨g, p.length - 1 - k, none⟩ = some (.bool (D.getD (p.length - 1 - k) false)) := (hBW.cell (p := ⟨g, p.length - 1 - k, none⟩) hglt).trans hcell
      have hs3 := Lib.hid (DV_size hx32)
      have hs4 := Lib.hid (DV_size hr32)
      have hlx := Lib.hid (show (BV x).length = 32 from BV_length32 hx32)
      have hBW2 := hBr.trans (hBW.mono (by omega))
      have hwa : IntKind.i64.wrap ((p.length : Int) - 1) = p.length - 1 := IntWalk.i64_in _ (by omega)
      have hwb : IntKind.i64.wrap ((p.length : Int) - 1 - k) = p.length - 1 - k := IntWalk.i64_in _ (by omega)
      have hidx : ((p.length : Int) - 1 - k).toNat = p.length - 1 - k := by omega
      have hi0' : (0 : Int) ≤ (p.length : Int) - 1 - k := by omega
      have hi1' : (p.length : Int) - 1 - k < p.length := by omega
      have hgr' := hgr
      clear hcell
      cases hb : D.getD (p.length - 1 - k) false with
      | true =>
        rw [hb] at hcW hup
        have hN : Calls Tryd.prog 21 #[.agg (BV x).toArray, .agg (BV r).toArray] ((wr.alloc (.cells #[.int .u8 0, .int .u8 0, .int .u8 0, .int .u8 0, .int .u8 0, .int .u8 0, .int .u8 0, .int .u8 0, .int .u8 0, .int .u8 0, .int .u8 0, .int .u8 0, .int .u8 0, .int .u8 0, .int .u8 0, .int .u8 0, .int .u8 0, .int .u8 0, .int .u8 0, .int .u8 0, .int .u8 0, .int .u8 0, .int .u8 0, .int .u8 0, .int .u8 0, .int .u8 0, .int .u8 0, .int .u8 0, .int .u8 0, .int .u8 0, .int .u8 0, .int .u8 0] 24)).setRow wr.heap.size (BV x).toArray) (fun e w' => e = .returned (.agg (BV (nodeH x r)).toArray) ∧ Below ((wr.alloc (.cells #[.int .u8 0, .int .u8 0, .int .u8 0, .int .u8 0, .int .u8 0, .int .u8 0, .int .u8 0, .int .u8 0, .int .u8 0, .int .u8 0, .int .u8 0, .int .u8 0, .int .u8 0, .int .u8 0, .int .u8 0, .int .u8 0, .int .u8 0, .int .u8 0, .int .u8 0, .int .u8 0, .int .u8 0, .int .u8 0, .int .u8 0, .int .u8 0, .int .u8 0, .int .u8 0, .int .u8 0, .int .u8 0, .int .u8 0, .int .u8 0, .int .u8 0, .int .u8 0] 24)).setRow wr.heap.size (BV x).toArray).heap.size ((wr.alloc (.cells #[.int .u8 0, .int .u8 0, .int .u8 0, .int .u8 0, .int .u8 0, .int .u8 0, .int .u8 0, .int .u8 0, .int .u8 0, .int .u8 0, .int .u8 0, .int .u8 0, .int .u8 0, .int .u8 0, .int .u8 0, .int .u8 0, .int .u8 0, .int .u8 0, .int .u8 0, .int .u8 0, .int .u8 0, .int .u8 0, .int .u8 0, .int .u8 0, .int .u8 0, .int .u8 0, .int .u8 0, .int .u8 0, .int .u8 0, .int .u8 0, .int .u8 0, .int .u8 0] 24)).setRow wr.heap.size (BV x).toArray) w') := node_any x r hx32 hr32 _ (hKH.out.below hBW2 h0) (Nat.lt_of_lt_of_le h0 hBW2.size)
        have hN' := Lib.hid hN
        clear hN
        go_wp2_with (first
          | (refine wpList_load_mid rfl 24 _ rfl b (off + k * 32) rfl _ _ hel hu rfl ?cp ?_; case cp => rw [hi, hlx.out])
          | (refine wpList_load_row rfl 24 _ rfl wr.heap.size rfl 24 _ (0, 0) _ y1 hu rfl ?cq ?_; case cq => rw [hi, hs3.out])
          | (refine wpList_load_row rfl 24 _ rfl (w.heap.size + 1) rfl 24 _ (0, 0) _ y2 hu rfl ?cr ?_; case cr => rw [hi, hs4.out])
          | (refine wpList_store_row rfl 24 _ _ rfl wr.heap.size _ rfl rfl 24 _ hz ?cs ?ct ?cu ?_
             case cs => rw [hi, hs3.out]
             case ct => rw [hs3.out]; rfl
             case cu => exact BV_all _))
        refine hN'.out.mono ?_
        rintro e w5 ⟨rfl, hb5⟩
        have y5 := y2.below hb5 y2.lt
        have hlx5 := y5.lt
        have hs6 := Lib.hid (DV_size (d := nodeH x r) (tagH_length _ _))
        have hgr5 : wr.grownBy w5 (some (w.heap.size + 1)) := grown_below (hBW.trans (hb5.mono hBW.size))
        have hgr6 : w3.grownBy (w5.setRow (w.heap.size + 1) (BV (nodeH x r)).toArray) (some (w.heap.size + 1)) := grown_trans (grown_trans hgr'.out hgr5) (grownBy_setRow _ _ _)
        have hgr6' := Lib.hid hgr6
        have y6 : Hid (DB (w5.setRow (w.heap.size + 1) (BV (nodeH x r)).toArray) (w.heap.size + 1) 24 (upTo d D p (k + 1))) := Lib.hid (by rw [hup]; exact y5.store)
        clear hz hBz y1 y2 hBW hcW hel hgr5 hgr6 hN'
        go_wp2_with (refine wpList_store_row rfl 24 _ _ rfl (w.heap.size + 1) _ rfl rfl 24 _ y5 ?cj2 ?cl2 ?ck2 ?_
                     case cj2 => rw [hi, hs6.out]
                     case cl2 => rw [hs6.out, hs4.out]
                     case ck2 => exact BV_all _)
        go_roundw
        case rel => exact ⟨k + 1, by go_num, by omega, y6, hgr6'⟩
        case measure => simp [intOf]; omega
      | false =>
        rw [hb] at hcW hup
        have hN : Calls Tryd.prog 21 #[.agg (BV r).toArray, .agg (BV x).toArray] ((wr.alloc (.cells #[.int .u8 0, .int .u8 0, .int .u8 0, .int .u8 0, .int .u8 0, .int .u8 0, .int .u8 0, .int .u8 0, .int .u8 0, .int .u8 0, .int .u8 0, .int .u8 0, .int .u8 0, .int .u8 0, .int .u8 0, .int .u8 0, .int .u8 0, .int .u8 0, .int .u8 0, .int .u8 0, .int .u8 0, .int .u8 0, .int .u8 0, .int .u8 0, .int .u8 0, .int .u8 0, .int .u8 0, .int .u8 0, .int .u8 0, .int .u8 0, .int .u8 0, .int .u8 0] 24)).setRow wr.heap.size (BV x).toArray) (fun e w' => e = .returned (.agg (BV (nodeH r x)).toArray) ∧ Below ((wr.alloc (.cells #[.int .u8 0, .int .u8 0, .int .u8 0, .int .u8 0, .int .u8 0, .int .u8 0, .int .u8 0, .int .u8 0, .int .u8 0, .int .u8 0, .int .u8 0, .int .u8 0, .int .u8 0, .int .u8 0, .int .u8 0, .int .u8 0, .int .u8 0, .int .u8 0, .int .u8 0, .int .u8 0, .int .u8 0, .int .u8 0, .int .u8 0, .int .u8 0, .int .u8 0, .int .u8 0, .int .u8 0, .int .u8 0, .int .u8 0, .int .u8 0, .int .u8 0, .int .u8 0] 24)).setRow wr.heap.size (BV x).toArray).heap.size ((wr.alloc (.cells #[.int .u8 0, .int .u8 0, .int .u8 0, .int .u8 0, .int .u8 0, .int .u8 0, .int .u8 0, .int .u8 0, .int .u8 0, .int .u8 0, .int .u8 0, .int .u8 0, .int .u8 0, .int .u8 0, .int .u8 0, .int .u8 0, .int .u8 0, .int .u8 0, .int .u8 0, .int .u8 0, .int .u8 0, .int .u8 0, .int .u8 0, .int .u8 0, .int .u8 0, .int .u8 0, .int .u8 0, .int .u8 0, .int .u8 0, .int .u8 0, .int .u8 0, .int .u8 0] 24)).setRow wr.heap.size (BV x).toArray) w') := node_any r x hr32 hx32 _ (hKH.out.below hBW2 h0) (Nat.lt_of_lt_of_le h0 hBW2.size)
        have hN' := Lib.hid hN
        clear hN
        go_wp2_with (first
          | (refine wpList_load_mid rfl 24 _ rfl b (off + k * 32) rfl _ _ hel hu rfl ?cp ?_; case cp => rw [hi, hlx.out])
          | (refine wpList_load_row rfl 24 _ rfl wr.heap.size rfl 24 _ (0, 0) _ y1 hu rfl ?cq ?_; case cq => rw [hi, hs3.out])
          | (refine wpList_load_row rfl 24 _ rfl (w.heap.size + 1) rfl 24 _ (0, 0) _ y2 hu rfl ?cr ?_; case cr => rw [hi, hs4.out])
          | (refine wpList_store_row rfl 24 _ _ rfl wr.heap.size _ rfl rfl 24 _ hz ?cs ?ct ?cu ?_
             case cs => rw [hi, hs3.out]
             case ct => rw [hs3.out]; rfl
             case cu => exact BV_all _))
        refine hN'.out.mono ?_
        rintro e w5 ⟨rfl, hb5⟩
        have y5 := y2.below hb5 y2.lt
        have hlx5 := y5.lt
        have hs6 := Lib.hid (DV_size (d := nodeH r x) (tagH_length _ _))
        have hgr5 : wr.grownBy w5 (some (w.heap.size + 1)) := grown_below (hBW.trans (hb5.mono hBW.size))
        have hgr6 : w3.grownBy (w5.setRow (w.heap.size + 1) (BV (nodeH r x)).toArray) (some (w.heap.size + 1)) := grown_trans (grown_trans hgr'.out hgr5) (grownBy_setRow _ _ _)
        have hgr6' := Lib.hid hgr6
        have y6 : Hid (DB (w5.setRow (w.heap.size + 1) (BV (nodeH r x)).toArray) (w.heap.size + 1) 24 (upTo d D p (k + 1))) := Lib.hid (by rw [hup]; exact y5.store)
        clear hz hBz y1 y2 hBW hcW hel hgr5 hgr6 hN'
        go_wp2_with (refine wpList_store_row rfl 24 _ _ rfl (w.heap.size + 1) _ rfl rfl 24 _ y5 ?cj2 ?cl2 ?ck2 ?_
                     case cj2 => rw [hi, hs6.out]
                     case cl2 => rw [hs6.out, hs4.out]
                     case ck2 => exact BV_all _)
        go_roundw
        case rel => exact ⟨k + 1, by go_num, by omega, y6, hgr6'⟩
        case measure => simp [intOf]; omega
    · have hkk : k = p.length := by omega
      subst hkk
      have hr := hcur.out
      have hself := setRow_self wr (w.heap.size + 1) _ _ _ hr
      have hself' := Lib.hid hself
      have hs9 := Lib.hid (DV_size (upTo_length d D p p.length))
      clear hself
      go_wp2_with (first
        | (refine wpList_load_row rfl 24 _ rfl (w.heap.size + 1) rfl 24 _ (0, 0) _ hr hu rfl ?cm ?_; case cm => rw [hi, hs9.out])
        | (refine wpList_store_row rfl 24 _ _ rfl (w.heap.size + 1) _ rfl rfl 24 _ hr ?cn rfl ?co ?_; case cn => rw [hi, hs9.out]
           case co => exact BV_all _))
      rw [hself'.out]
      exact bodyPost_ret (results_row_tmp rfl _ _ (w.heap.size + 1) 24 _ (0, 0) _ rfl hr hu rfl (by rw [hi, hs9.out])) rfl ⟨rfl, hBr⟩
end Go.Proofs.YtjfoihlelkfaoaaDoor
