/- The reference's climb. -/
import Derived.Test.YtjfoihlelkfaoaaDoorRpt
import Derived.Test.YtjfoihlelkfaoaaDoorCg
namespace Go.Proofs.YtjfoihlelkfaoaaDoor
open Go.RowKit

theorem upTo_cons (d : List UInt8) (b : Bool) (D : List Bool) (q : List (List UInt8)) (x : List UInt8) (h : q.length = D.length) : ∀ k, k ≤ D.length → upTo d (b :: D) (q ++ [x]) k = upTo d D q k := by
  intro k
  induction k with
  | zero => intro _; rfl
  | succ k ih =>
    intro hk
    rw [upTo, upTo, ih (by omega)]
    congr 1
    · rw [List.length_cons, show D.length + 1 - 1 - k = (D.length - 1 - k) + 1 by omega, List.getD_cons_succ]
    · rw [List.getD_eq_getElem?_getD, List.getD_eq_getElem?_getD, List.getElem?_append_left (by omega)]
theorem climb_step (d : List UInt8) (i n : Nat) (h2 : 2 ≤ n) (hn : n ≤ 1099511627776) (q : List (List UInt8)) (x : List UInt8) (hq : (q ++ [x]).length = (desc i n).length) :
    upTo d (desc i n) (q ++ [x]) (q ++ [x]).length = if i < half n then nodeH (upTo d (desc i (half n)) q q.length) x else nodeH x (upTo d (desc (i - half n) (n - half n)) q q.length) := by
  rw [desc_step i n h2 (by omega)] at hq ⊢
  rw [List.length_append, List.length_singleton, List.length_cons] at hq
  rw [List.length_append, List.length_singleton, upTo, List.length_cons]
  split
  · rename_i hi
    rw [if_pos hi] at hq
    rw [upTo_cons _ _ _ _ _ (by omega) _ (by omega)]
    have e1 : (desc i (half n)).length + 1 - 1 - q.length = 0 := by omega
    rw [e1, List.getD_cons_zero, List.getD_eq_getElem?_getD, List.getElem?_append_right (Nat.le_refl _), Nat.sub_self]
    rw [decide_eq_false (by omega)]
    rfl
  · rename_i hi
    rw [if_neg hi] at hq
    rw [upTo_cons _ _ _ _ _ (by omega) _ (by omega)]
    have e1 : (desc (i - half n) (n - half n)).length + 1 - 1 - q.length = 0 := by omega
    rw [e1, List.getD_cons_zero, List.getD_eq_getElem?_getD, List.getElem?_append_right (Nat.le_refl _), Nat.sub_self]
    rw [decide_eq_true (by omega)]
    rfl

/-- The reference's climb, in a list of n elements. -/
def RClimbAt (d : List UInt8) (n : Nat) : Prop := ∀ (i : Nat) (p : List (List UInt8)) (w : World) (a : Option Addr) (cap : Nat), i < n → p.length = (desc i n).length → RD w w.heap.size p a cap →
  Calls Tryd.prog 29 #[.agg (BV d).toArray, .int .i64 (i : Int), .int .i64 (n : Int), .slice a p.length cap] w fun e w' => e = .returned (.agg (BV (upTo d (desc i n) p p.length)).toArray) ∧ Below w.heap.size w w'

attribute [local irreducible] Calls
set_option maxRecDepth 100000 in
set_option maxHeartbeats 2000000 in
theorem rclimb_one (d : List UInt8) (hd : d.length = 32) : RClimbAt d 1 := by
  intro i p w a cap hi hp hR
  have hp0 : p.length = 0 := by rw [hp, desc_one i 1 (Nat.le_refl _)]; rfl
  have hu : Tryd.prog.underlying 24 = some (.array 32 5) := by kernel_rfl
  have hii : (Tryd.prog.info? 24).map (·.size) = some 32 := by kernel_rfl
  obtain ⟨hd1, hd2, hB⟩ := box_zero w d
  have hT := rTagged_any leafB (by decide) d (by omega) _ (some ⟨w.heap.size, 0, none⟩) 32 hd1.reads (fun h => by cases h)
  rw [hd] at hT
  have hT : Hid (Calls Tryd.prog 22 #[.string ⟨#[108, 101, 97, 102]⟩, .slice (some ⟨w.heap.size, 0, none⟩) 32 32] _ _) := hT
  have hs0 := slice_digest w.heap.size 0
  have hsz : (BV (tagH leafB.data.toList d)).toArray.size = 32 := DV_size (tagH_length _ _)
  have hsz' := Lib.hid hsz
  have hR' := Lib.hid hp0
  clear hsz hR hp hp0
  go_enter Tryd.func29, Tryd.ntmps29
  go_wp2_with fail
  refine hT.out.mono ?_
  rintro e w1 ⟨rfl, hb1⟩
  have hz1 := hd2.below hb1 hd2.lt
  have hB1 := hB.trans (hb1.mono hB.size)
  clear hd1 hd2 hB hb1
  go_wp2_with (refine wpList_store_row rfl 24 _ _ rfl (w.heap.size + 1) _ rfl rfl 24 _ hz1 ?cj ?cl ?ck ?_
               case cj => rw [hii, hsz'.out]
               case cl => rw [hsz'.out]; rfl
               case ck => exact BV_all _)
  have hrow := setRow_heap w1 (w.heap.size + 1) _ (BV (tagH leafB.data.toList d)).toArray _ _ hz1
  exact bodyPost_ret (results_cell_row rfl _ _ (w.heap.size + 1) 24 _ (0, 0) _ rfl hrow hu rfl (by rw [hii, hsz'.out])) rfl
    ⟨by rw [hR'.out]; rfl, hB1.grown (grownBy_setRow _ _ _) hB1.size (fun k e => by injection e with e; omega)⟩

set_option maxRecDepth 100000 in
set_option maxHeartbeats 2000000 in
theorem rclimb_two (d : List UInt8) (hd : d.length = 32) (n : Nat) (h2 : 2 ≤ n) (hn : n ≤ 1099511627776) (ih1 : RClimbAt d (half n)) (ih2 : RClimbAt d (n - half n)) : RClimbAt d n := by
  intro i p w a0 cap hin hp hR
  have hbd := half_bounds n h2 (by omega)
  obtain ⟨m, hm⟩ : ∃ m, p.length = m + 1 := ⟨(desc i n).length - 1, by rw [hp, desc_step i n h2 (by omega), List.length_cons]; omega⟩
  have hmN : m ≤ 1099511627776 := by have := desc_length n i n (Nat.le_refl _) (by omega); omega
  obtain ⟨q, x, rfl⟩ : ∃ q x, p = q ++ [x] := by
    rcases List.eq_nil_or_concat p with h | ⟨q, x, h⟩
    · rw [h] at hm; simp at hm
    · exact ⟨q, x, by rw [h]; simp⟩
  have hqm : q.length = m := by simpa using hm
  have hx : x.length = 32 := hR.2.2.1 x (by simp)
  have hst := climb_step d i n h2 hn q x hp
  have hdq : (if i < half n then (desc i (half n)).length else (desc (i - half n) (n - half n)).length) = m := by
    rw [desc_step i n h2 (by omega), List.length_cons] at hp
    rw [hm] at hp
    split <;> rename_i hi
    · rw [if_pos hi] at hp; omega
    · rw [if_neg hi] at hp; omega
  have hu : Tryd.prog.underlying 24 = some (.array 32 5) := by kernel_rfl
  have hii : (Tryd.prog.info? 24).map (·.size) = some 32 := by kernel_rfl
  obtain ⟨hd1, hd2, hB⟩ := box_zero w d
  obtain ⟨b, off, rfl, hbB, hrx⟩ := hR.at_ (i := m) (by omega)
  have hgx : (q ++ [x])[m]'(by omega) = x := by simp [← hqm]
  rw [hgx] at hrx
  obtain ⟨a1, hs1, -⟩ := hR.to (k := m) (by omega)
  have htk : (q ++ [x]).take m = q := by rw [← hqm]; exact List.take_left
  have hH := Lib.hid (rhalf_any n h2 hn)
  have hRH := Lib.hid hR
  have hp1 : ((n : Int) == 1) = false := beq_eq_false_iff_ne.2 (by omega)
  have huH := Lib.hid hu
  have hiH := Lib.hid hii
  have hlen1 : IntKind.i64.wrap (m : Int) = m := IntWalk.i64_in _ (by omega)
  have hs1 : Hid (∀ k, (Instr.slice 26 (.slice (some ⟨b, off, none⟩) (q ++ [x]).length cap) none (some (.int .i64 (m : Int))) none).run Tryd.prog k = .ok (.slice a1 m cap) k) := hs1
  have hmL := Lib.hid hm
  rw [hm] at hs1 ⊢
  have hs1H := Lib.hid hs1
  have hstH := Lib.hid hst
  have hrxH := Lib.hid hrx
  have hd1 := Lib.hid hd1
  have hd2 := Lib.hid hd2
  have hBH := Lib.hid hB
  have hld : (BV x).length = 32 := BV_length32 hx
  have hsx : (BV x).toArray.size = 32 := by rw [List.size_toArray, BV_length, hx]
  have hldH := Lib.hid hld
  have hsxH := Lib.hid hsx
  have m0 : (0 : Int) ≤ m := by omega
  have m1 : (m : Int) < m + 1 := by omega
  clear hs1 hst hrx hB hR hu hii hld hsx hbd hgx
  go_enter Tryd.func29, Tryd.ntmps29
  go_wp2_with fail
  refine (hH.out _).mono ?_
  rintro e w2 ⟨rfl, hb2⟩
  have hB2 := hBH.out.trans (hb2.mono hBH.out.size)
  have hel : w2.rangeAt b (off + m * 32) (BV x) := fun j v hv => (hB2.cell (p := ⟨b, off + m * 32 + j, none⟩) hbB).trans (hrxH.out j v hv)
  have hz := heap_alloc_last w2 (.cells #[.int .u8 0, .int .u8 0, .int .u8 0, .int .u8 0, .int .u8 0, .int .u8 0, .int .u8 0, .int .u8 0, .int .u8 0, .int .u8 0, .int .u8 0, .int .u8 0, .int .u8 0, .int .u8 0, .int .u8 0, .int .u8 0, .int .u8 0, .int .u8 0, .int .u8 0, .int .u8 0, .int .u8 0, .int .u8 0, .int .u8 0, .int .u8 0, .int .u8 0, .int .u8 0, .int .u8 0, .int .u8 0, .int .u8 0, .int .u8 0, .int .u8 0, .int .u8 0] 24)
  have hu := huH.out
  have hi0 := hiH.out
  have hb4 : Below w2.heap.size w2 (w2.alloc (.cells (BV x).toArray 24)) := (Below.refl _ _).alloc (Nat.le_refl _) _
  have hx4 : DB (w2.alloc (.cells (BV x).toArray 24)) w2.heap.size 24 x := heap_alloc_new _ _
  have hd4 := Lib.hid ((hd1.out.below hb2 hd1.out.lt).below hb4 (hd1.out.below hb2 hd1.out.lt).lt)
  have hz4 := Lib.hid ((hd2.out.below hb2 hd2.out.lt).below hb4 (hd2.out.below hb2 hd2.out.lt).lt)
  have hbb4 := Lib.hid (hB2.trans (hb4.mono hB2.size))
  have hx4 := Lib.hid hx4
  clear hb2 hB2 hb4 hH hd1 hd2 hBH
  by_cases hi : i < half n
  · have hi' : (i : Int) < ((half n : Nat) : Int) := by omega
    rw [if_pos hi] at hdq
    have hst2 := hstH.out
    rw [if_pos hi] at hst2
    obtain ⟨r, hr⟩ : ∃ r, r = upTo d (desc i (half n)) q q.length := ⟨_, rfl⟩
    rw [← hr] at hst2
    have hfin : Hid (nodeH r x = upTo d (desc i n) (q ++ [x]) (q ++ [x]).length) := hst2.symm
    have hrl : Hid (r.length = 32) := by show _ = _; rw [hr]; exact upTo_length _ _ _ _
    have hC : Hid (∀ W, Below (w2.alloc (.cells (BV x).toArray 24)).heap.size (w2.alloc (.cells (BV x).toArray 24)) W → Calls Tryd.prog 29 #[.agg (BV d).toArray, .int .i64 (i : Int), .int .i64 ((half n : Nat) : Int), .slice a1 m cap] W fun e W' => e = .returned (.agg (BV r).toArray) ∧ Below W.heap.size W W') := fun W hW => by
      have hR1 := (hRH.out.below (hbb4.out.trans (hW.mono hbb4.out.size))).to_at (k := m) (by rw [hmL.out]; omega) (by rw [hmL.out]; exact hs1H.out)
      rw [htk] at hR1
      have h := ih1 i q W a1 cap hi (by rw [hqm, hdq]) hR1
      rw [← hr, hqm] at h
      exact h
    clear hst2 hr ih1 ih2
    go_wp2_with (first
      | (refine wpList_load_mid rfl 24 _ rfl b (off + m * 32) rfl _ _ hel hu rfl ?cp ?_; case cp => rw [hi0, hldH.out])
      | (refine wpList_store_row rfl 24 _ _ rfl w2.heap.size _ rfl rfl 24 _ hz ?cs ?ct ?cu ?_
         case cs => rw [hi0, hsxH.out]
         case ct => rw [hsxH.out]; rfl
         case cu => exact BV_all _
         rw [World.setRow_alloc_new]))
    clear hz hel hdq
    generalize w2.alloc (.cells (BV x).toArray 24) = w4 at *
    generalize w2.heap.size = P10 at *
    refine wp_region_pre 11 1 (fun W => Below w4.heap.size w4 W) (fun W W' => Below W.heap.size W W')
      (fun j v W => match j with
        | 0 => v = .agg (BV d).toArray
        | 1 => v = .int .i64 (i : Int)
        | 2 => v = .int .i64 ((half n : Nat) : Int)
        | 3 => v = .slice (some ⟨b, off, none⟩) (m + 1) cap
        | 4 => v = .slice (some ⟨b, off, none⟩) (m + 1) cap
        | 5 => v = .int .i64 ((m : Int) + 1)
        | 6 => v = .int .i64 (m : Int)
        | 7 => v = .slice a1 m cap
        | 8 => v = .agg (BV r).toArray
        | 9 => v = .agg (BV x).toArray
        | 10 => v = .agg (BV (nodeH r x)).toArray
        | _ => True) (fun _ => false)
      (by kernel_rfl) (by kernel_rfl) (by kernel_rfl) (by kernel_rfl) (by kernel_rfl) (by kernel_rfl) (by kernel_rfl) ?_ (fun _ _ h => h.size) (dN (Below.refl _ _) 1) ?_ ?_
    · intro j v W W' hb hF
      match j, hF with
        | 0, h => exact h
        | 1, h => exact h
        | 2, h => exact h
        | 3, h => exact h
        | 4, h => exact h
        | 5, h => exact h
        | 6, h => exact h
        | 7, h => exact h
        | 8, h => exact h
        | 9, h => exact h
        | 10, h => exact h
        | _ + 11, _ => trivial
    · refine ⟨?_, ?_, ?_, ?_, ?_, ?_, ?_, ?_, ?_, ?_, ?_, trivial⟩
      · refine stepJ_any rfl fun ac W hA hG hD K hK => ?_
        have h4 := hA.getD (t := 4) (by kernel_rfl)
        rw [if_pos (by rfl)]
        exact wp_load_mid 24 _ rfl w.heap.size 0 h4 (BV d) _ (range_of (hd4.out.below hG hd4.out.lt)) huH.out rfl (by rw [hiH.out, BV_length, hd]) (hK _ _ hG (Below.refl _ _) rfl (fun h => by cases h))
      · refine stepJ_val' (fun _ _ => Below.refl _ _) rfl rfl rfl fun ac W hA hG hD => ⟨_, ?_, rfl⟩
        have h1 := hA.getD (t := 1) (by kernel_rfl)
        simp only [Array.getD_eq_getD_getElem?] at h1
        simp [execOp, Act.eval, h1, go_sem]
      · refine stepJ_val' (fun _ _ => Below.refl _ _) rfl rfl rfl fun ac W hA hG hD => ⟨_, ?_, rfl⟩
        have h9 := hA.getD (t := 9) (by kernel_rfl)
        simp only [Array.getD_eq_getD_getElem?] at h9
        simp [execOp, Act.eval, h9, go_sem]
      · refine stepJ_val' (fun _ _ => Below.refl _ _) rfl rfl rfl fun ac W hA hG hD => ⟨_, ?_, rfl⟩
        have h3 := hA.getD (t := 3) (by kernel_rfl)
        simp only [Array.getD_eq_getD_getElem?] at h3
        simp [execOp, Act.eval, h3, go_sem]
      · refine stepJ_val' (fun _ _ => Below.refl _ _) rfl rfl rfl fun ac W hA hG hD => ⟨_, ?_, rfl⟩
        have h3 := hA.getD (t := 3) (by kernel_rfl)
        simp only [Array.getD_eq_getD_getElem?] at h3
        simp [execOp, Act.eval, h3, go_sem]
      · refine stepJ_val' (fun _ _ => Below.refl _ _) rfl rfl rfl fun ac W hA hG hD => ⟨_, ?_, rfl⟩
        have h30 := hD.get 4 30 _ rfl rfl (by kernel_rfl)
        simp only [Array.getD_eq_getD_getElem?] at h30
        simp [execOp, Act.eval, h30, go_sem]
      · refine stepJ_val' (fun _ _ => Below.refl _ _) rfl rfl rfl fun ac W hA hG hD => ⟨_, ?_, rfl⟩
        have h31 := hD.get 5 31 _ rfl rfl (by kernel_rfl)
        simp only [Array.getD_eq_getD_getElem?] at h31
        simp [execOp, Act.eval, h31, go_sem, hlen1]
      · refine stepJ_val' (fun _ _ => Below.refl _ _) rfl rfl rfl fun ac W hA hG hD => ⟨_, ?_, rfl⟩
        have h29 := hD.get 3 29 _ rfl rfl (by kernel_rfl)
        have h32 := hD.get 6 32 _ rfl rfl (by kernel_rfl)
        simp only [Array.getD_eq_getD_getElem?] at h29 h32
        have := hs1H.out W
        simp [execOp, Act.eval, h29, h32, Instr.sliceAt, this, Result.andThen]
      · refine stepJ_any rfl fun ac W hA hG hD K hK => ?_
        have h26 := hD.get 0 26 _ rfl rfl (by kernel_rfl)
        have h27 := hD.get 1 27 _ rfl rfl (by kernel_rfl)
        have h28 := hD.get 2 28 _ rfl rfl (by kernel_rfl)
        have h33 := hD.get 7 33 _ rfl rfl (by kernel_rfl)
        simp only [Array.getD_eq_getD_getElem?] at h26 h27 h28 h33
        rw [if_pos (by rfl)]
        refine wp_call (f := 29) (args := #[.agg (BV d).toArray, .int .i64 (i : Int), .int .i64 ((half n : Nat) : Int), .slice a1 m cap]) (by simp [execOp, Act.eval, h26, h27, h28, h33, go_sem]) ((hC.out W hG).mono fun e W' he => ?_)
        obtain ⟨rfl, hbw⟩ := he
        exact hK _ _ (hG.trans (hbw.mono hG.size)) hbw rfl (fun h => by cases h)
      · refine stepJ_any rfl fun ac W hA hG hD K hK => ?_
        have h10 := hA.getD (t := 10) (by kernel_rfl)
        rw [if_pos (by rfl)]
        exact wp_load_mid 24 _ rfl P10 0 h10 (BV x) _ (range_of (hx4.out.below hG hx4.out.lt)) huH.out rfl (by rw [hiH.out, BV_length, hx]) (hK _ _ hG (Below.refl _ _) rfl (fun h => by cases h))
      · refine stepJ_any rfl fun ac W hA hG hD K hK => ?_
        have h34 := hD.get 8 34 _ rfl rfl (by kernel_rfl)
        have h35 := hD.get 9 35 _ rfl rfl (by kernel_rfl)
        simp only [Array.getD_eq_getD_getElem?] at h34 h35
        rw [if_pos (by rfl)]
        refine wp_call (f := 24) (args := #[.agg (BV r).toArray, .agg (BV x).toArray]) (by simp [execOp, Act.eval, h34, h35, go_sem]) ((rNode_any r x hrl.out hx W).mono fun e W' he => ?_)
        obtain ⟨rfl, hbw⟩ := he
        exact hK _ _ (hG.trans (hbw.mono hG.size)) hbw rfl (fun h => by cases h)
    · intro n0 T W hG hF hne hltb
      have e26 : T 26 = .agg (BV d).toArray := hF 0 _ rfl (by omega)
      have e27 : T 27 = .int .i64 (i : Int) := hF 1 _ rfl (by omega)
      have e28 : T 28 = .int .i64 ((half n : Nat) : Int) := hF 2 _ rfl (by omega)
      have e29 : T 29 = .slice (some ⟨b, off, none⟩) (m + 1) cap := hF 3 _ rfl (by omega)
      have e30 : T 30 = .slice (some ⟨b, off, none⟩) (m + 1) cap := hF 4 _ rfl (by omega)
      have e31 : T 31 = .int .i64 ((m : Int) + 1) := hF 5 _ rfl (by omega)
      have e32 : T 32 = .int .i64 (m : Int) := hF 6 _ rfl (by omega)
      have e33 : T 33 = .slice a1 m cap := hF 7 _ rfl (by omega)
      have e34 : T 34 = .agg (BV r).toArray := hF 8 _ rfl (by omega)
      have e35 : T 35 = .agg (BV x).toArray := hF 9 _ rfl (by omega)
      have e36 : T 36 = .agg (BV (nodeH r x)).toArray := hF 10 _ rfl (by omega)
      clear hF hne hltb
      simp only [List.take, fillT, List.setIfInBounds_toArray, List.set_cons_zero, List.set_cons_succ, e26, e27, e28, e29, e30, e31, e32, e33, e34, e35, e36]
      have hz5 := hz4.out.below hG hz4.out.lt
      have hl : (nodeH r x).length = 32 := tagH_length _ _
      refine wpAny_ready (rs := [11]) (by kernel_rfl) (by simp) (AllReady.cons (o := ⟨none, .store 24 (.tmp 8) (.tmp 36), _, _, _, none⟩) rfl (fun K1 hK1 => ?_) AllReady.nil)
      rw [if_pos (by rfl)]
      refine wp_store_row 24 _ _ rfl (w.heap.size + 1) (BV (nodeH r x)).toArray rfl rfl 24 _ hz5 (by rw [hiH.out, List.size_toArray, BV_length, hl]) (by rw [List.size_toArray, List.size_toArray, BV_length, BV_length, hl]; rfl) (BV_all _) ?_
      refine hK1 _ _ ?_
      clear hK1 K1
      refine wpAny_done (by kernel_rfl) ?_ _
      simp only [Act.put]
      have hrow := setRow_heap W (w.heap.size + 1) _ (BV (nodeH r x)).toArray _ _ hz5
      have hBW := hbb4.out.trans (hG.mono hbb4.out.size)
      have hbe : Below w.heap.size w (W.setRow (w.heap.size + 1) (BV (nodeH r x)).toArray) := hBW.grown (grownBy_setRow _ _ _) hBW.size (fun k e => by injection e with e; omega)
      have hfx : (nodeH r x) = upTo d (desc i n) (q ++ [x]) (q ++ [x]).length := hfin.out
      clear e26 e27 e28 e29 e30 e31 e32 e33 e34 e35 e36 hG hz5 hBW
      generalize W.setRow (w.heap.size + 1) (BV (nodeH r x)).toArray = W9 at *
      go_wp2_with fail
      exact bodyPost_ret (results_cell_row rfl _ _ (w.heap.size + 1) 24 _ (0, 0) _ rfl hrow huH.out rfl (by rw [hiH.out, List.size_toArray, BV_length, hl])) rfl ⟨by rw [← hmL.out, ← hfx], hbe⟩
  · have hi' : ¬ (i : Int) < ((half n : Nat) : Int) := by omega
    rw [if_neg hi] at hdq
    have hst2 := hstH.out
    rw [if_neg hi] at hst2
    have hsi : IntKind.i64.wrap ((i : Int) - ((half n : Nat) : Int)) = (i : Int) - ((half n : Nat) : Int) := IntWalk.i64_in _ (by omega)
    have hbd := half_bounds n h2 (by omega)
    have hsn : IntKind.i64.wrap ((n : Int) - ((half n : Nat) : Int)) = (n : Int) - ((half n : Nat) : Int) := IntWalk.i64_in _ (by omega)
    obtain ⟨r, hr⟩ : ∃ r, r = upTo d (desc (i - half n) (n - half n)) q q.length := ⟨_, rfl⟩
    rw [← hr] at hst2
    have hfin : Hid (nodeH x r = upTo d (desc i n) (q ++ [x]) (q ++ [x]).length) := hst2.symm
    have hrl : Hid (r.length = 32) := by show _ = _; rw [hr]; exact upTo_length _ _ _ _
    have hC : Hid (∀ W, Below (w2.alloc (.cells (BV x).toArray 24)).heap.size (w2.alloc (.cells (BV x).toArray 24)) W → Calls Tryd.prog 29 #[.agg (BV d).toArray, .int .i64 ((i : Int) - ((half n : Nat) : Int)), .int .i64 ((n : Int) - ((half n : Nat) : Int)), .slice a1 m cap] W fun e W' => e = .returned (.agg (BV r).toArray) ∧ Below W.heap.size W W') := fun W hW => by
      have hR1 := (hRH.out.below (hbb4.out.trans (hW.mono hbb4.out.size))).to_at (k := m) (by rw [hmL.out]; omega) (by rw [hmL.out]; exact hs1H.out)
      rw [htk] at hR1
      have h := ih2 (i - half n) q W a1 cap (by omega) (by rw [hqm, hdq]) hR1
      rw [← hr, hqm, show ((i - half n : Nat) : Int) = (i : Int) - ((half n : Nat) : Int) by omega, show ((n - half n : Nat) : Int) = (n : Int) - ((half n : Nat) : Int) by omega] at h
      exact h
    clear hbd
    clear hst2 hr ih1 ih2
    go_wp2_with (first
      | (refine wpList_load_mid rfl 24 _ rfl b (off + m * 32) rfl _ _ hel hu rfl ?cp ?_; case cp => rw [hi0, hldH.out])
      | (refine wpList_store_row rfl 24 _ _ rfl w2.heap.size _ rfl rfl 24 _ hz ?cs ?ct ?cu ?_
         case cs => rw [hi0, hsxH.out]
         case ct => rw [hsxH.out]; rfl
         case cu => exact BV_all _
         rw [World.setRow_alloc_new]))
    clear hz hel hdq
    generalize w2.alloc (.cells (BV x).toArray 24) = w4 at *
    generalize w2.heap.size = P10 at *
    refine wp_region_pre 15 1 (fun W => Below w4.heap.size w4 W) (fun W W' => Below W.heap.size W W')
      (fun j v W => match j with
        | 0 => v = .agg (BV x).toArray
        | 1 => v = .agg (BV d).toArray
        | 2 => v = .int .i64 (i : Int)
        | 3 => v = .int .i64 ((half n : Nat) : Int)
        | 4 => v = .int .i64 ((i : Int) - ((half n : Nat) : Int))
        | 5 => v = .int .i64 (n : Int)
        | 6 => v = .int .i64 ((half n : Nat) : Int)
        | 7 => v = .int .i64 ((n : Int) - ((half n : Nat) : Int))
        | 8 => v = .slice (some ⟨b, off, none⟩) (m + 1) cap
        | 9 => v = .slice (some ⟨b, off, none⟩) (m + 1) cap
        | 10 => v = .int .i64 ((m : Int) + 1)
        | 11 => v = .int .i64 (m : Int)
        | 12 => v = .slice a1 m cap
        | 13 => v = .agg (BV r).toArray
        | 14 => v = .agg (BV (nodeH x r)).toArray
        | _ => True) (fun _ => false)
      (by kernel_rfl) (by kernel_rfl) (by kernel_rfl) (by kernel_rfl) (by kernel_rfl) (by kernel_rfl) (by kernel_rfl) ?_ (fun _ _ h => h.size) (dN (Below.refl _ _) 1) ?_ ?_
    · intro j v W W' hb hF
      match j, hF with
        | 0, h => exact h
        | 1, h => exact h
        | 2, h => exact h
        | 3, h => exact h
        | 4, h => exact h
        | 5, h => exact h
        | 6, h => exact h
        | 7, h => exact h
        | 8, h => exact h
        | 9, h => exact h
        | 10, h => exact h
        | 11, h => exact h
        | 12, h => exact h
        | 13, h => exact h
        | 14, h => exact h
        | _ + 15, _ => trivial
    · refine ⟨?_, ?_, ?_, ?_, ?_, ?_, ?_, ?_, ?_, ?_, ?_, ?_, ?_, ?_, ?_, trivial⟩
      · refine stepJ_any rfl fun ac W hA hG hD K hK => ?_
        have h10 := hA.getD (t := 10) (by kernel_rfl)
        rw [if_pos (by rfl)]
        exact wp_load_mid 24 _ rfl P10 0 h10 (BV x) _ (range_of (hx4.out.below hG hx4.out.lt)) huH.out rfl (by rw [hiH.out, BV_length, hx]) (hK _ _ hG (Below.refl _ _) rfl (fun h => by cases h))
      · refine stepJ_any rfl fun ac W hA hG hD K hK => ?_
        have h4 := hA.getD (t := 4) (by kernel_rfl)
        rw [if_pos (by rfl)]
        exact wp_load_mid 24 _ rfl w.heap.size 0 h4 (BV d) _ (range_of (hd4.out.below hG hd4.out.lt)) huH.out rfl (by rw [hiH.out, BV_length, hd]) (hK _ _ hG (Below.refl _ _) rfl (fun h => by cases h))
      · refine stepJ_val' (fun _ _ => Below.refl _ _) rfl rfl rfl fun ac W hA hG hD => ⟨_, ?_, rfl⟩
        have h1 := hA.getD (t := 1) (by kernel_rfl)
        simp only [Array.getD_eq_getD_getElem?] at h1
        simp [execOp, Act.eval, h1, go_sem]
      · refine stepJ_val' (fun _ _ => Below.refl _ _) rfl rfl rfl fun ac W hA hG hD => ⟨_, ?_, rfl⟩
        have h9 := hA.getD (t := 9) (by kernel_rfl)
        simp only [Array.getD_eq_getD_getElem?] at h9
        simp [execOp, Act.eval, h9, go_sem]
      · refine stepJ_val' (fun _ _ => Below.refl _ _) rfl rfl rfl fun ac W hA hG hD => ⟨_, ?_, rfl⟩
        have h39 := hD.get 2 39 _ rfl rfl (by kernel_rfl)
        have h40 := hD.get 3 40 _ rfl rfl (by kernel_rfl)
        simp only [Array.getD_eq_getD_getElem?] at h39 h40
        simp [execOp, Act.eval, h39, h40, go_sem, hsi]
      · refine stepJ_val' (fun _ _ => Below.refl _ _) rfl rfl rfl fun ac W hA hG hD => ⟨_, ?_, rfl⟩
        have h2 := hA.getD (t := 2) (by kernel_rfl)
        simp only [Array.getD_eq_getD_getElem?] at h2
        simp [execOp, Act.eval, h2, go_sem]
      · refine stepJ_val' (fun _ _ => Below.refl _ _) rfl rfl rfl fun ac W hA hG hD => ⟨_, ?_, rfl⟩
        have h9 := hA.getD (t := 9) (by kernel_rfl)
        simp only [Array.getD_eq_getD_getElem?] at h9
        simp [execOp, Act.eval, h9, go_sem]
      · refine stepJ_val' (fun _ _ => Below.refl _ _) rfl rfl rfl fun ac W hA hG hD => ⟨_, ?_, rfl⟩
        have h42 := hD.get 5 42 _ rfl rfl (by kernel_rfl)
        have h43 := hD.get 6 43 _ rfl rfl (by kernel_rfl)
        simp only [Array.getD_eq_getD_getElem?] at h42 h43
        simp [execOp, Act.eval, h42, h43, go_sem, hsn]
      · refine stepJ_val' (fun _ _ => Below.refl _ _) rfl rfl rfl fun ac W hA hG hD => ⟨_, ?_, rfl⟩
        have h3 := hA.getD (t := 3) (by kernel_rfl)
        simp only [Array.getD_eq_getD_getElem?] at h3
        simp [execOp, Act.eval, h3, go_sem]
      · refine stepJ_val' (fun _ _ => Below.refl _ _) rfl rfl rfl fun ac W hA hG hD => ⟨_, ?_, rfl⟩
        have h3 := hA.getD (t := 3) (by kernel_rfl)
        simp only [Array.getD_eq_getD_getElem?] at h3
        simp [execOp, Act.eval, h3, go_sem]
      · refine stepJ_val' (fun _ _ => Below.refl _ _) rfl rfl rfl fun ac W hA hG hD => ⟨_, ?_, rfl⟩
        have h46 := hD.get 9 46 _ rfl rfl (by kernel_rfl)
        simp only [Array.getD_eq_getD_getElem?] at h46
        simp [execOp, Act.eval, h46, go_sem]
      · refine stepJ_val' (fun _ _ => Below.refl _ _) rfl rfl rfl fun ac W hA hG hD => ⟨_, ?_, rfl⟩
        have h47 := hD.get 10 47 _ rfl rfl (by kernel_rfl)
        simp only [Array.getD_eq_getD_getElem?] at h47
        simp [execOp, Act.eval, h47, go_sem, hlen1]
      · refine stepJ_val' (fun _ _ => Below.refl _ _) rfl rfl rfl fun ac W hA hG hD => ⟨_, ?_, rfl⟩
        have h45 := hD.get 8 45 _ rfl rfl (by kernel_rfl)
        have h48 := hD.get 11 48 _ rfl rfl (by kernel_rfl)
        simp only [Array.getD_eq_getD_getElem?] at h45 h48
        have := hs1H.out W
        simp [execOp, Act.eval, h45, h48, Instr.sliceAt, this, Result.andThen]
      · refine stepJ_any rfl fun ac W hA hG hD K hK => ?_
        have h38 := hD.get 1 38 _ rfl rfl (by kernel_rfl)
        have h41 := hD.get 4 41 _ rfl rfl (by kernel_rfl)
        have h44 := hD.get 7 44 _ rfl rfl (by kernel_rfl)
        have h49 := hD.get 12 49 _ rfl rfl (by kernel_rfl)
        simp only [Array.getD_eq_getD_getElem?] at h38 h41 h44 h49
        rw [if_pos (by rfl)]
        refine wp_call (f := 29) (args := #[.agg (BV d).toArray, .int .i64 ((i : Int) - ((half n : Nat) : Int)), .int .i64 ((n : Int) - ((half n : Nat) : Int)), .slice a1 m cap]) (by simp [execOp, Act.eval, h38, h41, h44, h49, go_sem]) ((hC.out W hG).mono fun e W' he => ?_)
        obtain ⟨rfl, hbw⟩ := he
        exact hK _ _ (hG.trans (hbw.mono hG.size)) hbw rfl (fun h => by cases h)
      · refine stepJ_any rfl fun ac W hA hG hD K hK => ?_
        have h37 := hD.get 0 37 _ rfl rfl (by kernel_rfl)
        have h50 := hD.get 13 50 _ rfl rfl (by kernel_rfl)
        simp only [Array.getD_eq_getD_getElem?] at h37 h50
        rw [if_pos (by rfl)]
        refine wp_call (f := 24) (args := #[.agg (BV x).toArray, .agg (BV r).toArray]) (by simp [execOp, Act.eval, h37, h50, go_sem]) ((rNode_any x r hx hrl.out W).mono fun e W' he => ?_)
        obtain ⟨rfl, hbw⟩ := he
        exact hK _ _ (hG.trans (hbw.mono hG.size)) hbw rfl (fun h => by cases h)
    · intro n0 T W hG hF hne hltb
      have e37 : T 37 = .agg (BV x).toArray := hF 0 _ rfl (by omega)
      have e38 : T 38 = .agg (BV d).toArray := hF 1 _ rfl (by omega)
      have e39 : T 39 = .int .i64 (i : Int) := hF 2 _ rfl (by omega)
      have e40 : T 40 = .int .i64 ((half n : Nat) : Int) := hF 3 _ rfl (by omega)
      have e41 : T 41 = .int .i64 ((i : Int) - ((half n : Nat) : Int)) := hF 4 _ rfl (by omega)
      have e42 : T 42 = .int .i64 (n : Int) := hF 5 _ rfl (by omega)
      have e43 : T 43 = .int .i64 ((half n : Nat) : Int) := hF 6 _ rfl (by omega)
      have e44 : T 44 = .int .i64 ((n : Int) - ((half n : Nat) : Int)) := hF 7 _ rfl (by omega)
      have e45 : T 45 = .slice (some ⟨b, off, none⟩) (m + 1) cap := hF 8 _ rfl (by omega)
      have e46 : T 46 = .slice (some ⟨b, off, none⟩) (m + 1) cap := hF 9 _ rfl (by omega)
      have e47 : T 47 = .int .i64 ((m : Int) + 1) := hF 10 _ rfl (by omega)
      have e48 : T 48 = .int .i64 (m : Int) := hF 11 _ rfl (by omega)
      have e49 : T 49 = .slice a1 m cap := hF 12 _ rfl (by omega)
      have e50 : T 50 = .agg (BV r).toArray := hF 13 _ rfl (by omega)
      have e51 : T 51 = .agg (BV (nodeH x r)).toArray := hF 14 _ rfl (by omega)
      clear hF hne hltb
      simp only [List.take, fillT, List.setIfInBounds_toArray, List.set_cons_zero, List.set_cons_succ, e37, e38, e39, e40, e41, e42, e43, e44, e45, e46, e47, e48, e49, e50, e51]
      have hz5 := hz4.out.below hG hz4.out.lt
      have hl : (nodeH x r).length = 32 := tagH_length _ _
      refine wpAny_ready (rs := [15]) (by kernel_rfl) (by simp) (AllReady.cons (o := ⟨none, .store 24 (.tmp 8) (.tmp 51), _, _, _, none⟩) rfl (fun K1 hK1 => ?_) AllReady.nil)
      rw [if_pos (by rfl)]
      refine wp_store_row 24 _ _ rfl (w.heap.size + 1) (BV (nodeH x r)).toArray rfl rfl 24 _ hz5 (by rw [hiH.out, List.size_toArray, BV_length, hl]) (by rw [List.size_toArray, List.size_toArray, BV_length, BV_length, hl]; rfl) (BV_all _) ?_
      refine hK1 _ _ ?_
      clear hK1 K1
      refine wpAny_done (by kernel_rfl) ?_ _
      simp only [Act.put]
      have hrow := setRow_heap W (w.heap.size + 1) _ (BV (nodeH x r)).toArray _ _ hz5
      have hBW := hbb4.out.trans (hG.mono hbb4.out.size)
      have hbe : Below w.heap.size w (W.setRow (w.heap.size + 1) (BV (nodeH x r)).toArray) := hBW.grown (grownBy_setRow _ _ _) hBW.size (fun k e => by injection e with e; omega)
      have hfx : (nodeH x r) = upTo d (desc i n) (q ++ [x]) (q ++ [x]).length := hfin.out
      clear e37 e38 e39 e40 e41 e42 e43 e44 e45 e46 e47 e48 e49 e50 e51 hG hz5 hBW
      generalize W.setRow (w.heap.size + 1) (BV (nodeH x r)).toArray = W9 at *
      go_wp2_with fail
      exact bodyPost_ret (results_cell_row rfl _ _ (w.heap.size + 1) 24 _ (0, 0) _ rfl hrow huH.out rfl (by rw [hiH.out, List.size_toArray, BV_length, hl])) rfl ⟨by rw [← hmL.out, ← hfx], hbe⟩
theorem rclimb_all (d : List UInt8) (hd : d.length = 32) (N : Nat) : ∀ n, n ≤ N → 1 ≤ n → n ≤ 1099511627776 → RClimbAt d n := by
  induction N with
  | zero => intro n h h1 _; omega
  | succ N ih =>
    intro n h h1 hn
    by_cases h2 : 2 ≤ n
    · have hb := half_bounds n h2 (by omega)
      exact rclimb_two d hd n h2 hn (ih _ (by omega) (by omega) (by omega)) (ih _ (by omega) (by omega) (by omega))
    · obtain rfl : n = 1 := by omega
      exact rclimb_one d hd
end Go.Proofs.YtjfoihlelkfaoaaDoor
