/- Places and steps: isPlace, other, alone, a step's text. -/
import Derived.Test.YtgddfdejkmnfkaaDoorMb
namespace Go.Proofs.YtgddfdejkmnfkaaDoor
open Go.RowKit

theorem i64_xor_nat (a b : Nat) (ha : a < 4611686018427387904) (hb : b < 4611686018427387904) : bits .xor .i64 (a : Int) (b : Int) = ((a ^^^ b : Nat) : Int) := by
  have hx : a ^^^ b < 2 ^ 62 := Nat.xor_lt_two_pow (by omega) (by omega)
  have h1 : (BitVec.ofInt 64 (a : Int)).toNat = a := by
    rw [BitVec.ofInt_natCast, BitVec.toNat_ofNat]; exact Nat.mod_eq_of_lt (by omega)
  have h2 : (BitVec.ofInt 64 (b : Int)).toNat = b := by
    rw [BitVec.ofInt_natCast, BitVec.toNat_ofNat]; exact Nat.mod_eq_of_lt (by omega)
  show IntKind.i64.wrap ((BitVec.ofInt 64 (a : Int) ^^^ BitVec.ofInt 64 (b : Int)).toNat : Int) = _
  rw [BitVec.toNat_xor, h1, h2]
  exact IntWalk.i64_in _ (by omega)
/-- The place beside a place. -/
def oth (k : Nat) : Nat := if k % 2 = 0 then k + 1 else k - 1
theorem oth_xor (k : Nat) : k ^^^ 1 = oth k := by
  have h1 : (k ^^^ 1) / 2 = k / 2 := by rw [Nat.xor_div_two]; simp
  have h2 : (k ^^^ 1) % 2 ^ 1 = (k % 2 ^ 1) ^^^ (1 % 2 ^ 1) := Nat.xor_mod_two_pow
  have h3 : (k % 2) ^^^ 1 = (k + 1) % 2 := by rcases (show k % 2 = 0 ∨ k % 2 = 1 by omega) with h | h <;> rw [h] <;> simp <;> omega
  have h2 : (k ^^^ 1) % 2 = (k + 1) % 2 := h2.trans h3
  unfold oth
  split <;> omega
def isPl (n i : Int) : Bool := decide (n ≤ 65536) && (decide (0 ≤ i) && decide (i < n))
theorem isPlace_any (n i : Int) (w : World) : Calls Tryd.prog 23 #[.int .i64 n, .int .i64 i] w fun e w' => e = .returned (.bool (isPl n i)) ∧ Below w.heap.size w w' := by
  have hB := Below.refl w.heap.size w
  by_cases h1 : n ≤ 65536
  · by_cases h2 : 0 ≤ i
    · by_cases h3 : i < n
      · rw [show isPl n i = true by unfold isPl; rw [decide_eq_true h1, decide_eq_true h2, decide_eq_true h3]; rfl]
        go_enter Tryd.func23, Tryd.ntmps23
        go_wp2_with fail
        go_ret
        exact ⟨rfl, hB⟩
      · rw [show isPl n i = false by unfold isPl; rw [decide_eq_false h3]; simp]
        go_enter Tryd.func23, Tryd.ntmps23
        go_wp2_with fail
        go_ret
        exact ⟨rfl, hB⟩
    · rw [show isPl n i = false by unfold isPl; rw [decide_eq_false h2]; simp]
      go_enter Tryd.func23, Tryd.ntmps23
      go_wp2_with fail
      go_ret
      exact ⟨rfl, hB⟩
  · rw [show isPl n i = false by unfold isPl; rw [decide_eq_false h1]; simp]
    go_enter Tryd.func23, Tryd.ntmps23
    go_wp2_with fail
    go_ret
    exact ⟨rfl, hB⟩
/-- A digest in a box is loaded. -/
theorem load_digest {W : World} {g : Nat} {d : List UInt8} (h : DB W g 30 d) (hd : d.length = 32) : (Instr.loadAt 30 (.pointer (some ⟨g, 0, none⟩))).run Tryd.prog W = .ok (.agg (BV d).toArray) W :=
  run_loadAt_mid W g 0 30 (BV d) (.array 32 5) (fun j v hv => by rw [cell_of_row W g (0 + j) _ _ _ h]; simpa using hv) (by kernel_rfl) rfl (by rw [BV_length, hd]; kernel_rfl)
def stV (row at0 : Nat) : Value := .agg #[.int .i64 (row : Int), .int .i64 (at0 : Int)]
theorem other_any (row at0 : Nat) (h1 : at0 < 65536) (w : World) : Calls Tryd.prog 27 #[.agg #[.int .i64 (row : Int), .int .i64 (at0 : Int)]] w fun e w' => e = .returned (.int .i64 (oth at0 : Int)) ∧ Below w.heap.size w w' := by
  have hB := bel1 w (.cells #[.int .i64 (row : Int), .int .i64 (at0 : Int)] 50)
  have hx : bits .xor .i64 (at0 : Int) 1 = (oth at0 : Int) := by rw [← oth_xor]; exact i64_xor_nat at0 1 (by omega) (by omega)
  replace hB := Lib.hid hB
  go_enter Tryd.func27, Tryd.ntmps27
  go_wp2_with fail
  go_ret
  exact ⟨rfl, hB.out⟩
set_option maxRecDepth 100000 in
theorem alone_any (row at0 : Nat) (h1 : at0 < 65536) (w : World) : Calls Tryd.prog 26 #[.agg #[.int .i64 (row : Int), .int .i64 (at0 : Int)]] w fun e w' => e = .returned (.bool (decide (row ≤ oth at0))) ∧ Below w.heap.size w w' := by
  have hB := bel1 w (.cells #[.int .i64 (row : Int), .int .i64 (at0 : Int)] 50)
  have hk := heap_alloc_new w (.cells #[.int .i64 (row : Int), .int .i64 (at0 : Int)] 50)
  have hd := Lib.hid (show decide ((row : Int) ≤ (oth at0 : Int)) = decide (row ≤ oth at0) from decide_eq_decide.2 (by omega))
  go_enter Tryd.func26, Tryd.ntmps26
  go_upto_region 1 with fail
  generalize w.alloc (.cells #[.int .i64 (row : Int), .int .i64 (at0 : Int)] 50) = V at hB hk ⊢
  have hN : Hid (∀ W, Below V.heap.size V W → W.cell? ⟨w.heap.size, 0, none⟩ = some (.int .i64 (row : Int)) ∧ W.cell? ⟨w.heap.size, 1, none⟩ = some (.int .i64 (at0 : Int))) := fun W hW =>
    have h := blk_at hk hW
    ⟨cell_of_row W _ 0 _ _ _ h, cell_of_row W _ 1 _ _ _ h⟩
  replace hB := Lib.hid hB
  clear hk
  refine wp_region_pre 6 0 (fun W => Below V.heap.size V W) (fun W W' => Below W.heap.size W W')
    (fun i v W => match i with
      | 0 => v = .agg #[.int .i64 (row : Int), .int .i64 (at0 : Int)]
      | 1 => v = .int .i64 (oth at0 : Int)
      | 2 => v = .pointer (some ⟨w.heap.size, 0, none⟩)
      | 3 => v = .int .i64 (row : Int)
      | 4 => v = .bool (decide (row ≤ oth at0))
      | 5 => v = .bool (decide (row ≤ oth at0))
      | _ => True) (fun _ => false)
    (by kernel_rfl) (by kernel_rfl) (by kernel_rfl) (by kernel_rfl) (by kernel_rfl) (by kernel_rfl) (by kernel_rfl) ?_ (fun _ _ h => h.size) (dN (Below.refl _ _) 1) ?_ ?_
  · intro i v W W' hb hF
    match i, hF with
    | 0, h => exact h
    | 1, h => exact h
    | 2, h => exact h
    | 3, h => exact h
    | 4, h => exact h
    | 5, h => exact h
    | _ + 6, _ => trivial
  · refine ⟨?_, ?_, ?_, ?_, ?_, ?_, trivial⟩
    · refine stepJ_any rfl fun ac W hAA hG hDD K hK => ?_
      have h1 := hAA.getD (t := 1) (by kernel_rfl)
      simp only [Array.getD_eq_getD_getElem?] at h1
      obtain ⟨k0, k1⟩ := hN.out W hG
      rw [if_pos (by rfl)]
      exact wp_val (v := .agg #[.int .i64 (row : Int), .int .i64 (at0 : Int)]) (w' := W) (by simp [execOp, Act.eval, h1, go_sem, k0, k1]) (hK _ _ hG (Below.refl _ _) rfl (fun h => by cases h))
    · refine stepJ_any rfl fun ac W hAA hG hDD K hK => ?_
      have h3 := hDD.get 0 3 _ rfl rfl (by kernel_rfl)
      simp only [Array.getD_eq_getD_getElem?] at h3
      rw [if_pos (by rfl)]
      refine wp_call (f := 27) (args := #[.agg #[.int .i64 (row : Int), .int .i64 (at0 : Int)]]) (by simp [execOp, Act.eval, h3, go_sem]) ((other_any row at0 h1 W).mono fun e W9 he => ?_)
      obtain ⟨rfl, hbw⟩ := he
      exact hK _ _ (hG.trans (hbw.mono hG.size)) hbw rfl (fun h => by cases h)
    · refine stepJ_any rfl fun ac W hAA hG hDD K hK => ?_
      have h1 := hAA.getD (t := 1) (by kernel_rfl)
      simp only [Array.getD_eq_getD_getElem?] at h1
      rw [if_pos (by rfl)]
      exact wp_val (v := .pointer (some ⟨w.heap.size, 0, none⟩)) (w' := W) (by simp [execOp, Act.eval, h1, go_sem]) (hK _ _ hG (Below.refl _ _) rfl (fun h => by cases h))
    · refine stepJ_any rfl fun ac W hAA hG hDD K hK => ?_
      have h5 := hDD.get 2 5 _ rfl rfl (by kernel_rfl)
      simp only [Array.getD_eq_getD_getElem?] at h5
      obtain ⟨k0, k1⟩ := hN.out W hG
      rw [if_pos (by rfl)]
      exact wp_val (v := .int .i64 (row : Int)) (w' := W) (by simp [execOp, Act.eval, h5, go_sem, k0, k1]) (hK _ _ hG (Below.refl _ _) rfl (fun h => by cases h))
    · refine stepJ_any rfl fun ac W hAA hG hDD K hK => ?_
      have h4 := hDD.get 1 4 _ rfl rfl (by kernel_rfl)
      have h6 := hDD.get 3 6 _ rfl rfl (by kernel_rfl)
      simp only [Array.getD_eq_getD_getElem?] at h4 h6
      have hd := hd.out
      rw [if_pos (by rfl)]
      exact wp_val (v := .bool (decide (row ≤ oth at0))) (w' := W) (by simp [execOp, Act.eval, h4, h6, go_sem, hd]) (hK _ _ hG (Below.refl _ _) rfl (fun h => by cases h))
    · refine stepJ_any rfl fun ac W hAA hG hDD K hK => ?_
      have h7 := hDD.get 4 7 _ rfl rfl (by kernel_rfl)
      simp only [Array.getD_eq_getD_getElem?] at h7
      rw [if_pos (by rfl)]
      exact wp_val (v := .bool (decide (row ≤ oth at0))) (w' := W) (by simp [execOp, Act.eval, h7, go_sem]) (hK _ _ hG (Below.refl _ _) rfl (fun h => by cases h))
  intro fu T w9 hG hF hne hltb
  have e3 : T 3 = .agg #[.int .i64 (row : Int), .int .i64 (at0 : Int)] := hF 0 _ rfl (by omega)
  have e4 : T 4 = .int .i64 (oth at0 : Int) := hF 1 _ rfl (by omega)
  have e5 : T 5 = .pointer (some ⟨w.heap.size, 0, none⟩) := hF 2 _ rfl (by omega)
  have e6 : T 6 = .int .i64 (row : Int) := hF 3 _ rfl (by omega)
  have e7 : T 7 = .bool (decide (row ≤ oth at0)) := hF 4 _ rfl (by omega)
  have e2 : T 2 = .bool (decide (row ≤ oth at0)) := hF 5 _ rfl (by omega)
  clear hF hne hltb
  simp only [List.take, fillT, List.setIfInBounds_toArray, List.set_cons_zero, List.set_cons_succ, e3, e4, e5, e6, e7, e2]
  clear e3 e4 e5 e6 e7 e2
  refine wpAny_done (by kernel_rfl) ?_ _
  go_wp2_with fail
  go_ret
  exact ⟨rfl, hB.out.trans (hG.mono hB.out.size)⟩
/-- The text of a step. -/
def stepM (at0 : Nat) (d o : List UInt8) : List UInt8 := if oth at0 < at0 then nodeM o d else nodeM d o
set_option maxRecDepth 100000 in
set_option maxHeartbeats 2000000 in
theorem stepText_any (row at0 : Nat) (h1 : at0 < 65536) (d o : List UInt8) (hd0 : d.length = 32) (ho0 : o.length = 32) (w : World) (hK : KT w) (h0 : 0 < w.heap.size) :
    Calls Tryd.prog 50 #[.agg #[.int .i64 (row : Int), .int .i64 (at0 : Int)], DV d, DV o] w fun e w' => ∃ v, e = .returned v ∧ OB w' w.heap.size v (stepM at0 d o) ∧ Below w.heap.size w w' := by
  unfold DV
  have hB1 := bel1 w (.cells #[.int .i64 (row : Int), .int .i64 (at0 : Int)] 50)
  have hk := heap_alloc_new w (.cells #[.int .i64 (row : Int), .int .i64 (at0 : Int)] 50)
  obtain ⟨V1, hV1⟩ : ∃ V, w.alloc (.cells #[.int .i64 (row : Int), .int .i64 (at0 : Int)] 50) = V := ⟨_, rfl⟩
  have hs1 : V1.heap.size = w.heap.size + 1 := by rw [← hV1]; simp
  rw [hV1] at hB1 hk
  have hB2 := bel1 V1 (.cells (BV d).toArray 30)
  have hk2 := heap_alloc_new V1 (.cells (BV d).toArray 30)
  obtain ⟨V2, hV2⟩ : ∃ V, V1.alloc (.cells (BV d).toArray 30) = V := ⟨_, rfl⟩
  have hs2 : V2.heap.size = w.heap.size + 2 := by rw [← hV2]; simp; omega
  rw [hV2] at hB2 hk2
  have hB3 := bel1 V2 (.cells (BV o).toArray 30)
  have hk3 := heap_alloc_new V2 (.cells (BV o).toArray 30)
  obtain ⟨V, hV3⟩ : ∃ V, V2.alloc (.cells (BV o).toArray 30) = V := ⟨_, rfl⟩
  have hs3 : V.heap.size = w.heap.size + 3 := by rw [← hV3]; simp; omega
  rw [hV3] at hB3 hk3
  have kd : DB V (w.heap.size + 1) 30 d := blk_at (by rw [← hs1]; exact hk2) hB3
  have ko : DB V (w.heap.size + 1 + 1) 30 o := by rw [show w.heap.size + 1 + 1 = V2.heap.size by omega]; exact hk3
  have hkV := blk_at (blk_at hk hB2) hB3
  have hN : Hid (∀ W, Below V.heap.size V W → W.cell? ⟨w.heap.size, 0, none⟩ = some (.int .i64 (row : Int)) ∧ W.cell? ⟨w.heap.size, 1, none⟩ = some (.int .i64 (at0 : Int))) := fun W hW =>
    have h := blk_at hkV hW
    ⟨cell_of_row W _ 0 _ _ _ h, cell_of_row W _ 1 _ _ _ h⟩
  have hB := Lib.hid ((hB1.trans (hB2.mono (by omega))).trans (hB3.mono (by omega)))
  have hd := Lib.hid (show decide ((oth at0 : Int) < (at0 : Int)) = decide (oth at0 < at0) from decide_eq_decide.2 (by omega))
  replace hV1 := Lib.hid hV1
  replace hV2 := Lib.hid hV2
  replace hV3 := Lib.hid hV3
  replace kd := Lib.hid kd
  replace ko := Lib.hid ko
  replace hd0 := Lib.hid hd0
  replace ho0 := Lib.hid ho0
  have hz := Lib.hid hs3
  clear hk hk2 hk3 hkV hB1 hB2 hB3 hs1 hs2 hs3
  go_enter Tryd.func50, Tryd.ntmps50
  go_upto_region 1 with fail
  rw [hV1.out, hV2.out, hV3.out]
  refine wp_region_pre 5 0 (fun W => Below V.heap.size V W) (fun W W' => Below W.heap.size W W')
    (fun i v W => match i with
      | 0 => v = .pointer (some ⟨w.heap.size, 1, none⟩)
      | 1 => v = .int .i64 (at0 : Int)
      | 2 => v = .agg #[.int .i64 (row : Int), .int .i64 (at0 : Int)]
      | 3 => v = .int .i64 (oth at0 : Int)
      | 4 => v = .bool (decide (oth at0 < at0))
      | _ => True) (fun _ => false)
    (by kernel_rfl) (by kernel_rfl) (by kernel_rfl) (by kernel_rfl) (by kernel_rfl) (by kernel_rfl) (by kernel_rfl) ?_ (fun _ _ h => h.size) (dN (Below.refl _ _) 1) ?_ ?_
  · intro i v W W' hb hF
    match i, hF with
    | 0, h => exact h
    | 1, h => exact h
    | 2, h => exact h
    | 3, h => exact h
    | 4, h => exact h
    | _ + 5, _ => trivial
  · refine ⟨?_, ?_, ?_, ?_, ?_, trivial⟩
    · refine stepJ_any rfl fun ac W hAA hG hDD K hK => ?_
      have h3 := hAA.getD (t := 3) (by kernel_rfl)
      simp only [Array.getD_eq_getD_getElem?] at h3
      rw [if_pos (by rfl)]
      exact wp_val (v := .pointer (some ⟨w.heap.size, 1, none⟩)) (w' := W) (by simp [execOp, Act.eval, h3, go_sem]) (hK _ _ hG (Below.refl _ _) rfl (fun h => by cases h))
    · refine stepJ_any rfl fun ac W hAA hG hDD K hK => ?_
      have h7 := hDD.get 0 7 _ rfl rfl (by kernel_rfl)
      simp only [Array.getD_eq_getD_getElem?] at h7
      obtain ⟨k0, k1⟩ := hN.out W hG
      rw [if_pos (by rfl)]
      exact wp_val (v := .int .i64 (at0 : Int)) (w' := W) (by simp [execOp, Act.eval, h7, go_sem, k0, k1]) (hK _ _ hG (Below.refl _ _) rfl (fun h => by cases h))
    · refine stepJ_any rfl fun ac W hAA hG hDD K hK => ?_
      have h3 := hAA.getD (t := 3) (by kernel_rfl)
      simp only [Array.getD_eq_getD_getElem?] at h3
      obtain ⟨k0, k1⟩ := hN.out W hG
      rw [if_pos (by rfl)]
      exact wp_val (v := .agg #[.int .i64 (row : Int), .int .i64 (at0 : Int)]) (w' := W) (by simp [execOp, Act.eval, h3, go_sem, k0, k1]) (hK _ _ hG (Below.refl _ _) rfl (fun h => by cases h))
    · refine stepJ_any rfl fun ac W hAA hG hDD K hK => ?_
      have h9 := hDD.get 2 9 _ rfl rfl (by kernel_rfl)
      simp only [Array.getD_eq_getD_getElem?] at h9
      rw [if_pos (by rfl)]
      refine wp_call (f := 27) (args := #[.agg #[.int .i64 (row : Int), .int .i64 (at0 : Int)]]) (by simp [execOp, Act.eval, h9, go_sem]) ((other_any row at0 h1 W).mono fun e W9 he => ?_)
      obtain ⟨rfl, hbw⟩ := he
      exact hK _ _ (hG.trans (hbw.mono hG.size)) hbw rfl (fun h => by cases h)
    · refine stepJ_any rfl fun ac W hAA hG hDD K hK => ?_
      have h8 := hDD.get 1 8 _ rfl rfl (by kernel_rfl)
      have h10 := hDD.get 3 10 _ rfl rfl (by kernel_rfl)
      simp only [Array.getD_eq_getD_getElem?] at h8 h10
      have hd := hd.out
      rw [if_pos (by rfl)]
      exact wp_val (v := .bool (decide (oth at0 < at0))) (w' := W) (by simp [execOp, Act.eval, h8, h10, go_sem, hd]) (hK _ _ hG (Below.refl _ _) rfl (fun h => by cases h))
  intro fu T w9 hG hF hne hltb
  have e7 : T 7 = .pointer (some ⟨w.heap.size, 1, none⟩) := hF 0 _ rfl (by omega)
  have e8 : T 8 = .int .i64 (at0 : Int) := hF 1 _ rfl (by omega)
  have e9 : T 9 = .agg #[.int .i64 (row : Int), .int .i64 (at0 : Int)] := hF 2 _ rfl (by omega)
  have e10 : T 10 = .int .i64 (oth at0 : Int) := hF 3 _ rfl (by omega)
  have e11 : T 11 = .bool (decide (oth at0 < at0)) := hF 4 _ rfl (by omega)
  clear hF hne hltb
  simp only [List.take, fillT, List.setIfInBounds_toArray, List.set_cons_zero, List.set_cons_succ, e7, e8, e9, e10, e11]
  clear e7 e8 e9 e10 e11
  refine wpAny_done (by kernel_rfl) ?_ _
  have kd9 := kd.out.below hG kd.out.lt
  have ko9 := ko.out.below hG ko.out.lt
  have hB9 := Lib.hid (hB.out.trans (hG.mono hB.out.size))
  have hK9 := hK.below hB9.out h0
  have h09 := Nat.lt_of_lt_of_le h0 hB9.out.size
  have sd := Lib.hid (DV_size hd0.out)
  have so := Lib.hid (DV_size ho0.out)
  have hi : (Tryd.prog.info? 30).map (·.size) = some 32 := by kernel_rfl
  have hu : Tryd.prog.underlying 30 = some (.array 32 5) := by kernel_rfl
  by_cases hlt : oth at0 < at0
  · have hs : stepM at0 d o = nodeM o d := by unfold stepM; rw [if_pos hlt]
    have hcon := Lib.hid (nodeText_any o d ho0.out hd0.out w9 hK9 h09)
    clear hK9 h09 hG hN
    go_wp2_with (first
      | (refine wpList_load_row rfl 30 _ rfl (w.heap.size + 1) rfl 30 _ (0, 0) _ kd9 hu rfl ?ca ?_; case ca => rw [hi, sd.out])
      | (refine wpList_load_row rfl 30 _ rfl (w.heap.size + 1 + 1) rfl 30 _ (0, 0) _ ko9 hu rfl ?cb ?_; case cb => rw [hi, so.out]))
    refine hcon.out.mono ?_
    rintro e w10 ⟨v, rfl, ho, hb⟩
    go_wp2_with fail
    go_ret
    exact ⟨_, rfl, by rw [hs]; exact ho.mono hB9.out.size, hB9.out.trans (hb.mono hB9.out.size)⟩
  · have hs : stepM at0 d o = nodeM d o := by unfold stepM; rw [if_neg hlt]
    have hcon := Lib.hid (nodeText_any d o hd0.out ho0.out w9 hK9 h09)
    clear hK9 h09 hG hN
    go_wp2_with (first
      | (refine wpList_load_row rfl 30 _ rfl (w.heap.size + 1) rfl 30 _ (0, 0) _ kd9 hu rfl ?ca ?_; case ca => rw [hi, sd.out])
      | (refine wpList_load_row rfl 30 _ rfl (w.heap.size + 1 + 1) rfl 30 _ (0, 0) _ ko9 hu rfl ?cb ?_; case cb => rw [hi, so.out]))
    refine hcon.out.mono ?_
    rintro e w10 ⟨v, rfl, ho, hb⟩
    go_wp2_with fail
    go_ret
    exact ⟨_, rfl, by rw [hs]; exact ho.mono hB9.out.size, hB9.out.trans (hb.mono hB9.out.size)⟩
end Go.Proofs.YtgddfdejkmnfkaaDoor
