/- At: the value of the polynomial through points. (Written by genfi.py.) -/
import Derived.Test.YtfblkkdoijfpfaaFh
import Derived.Test.YtfblkkdoijfpfaaFf
import Derived.Deep.OwnRows
import Derived.Laws.OwnMore
import Derived.Deep.DeepCutAuto
namespace Go.Proofs.Ytfblkkdoijfpfaa
open Go.RowKit Go.Shelf

/-- A row of n integers of which the first k are f's. -/
def rowT (f : Nat → Int) (n k : Nat) : Array Value := ((List.range n).map fun j => Value.int .i64 (if j < k then f j else 0)).toArray
theorem rowT_get (f : Nat → Int) (k : Nat) {n j : Nat} (h : j < n) : (rowT f n k)[j]? = some (.int .i64 (if j < k then f j else 0)) := by
  unfold rowT
  simp [h]
theorem rowT_set (f : Nat → Int) {n k : Nat} (h : k < n) : (rowT f n k).setIfInBounds k (.int .i64 (f k)) = rowT f n (k + 1) := by
  unfold rowT
  apply Array.ext
  · simp
  · intro j h1 h2
    simp only [Array.size_setIfInBounds, List.size_toArray, List.length_map, List.length_range] at h1
    rw [Array.getElem_setIfInBounds (by simpa using h1)]
    simp only [List.getElem_toArray, List.getElem_map, List.getElem_range]
    by_cases e : k = j
    · subst e
      rw [if_pos rfl, if_pos (by omega)]
    · rw [if_neg e]
      by_cases e2 : j < k
      · rw [if_pos e2, if_pos (by omega)]
      · rw [if_neg e2, if_neg (by omega)]
theorem rowT_zero (f : Nat → Int) (n : Nat) : madeCells #[.int .i64 0] n = rowT f n 0 := by
  unfold rowT
  rw [← Array.toList_inj, toList_madeCells_one]
  apply List.ext_getElem
  · simp
  · intro j h1 h2
    simp
theorem setAt {W : World} {B : Nat} {f : Nat → Int} {n k : Nat} {t : TypeId} (h : W.heap[B]? = some (.cells (rowT f n k) t (0, 0))) (hk : k < n) : (W.setCell ⟨B, k, none⟩ (.int .i64 (f k))).heap[B]? = some (.cells (rowT f n (k + 1)) t (0, 0)) := by
  rw [heap_setCell_same W B k _ t _ h, rowT_set f hk]
def termF (l : List (Int × Int)) (t : Int) (j : Nat) : Int := mulF (l.getD j (0, 0)).2 (wtF l j t)
def atF (l : List (Int × Int)) (t : Int) : Int := md (sumI ((List.range l.length).map (termF l t)))
/-- At's result and its error number. -/
def atE (l : List (Int × Int)) : Int := if 64 < l.length then 2 else if diffB (l.map Prod.fst) = true then 0 else 90
def atV (l : List (Int × Int)) (t : Int) : Int := if atE l = 0 then atF l t else 0
theorem I64.mulF (a b : Int) : I64 (mulF a b) := I64.md _
theorem IR.row {W : World} {B : Nat} {f : Nat → Int} {n : Nat} {t : TypeId} (hf : ∀ j, I64 (f j)) (h : W.heap[B]? = some (.cells (rowT f n n) t (0, 0))) : IR W (· < W.heap.size) (some ⟨B, 0, none⟩) ((List.range n).map f) := fun _ => by
  refine ⟨B, 0, rfl, (Array.getElem?_eq_some_iff.1 h).1, fun j hj => ?_⟩
  simp only [List.length_map, List.length_range] at hj
  simp only [List.getElem_map, List.getElem_range, Nat.zero_add]
  refine ⟨?_, hf j⟩
  rw [cellAt (i := j) h (rowT_get f n hj), if_pos hj]

set_option maxRecDepth 100000 in
set_option maxHeartbeats 2000000 in
theorem At_any (l : List (Int × Int)) (hm : l.length ≤ 9223372036854775807) (t : Int) (ht : I64 t) (w : World) (A : Option Addr) (c : Nat) (hR : PR w (· < w.heap.size) A l) :
    Calls Try.prog 18 #[.slice A l.length c, .int .i64 t] w fun e w' => e = .returned (.tuple #[.int .i64 (atV l t), .int .i64 (atE l)]) ∧ Below w.heap.size w w' := by
  go_enter Try.func18, Try.ntmps18
  by_cases h64 : 64 < l.length
  · have hbig : (64 : Int) < l.length := by omega
    have he : atE l = 2 := by unfold atE; rw [if_pos h64]
    replace he := Lib.hid he
    go_wp2_with fail
    go_ret2
    exact ⟨by unfold atV; rw [he.out, if_neg (by decide)]; rfl, Below.refl _ _⟩
  · have hsm : ¬ (64 : Int) < l.length := by omega
    have hd := Lib.hid (distinct_any l (by omega) w A c hR)
    cases hdb : diffB (l.map Prod.fst) with
    | false =>
      have he := Lib.hid (show atE l = 90 by unfold atE; rw [if_neg h64, hdb]; rfl)
      rw [hdb] at hd
      clear hdb
      go_wp2_with fail
      refine (hd.out).mono ?_
      rintro e w1 ⟨rfl, hb⟩
      replace hb := Lib.hid hb
      go_wp2_with fail
      go_ret2
      exact ⟨by unfold atV; rw [he.out, if_neg (by decide)]; rfl, hb.out⟩
    | true =>
      have he := Lib.hid (show atE l = 0 by unfold atE; rw [if_neg h64, hdb]; rfl)
      rw [hdb] at hd
      clear hdb
      have hmk := run_make_row' (P := Try.prog) 32 3 (.int .i64 0) 8 Try.underlying32 (by kernel_rfl) rfl .i64 .i64 l.length (by omega) (by omega)
      go_wp2_with fail
      refine (hd.out).mono ?_
      rintro e w1 ⟨rfl, hb⟩
      replace hb := Lib.hid hb
      go_wp2_with fail
      have hr0 := World.alloc_heap_new w1 (.cells (madeCells #[.int .i64 0] l.length) 3)
      rw [rowT_zero (termF l t)] at hr0 ⊢
      have hB0 := hb.out.trans ((bel1 w1 (.cells (rowT (termF l t) l.length 0) 3)).mono hb.out.size)
      generalize w1.alloc (.cells (rowT (termF l t) l.length 0) 3) = W0 at hr0 hB0 ⊢
      replace hr0 := Lib.hid hr0
      replace hB0 := Lib.hid hB0
      have hw01 := Lib.hid hb.out.size
      have hRh := Lib.hid hR
      have hth := Lib.hid ht
      clear hmk hd hR ht
      go_loopw [20] (fun n wr => ∃ j : Nat, j ≤ l.length ∧ n = .int .i64 (j : Int) ∧ Hid (wr.heap[w1.heap.size]? = some (.cells (rowT (termF l t) l.length j) 3 (0, 0))) ∧ Hid (Below w.heap.size w wr)) (fun n _ => l.length - (intOf n).toNat)
      case atStart => exact ⟨0, Nat.zero_le _, rfl, hr0, hB0⟩
      case round =>
        obtain ⟨j, hj, rfl, hrow, hbw⟩ := hrel
        by_cases hlt : j < l.length
        · have hRr := hRh.out.step hbw.out
          obtain ⟨b, off, rfl, hs, hc0, hc1, hI1, hI2⟩ := hRr.at_ hlt
          have hxV := World.alloc_heap_new wr (.cells #[.int .i64 l[j].1, .int .i64 l[j].2] 35)
          have hbV := bel1 wr (.cells #[.int .i64 l[j].1, .int .i64 l[j].2] 35)
          have htm := Lib.hid (show termF l t j = mulF l[j].2 (wtF l j t) by unfold termF; simp [List.getD, hlt])
          generalize l[j].1 = x at *
          generalize l[j].2 = y at *
          obtain ⟨V, hV⟩ : ∃ V, wr.alloc (.cells #[.int .i64 x, .int .i64 y] 35) = V := ⟨_, rfl⟩
          rw [hV] at hxV hbV
          have hRV := hRr.step hbV
          have hX : Hid (∀ W, Below V.heap.size V W → W.cell? ⟨wr.heap.size, 1, none⟩ = some (.int .i64 y)) := fun W hW => cellAt (i := 1) (blk_at hxV hW) rfl
          have hwt : Hid (∀ W, Below V.heap.size V W → Calls Try.prog 24 #[.slice (some ⟨b, off, none⟩) l.length c, .int .i64 (j : Int), .int .i64 t] W fun e w' => e = .returned (.int .i64 (wtF l j t)) ∧ Below W.heap.size W w') := fun W hW => weight_any l j hlt (by omega) t hth.out W _ c (hRV.step hW)
          have hrV := Lib.hid (blk_at hrow.out hbV)
          have hBV := Lib.hid (hbw.out.trans (hbV.mono hbw.out.size))
          have j0 : (0 : Int) ≤ j := by omega
          have j1 : (j : Int) < l.length := by omega
          replace hV := Lib.hid hV
          clear hRr hRV hxV hbV hrow hbw hs
          go_upto_region 9 with fail
          rw [hV.out]
          refine wp_region_pre 10 1 (fun W => Below V.heap.size V W) (fun W W' => Below W.heap.size W W')
            (fun i v W => match i with
              | 0 => v = .slice (some ⟨w1.heap.size, 0, none⟩) l.length l.length
              | 1 => v = .int .i64 (j : Int)
              | 2 => v = .pointer (some ⟨wr.heap.size, 1, none⟩)
              | 3 => v = .int .i64 y
              | 4 => v = .slice (some ⟨b, off, none⟩) l.length c
              | 5 => v = .int .i64 (j : Int)
              | 6 => v = .int .i64 t
              | 7 => v = .int .i64 (wtF l j t)
              | 8 => v = .int .i64 (mulF y (wtF l j t))
              | 9 => v = .pointer (some ⟨w1.heap.size, j, none⟩)
              | _ => True) (fun _ => false)
            (by kernel_rfl) (by kernel_rfl) (by kernel_rfl) (by kernel_rfl) (by kernel_rfl) (by kernel_rfl) (by kernel_rfl) ?_ (fun _ _ h => h.size) (dN (Below.refl _ _) 1) ?_ ?_
          · intro i v W W' hb hF
            match i, hF with
            | 0, h => exact h
            | 1, h => exact h
            | 2, h => exact h
            | 3, h => exact h
            | 4, h => exact h
            | 5, h => exact h
            | 6, h => exact h
            | 7, h => exact h
            | 8, h => exact h
            | 9, h => exact h
            | _ + 10, _ => trivial
          · refine ⟨?_, ?_, ?_, ?_, ?_, ?_, ?_, ?_, ?_, ?_, trivial⟩
            · refine stepJ_any rfl fun ac W hAA hG hDD K hK => ?_
              have h6 := hAA.getD (t := 6) (by kernel_rfl)
              simp only [Array.getD_eq_getD_getElem?] at h6
              rw [if_pos (by rfl)]
              exact wp_val (v := .slice (some ⟨w1.heap.size, 0, none⟩) l.length l.length) (w' := W) (by simp [execOp, Act.eval, h6, go_sem]) (hK _ _ hG (Below.refl _ _) rfl (fun h => by cases h))
            · refine stepJ_any rfl fun ac W hAA hG hDD K hK => ?_
              have h7 := hAA.getD (t := 7) (by kernel_rfl)
              simp only [Array.getD_eq_getD_getElem?] at h7
              rw [if_pos (by rfl)]
              exact wp_val (v := .int .i64 (j : Int)) (w' := W) (by simp [execOp, Act.eval, h7, go_sem]) (hK _ _ hG (Below.refl _ _) rfl (fun h => by cases h))
            · refine stepJ_any rfl fun ac W hAA hG hDD K hK => ?_
              have h8 := hAA.getD (t := 8) (by kernel_rfl)
              simp only [Array.getD_eq_getD_getElem?] at h8
              rw [if_pos (by rfl)]
              exact wp_val (v := .pointer (some ⟨wr.heap.size, 1, none⟩)) (w' := W) (by simp [execOp, Act.eval, h8, go_sem]) (hK _ _ hG (Below.refl _ _) rfl (fun h => by cases h))
            · refine stepJ_any rfl fun ac W hAA hG hDD K hK => ?_
              have h27 := hDD.get 2 27 _ rfl rfl (by kernel_rfl)
              simp only [Array.getD_eq_getD_getElem?] at h27
              have k0 := hX.out W hG
              rw [if_pos (by rfl)]
              exact wp_val (v := .int .i64 y) (w' := W) (by simp [execOp, Act.eval, h27, go_sem, k0]) (hK _ _ hG (Below.refl _ _) rfl (fun h => by cases h))
            · refine stepJ_any rfl fun ac W hAA hG hDD K hK => ?_
              have h0 := hAA.getD (t := 0) (by kernel_rfl)
              simp only [Array.getD_eq_getD_getElem?] at h0
              rw [if_pos (by rfl)]
              exact wp_val (v := .slice (some ⟨b, off, none⟩) l.length c) (w' := W) (by simp [execOp, Act.eval, h0, go_sem]) (hK _ _ hG (Below.refl _ _) rfl (fun h => by cases h))
            · refine stepJ_any rfl fun ac W hAA hG hDD K hK => ?_
              have h7 := hAA.getD (t := 7) (by kernel_rfl)
              simp only [Array.getD_eq_getD_getElem?] at h7
              rw [if_pos (by rfl)]
              exact wp_val (v := .int .i64 (j : Int)) (w' := W) (by simp [execOp, Act.eval, h7, go_sem]) (hK _ _ hG (Below.refl _ _) rfl (fun h => by cases h))
            · refine stepJ_any rfl fun ac W hAA hG hDD K hK => ?_
              have h1 := hAA.getD (t := 1) (by kernel_rfl)
              simp only [Array.getD_eq_getD_getElem?] at h1
              rw [if_pos (by rfl)]
              exact wp_val (v := .int .i64 t) (w' := W) (by simp [execOp, Act.eval, h1, go_sem]) (hK _ _ hG (Below.refl _ _) rfl (fun h => by cases h))
            · refine stepJ_any rfl fun ac W hAA hG hDD K hK => ?_
              have h29 := hDD.get 4 29 _ rfl rfl (by kernel_rfl)
              have h30 := hDD.get 5 30 _ rfl rfl (by kernel_rfl)
              have h31 := hDD.get 6 31 _ rfl rfl (by kernel_rfl)
              simp only [Array.getD_eq_getD_getElem?] at h29 h30 h31
              rw [if_pos (by rfl)]
              refine wp_call (f := 24) (args := #[.slice (some ⟨b, off, none⟩) l.length c, .int .i64 (j : Int), .int .i64 t]) (by simp [execOp, Act.eval, h29, h30, h31, go_sem]) ((hwt.out W hG).mono fun e W9 he => ?_)
              obtain ⟨rfl, hbw⟩ := he
              exact hK _ _ (hG.trans (hbw.mono hG.size)) hbw rfl (fun h => by cases h)
            · refine stepJ_any rfl fun ac W hAA hG hDD K hK => ?_
              have h28 := hDD.get 3 28 _ rfl rfl (by kernel_rfl)
              have h32 := hDD.get 7 32 _ rfl rfl (by kernel_rfl)
              simp only [Array.getD_eq_getD_getElem?] at h28 h32
              rw [if_pos (by rfl)]
              refine wp_call (f := 14) (args := #[.int .i64 y, .int .i64 (wtF l j t)]) (by simp [execOp, Act.eval, h28, h32, go_sem]) ((Mul_any y (wtF l j t) W).mono fun e W9 he => ?_)
              obtain ⟨rfl, hbe⟩ := he
              have hbw : Below W.heap.size W W9 := hbe ▸ Below.refl _ _
              exact hK _ _ (hG.trans (hbw.mono hG.size)) hbw rfl (fun h => by cases h)
            · refine stepJ_any rfl fun ac W hAA hG hDD K hK => ?_
              have h25 := hDD.get 0 25 _ rfl rfl (by kernel_rfl)
              have h26 := hDD.get 1 26 _ rfl rfl (by kernel_rfl)
              simp only [Array.getD_eq_getD_getElem?] at h25 h26
              rw [if_pos (by rfl)]
              exact wp_val (v := .pointer (some ⟨w1.heap.size, j, none⟩)) (w' := W) (by simp [execOp, Act.eval, h25, h26, go_sem, j0, j1]) (hK _ _ hG (Below.refl _ _) rfl (fun h => by cases h))
          intro fu T w5 hG hF hne hltb
          have e25 : T 25 = .slice (some ⟨w1.heap.size, 0, none⟩) l.length l.length := hF 0 _ rfl (by omega)
          have e26 : T 26 = .int .i64 (j : Int) := hF 1 _ rfl (by omega)
          have e27 : T 27 = .pointer (some ⟨wr.heap.size, 1, none⟩) := hF 2 _ rfl (by omega)
          have e28 : T 28 = .int .i64 y := hF 3 _ rfl (by omega)
          have e29 : T 29 = .slice (some ⟨b, off, none⟩) l.length c := hF 4 _ rfl (by omega)
          have e30 : T 30 = .int .i64 (j : Int) := hF 5 _ rfl (by omega)
          have e31 : T 31 = .int .i64 t := hF 6 _ rfl (by omega)
          have e32 : T 32 = .int .i64 (wtF l j t) := hF 7 _ rfl (by omega)
          have e33 : T 33 = .int .i64 (mulF y (wtF l j t)) := hF 8 _ rfl (by omega)
          have e34 : T 34 = .pointer (some ⟨w1.heap.size, j, none⟩) := hF 9 _ rfl (by omega)
          clear hF hne hltb
          simp only [List.take, fillT, List.setIfInBounds_toArray, List.set_cons_zero, List.set_cons_succ, e25, e26, e27, e28, e29, e30, e31, e32, e33, e34]
          clear e25 e26 e27 e28 e29 e30 e31 e32 e33 e34
          have hr5 := blk_at hrV.out hG
          have hB5 := hBV.out.trans (hG.mono hBV.out.size)
          refine wpAny_ready (rs := [10]) (by kernel_rfl) (by simp) (AllReady.cons (o := ⟨none, (Op.store 3 (Operand.tmp 34) (Operand.tmp 33)), _, _, _, none⟩) rfl (fun K1 hK1 => ?_) AllReady.nil)
          rw [if_pos (by rfl)]
          refine wp_store_one 3 (.tmp 34) (.tmp 33) rfl (w1.heap.size) (j) rfl (.int .i64 (mulF y (wtF l j t))) rfl rfl rfl Try.sizeOf3 _ (cellAt (i := j) hr5 (rowT_get _ _ hlt)) (frozenAt hr5 _) ?_
          refine hK1 _ _ ?_
          clear hK1 K1
          refine wpAny_done (by kernel_rfl) ?_ _
          simp only [Act.put, List.setIfInBounds_toArray, List.set_cons_zero, List.set_cons_succ]
          have hnx := Lib.hid (setAt (f := termF l t) hr5 hlt)
          rw [htm.out] at hnx
          have hBn := Lib.hid (hB5.setCell (p := ⟨w1.heap.size, j, none⟩) hw01.out (.int .i64 (mulF y (wtF l j t))))
          clear hr5 hB5 hG hr0 hB0 hX hwt hrV hBV
          go_wp2_with fail
          go_roundw
          case rel => exact ⟨j + 1, by omega, by go_num, hnx, hBn⟩
          case measure => simp [intOf]; omega
        · have hle : ¬ ((j : Int) < l.length) := by omega
          have hjl : j = l.length := by omega
          rw [hjl] at hrow hle ⊢
          have hIR := Lib.hid (IR.row (t := 3) (fun j => I64.mulF _ _) hrow.out)
          clear hlt hjl hr0 hB0 hrow
          have hsum := Lib.hid (sum_any ((List.range l.length).map (termF l t)) (by simp; omega) wr _ l.length hIR.out)
          rw [List.length_map, List.length_range] at hsum
          clear hIR
          go_wp2_with fail
          refine (hsum.out).mono ?_
          rintro e w5 ⟨rfl, rfl⟩
          go_wp2_with fail
          go_ret2
          exact ⟨by unfold atV; rw [he.out, if_pos rfl]; rfl, hbw.out⟩
end Go.Proofs.Ytfblkkdoijfpfaa
