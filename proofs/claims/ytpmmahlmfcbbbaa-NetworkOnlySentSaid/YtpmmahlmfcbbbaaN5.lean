/- SamePacket, Few, New: contracts. -/
import Derived.Test.YtpmmahlmfcbbbaaNv
import Derived.Test.YtpmmahlmfcbbbaaNu
namespace Go.Proofs.Ytpmmahlmfcbbbaa
open Go.RowKit

def sameP (p q : Pk) : Bool := (p.frm == q.frm) && (p.to == q.to) && decide (p.data = q.data)
theorem sameP_refl (p : Pk) : sameP p p = true := by unfold sameP; simp
theorem str_eq (x y : List UInt8) : decide ((⟨x.toArray⟩ : ByteArray) = ⟨y.toArray⟩) = decide (x = y) := by
  rw [Bool.eq_iff_iff, decide_eq_true_iff, decide_eq_true_iff]
  constructor
  · intro h; injection h with h; exact Array.toList_inj.2 h
  · intro h; rw [h]

set_option maxRecDepth 100000 in
set_option maxHeartbeats 2000000 in
theorem SamePacket_any (p q : Pk) (w : World) (Ap Aq : Option Addr) (cp cq : Nat) (hp : RBs w (· < w.heap.size) Ap p.data) (hq : RBs w (· < w.heap.size) Aq q.data) :
    Calls Try.prog 22 #[.agg #[.int .i64 p.frm, .int .i64 p.to, .slice Ap p.data.length cp], .agg #[.int .i64 q.frm, .int .i64 q.to, .slice Aq q.data.length cq]] w fun e w' => e = .returned (.bool (sameP p q)) ∧ Below w.heap.size w w' := by
  have kP := heap_alloc_new w (.cells #[.int .i64 p.frm, .int .i64 p.to, .slice Ap p.data.length cp] 28)
  have hbV1 := bnew w (.cells #[.int .i64 p.frm, .int .i64 p.to, .slice Ap p.data.length cp] 28)
  obtain ⟨V1, hV1⟩ : ∃ V, (w).alloc (.cells #[.int .i64 p.frm, .int .i64 p.to, .slice Ap p.data.length cp] 28) = V := ⟨_, rfl⟩
  have hsV1 : V1.heap.size = w.heap.size + 1 := by rw [← hV1]; simp
  rw [hV1] at kP hbV1
  have kQ := heap_alloc_new V1 (.cells #[.int .i64 q.frm, .int .i64 q.to, .slice Aq q.data.length cq] 28)
  have hbV2 := bnew V1 (.cells #[.int .i64 q.frm, .int .i64 q.to, .slice Aq q.data.length cq] 28)
  obtain ⟨V2, hV2⟩ : ∃ V, (V1).alloc (.cells #[.int .i64 q.frm, .int .i64 q.to, .slice Aq q.data.length cq] 28) = V := ⟨_, rfl⟩
  have hsV2 : V2.heap.size = w.heap.size + 2 := by rw [← hV2]; simp; omega
  rw [hV2] at kQ hbV2
  replace kP := blk_step kP hbV2
  rw [hsV1] at kQ
  have hBV : Below w.heap.size w V2 := (hbV1).trans (hbV2.mono (by omega))
  clear hbV1 hbV2
  have c1 := conv_str (c := cp) (hp.keep (Kept.below hBV))
  have c2 := conv_str (c := cq) (hq.keep (Kept.below hBV))
  have y0 : V2.cell? ⟨w.heap.size, 0, none⟩ = _ := cell_of_row V2 _ 0 _ _ _ kP
  have y1 : V2.cell? ⟨w.heap.size, 1, none⟩ = _ := cell_of_row V2 _ 1 _ _ _ kP
  have y2 : V2.cell? ⟨w.heap.size, 2, none⟩ = _ := cell_of_row V2 _ 2 _ _ _ kP
  have z0 : V2.cell? ⟨w.heap.size + 1, 0, none⟩ = _ := cell_of_row V2 _ 0 _ _ _ kQ
  have z1 : V2.cell? ⟨w.heap.size + 1, 1, none⟩ = _ := cell_of_row V2 _ 1 _ _ _ kQ
  have z2 : V2.cell? ⟨w.heap.size + 1, 2, none⟩ = _ := cell_of_row V2 _ 2 _ _ _ kQ
  replace hBV := Lib.hid hBV
  clear hp hq kP kQ hsV1 hsV2
  obtain ⟨x, hx⟩ : ∃ x, (p.frm == q.frm) = x := ⟨_, rfl⟩
  obtain ⟨y, hy⟩ : ∃ y, (p.to == q.to) = y := ⟨_, rfl⟩
  have hv := Lib.hid (show sameP p q = (x && y && decide ((⟨p.data.toArray⟩ : ByteArray) = ⟨q.data.toArray⟩)) by unfold sameP; rw [hx, hy, str_eq])
  subst hV1
  subst hV2
  go_enter Try.func22, Try.ntmps22
  cases x with
  | false =>
    go_wp2_with fail
    go_ret
    exact ⟨retB (by rw [hv.out]; rfl), hBV.out⟩
  | true =>
    cases y with
    | false =>
      go_wp2_with fail
      go_ret
      exact ⟨retB (by rw [hv.out]; rfl), hBV.out⟩
    | true =>
      go_wp2_with fail
      go_ret
      exact ⟨retB (by rw [hv.out]; simp; rw [Bool.eq_iff_iff]; simp), hBV.out⟩

set_option maxHeartbeats 800000 in
theorem Few_any (n : Nt) (w : World) (A A' : Option Addr) (c c' : Nat) :
    Calls Try.prog 10 #[.agg #[.slice A n.q.length c, .slice A' n.ap.length c']] w fun e w' => e = .returned (.bool (decide (n.q.length ≤ 40) && decide (n.ap.length ≤ 40))) ∧ Below w.heap.size w w' := by
  have hB := Lib.hid (bnew w (.cells #[.slice A n.q.length c, .slice A' n.ap.length c'] 25))
  by_cases h : n.q.length ≤ 40
  · have h1 : (n.q.length : Int) ≤ 40 := by omega
    have hv := Lib.hid (show (decide (n.q.length ≤ 40) && decide (n.ap.length ≤ 40)) = decide ((n.ap.length : Int) ≤ 40) by rw [decide_eq_true h, Bool.true_and]; exact decide_eq_decide.2 (by omega))
    clear h
    go_enter Try.func10, Try.ntmps10
    go_wp2_with fail
    go_ret
    exact ⟨retB (by rw [hv.out]), hB.out⟩
  · have h1 : ¬ (n.q.length : Int) ≤ 40 := by omega
    have hv := Lib.hid (show (decide (n.q.length ≤ 40) && decide (n.ap.length ≤ 40)) = false by rw [decide_eq_false h, Bool.false_and])
    clear h
    go_enter Try.func10, Try.ntmps10
    go_wp2_with fail
    go_ret
    exact ⟨retB (by rw [hv.out]), hB.out⟩

set_option maxHeartbeats 800000 in
theorem New_any (w : World) : Calls Try.prog 16 #[] w fun e w' => e = .returned (.agg #[.slice none 0 0, .slice none 0 0]) ∧ Below w.heap.size w w' := by
  have kX := heap_alloc_new w (.cells #[.slice none 0 0, .slice none 0 0] 25)
  have hB := Lib.hid (bnew w (.cells #[.slice none 0 0, .slice none 0 0] 25))
  have x0 : (w.alloc (.cells #[.slice none 0 0, .slice none 0 0] 25)).cell? ⟨w.heap.size, 0, none⟩ = _ := cell_of_row _ _ 0 _ _ _ kX
  have x1 : (w.alloc (.cells #[.slice none 0 0, .slice none 0 0] 25)).cell? ⟨w.heap.size, 1, none⟩ = _ := cell_of_row _ _ 1 _ _ _ kX
  have fX := fun i => frozen_of_row (w.alloc (.cells #[.slice none 0 0, .slice none 0 0] 25)) _ i _ _ kX
  clear kX
  go_enter Try.func16, Try.ntmps16
  go_wp2_with fail
  exact bodyPost_ret (v := .agg #[.slice none 0 0, .slice none 0 0]) (by simp [results, Try.results16, go_sem, x0, x1, fX]) rfl ⟨rfl, hB.out⟩
set_option maxHeartbeats 800000 in
theorem rNew_any (w : World) : Calls Try.prog 17 #[] w fun e w' => e = .returned (.agg #[.slice none 0 0, .slice none 0 0]) ∧ Below w.heap.size w w' := by
  have kX := heap_alloc_new w (.cells #[.slice none 0 0, .slice none 0 0] 25)
  have hB := Lib.hid (bnew w (.cells #[.slice none 0 0, .slice none 0 0] 25))
  have x0 : (w.alloc (.cells #[.slice none 0 0, .slice none 0 0] 25)).cell? ⟨w.heap.size, 0, none⟩ = _ := cell_of_row _ _ 0 _ _ _ kX
  have x1 : (w.alloc (.cells #[.slice none 0 0, .slice none 0 0] 25)).cell? ⟨w.heap.size, 1, none⟩ = _ := cell_of_row _ _ 1 _ _ _ kX
  have fX := fun i => frozen_of_row (w.alloc (.cells #[.slice none 0 0, .slice none 0 0] 25)) _ i _ _ kX
  clear kX
  go_enter Try.func17, Try.ntmps17
  go_wp2_with fail
  exact bodyPost_ret (v := .agg #[.slice none 0 0, .slice none 0 0]) (by simp [results, Try.results17, go_sem, x0, x1, fX]) rfl ⟨rfl, hB.out⟩

end Go.Proofs.Ytpmmahlmfcbbbaa
