/- NetworkOnlySent: the contract. (Written by geno4.py.) -/
import Derived.Test.YtpmmahlmfcbbbaaO3
import Derived.Test.YtpmmahlmfcbbbaaN6
import Derived.Test.YtpmmahlmfcbbbaaN8
import Derived.Test.YtpmmahlmfcbbbaaN9
import Derived.Test.YtpmmahlmfcbbbaaNz
import Derived.Deep.DeepCutAuto
namespace Go.Proofs.Ytpmmahlmfcbbbaa
open Go.RowKit

/-- Moves that are read. -/
def MR (w : World) (A : Option Addr) (ms : List Mv) : Prop := 0 < ms.length → ∃ b off, A = some ⟨b, off, none⟩ ∧ b < w.heap.size ∧ ∀ i (h : i < ms.length), w.cell? ⟨b, off + i * 5, none⟩ = some (.int .u8 (ms[i].kind : Int)) ∧ w.cell? ⟨b, off + i * 5 + 1, none⟩ = some (.int .u8 (ms[i].at_ : Int)) ∧
  w.cell? ⟨b, off + i * 5 + 2, none⟩ = some (.int .u8 (ms[i].a : Int)) ∧ w.cell? ⟨b, off + i * 5 + 3, none⟩ = some (.int .u8 (ms[i].b : Int)) ∧ w.cell? ⟨b, off + i * 5 + 4, none⟩ = some (.int .u8 (ms[i].data.toNat : Int)) ∧ ms[i].ok
theorem MR.step {w w' : World} {A : Option Addr} {ms : List Mv} (h : MR w A ms) (hb : Below w.heap.size w w') : MR w' A ms := fun hp => by
  obtain ⟨b, off, e, hlt, hc⟩ := h hp
  refine ⟨b, off, e, Nat.lt_of_lt_of_le hlt hb.size, fun i hi => ?_⟩
  obtain ⟨h0, h1, h2, h3, h4, h5⟩ := hc i hi
  exact ⟨(hb.cell (p := ⟨b, off + i * 5, none⟩) hlt).trans h0, (hb.cell (p := ⟨b, off + i * 5 + 1, none⟩) hlt).trans h1, (hb.cell (p := ⟨b, off + i * 5 + 2, none⟩) hlt).trans h2, (hb.cell (p := ⟨b, off + i * 5 + 3, none⟩) hlt).trans h3, (hb.cell (p := ⟨b, off + i * 5 + 4, none⟩) hlt).trans h4, h5⟩
theorem Check_good {n : Nt} (h : ntB n = true) (w : World) (A A' : Option Addr) (c c' : Nat) (hd : NR w (· < w.heap.size) A c A' c' n) :
    Calls Try.prog 13 #[.agg #[.slice A n.q.length c, .slice A' n.ap.length c']] w fun e w' => e = .returned (.int .i64 0) ∧ Below w.heap.size w w' := by
  have := Check_any n w A A' c c' w.heap.size (Nat.le_refl _) hd
  rwa [show nchk n = 0 by unfold nchk; rw [if_pos h]] at this

set_option maxRecDepth 100000 in
set_option maxHeartbeats 8000000 in
theorem only_any (ms : List Mv) (w : World) (Al : Option Addr) (cl : Nat) (hlc : ms.length ≤ cl ∧ cl ≤ maxLen) (hl : MR w Al ms) :
    Calls Try.prog 5 #[.slice Al ms.length cl] w fun e w' => e = .returned (.bool true) ∧ Below w.heap.size w w' := by
  have hB := Lib.hid (Below.refl w.heap.size w)
  go_enter Try.func5, Try.ntmps5
  go_wp2_with fail
  refine (sane_any w).mono ?_
  rintro e w1 ⟨rfl, hb⟩
  have hB := Lib.hid hb
  replace hl := Lib.hid (hl.step hb)
  clear hb
  by_cases h60 : (60 : Int) < ms.length
  · go_wp2_with fail
    go_ret
    exact ⟨rfl, hB.out⟩
  go_wp2_with fail
  refine (New_any w1).mono ?_
  rintro e w0 ⟨rfl, hb⟩
  have hB := Lib.hid (hB.out.trans (hb.mono hB.out.size))
  replace hl := Lib.hid (hl.out.step hb)
  clear hb
  have hS0 : SO w0 zeroNt [] (.slice none 0 0) (w0.alloc (.cells #[.slice none 0 0, .slice none 0 0] 25)) := ⟨bnew w0 _, by simp, ⟨[], World.ownsRow_nil _ _ _ _, rfl, fun i hi => absurd hi (by simp)⟩, none, 0, none, 0, heap_alloc_new w0 _, NR.zero _ _⟩
  replace hS0 := Lib.hid hS0
  go_wp2_with fail
  go_loopw [4, 5, 6] (fun sv cv iv wr => ∃ (q cuts : Nat) (n : Nt) (R : List Pk), q ≤ ms.length ∧ iv = .int .i64 (q : Int) ∧ cv = .int .i64 (cuts : Int) ∧ cuts ≤ q ∧ R.length ≤ q ∧ (∃ Av capv, sv = .slice Av R.length capv) ∧ Hid (NI n R cuts) ∧ Hid (SO w0 n R sv wr)) (fun _ _ iv _ => ms.length - (intOf iv).toNat)
  case atStart => exact ⟨0, 0, zeroNt, [], Nat.zero_le _, rfl, rfl, Nat.le_refl _, Nat.le_refl _, ⟨none, 0, rfl⟩, NI.zero, hS0.out⟩
  case round =>
    clear hS0
    obtain ⟨q, cuts, n, R, hq, rfl, rfl, hcq, hRq, ⟨Av, capv, hsv⟩, hNI, hS⟩ := hrel
    by_cases hlt : q < ms.length
    · have hlt' : (q : Int) < (ms.length : Int) := by omega
      have hw1 : IntKind.i64.wrap ((q : Int) + 1) = (q : Int) + 1 := IntWalk.i64_in _ (by omega)
      obtain ⟨bl, ol, rfl, hbl, hmc⟩ := hl.out (by omega)
      obtain ⟨z0, z1, z2, z3, z4, hok⟩ := hmc q hlt
      obtain ⟨m, hm⟩ : ∃ m, ms[q] = m := ⟨_, rfl⟩
      rw [hm] at z0 z1 z2 z3 z4 hok
      clear hm hmc
      obtain ⟨X, hX⟩ : ∃ X, (hapX n m).1 = X := ⟨_, rfl⟩
      obtain ⟨e1, he1⟩ : ∃ e, (hapX n m).2 = e := ⟨_, rfl⟩
      obtain ⟨p, hp⟩ : ∃ p, hapP n m = p := ⟨_, rfl⟩
      obtain ⟨An, cn, An', cn', hbx, hnr⟩ := hS.out.box
      have hsz0 := hS.out.lt
      have ix0 : (0 : Int) ≤ q := by omega
      have hown := Lib.hid (fun b (hb : wr.heap.size ≤ b) => hS.out.own_ne (.inr hb))
      have hN : Hid (∀ W, Below wr.heap.size wr W → W.cell? ⟨w0.heap.size, 0, none⟩ = some (.slice An n.q.length cn) ∧ W.cell? ⟨w0.heap.size, 1, none⟩ = some (.slice An' n.ap.length cn')) := fun W hW => ⟨cell_of_row W _ 0 _ _ _ (blk_step hbx hW), cell_of_row W _ 1 _ _ _ (blk_step hbx hW)⟩
      have hE : Hid (∀ W, Below wr.heap.size wr W → W.cell? ⟨bl, ol + q * 5, none⟩ = some (.int .u8 (m.kind : Int)) ∧ W.cell? ⟨bl, ol + q * 5 + 1, none⟩ = some (.int .u8 (m.at_ : Int)) ∧ W.cell? ⟨bl, ol + q * 5 + 2, none⟩ = some (.int .u8 (m.a : Int)) ∧ W.cell? ⟨bl, ol + q * 5 + 3, none⟩ = some (.int .u8 (m.b : Int)) ∧ W.cell? ⟨bl, ol + q * 5 + 4, none⟩ = some (.int .u8 (m.data.toNat : Int))) := fun W hW =>
        have hk := hS.out.bel.trans (hW.mono (Nat.le_of_lt hsz0))
        ⟨(hk.cell hbl).trans z0, (hk.cell hbl).trans z1, (hk.cell hbl).trans z2, (hk.cell hbl).trans z3, (hk.cell hbl).trans z4⟩
      have hsub : Hid (∀ W, Below wr.heap.size wr W → Calls Try.prog 27 #[.agg #[.slice An n.q.length cn, .slice An' n.ap.length cn'], .agg #[.int .u8 (m.kind : Int), .int .u8 (m.at_ : Int), .int .u8 (m.a : Int), .int .u8 (m.b : Int), .int .u8 (m.data.toNat : Int)]] W (HpPost (fun b => b < wr.heap.size ∧ Er u4 b) X p e1 W)) := fun W hW => by
        have h := happens_any n m hok W An An' cn cn' (fun b => b < wr.heap.size ∧ Er u4 b) (fun b hb => Nat.lt_of_lt_of_le hb.1 hW.size) (hnr.keep fun b o hb => hW.cell (p := ⟨b, o, none⟩) hb.1)
        rw [hX, he1, hp] at h
        exact h
      replace hX := Lib.hid hX
      replace he1 := Lib.hid he1
      replace hp := Lib.hid hp
      replace hok := Lib.hid hok
      replace hbl := Lib.hid hbl
      replace hsv := Lib.hid hsv
      have hsz := Lib.hid hsz0
      clear z0 z1 z2 z3 z4 hbx hnr
      go_upto_region 11 with fail
      refine wp_region_st Sg.zero (fun s L W => GS wr u4 X p s L W) (fun L s _ s' _ => RS L s s') (fun s i v _ => match i with
          | 0 => v = .agg #[.slice An n.q.length cn, .slice An' n.ap.length cn']
          | 1 => v = .slice (some ⟨bl, ol, none⟩) ms.length cl
          | 2 => v = .int .i64 (q : Int)
          | 3 => v = .pointer (some ⟨bl, ol + q * 5, none⟩)
          | 4 => v = .agg #[.int .u8 (m.kind : Int), .int .u8 (m.at_ : Int), .int .u8 (m.a : Int), .int .u8 (m.b : Int), .int .u8 (m.data.toNat : Int)]
          | 5 => v = .tuple #[.agg (xrow X s), .agg (krow p s), .int .i64 e1]
          | 6 => v = .tuple #[.agg (xrow X s), .agg (krow p s), .int .i64 e1]
          | 7 => v = .agg (xrow X s)
          | 8 => v = .agg (krow p s)
          | 9 => v = .int .i64 e1
          | 10 => v = .pointer (some ⟨s.g7, 0, none⟩)
          | 11 => v = .pointer (some ⟨s.g8, 0, none⟩)
          | 14 => v = .int .i64 e1
          | _ => True)
        (by kernel_rfl) (by kernel_rfl) (by kernel_rfl) (by kernel_rfl) ?_ ⟨dN (Below.refl _ _) 1, fun h => (by cases h), fun h => (by cases h), fun h => (by cases h), fun h => (by cases h)⟩ ?_ ?_
      · intro L i v s w s' w' hi hcl hR hF
        have c5 : ∀ j, (j = 5 ∨ j = 6 ∨ j = 7 ∨ j = 8) → L j = true → L 5 = true := fun j hj h => by
          rcases hj with rfl | rfl | rfl | rfl
          · exact h
          · exact hcl 6 5 (by kernel_rfl) h
          · exact hcl 6 5 (by kernel_rfl) (hcl 7 6 (by kernel_rfl) h)
          · exact hcl 6 5 (by kernel_rfl) (hcl 8 6 (by kernel_rfl) h)
        match i, hF with
        | 0, h => exact h
        | 1, h => exact h
        | 2, h => exact h
        | 3, h => exact h
        | 4, h => exact h
        | 5, h => obtain ⟨a1, a2, a3, a4, a5, a6⟩ := hR.1 (c5 5 (by omega) hi); exact h.trans (by unfold xrow krow; rw [a1, a2, a3, a4, a5, a6])
        | 6, h => obtain ⟨a1, a2, a3, a4, a5, a6⟩ := hR.1 (c5 6 (by omega) hi); exact h.trans (by unfold xrow krow; rw [a1, a2, a3, a4, a5, a6])
        | 7, h => obtain ⟨a1, a2, a3, a4, a5, a6⟩ := hR.1 (c5 7 (by omega) hi); exact h.trans (by unfold xrow; rw [a1, a2, a3, a4])
        | 8, h => obtain ⟨a1, a2, a3, a4, a5, a6⟩ := hR.1 (c5 8 (by omega) hi); exact h.trans (by unfold krow; rw [a5, a6])
        | 9, h => exact h
        | 10, h => exact h.trans (by rw [hR.2.1 hi])
        | 11, h => exact h.trans (by rw [hR.2.2 hi])
        | 12, _ => trivial
        | 13, _ => trivial
        | 14, h => exact h
        | _ + 15, _ => trivial
      · refine ⟨?_, ?_, ?_, ?_, ?_, ?_, ?_, ?_, ?_, ?_, ?_, ?_, ?_, ?_, ?_, trivial⟩
        · refine stepS_any rfl fun s L ac W hAA hG hLi hL hW hDD K hK => ?_
          have h3 := hAA.getD (t := 3) (by kernel_rfl)
          simp only [Array.getD_eq_getD_getElem?] at h3
          obtain ⟨k0, k1⟩ := hN.out W hG.bel
          rw [if_pos (by rfl)]
          exact wp_val (v := .agg #[.slice An n.q.length cn, .slice An' n.ap.length cn']) (w' := W) (by simp [execOp, Act.eval, h3, k0, k1, go_sem]) (hK s _ W (hG.val 0 (by omega)) (RS.refl _ _) rfl)
        · refine stepS_any rfl fun s L ac W hAA hG hLi hL hW hDD K hK => ?_
          have h0 := hAA.getD (t := 0) (by kernel_rfl)
          simp only [Array.getD_eq_getD_getElem?] at h0
          rw [if_pos (by rfl)]
          exact wp_val (v := .slice (some ⟨bl, ol, none⟩) ms.length cl) (w' := W) (by simp [execOp, Act.eval, h0, go_sem]) (hK s _ W (hG.val 1 (by omega)) (RS.refl _ _) rfl)
        · refine stepS_any rfl fun s L ac W hAA hG hLi hL hW hDD K hK => ?_
          have h6 := hAA.getD (t := 6) (by kernel_rfl)
          simp only [Array.getD_eq_getD_getElem?] at h6
          rw [if_pos (by rfl)]
          exact wp_val (v := .int .i64 (q : Int)) (w' := W) (by simp [execOp, Act.eval, h6, go_sem]) (hK s _ W (hG.val 2 (by omega)) (RS.refl _ _) rfl)
        · refine stepS_any rfl fun s L ac W hAA hG hLi hL hW hDD K hK => ?_
          have h26 := hDD.get 1 26 _ rfl rfl (by kernel_rfl)
          have h27 := hDD.get 2 27 _ rfl rfl (by kernel_rfl)
          simp only [Array.getD_eq_getD_getElem?] at h26 h27
          rw [if_pos (by rfl)]
          exact wp_val (v := .pointer (some ⟨bl, ol + q * 5, none⟩)) (w' := W) (by simp [execOp, Act.eval, h26, h27, ix0, hlt', go_sem]) (hK s _ W (hG.val 3 (by omega)) (RS.refl _ _) rfl)
        · refine stepS_any rfl fun s L ac W hAA hG hLi hL hW hDD K hK => ?_
          have h28 := hDD.get 3 28 _ rfl rfl (by kernel_rfl)
          simp only [Array.getD_eq_getD_getElem?] at h28
          obtain ⟨z0, z1, z2, z3, z4⟩ := hE.out W hG.bel
          rw [if_pos (by rfl)]
          exact wp_val (v := .agg #[.int .u8 (m.kind : Int), .int .u8 (m.at_ : Int), .int .u8 (m.a : Int), .int .u8 (m.b : Int), .int .u8 (m.data.toNat : Int)]) (w' := W) (by simp [execOp, Act.eval, h28, z0, z1, z2, z3, z4, go_sem]) (hK s _ W (hG.val 4 (by omega)) (RS.refl _ _) rfl)
        · refine stepS_any rfl fun s L ac W hAA hG hLi hL hW hDD K hK => ?_
          have h25 := hDD.get 0 25 _ rfl rfl (by kernel_rfl)
          have h29 := hDD.get 4 29 _ rfl rfl (by kernel_rfl)
          simp only [Array.getD_eq_getD_getElem?] at h25 h29
          rw [if_pos (by rfl)]
          refine wp_call (f := 27) (args := #[.agg #[.slice An n.q.length cn, .slice An' n.ap.length cn'], .agg #[.int .u8 (m.kind : Int), .int .u8 (m.at_ : Int), .int .u8 (m.a : Int), .int .u8 (m.b : Int), .int .u8 (m.data.toNat : Int)]]) (by simp [execOp, Act.eval, h25, h29, go_sem]) ((hsub.out W hG.bel).mono fun e W9 he => ?_)
          obtain ⟨hb, A, c, A', c', Ap, cp, rfl, y1, y2, y3, y4⟩ := he
          have l6 : L 6 = false := Bool.eq_false_iff.2 fun h => by rw [hL 6 5 (by kernel_rfl) h] at hLi; cases hLi
          have l7 : L 7 = false := Bool.eq_false_iff.2 fun h => by rw [hL 7 6 (by kernel_rfl) h] at l6; cases l6
          have l12 : L 12 = false := Bool.eq_false_iff.2 fun h => by rw [hL 12 7 (by kernel_rfl) h] at l7; cases l7
          have l13 : L 13 = false := Bool.eq_false_iff.2 fun h => by rw [hL 13 12 (by kernel_rfl) h] at l12; cases l12
          exact hK ⟨A, c, A', c', Ap, cp, s.g7, s.g8⟩ _ _ (hG.call hb hown.out y1 y3 y2 y4 l12 l13) ⟨fun h => (by rw [hLi] at h; cases h), fun _ => rfl, fun _ => rfl⟩ rfl
        · refine stepS_any rfl fun s L ac W hAA hG hLi hL hW hDD K hK => ?_
          have h30 := hDD.get 5 30 _ rfl rfl (by kernel_rfl)
          simp only [Array.getD_eq_getD_getElem?] at h30
          rw [if_pos (by rfl)]
          exact wp_val (v := .tuple #[.agg (xrow X s), .agg (krow p s), .int .i64 e1]) (w' := W) (by simp [execOp, Act.eval, h30, go_sem]) (hK s _ W (hG.val 6 (by omega)) (RS.refl _ _) rfl)
        · refine stepS_any rfl fun s L ac W hAA hG hLi hL hW hDD K hK => ?_
          have h24 := hDD.get 6 24 _ rfl rfl (by kernel_rfl)
          simp only [Array.getD_eq_getD_getElem?] at h24
          rw [if_pos (by rfl)]
          exact wp_val (v := .agg (xrow X s)) (w' := W) (by simp [execOp, Act.eval, h24, go_sem]) (hK s _ W (hG.val 7 (by omega)) (RS.refl _ _) rfl)
        · refine stepS_any rfl fun s L ac W hAA hG hLi hL hW hDD K hK => ?_
          have h24 := hDD.get 6 24 _ rfl rfl (by kernel_rfl)
          simp only [Array.getD_eq_getD_getElem?] at h24
          rw [if_pos (by rfl)]
          exact wp_val (v := .agg (krow p s)) (w' := W) (by simp [execOp, Act.eval, h24, go_sem]) (hK s _ W (hG.val 8 (by omega)) (RS.refl _ _) rfl)
        · refine stepS_any rfl fun s L ac W hAA hG hLi hL hW hDD K hK => ?_
          have h24 := hDD.get 6 24 _ rfl rfl (by kernel_rfl)
          simp only [Array.getD_eq_getD_getElem?] at h24
          rw [if_pos (by rfl)]
          exact wp_val (v := .int .i64 e1) (w' := W) (by simp [execOp, Act.eval, h24, go_sem]) (hK s _ W (hG.val 9 (by omega)) (RS.refl _ _) rfl)
        · refine stepS_any rfl fun s L ac W hAA hG hLi hL hW hDD K hK => ?_
          have l12 : L 12 = false := Bool.eq_false_iff.2 fun h => by rw [hL 12 10 (by kernel_rfl) h] at hLi; cases hLi
          rw [if_pos (by rfl)]
          exact wp_val (v := .pointer (some ⟨W.heap.size, 0, none⟩)) (w' := W.alloc (.cells znet 25)) (by unfold znet; simp [execOp, Act.eval, go_sem]) (hK { s with g7 := W.heap.size } _ _ (hG.new7 hLi l12) ⟨fun _ => ⟨rfl, rfl, rfl, rfl, rfl, rfl⟩, fun h => (by rw [hLi] at h; cases h), fun _ => rfl⟩ rfl)
        · refine stepS_any rfl fun s L ac W hAA hG hLi hL hW hDD K hK => ?_
          have l13 : L 13 = false := Bool.eq_false_iff.2 fun h => by rw [hL 13 11 (by kernel_rfl) h] at hLi; cases hLi
          rw [if_pos (by rfl)]
          exact wp_val (v := .pointer (some ⟨W.heap.size, 0, none⟩)) (w' := W.alloc (.cells zpkt 28)) (by unfold zpkt; simp [execOp, Act.eval, go_sem]) (hK { s with g8 := W.heap.size } _ _ (hG.new8 hLi l13) ⟨fun _ => ⟨rfl, rfl, rfl, rfl, rfl, rfl⟩, fun _ => rfl, fun h => (by rw [hLi] at h; cases h)⟩ rfl)
        · refine stepS_store rfl fun s L ac W hAA hG hLi hL hW hDD K hK => ?_
          have h7 := hDD.get 10 7 _ rfl rfl (by kernel_rfl)
          have h31 := hDD.get 7 31 _ rfl rfl (by kernel_rfl)
          have ld := hW 10 (by kernel_rfl)
          obtain ⟨kg, kh⟩ := hG.b7 ld
          have hcs : ∃ cs : Array Value, cs.size = 2 ∧ W.heap[s.g7]? = some (.cells cs 25 (0, 0)) := ⟨_, by split <;> rfl, kh⟩
          obtain ⟨cs, hcz, kh⟩ := hcs
          rw [if_pos (by rfl)]
          refine wp_store_row 25 (.tmp 7) (.tmp 31) rfl s.g7 (xrow X s) h7 h31 25 _ kh (by kernel_rfl) (by rw [hcz]; rfl) (by simp [xrow, Value.oneCell']) ?_
          exact hK s _ (hG.put7 ld) (RS.refl _ _) trivial
        · refine stepS_store rfl fun s L ac W hAA hG hLi hL hW hDD K hK => ?_
          have h8 := hDD.get 11 8 _ rfl rfl (by kernel_rfl)
          have h32 := hDD.get 8 32 _ rfl rfl (by kernel_rfl)
          have ld := hW 11 (by kernel_rfl)
          obtain ⟨kg, kh⟩ := hG.b8 ld
          have hcs : ∃ cs : Array Value, cs.size = 3 ∧ W.heap[s.g8]? = some (.cells cs 28 (0, 0)) := ⟨_, by split <;> rfl, kh⟩
          obtain ⟨cs, hcz, kh⟩ := hcs
          rw [if_pos (by rfl)]
          refine wp_store_row 28 (.tmp 8) (.tmp 32) rfl s.g8 (krow p s) h8 h32 28 _ kh (by kernel_rfl) (by rw [hcz]; rfl) (by simp [krow, Value.oneCell']) ?_
          exact hK s _ (hG.put8 ld) (RS.refl _ _) trivial
        · refine stepS_any rfl fun s L ac W hAA hG hLi hL hW hDD K hK => ?_
          have h33 := hDD.get 9 33 _ rfl rfl (by kernel_rfl)
          simp only [Array.getD_eq_getD_getElem?] at h33
          rw [if_pos (by rfl)]
          exact wp_val (v := .int .i64 e1) (w' := W) (by simp [execOp, Act.eval, h33, go_sem]) (hK s _ W (hG.val 14 (by omega)) (RS.refl _ _) rfl)
      intro s L T w9 hL hG hF
      have e25 : T 25 = .agg #[.slice An n.q.length cn, .slice An' n.ap.length cn'] := hF 0 _ rfl
      have e26 : T 26 = .slice (some ⟨bl, ol, none⟩) ms.length cl := hF 1 _ rfl
      have e27 : T 27 = .int .i64 (q : Int) := hF 2 _ rfl
      have e28 : T 28 = .pointer (some ⟨bl, ol + q * 5, none⟩) := hF 3 _ rfl
      have e29 : T 29 = .agg #[.int .u8 (m.kind : Int), .int .u8 (m.at_ : Int), .int .u8 (m.a : Int), .int .u8 (m.b : Int), .int .u8 (m.data.toNat : Int)] := hF 4 _ rfl
      have e30 : T 30 = .tuple #[.agg (xrow X s), .agg (krow p s), .int .i64 e1] := hF 5 _ rfl
      have e24 : T 24 = .tuple #[.agg (xrow X s), .agg (krow p s), .int .i64 e1] := hF 6 _ rfl
      have e31 : T 31 = .agg (xrow X s) := hF 7 _ rfl
      have e32 : T 32 = .agg (krow p s) := hF 8 _ rfl
      have e33 : T 33 = .int .i64 e1 := hF 9 _ rfl
      have e7 : T 7 = .pointer (some ⟨s.g7, 0, none⟩) := hF 10 _ rfl
      have e8 : T 8 = .pointer (some ⟨s.g8, 0, none⟩) := hF 11 _ rfl
      have e9 : T 9 = .int .i64 e1 := hF 14 _ rfl
      clear hF
      obtain ⟨kg7, kX⟩ := hG.b7 (hL 10 (by decide))
      obtain ⟨kg8, kP⟩ := hG.b8 (hL 11 (by decide))
      have kne := hG.ne (hL 10 (by decide)) (hL 11 (by decide))
      obtain ⟨q1, q2, q3, q4⟩ := hG.rd (hL 5 (by decide))
      rw [hL 12 (by decide), if_pos rfl] at kX
      rw [hL 13 (by decide), if_pos rfl] at kP
      have hbel := hG.bel
      replace q3 : NR w9 (fun b => b < w9.heap.size ∧ Er u4 b ∧ b ≠ s.g7 ∧ b ≠ s.g8) s.A s.c s.A' s.c' X := q3.mono fun b hb => ⟨hb.1, hb.2.1, hb.2.2.1 (hL 10 (by decide)), hb.2.2.2 (hL 11 (by decide))⟩
      replace q4 : RBs w9 (fun b => b < w9.heap.size ∧ Er u4 b ∧ b ≠ s.g7 ∧ b ≠ s.g8) s.Ap p.data := q4.mono fun b hb => ⟨hb.1, hb.2.1, hb.2.2.1 (hL 10 (by decide)), hb.2.2.2 (hL 11 (by decide))⟩
      clear hG hL
      obtain ⟨sA, sc, sA', sc', sAp, scp, g7, g8⟩ := s
      unfold xrow at kX
      unfold krow at kP
      simp only [xrow, krow] at e25 e26 e27 e28 e29 e30 e24 e31 e32 e33 e7 e8 e9
      simp only at kg7 kg8 kX kP kne q1 q2 q3 q4
      simp only [List.take, fillT, List.setIfInBounds_toArray, List.set_cons_zero, List.set_cons_succ, e25, e26, e27, e28, e29, e30, e24, e31, e32, e33, e7, e8, e9]
      clear e25 e26 e27 e28 e29 e30 e24 e31 e32 e33 e7 e8 e9
      have hS9 := hS.out.step hbel
      have hB9 := Lib.hid (hB.out.trans (hS9.bel.mono hB.out.size))
      obtain ⟨z0, -⟩ := hE.out w9 hbel
      have hsz9 := hbel.size
      have hk7 := (Array.getElem?_eq_some_iff.1 kX).1
      have hk8 := (Array.getElem?_eq_some_iff.1 kP).1
      clear hN hE hsub
      by_cases hz : e1 = 0
      · subst hz
        have h6 : m.kind % 6 = 0 ∨ m.kind % 6 = 1 ∨ m.kind % 6 = 2 ∨ m.kind % 6 = 3 ∨ m.kind % 6 = 4 ∨ m.kind % 6 = 5 := by omega
        have hkl := hok.out.k
        rcases h6 with h6 | h6 | h6 | h6 | h6 | h6
        · have hkj : (m.kind : Int) % 6 = 0 := by omega
          obtain ⟨hXe, hN2⟩ := hap_send hNI.out h6 he1.out
          rw [hX.out] at hXe hN2
          obtain ⟨pm, hpm⟩ : ∃ pm, mvP m = pm := ⟨_, rfl⟩
          rw [hpm] at hXe hN2
          replace hN2 := Lib.hid hN2
          have hxl : X.q.length = n.q.length + 1 := by rw [hXe]; simp
          obtain ⟨bq, oq, Aq, cq, rfl, hbq, u0, u1, u2, ul1, ul2, ur, uI1, uI2⟩ := q3.q.at_ (i := n.q.length) (by omega)
          have hge : X.q[n.q.length]'(by omega) = pm := by subst hXe; simp
          rw [hge] at u0 u1 u2 ul1 ur uI1 uI2
          have hql : n.q.length + 1 ≤ sc ∧ sc ≤ maxLen := ⟨by have := q3.cap; omega, q3.max⟩
          obtain ⟨hql1, hql2⟩ := hql
          unfold maxLen at hql2
          have x0 : w9.cell? ⟨g7, 0, none⟩ = some (.slice (some ⟨bq, oq, none⟩) (n.q.length + 1) sc) := by rw [← hxl]; exact cell_of_row w9 _ 0 _ _ _ kX
          have hbA := bnew w9 (.cells #[.int .i64 pm.frm, .int .i64 pm.to, .slice Aq pm.data.length cq] 28)
          have hWs : (w9.alloc (.cells #[.int .i64 pm.frm, .int .i64 pm.to, .slice Aq pm.data.length cq] 28)).heap.size = w9.heap.size + 1 := by simp
          have hnA := heap_alloc_new w9 (.cells #[.int .i64 pm.frm, .int .i64 pm.to, .slice Aq pm.data.length cq] 28)
          have hkA := blk_step kX hbA
          have hdA : NR (w9.alloc (.cells #[.int .i64 pm.frm, .int .i64 pm.to, .slice Aq pm.data.length cq] 28)) (fun b => b < w9.heap.size ∧ Er u4 b) (some ⟨bq, oq, none⟩) sc sA' sc' X := (q3.keep fun b o hs => hbA.cell (p := ⟨b, o, none⟩) hs.1).mono fun b hs => ⟨hs.1, hs.2.1⟩
          obtain ⟨v', W4, hr, hso, hgr, her⟩ := (hS9.step hbA).app 22 w9.heap.size pm Aq cq ⟨uI1, uI2⟩ ⟨ul1, ul2⟩ ((ur.keep fun b o hs => hbA.cell (p := ⟨b, o, none⟩) hs.1).mono fun b hs => ⟨Nat.lt_of_lt_of_le hs.1 hbA.size, hs.2.1⟩) hnA (by omega)
          have hxt : W4.heap[g7]? = some (.cells #[.slice (some ⟨bq, oq, none⟩) X.q.length sc, .slice sA' X.ap.length sc'] 25 (0, 0)) := (hgr.block g7 (by rw [hWs]; omega) (fun e => hown.out g7 kg7 e.symm)).trans hkA
          have hnt : NR W4 (fun b => b < W4.heap.size ∧ Er v' b) (some ⟨bq, oq, none⟩) sc sA' sc' X := (hdA.keep fun b o hs => World.cell?_of_block (hgr.block b (by rw [hWs]; have := hs.1; omega) (fun e => hs.2 e.symm))).mono fun b hs => ⟨Nat.lt_of_lt_of_le (by rw [hWs]; have := hs.1; omega) hgr.size, her b (by rw [hWs]; have := hs.1; omega) hs.2⟩
          obtain ⟨A4, c4, hv4⟩ := hso.form
          replace hr := Lib.hid hr
          replace hso := Lib.hid hso
          replace hxt := Lib.hid hxt
          replace hnt := Lib.hid hnt
          replace hxl := Lib.hid hxl
          replace hXe := Lib.hid hXe
          replace hv4 := Lib.hid hv4
          clear q3 q4 kP hS9 hdA hkA hnA hbA hgr her hge kX ur ul1 ul2 uI1 uI2 hWs
          go_upto_region 30 with (at_builtin; refine Lib.wpList_append_run _ rfl _ _ _ _ rfl _ _ rfl rfl _ _ hr.out ?_)
          clear x0 u0 u1 u2 hr hbq hql1 hql2 hpm hXe
          replace hso := hso.out
          replace hxt := hxt.out
          replace hnt := hnt.out
          obtain ⟨At, ct, At', ct', hbt, -⟩ := hso.box
          have yt0 := cell_of_row W4 _ 0 _ _ _ hbt
          have yt1 := cell_of_row W4 _ 1 _ _ _ hbt
          have ft := fun i => frozen_of_row W4 _ i _ _ hbt
          have xt0 : W4.cell? ⟨g7, 0, none⟩ = some (.slice (some ⟨bq, oq, none⟩) (n.q.length + 1) sc) := by rw [← hxl.out]; exact cell_of_row W4 _ 0 _ _ _ hxt
          have xt1 : W4.cell? ⟨g7, 1, none⟩ = some (.slice sA' X.ap.length sc') := cell_of_row W4 _ 1 _ _ _ hxt
          have hg1 : g7 ≠ w0.heap.size := by omega
          have hg2 : w0.heap.size ≠ g7 := by omega
          have hP := hso.put hnt
          rw [hxl.out] at hP
          replace hP := Lib.hid hP
          clear hbt hso hnt hxt
          go_upto_region 31 with fail
          clear yt0 yt1 ft xt0 xt1
          obtain ⟨Vt, hVt⟩ : ∃ V, (W4.setCell ⟨w0.heap.size, 0, none⟩ (.slice (some ⟨bq, oq, none⟩) (n.q.length + 1) sc)).setCell ⟨w0.heap.size, 1, none⟩ (.slice sA' X.ap.length sc') = V := ⟨_, rfl⟩
          rw [hVt] at hP ⊢
          clear hVt
          obtain ⟨A6, c6, A6', c6', hb6, hn6⟩ := hP.out.box
          have yt0 := cell_of_row Vt _ 0 _ _ _ hb6
          have yt1 := cell_of_row Vt _ 1 _ _ _ hb6
          have hck := Check_good hN2.out.ok Vt A6 A6' c6 c6' (hn6.mono fun b hb => hb.1)
          rw [hxl.out] at hck
          replace hck := Lib.hid hck
          clear hb6 hn6
          go_wp2_with fail
          refine hck.out.mono ?_
          rintro e w20 ⟨rfl, hb⟩
          have hfin := Lib.hid (hP.out.step hb)
          clear hb hck hP yt0 yt1
          go_wp2_with fail
          go_roundw
          case rel => exact ⟨q + 1, cuts, X, (R ++ [pm]), by omega, by go_num, rfl, by omega, by simp; omega, ⟨A4, c4, hv4.out⟩, hN2, hfin⟩
          case measure => simp [intOf]; omega
        · have hkj : (m.kind : Int) % 6 = 1 := by omega
          obtain ⟨hdl, hN2⟩ := hap_deliv hNI.out h6 he1.out
          rw [hX.out] at hN2
          rw [hp.out] at hdl
          replace hN2 := Lib.hid hN2
          have hv := hsv.out
          subst hv
          obtain ⟨b1, hb1⟩ : ∃ b, sameP p zeroPk = b := ⟨_, rfl⟩
          have hsm := SamePacket_any p zeroPk w9 sAp none scp 0 (q4.mono fun b hb => hb.1) (fun h => absurd h (by simp [zeroPk]))
          rw [hb1] at hsm
          replace hsm := Lib.hid hsm
          have xp0 := cell_of_row w9 _ 0 _ _ _ kP
          have xp1 := cell_of_row w9 _ 1 _ _ _ kP
          have xp2 := cell_of_row w9 _ 2 _ _ _ kP
          have hfinal := Lib.hid (show (b1 && decide ((0 : Int) < cuts)) = true ∨ R.any (fun r => sameP r p) = true by
            rcases hdl with ⟨h1, h2⟩ | h1
            · left
              rw [← hb1, h1, sameP_refl, Bool.true_and]
              exact decide_eq_true (by omega)
            · right
              exact List.any_eq_true.2 ⟨p, h1, sameP_refl p⟩)
          replace hb1 := Lib.hid hb1
          replace hdl := Lib.hid hdl
          replace hS9 := Lib.hid hS9
          replace q3 := Lib.hid q3
          replace q4 := Lib.hid q4
          replace kX := Lib.hid kX
          replace kP := Lib.hid kP
          go_upto_region 21 with fail
          go_cut [10] from 18 to 101 (fun x wx => x = .bool (b1 && decide ((0 : Int) < cuts)) ∧ Hid (Below w9.heap.size w9 wx))
          case first =>
            cases b1 with
            | true =>
              go_wp2_with fail
              refine hsm.out.mono ?_
              rintro e w10 ⟨rfl, hb⟩
              replace hb := Lib.hid hb
              go_wp2_with fail
              go_meet
              exact ⟨by simp, hb⟩
            | false =>
              go_wp2_with fail
              refine hsm.out.mono ?_
              rintro e w10 ⟨rfl, hb⟩
              replace hb := Lib.hid hb
              go_wp2_with fail
              go_meet
              exact ⟨rfl, hb⟩
          case rest =>
            obtain ⟨rfl, hbc⟩ := hcut
            clear xp0 xp1 xp2 hsm
            obtain ⟨b0, hb0⟩ : ∃ b, (b1 && decide ((0 : Int) < cuts)) = b := ⟨_, rfl⟩
            rw [hb0] at hfinal ⊢
            clear hb0
            go_wp2_with fail
            go_loopw [10, 11] (fun x y wi => ∃ k : Nat, k ≤ R.length ∧ x = .bool (b0 || (R.take k).any (fun r => sameP r p)) ∧ y = .int .i64 (k : Int) ∧ Hid (Below w9.heap.size w9 wi)) (fun _ y _ => R.length - (intOf y).toNat)
            case atStart => exact ⟨0, Nat.zero_le _, by simp, rfl, hbc⟩
            case round =>
              obtain ⟨k, hk, rfl, rfl, hbi⟩ := hrel
              by_cases hlk : k < R.length
              · have hlk' : (k : Int) < (R.length : Int) := by omega
                have hSi := hS9.out.step hbi.out
                obtain ⟨g, cg, Ar, cr, hv5, hgl, ⟨r0, r1, r2⟩, hrd⟩ := hSi.at_ hlk
                injection hv5 with hv51 hv52 hv53
                subst hv51 hv53
                have hmn : R.take (k + 1) = R.take k ++ [R[k]] := List.take_succ_eq_append_getElem hlk
                obtain ⟨r, hr0⟩ : ∃ r, R[k] = r := ⟨_, rfl⟩
                rw [hr0] at r0 r1 r2 hrd hmn
                have hmn2 := Lib.hid (show (b0 || (R.take (k + 1)).any (fun r => sameP r p)) = ((b0 || (R.take k).any (fun r => sameP r p)) || sameP r p) by rw [hmn, List.any_append]; simp [Bool.or_assoc])
                obtain ⟨mb, hmb⟩ : ∃ mb, (b0 || (R.take k).any (fun r => sameP r p)) = mb := ⟨_, rfl⟩
                rw [hmb] at hmn2 ⊢
                have ki0 : (0 : Int) ≤ k := by omega
                have hq4i : RBs wr (· < wr.heap.size) sAp p.data := ((q4.out.mono (S' := (· < w9.heap.size)) fun b hb => hb.1).keep (Kept.below hbi.out)).mono fun b hb => Nat.lt_of_lt_of_le hb hbi.out.size
                have hRk : Hid (∀ W, Below wr.heap.size wr W → W.cell? ⟨g, k * 3, none⟩ = some (.int .i64 r.frm) ∧ W.cell? ⟨g, k * 3 + 1, none⟩ = some (.int .i64 r.to) ∧ W.cell? ⟨g, k * 3 + 2, none⟩ = some (.slice Ar r.data.length cr)) := fun W hW => ⟨(hW.cell (p := ⟨g, k * 3, none⟩) hgl).trans r0, (hW.cell (p := ⟨g, k * 3 + 1, none⟩) hgl).trans r1, (hW.cell (p := ⟨g, k * 3 + 2, none⟩) hgl).trans r2⟩
                have hXp : Hid (∀ W, Below wr.heap.size wr W → W.cell? ⟨g8, 0, none⟩ = some (.int .i64 p.frm) ∧ W.cell? ⟨g8, 1, none⟩ = some (.int .i64 p.to) ∧ W.cell? ⟨g8, 2, none⟩ = some (.slice sAp p.data.length scp)) := fun W hW =>
                  have h := blk_step (blk_step kP.out hbi.out) hW
                  ⟨cell_of_row W _ 0 _ _ _ h, cell_of_row W _ 1 _ _ _ h, cell_of_row W _ 2 _ _ _ h⟩
                have hsp : Hid (∀ W, Below wr.heap.size wr W → Calls Try.prog 22 #[.agg #[.int .i64 r.frm, .int .i64 r.to, .slice Ar r.data.length cr], .agg #[.int .i64 p.frm, .int .i64 p.to, .slice sAp p.data.length scp]] W fun e w' => e = .returned (.bool (sameP r p)) ∧ Below W.heap.size W w') := fun W hW => SamePacket_any r p W Ar sAp cr scp (hrd.step hW) (hq4i.step hW)
                clear hSi r0 r1 r2 hrd hq4i hmn hr0 hmb
                cases mb with
                | true =>
                  rw [Bool.true_or] at hmn2
                  go_upto_region 25 with fail
                  refine wp_region_pre 9 1 (fun W => Below wr.heap.size wr W) (fun W W' => Below W.heap.size W W')
                    (fun i v W => match i with
                      | 0 => v = .bool true
                      | 1 => v = .bool true
                      | 2 => v = undef
                      | 3 => v = undef
                      | 4 => v = undef
                      | 5 => v = undef
                      | 6 => v = undef
                      | 7 => v = undef
                      | 8 => v = .bool true
                      | _ => True) (fun _ => false)
                    (by kernel_rfl) (by kernel_rfl) (by kernel_rfl) (by kernel_rfl) (by kernel_rfl) (by kernel_rfl) (by kernel_rfl) ?_ (fun _ _ h => h.size) (dN (Below.refl _ _) 1) ?_ ?_
                  · intro i v W W' hb hF
                    match i, hF with
                    | 0, h => exact h
                    | 1, h => exact h
                    | 2, h => exact h
                    | 3, h => exact h
                    | 4, h => exact h
                    | 5, h => exact h
                    | 6, h => exact h
                    | 7, h => exact h
                    | 8, h => exact h
                    | _ + 9, _ => trivial
                  · refine ⟨?_, ?_, ?_, ?_, ?_, ?_, ?_, ?_, ?_, trivial⟩
                    · refine stepJ_any rfl fun ac W hAA hG hDD K hK => ?_
                      have h10 := hAA.getD (t := 10) (by kernel_rfl)
                      simp only [Array.getD_eq_getD_getElem?] at h10
                      rw [if_pos (by rfl)]
                      exact wp_val (v := .bool true) (w' := W) (by simp [execOp, Act.eval, h10, go_sem]) (hK _ _ hG (Below.refl _ _) rfl (fun h => by cases h))
                    · refine stepJ_any rfl fun ac W hAA hG hDD K hK => ?_
                      have h83 := hDD.get 0 83 _ rfl rfl (by kernel_rfl)
                      simp only [Array.getD_eq_getD_getElem?] at h83
                      rw [if_pos (by rfl)]
                      exact wp_val (v := .bool true) (w' := W) (by simp [execOp, Act.eval, h83, go_sem]) (hK _ _ hG (Below.refl _ _) rfl (fun h => by cases h))
                    · refine stepJ_any rfl fun ac W hAA hG hDD K hK => ?_
                      have hgd := hDD.get 1 84 _ rfl rfl (by kernel_rfl)
                      have hgd := slot_bool hgd
                      rw [if_neg (by simp [Region.wanted, yielded, hgd])]
                      exact hK undef W hG (Below.refl _ _) rfl (fun h => by cases h)
                    · refine stepJ_any rfl fun ac W hAA hG hDD K hK => ?_
                      have hgd := hDD.get 1 84 _ rfl rfl (by kernel_rfl)
                      have hgd := slot_bool hgd
                      rw [if_neg (by simp [Region.wanted, yielded, hgd])]
                      exact hK undef W hG (Below.refl _ _) rfl (fun h => by cases h)
                    · refine stepJ_any rfl fun ac W hAA hG hDD K hK => ?_
                      have hgd := hDD.get 1 84 _ rfl rfl (by kernel_rfl)
                      have hgd := slot_bool hgd
                      rw [if_neg (by simp [Region.wanted, yielded, hgd])]
                      exact hK undef W hG (Below.refl _ _) rfl (fun h => by cases h)
                    · refine stepJ_any rfl fun ac W hAA hG hDD K hK => ?_
                      have hgd := hDD.get 1 84 _ rfl rfl (by kernel_rfl)
                      have hgd := slot_bool hgd
                      rw [if_neg (by simp [Region.wanted, yielded, hgd])]
                      exact hK undef W hG (Below.refl _ _) rfl (fun h => by cases h)
                    · refine stepJ_any rfl fun ac W hAA hG hDD K hK => ?_
                      have hgd := hDD.get 1 84 _ rfl rfl (by kernel_rfl)
                      have hgd := slot_bool hgd
                      rw [if_neg (by simp [Region.wanted, yielded, hgd])]
                      exact hK undef W hG (Below.refl _ _) rfl (fun h => by cases h)
                    · refine stepJ_any rfl fun ac W hAA hG hDD K hK => ?_
                      have hgd := hDD.get 1 84 _ rfl rfl (by kernel_rfl)
                      have hgd := slot_bool hgd
                      rw [if_neg (by simp [Region.wanted, yielded, hgd])]
                      exact hK undef W hG (Below.refl _ _) rfl (fun h => by cases h)
                    · refine stepJ_any rfl fun ac W hAA hG hDD K hK => ?_
                      have h84 := hDD.get 1 84 _ rfl rfl (by kernel_rfl)
                      have h90 := hDD.get 7 90 _ rfl rfl (by kernel_rfl)
                      simp only [Array.getD_eq_getD_getElem?] at h84 h90
                      rw [if_pos (by rfl)]
                      exact wp_val (v := .bool true) (w' := W) (by simp [execOp, Act.eval, h84, h90, go_sem]) (hK _ _ hG (Below.refl _ _) rfl (fun h => by cases h))
                  intro fu T w14 hG hF hne hltb
                  have e83 : T 83 = .bool true := hF 0 _ rfl (by omega)
                  have e84 : T 84 = .bool true := hF 1 _ rfl (by omega)
                  have e85 : T 85 = undef := hF 2 _ rfl (by omega)
                  have e86 : T 86 = undef := hF 3 _ rfl (by omega)
                  have e87 : T 87 = undef := hF 4 _ rfl (by omega)
                  have e88 : T 88 = undef := hF 5 _ rfl (by omega)
                  have e89 : T 89 = undef := hF 6 _ rfl (by omega)
                  have e90 : T 90 = undef := hF 7 _ rfl (by omega)
                  have e91 : T 91 = .bool true := hF 8 _ rfl (by omega)
                  clear hF hne hltb
                  simp only [List.take, fillT, List.setIfInBounds_toArray, List.set_cons_zero, List.set_cons_succ, e83, e84, e85, e86, e87, e88, e89, e90, e91]
                  clear e83 e84 e85 e86 e87 e88 e89 e90 e91
                  refine wpAny_ready (rs := [9]) (by kernel_rfl) (by simp) (AllReady.cons (o := ⟨(some 10), (Op.assign (Operand.tmp 91)), _, _, _, none⟩) rfl (fun K1 hK1 => ?_) AllReady.nil)
                  rw [if_pos (by rfl)]
                  refine wp_val (v := .bool true) (w' := w14) (by simp [execOp, Act.eval, go_sem]) ?_
                  refine hK1 _ _ ?_
                  clear hK1 K1
                  refine wpAny_done (by kernel_rfl) ?_ _
                  simp only [Act.put, List.setIfInBounds_toArray, List.set_cons_zero, List.set_cons_succ]
                  have hbn := Lib.hid (hbi.out.trans (hG.mono hbi.out.size))
                  clear hG hRk hXp hsp
                  go_wp2_with fail
                  go_roundw
                  case rel => exact ⟨k + 1, by omega, by rw [hmn2.out], by go_num, hbn⟩
                  case measure => simp [intOf]; omega
                | false =>
                  rw [Bool.false_or] at hmn2
                  go_upto_region 25 with fail
                  refine wp_region_pre 9 1 (fun W => Below wr.heap.size wr W) (fun W W' => Below W.heap.size W W')
                    (fun i v W => match i with
                      | 0 => v = .bool false
                      | 1 => v = .bool false
                      | 2 => v = .slice (some ⟨g, 0, none⟩) R.length capv
                      | 3 => v = .int .i64 (k : Int)
                      | 4 => v = .pointer (some ⟨g, k * 3, none⟩)
                      | 5 => v = .agg #[.int .i64 r.frm, .int .i64 r.to, .slice Ar r.data.length cr]
                      | 6 => v = .agg #[.int .i64 p.frm, .int .i64 p.to, .slice sAp p.data.length scp]
                      | 7 => v = .bool (sameP r p)
                      | 8 => v = .bool (sameP r p)
                      | _ => True) (fun _ => false)
                    (by kernel_rfl) (by kernel_rfl) (by kernel_rfl) (by kernel_rfl) (by kernel_rfl) (by kernel_rfl) (by kernel_rfl) ?_ (fun _ _ h => h.size) (dN (Below.refl _ _) 1) ?_ ?_
                  · intro i v W W' hb hF
                    match i, hF with
                    | 0, h => exact h
                    | 1, h => exact h
                    | 2, h => exact h
                    | 3, h => exact h
                    | 4, h => exact h
                    | 5, h => exact h
                    | 6, h => exact h
                    | 7, h => exact h
                    | 8, h => exact h
                    | _ + 9, _ => trivial
                  · refine ⟨?_, ?_, ?_, ?_, ?_, ?_, ?_, ?_, ?_, trivial⟩
                    · refine stepJ_any rfl fun ac W hAA hG hDD K hK => ?_
                      have h10 := hAA.getD (t := 10) (by kernel_rfl)
                      simp only [Array.getD_eq_getD_getElem?] at h10
                      rw [if_pos (by rfl)]
                      exact wp_val (v := .bool false) (w' := W) (by simp [execOp, Act.eval, h10, go_sem]) (hK _ _ hG (Below.refl _ _) rfl (fun h => by cases h))
                    · refine stepJ_any rfl fun ac W hAA hG hDD K hK => ?_
                      have h83 := hDD.get 0 83 _ rfl rfl (by kernel_rfl)
                      simp only [Array.getD_eq_getD_getElem?] at h83
                      rw [if_pos (by rfl)]
                      exact wp_val (v := .bool false) (w' := W) (by simp [execOp, Act.eval, h83, go_sem]) (hK _ _ hG (Below.refl _ _) rfl (fun h => by cases h))
                    · refine stepJ_any rfl fun ac W hAA hG hDD K hK => ?_
                      have h4 := hAA.getD (t := 4) (by kernel_rfl)
                      have hgd := hDD.get 1 84 _ rfl rfl (by kernel_rfl)
                      have hgd := slot_bool hgd
                      simp only [Array.getD_eq_getD_getElem?] at h4
                      rw [if_pos (by simp [Region.wanted, yielded, hgd])]
                      exact wp_val (v := .slice (some ⟨g, 0, none⟩) R.length capv) (w' := W) (by simp [execOp, Act.eval, h4, go_sem]) (hK _ _ hG (Below.refl _ _) rfl (fun h => by cases h))
                    · refine stepJ_any rfl fun ac W hAA hG hDD K hK => ?_
                      have h11 := hAA.getD (t := 11) (by kernel_rfl)
                      have hgd := hDD.get 1 84 _ rfl rfl (by kernel_rfl)
                      have hgd := slot_bool hgd
                      simp only [Array.getD_eq_getD_getElem?] at h11
                      rw [if_pos (by simp [Region.wanted, yielded, hgd])]
                      exact wp_val (v := .int .i64 (k : Int)) (w' := W) (by simp [execOp, Act.eval, h11, go_sem]) (hK _ _ hG (Below.refl _ _) rfl (fun h => by cases h))
                    · refine stepJ_any rfl fun ac W hAA hG hDD K hK => ?_
                      have h85 := hDD.get 2 85 _ rfl rfl (by kernel_rfl)
                      have h86 := hDD.get 3 86 _ rfl rfl (by kernel_rfl)
                      have hgd := hDD.get 1 84 _ rfl rfl (by kernel_rfl)
                      have hgd := slot_bool hgd
                      simp only [Array.getD_eq_getD_getElem?] at h85 h86
                      rw [if_pos (by simp [Region.wanted, yielded, hgd])]
                      exact wp_val (v := .pointer (some ⟨g, k * 3, none⟩)) (w' := W) (by simp [execOp, Act.eval, h85, h86, go_sem, ki0, hlk']) (hK _ _ hG (Below.refl _ _) rfl (fun h => by cases h))
                    · refine stepJ_any rfl fun ac W hAA hG hDD K hK => ?_
                      have h87 := hDD.get 4 87 _ rfl rfl (by kernel_rfl)
                      have hgd := hDD.get 1 84 _ rfl rfl (by kernel_rfl)
                      have hgd := slot_bool hgd
                      simp only [Array.getD_eq_getD_getElem?] at h87
                      obtain ⟨k0, k1, k2⟩ := hRk.out W hG
                      rw [if_pos (by simp [Region.wanted, yielded, hgd])]
                      exact wp_val (v := .agg #[.int .i64 r.frm, .int .i64 r.to, .slice Ar r.data.length cr]) (w' := W) (by simp [execOp, Act.eval, h87, go_sem, k0, k1, k2]) (hK _ _ hG (Below.refl _ _) rfl (fun h => by cases h))
                    · refine stepJ_any rfl fun ac W hAA hG hDD K hK => ?_
                      have h8 := hAA.getD (t := 8) (by kernel_rfl)
                      have hgd := hDD.get 1 84 _ rfl rfl (by kernel_rfl)
                      have hgd := slot_bool hgd
                      simp only [Array.getD_eq_getD_getElem?] at h8
                      obtain ⟨k0, k1, k2⟩ := hXp.out W hG
                      rw [if_pos (by simp [Region.wanted, yielded, hgd])]
                      exact wp_val (v := .agg #[.int .i64 p.frm, .int .i64 p.to, .slice sAp p.data.length scp]) (w' := W) (by simp [execOp, Act.eval, h8, go_sem, k0, k1, k2]) (hK _ _ hG (Below.refl _ _) rfl (fun h => by cases h))
                    · refine stepJ_any rfl fun ac W hAA hG hDD K hK => ?_
                      have h88 := hDD.get 5 88 _ rfl rfl (by kernel_rfl)
                      have h89 := hDD.get 6 89 _ rfl rfl (by kernel_rfl)
                      have hgd := hDD.get 1 84 _ rfl rfl (by kernel_rfl)
                      have hgd := slot_bool hgd
                      simp only [Array.getD_eq_getD_getElem?] at h88 h89
                      rw [if_pos (by simp [Region.wanted, yielded, hgd])]
                      refine wp_call (f := 22) (args := #[.agg #[.int .i64 r.frm, .int .i64 r.to, .slice Ar r.data.length cr], .agg #[.int .i64 p.frm, .int .i64 p.to, .slice sAp p.data.length scp]]) (by simp [execOp, Act.eval, h88, h89, go_sem]) ((hsp.out W hG).mono fun e W9 he => ?_)
                      obtain ⟨rfl, hbw⟩ := he
                      exact hK _ _ (hG.trans (hbw.mono hG.size)) hbw rfl (fun h => by cases h)
                    · refine stepJ_any rfl fun ac W hAA hG hDD K hK => ?_
                      have h84 := hDD.get 1 84 _ rfl rfl (by kernel_rfl)
                      have h90 := hDD.get 7 90 _ rfl rfl (by kernel_rfl)
                      simp only [Array.getD_eq_getD_getElem?] at h84 h90
                      rw [if_pos (by rfl)]
                      exact wp_val (v := .bool (sameP r p)) (w' := W) (by simp [execOp, Act.eval, h84, h90, go_sem]) (hK _ _ hG (Below.refl _ _) rfl (fun h => by cases h))
                  intro fu T w14 hG hF hne hltb
                  have e83 : T 83 = .bool false := hF 0 _ rfl (by omega)
                  have e84 : T 84 = .bool false := hF 1 _ rfl (by omega)
                  have e85 : T 85 = .slice (some ⟨g, 0, none⟩) R.length capv := hF 2 _ rfl (by omega)
                  have e86 : T 86 = .int .i64 (k : Int) := hF 3 _ rfl (by omega)
                  have e87 : T 87 = .pointer (some ⟨g, k * 3, none⟩) := hF 4 _ rfl (by omega)
                  have e88 : T 88 = .agg #[.int .i64 r.frm, .int .i64 r.to, .slice Ar r.data.length cr] := hF 5 _ rfl (by omega)
                  have e89 : T 89 = .agg #[.int .i64 p.frm, .int .i64 p.to, .slice sAp p.data.length scp] := hF 6 _ rfl (by omega)
                  have e90 : T 90 = .bool (sameP r p) := hF 7 _ rfl (by omega)
                  have e91 : T 91 = .bool (sameP r p) := hF 8 _ rfl (by omega)
                  clear hF hne hltb
                  simp only [List.take, fillT, List.setIfInBounds_toArray, List.set_cons_zero, List.set_cons_succ, e83, e84, e85, e86, e87, e88, e89, e90, e91]
                  clear e83 e84 e85 e86 e87 e88 e89 e90 e91
                  refine wpAny_ready (rs := [9]) (by kernel_rfl) (by simp) (AllReady.cons (o := ⟨(some 10), (Op.assign (Operand.tmp 91)), _, _, _, none⟩) rfl (fun K1 hK1 => ?_) AllReady.nil)
                  rw [if_pos (by rfl)]
                  refine wp_val (v := .bool (sameP r p)) (w' := w14) (by simp [execOp, Act.eval, go_sem]) ?_
                  refine hK1 _ _ ?_
                  clear hK1 K1
                  refine wpAny_done (by kernel_rfl) ?_ _
                  simp only [Act.put, List.setIfInBounds_toArray, List.set_cons_zero, List.set_cons_succ]
                  have hbn := Lib.hid (hbi.out.trans (hG.mono hbi.out.size))
                  clear hG hRk hXp hsp
                  go_wp2_with fail
                  go_roundw
                  case rel => exact ⟨k + 1, by omega, by rw [hmn2.out], by go_num, hbn⟩
                  case measure => simp [intOf]; omega
              · have hkl2 : k = R.length := by omega
                have hmet : (b0 || (R.take k).any (fun r => sameP r p)) = true := by
                  rw [hkl2, List.take_of_length_le (Nat.le_refl _)]
                  rcases hfinal.out with h | h
                  · rw [h]; rfl
                  · rw [h, Bool.or_true]
                rw [hmet]
                have hnk : ¬ ((k : Int) < (R.length : Int)) := by omega
                have hso := hS9.out.step hbi.out
                have hnt : NR wr (fun b => b < wr.heap.size ∧ Er (.slice Av R.length capv) b) sA sc sA' sc' X := (q3.out.keep fun b o hs => hbi.out.cell (p := ⟨b, o, none⟩) hs.1).mono fun b hb => ⟨Nat.lt_of_lt_of_le hb.1 hbi.out.size, hb.2.1⟩
                have hxt := blk_step kX.out hbi.out
                have hszi := hbi.out.size
                clear hmet hkl2 hlk
                go_upto_region 30 with fail
                obtain ⟨At, ct, At', ct', hbt, -⟩ := hso.box
                have yt0 := cell_of_row wr _ 0 _ _ _ hbt
                have yt1 := cell_of_row wr _ 1 _ _ _ hbt
                have ft := fun i => frozen_of_row wr _ i _ _ hbt
                have xt0 : wr.cell? ⟨g7, 0, none⟩ = some (.slice sA X.q.length sc) := cell_of_row wr _ 0 _ _ _ hxt
                have xt1 : wr.cell? ⟨g7, 1, none⟩ = some (.slice sA' X.ap.length sc') := cell_of_row wr _ 1 _ _ _ hxt
                have hg1 : g7 ≠ w0.heap.size := by omega
                have hg2 : w0.heap.size ≠ g7 := by omega
                have hP := hso.put hnt
                replace hP := Lib.hid hP
                clear hbt hso hnt hxt
                go_upto_region 31 with fail
                clear yt0 yt1 ft xt0 xt1
                obtain ⟨Vt, hVt⟩ : ∃ V, (wr.setCell ⟨w0.heap.size, 0, none⟩ (.slice sA X.q.length sc)).setCell ⟨w0.heap.size, 1, none⟩ (.slice sA' X.ap.length sc') = V := ⟨_, rfl⟩
                rw [hVt] at hP ⊢
                clear hVt
                obtain ⟨A6, c6, A6', c6', hb6, hn6⟩ := hP.out.box
                have yt0 := cell_of_row Vt _ 0 _ _ _ hb6
                have yt1 := cell_of_row Vt _ 1 _ _ _ hb6
                have hck := Check_good hN2.out.ok Vt A6 A6' c6 c6' (hn6.mono fun b hb => hb.1)
                replace hck := Lib.hid hck
                clear hb6 hn6
                go_wp2_with fail
                refine hck.out.mono ?_
                rintro e w20 ⟨rfl, hb⟩
                have hfin := Lib.hid (hP.out.step hb)
                clear hb hck hP yt0 yt1
                go_wp2_with fail
                go_roundw
                case rel => exact ⟨q + 1, cuts, X, R, by omega, by go_num, rfl, by omega, by omega, ⟨Av, capv, rfl⟩, hN2, hfin⟩
                case measure => simp [intOf]; omega
        · have hkj : (m.kind : Int) % 6 = 2 := by omega
          have hN2 := Lib.hid (hap_lose hNI.out h6 he1.out)
          rw [hX.out] at hN2
          have hso := hS9
          have hnt : NR w9 (fun b => b < w9.heap.size ∧ Er u4 b) sA sc sA' sc' X := q3.mono fun b hb => ⟨hb.1, hb.2.1⟩
          have hxt := kX
          clear q3 q4 kP hS9
          go_upto_region 30 with fail
          obtain ⟨At, ct, At', ct', hbt, -⟩ := hso.box
          have yt0 := cell_of_row w9 _ 0 _ _ _ hbt
          have yt1 := cell_of_row w9 _ 1 _ _ _ hbt
          have ft := fun i => frozen_of_row w9 _ i _ _ hbt
          have xt0 : w9.cell? ⟨g7, 0, none⟩ = some (.slice sA X.q.length sc) := cell_of_row w9 _ 0 _ _ _ hxt
          have xt1 : w9.cell? ⟨g7, 1, none⟩ = some (.slice sA' X.ap.length sc') := cell_of_row w9 _ 1 _ _ _ hxt
          have hg1 : g7 ≠ w0.heap.size := by omega
          have hg2 : w0.heap.size ≠ g7 := by omega
          have hP := hso.put hnt
          replace hP := Lib.hid hP
          clear hbt hso hnt hxt
          go_upto_region 31 with fail
          clear yt0 yt1 ft xt0 xt1
          obtain ⟨Vt, hVt⟩ : ∃ V, (w9.setCell ⟨w0.heap.size, 0, none⟩ (.slice sA X.q.length sc)).setCell ⟨w0.heap.size, 1, none⟩ (.slice sA' X.ap.length sc') = V := ⟨_, rfl⟩
          rw [hVt] at hP ⊢
          clear hVt
          obtain ⟨A6, c6, A6', c6', hb6, hn6⟩ := hP.out.box
          have yt0 := cell_of_row Vt _ 0 _ _ _ hb6
          have yt1 := cell_of_row Vt _ 1 _ _ _ hb6
          have hck := Check_good hN2.out.ok Vt A6 A6' c6 c6' (hn6.mono fun b hb => hb.1)
          replace hck := Lib.hid hck
          clear hb6 hn6
          go_wp2_with fail
          refine hck.out.mono ?_
          rintro e w20 ⟨rfl, hb⟩
          have hfin := Lib.hid (hP.out.step hb)
          clear hb hck hP yt0 yt1
          go_wp2_with fail
          go_roundw
          case rel => exact ⟨q + 1, cuts, X, R, by omega, by go_num, rfl, by omega, by omega, ⟨Av, capv, hsv.out⟩, hN2, hfin⟩
          case measure => simp [intOf]; omega
        · have hkj : (m.kind : Int) % 6 = 3 := by omega
          have hN2 := Lib.hid (hap_rep hNI.out h6 he1.out)
          rw [hX.out] at hN2
          have hso := hS9
          have hnt : NR w9 (fun b => b < w9.heap.size ∧ Er u4 b) sA sc sA' sc' X := q3.mono fun b hb => ⟨hb.1, hb.2.1⟩
          have hxt := kX
          clear q3 q4 kP hS9
          go_upto_region 30 with fail
          obtain ⟨At, ct, At', ct', hbt, -⟩ := hso.box
          have yt0 := cell_of_row w9 _ 0 _ _ _ hbt
          have yt1 := cell_of_row w9 _ 1 _ _ _ hbt
          have ft := fun i => frozen_of_row w9 _ i _ _ hbt
          have xt0 : w9.cell? ⟨g7, 0, none⟩ = some (.slice sA X.q.length sc) := cell_of_row w9 _ 0 _ _ _ hxt
          have xt1 : w9.cell? ⟨g7, 1, none⟩ = some (.slice sA' X.ap.length sc') := cell_of_row w9 _ 1 _ _ _ hxt
          have hg1 : g7 ≠ w0.heap.size := by omega
          have hg2 : w0.heap.size ≠ g7 := by omega
          have hP := hso.put hnt
          replace hP := Lib.hid hP
          clear hbt hso hnt hxt
          go_upto_region 31 with fail
          clear yt0 yt1 ft xt0 xt1
          obtain ⟨Vt, hVt⟩ : ∃ V, (w9.setCell ⟨w0.heap.size, 0, none⟩ (.slice sA X.q.length sc)).setCell ⟨w0.heap.size, 1, none⟩ (.slice sA' X.ap.length sc') = V := ⟨_, rfl⟩
          rw [hVt] at hP ⊢
          clear hVt
          obtain ⟨A6, c6, A6', c6', hb6, hn6⟩ := hP.out.box
          have yt0 := cell_of_row Vt _ 0 _ _ _ hb6
          have yt1 := cell_of_row Vt _ 1 _ _ _ hb6
          have hck := Check_good hN2.out.ok Vt A6 A6' c6 c6' (hn6.mono fun b hb => hb.1)
          replace hck := Lib.hid hck
          clear hb6 hn6
          go_wp2_with fail
          refine hck.out.mono ?_
          rintro e w20 ⟨rfl, hb⟩
          have hfin := Lib.hid (hP.out.step hb)
          clear hb hck hP yt0 yt1
          go_wp2_with fail
          go_roundw
          case rel => exact ⟨q + 1, cuts, X, R, by omega, by go_num, rfl, by omega, by omega, ⟨Av, capv, hsv.out⟩, hN2, hfin⟩
          case measure => simp [intOf]; omega
        · have hkj : (m.kind : Int) % 6 = 4 := by omega
          have hN2 := Lib.hid (hap_cut hNI.out h6 he1.out)
          rw [hX.out] at hN2
          have hso := hS9
          have hnt : NR w9 (fun b => b < w9.heap.size ∧ Er u4 b) sA sc sA' sc' X := q3.mono fun b hb => ⟨hb.1, hb.2.1⟩
          have hxt := kX
          have hwc : IntKind.i64.wrap ((cuts : Int) + 1) = (cuts : Int) + 1 := IntWalk.i64_in _ (by omega)
          clear q3 q4 kP hS9
          go_upto_region 30 with fail
          obtain ⟨At, ct, At', ct', hbt, -⟩ := hso.box
          have yt0 := cell_of_row w9 _ 0 _ _ _ hbt
          have yt1 := cell_of_row w9 _ 1 _ _ _ hbt
          have ft := fun i => frozen_of_row w9 _ i _ _ hbt
          have xt0 : w9.cell? ⟨g7, 0, none⟩ = some (.slice sA X.q.length sc) := cell_of_row w9 _ 0 _ _ _ hxt
          have xt1 : w9.cell? ⟨g7, 1, none⟩ = some (.slice sA' X.ap.length sc') := cell_of_row w9 _ 1 _ _ _ hxt
          have hg1 : g7 ≠ w0.heap.size := by omega
          have hg2 : w0.heap.size ≠ g7 := by omega
          have hP := hso.put hnt
          replace hP := Lib.hid hP
          clear hbt hso hnt hxt
          go_upto_region 31 with fail
          clear yt0 yt1 ft xt0 xt1
          obtain ⟨Vt, hVt⟩ : ∃ V, (w9.setCell ⟨w0.heap.size, 0, none⟩ (.slice sA X.q.length sc)).setCell ⟨w0.heap.size, 1, none⟩ (.slice sA' X.ap.length sc') = V := ⟨_, rfl⟩
          rw [hVt] at hP ⊢
          clear hVt
          obtain ⟨A6, c6, A6', c6', hb6, hn6⟩ := hP.out.box
          have yt0 := cell_of_row Vt _ 0 _ _ _ hb6
          have yt1 := cell_of_row Vt _ 1 _ _ _ hb6
          have hck := Check_good hN2.out.ok Vt A6 A6' c6 c6' (hn6.mono fun b hb => hb.1)
          replace hck := Lib.hid hck
          clear hb6 hn6
          go_wp2_with fail
          refine hck.out.mono ?_
          rintro e w20 ⟨rfl, hb⟩
          have hfin := Lib.hid (hP.out.step hb)
          clear hb hck hP yt0 yt1
          go_wp2_with fail
          go_roundw
          case rel => exact ⟨q + 1, cuts + 1, X, R, by omega, by go_num, by go_num, by omega, by omega, ⟨Av, capv, hsv.out⟩, hN2, hfin⟩
          case measure => simp [intOf]; omega
        · have hkj : (m.kind : Int) % 6 = 5 := by omega
          have hN2 := Lib.hid (hap_heal hNI.out h6 he1.out)
          rw [hX.out] at hN2
          have hso := hS9
          have hnt : NR w9 (fun b => b < w9.heap.size ∧ Er u4 b) sA sc sA' sc' X := q3.mono fun b hb => ⟨hb.1, hb.2.1⟩
          have hxt := kX
          clear q3 q4 kP hS9
          go_upto_region 30 with fail
          obtain ⟨At, ct, At', ct', hbt, -⟩ := hso.box
          have yt0 := cell_of_row w9 _ 0 _ _ _ hbt
          have yt1 := cell_of_row w9 _ 1 _ _ _ hbt
          have ft := fun i => frozen_of_row w9 _ i _ _ hbt
          have xt0 : w9.cell? ⟨g7, 0, none⟩ = some (.slice sA X.q.length sc) := cell_of_row w9 _ 0 _ _ _ hxt
          have xt1 : w9.cell? ⟨g7, 1, none⟩ = some (.slice sA' X.ap.length sc') := cell_of_row w9 _ 1 _ _ _ hxt
          have hg1 : g7 ≠ w0.heap.size := by omega
          have hg2 : w0.heap.size ≠ g7 := by omega
          have hP := hso.put hnt
          replace hP := Lib.hid hP
          clear hbt hso hnt hxt
          go_upto_region 31 with fail
          clear yt0 yt1 ft xt0 xt1
          obtain ⟨Vt, hVt⟩ : ∃ V, (w9.setCell ⟨w0.heap.size, 0, none⟩ (.slice sA X.q.length sc)).setCell ⟨w0.heap.size, 1, none⟩ (.slice sA' X.ap.length sc') = V := ⟨_, rfl⟩
          rw [hVt] at hP ⊢
          clear hVt
          obtain ⟨A6, c6, A6', c6', hb6, hn6⟩ := hP.out.box
          have yt0 := cell_of_row Vt _ 0 _ _ _ hb6
          have yt1 := cell_of_row Vt _ 1 _ _ _ hb6
          have hck := Check_good hN2.out.ok Vt A6 A6' c6 c6' (hn6.mono fun b hb => hb.1)
          replace hck := Lib.hid hck
          clear hb6 hn6
          go_wp2_with fail
          refine hck.out.mono ?_
          rintro e w20 ⟨rfl, hb⟩
          have hfin := Lib.hid (hP.out.step hb)
          clear hb hck hP yt0 yt1
          go_wp2_with fail
          go_roundw
          case rel => exact ⟨q + 1, cuts, X, R, by omega, by go_num, rfl, by omega, by omega, ⟨Av, capv, hsv.out⟩, hN2, hfin⟩
          case measure => simp [intOf]; omega
      · have hne : (e1 != 0) = true := by simpa using hz
        obtain rfl : X = zeroNt := hX.out ▸ hap_fail (by rw [he1.out]; exact hz)
        obtain ⟨A5, c5, A5', c5', hb5, hn5⟩ := hS9.box
        have y0 := cell_of_row w9 _ 0 _ _ _ hb5
        have y1 := cell_of_row w9 _ 1 _ _ _ hb5
        have hck := Lib.hid (Check_good hNI.out.ok w9 A5 A5' c5 c5' (hn5.mono fun b hb => hb.1))
        replace hS9 := Lib.hid hS9
        clear hb5 hn5 z0 hz
        go_wp2_with fail
        refine hck.out.mono ?_
        rintro e w10 ⟨rfl, hb⟩
        have hX10 := blk_step kX hb
        have x0 : w10.cell? ⟨g7, 0, none⟩ = some (.slice sA 0 sc) := cell_of_row w10 _ 0 _ _ _ hX10
        have x1 : w10.cell? ⟨g7, 1, none⟩ = some (.slice sA' 0 sc') := cell_of_row w10 _ 1 _ _ _ hX10
        have hsm := Lib.hid (Same_any zeroNt w10 sA sA' none none sc sc' 0 0 ((q3.keep fun b o hs => hb.cell (p := ⟨b, o, none⟩) hs.1).mono fun b hs => Nat.lt_of_lt_of_le hs.1 hb.size) (NR.zero _ _))
        replace hS9 := Lib.hid (hS9.out.step hb)
        clear hb hck y0 y1 hX10 q3 q4 kX kP
        go_wp2_with fail
        refine hsm.out.mono ?_
        rintro e w11 ⟨rfl, hb⟩
        have hfin := Lib.hid (hS9.out.step hb)
        clear hb hsm hS9 x0 x1
        go_wp2_with fail
        go_roundw
        case rel => exact ⟨q + 1, cuts, n, R, by omega, by go_num, rfl, by omega, by omega, ⟨Av, capv, hsv.out⟩, hNI, hfin⟩
        case measure => simp [intOf]; omega
    · obtain rfl : q = ms.length := by omega
      have hBf := Lib.hid (hB.out.trans (hS.out.bel.mono hB.out.size))
      clear hS
      go_wp2_with fail
      go_ret
      exact ⟨rfl, hBf.out⟩
end Go.Proofs.Ytpmmahlmfcbbbaa
