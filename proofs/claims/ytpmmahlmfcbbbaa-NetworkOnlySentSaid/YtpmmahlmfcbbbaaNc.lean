/- arePairs, isPacket, Check: contracts. -/
import Derived.Test.YtpmmahlmfcbbbaaNe
import Derived.Test.YtpmmahlmfcbbbaaRi
namespace Go.Proofs.Ytpmmahlmfcbbbaa
open Go.RowKit

set_option maxRecDepth 100000 in
set_option maxHeartbeats 800000 in
theorem isPacket_any (p : Pk) (w : World) (A : Option Addr) (c : Nat) :
    Calls Try.prog 28 #[.agg #[.int .i64 p.frm, .int .i64 p.to, .slice A p.data.length c]] w fun e w' => e = .returned (.bool (pkB p)) ∧ Below w.heap.size w w' := by
  have hA := Lib.hid (areParties_any p.frm p.to)
  have hv := Lib.hid (show pkB p = (areP p.frm p.to && decide ((p.data.length : Int) ≤ 1048576)) by unfold pkB; congr 2; exact propext (by omega))
  have hB := Lib.hid (bnew w (.cells #[.int .i64 p.frm, .int .i64 p.to, .slice A p.data.length c] 28))
  obtain ⟨x, hx⟩ : ∃ x, areP p.frm p.to = x := ⟨_, rfl⟩
  rw [hx] at hv hA
  clear hx
  go_enter Try.func28, Try.ntmps28
  go_wp2_with fail
  refine (hA.out _).mono ?_
  rintro e w1 ⟨rfl, rfl⟩
  cases x with
  | false =>
    go_wp2_with fail
    go_ret
    exact ⟨retB hv.out.symm, hB.out⟩
  | true =>
    go_wp2_with fail
    go_ret
    exact ⟨retB (by rw [hv.out]; rfl), hB.out⟩

theorem below_grow (w : World) (q : Nat) (os : Array Obj) : Below w.heap.size w (Sort.grow (w.drewN q) os) :=
  ⟨rfl, rfl, rfl, by simp [Sort.grow], fun k hk => by simp [Sort.grow, Array.getElem?_append, hk]⟩
theorem apAt_next (l : List (Int × Int)) (k : Nat) (h : (List.range k).all (apAt l) = true) (h2 : apAt l k = true) : (List.range (k + 1)).all (apAt l) = true := by
  rw [List.range_succ, List.all_append, h]; simp [h2]
theorem apB_no (l : List (Int × Int)) (k : Nat) (hk : k < l.length) (h2 : apAt l k = false) : apB l = false := by
  unfold apB
  rw [List.all_eq_false]
  exact ⟨k, List.mem_range.2 hk, by rw [h2]; decide⟩
theorem apAt_eq (l : List (Int × Int)) (k : Nat) (hk : k < l.length) : apAt l k = (okP l[k] && (decide (k = 0) || ltP (l.getD (k - 1) (0, 0)) l[k])) := by
  unfold apAt
  rw [show l.getD k (0, 0) = l[k] by simp [List.getD, hk]]
theorem okP_pair (x : Int × Int) : okP x = (areP x.1 x.2 && decide (x = linkP x.1 x.2)) := by
  unfold okP areP linkP
  obtain ⟨a, b⟩ := x
  cases isP a <;> cases isP b <;> simp
  by_cases h : a < b
  · simp [h]; omega
  · simp [h]; intro h1; omega

set_option maxRecDepth 100000 in
set_option maxHeartbeats 800000 in
theorem arePairs_any (ls : List (Int × Int)) (hm : ls.length ≤ 9223372036854775807) (w : World) (A : Option Addr) (c : Nat) (h : LR w (· < w.heap.size) A ls) :
    Calls Try.prog 32 #[.slice A ls.length c] w fun e w' => e = .returned (.bool (apB ls)) ∧ Below w.heap.size w w' := by
  have hh := Lib.hid h
  clear h
  go_enter Try.func32, Try.ntmps32
  go_wp2_with fail
  go_loopw [3, 4, 7] (fun _ _ i wr => ∃ k : Nat, k ≤ ls.length ∧ i = .int .i64 k ∧ Hid ((List.range k).all (apAt ls) = true) ∧ Below w.heap.size w wr) (fun _ _ i _ => ls.length - (intOf i).toNat)
  case atStart => exact ⟨0, Nat.zero_le _, rfl, rfl, Below.refl _ _⟩
  case round =>
    obtain ⟨k, hk, rfl, hall, hb⟩ := hrel
    by_cases hlt : k < ls.length
    · obtain ⟨b, off, rfl, hs, hc0, hc1, hI⟩ := (hh.out.keep (Kept.below hb)).at_ hlt
      have hn := Lib.hid (apAt_next ls k hall.out)
      have ho := Lib.hid (apB_no ls k hlt)
      have hq := Lib.hid (apAt_eq ls k hlt)
      have hkp := Lib.hid (okP_pair ls[k])
      have hbx := Lib.hid hb
      have hb2 := Lib.hid hb
      have hsz := hb.size
      clear hb
      go_wp2_with fail
      obtain ⟨V, hV⟩ : ∃ V, V = wr.alloc (.cells #[.int .i64 ls[k].1, .int .i64 ls[k].2] 55) := ⟨_, rfl⟩
      have hVs : V.heap.size = wr.heap.size + 1 := by rw [hV]; simp
      have hVb : Below wr.heap.size wr V := by rw [hV]; exact bnew wr _
      have hVc : V.cell? ⟨wr.heap.size, 0, none⟩ = some (.int .i64 ls[k].1) ∧ V.cell? ⟨wr.heap.size, 1, none⟩ = some (.int .i64 ls[k].2) := by
        constructor <;> (rw [hV, World.cell?_alloc_at _ _ _ _ rfl]; rfl)
      have hxk : (ls[k].1, ls[k].2) = ls[k] := rfl
      generalize hx0 : ls[k].1 = x0 at *
      generalize hx1 : ls[k].2 = x1 at *
      rw [← hxk] at hq hkp
      have hL : Hid (∀ W, Below V.heap.size V W → W.cell? ⟨wr.heap.size, 0, none⟩ = some (.int .i64 x0) ∧ W.cell? ⟨wr.heap.size, 1, none⟩ = some (.int .i64 x1)) := fun W hW =>
        ⟨(hW.cell (p := ⟨wr.heap.size, 0, none⟩) (by simp; omega)).trans hVc.1, (hW.cell (p := ⟨wr.heap.size, 1, none⟩) (by simp; omega)).trans hVc.2⟩
      have hfin : Hid (∀ W, Below V.heap.size V W → Below w.heap.size w W) := fun W hW => (hbx.out.trans (hVb.mono hsz)).trans (hW.mono (by omega))
      clear hc0 hc1 hVc
      rw [← hV]
      clear hV
      cases hx : areP x0 x1 with
      | false =>
        have hA : Hid (∀ W, Calls Try.prog 34 #[.int .i64 x0, .int .i64 x1] W fun e w' => e = .returned (.bool false) ∧ Below W.heap.size W w') := fun W => (areParties_any x0 x1 W).mono fun e w' ⟨h1, h2⟩ => ⟨by rw [h1, hx], by rw [h2]; exact Below.refl _ _⟩
        have hv := Lib.hid (ho.out (by rw [hq.out, hkp.out, hx]; rfl))
        clear hx hq hkp ho hn hall
        refine wp_region_pre 29 0 (fun W => Below V.heap.size V W) (fun W W' => Below W.heap.size W W')
          (fun i v W => match i with
            | 0 => v = .pointer (some ⟨wr.heap.size, 0, none⟩)
            | 1 => v = .int .i64 x0
            | 2 => v = .pointer (some ⟨wr.heap.size, 1, none⟩)
            | 3 => v = .int .i64 x1
            | 4 => v = .bool false
            | 5 => v = .bool true
            | 6 => v = .bool true
            | 7 => v = undef
            | 8 => v = undef
            | 9 => v = undef
            | 10 => v = undef
            | 11 => v = undef
            | 12 => v = undef
            | 13 => v = undef
            | 14 => v = .bool true
            | 15 => v = .bool true
            | 16 => v = undef
            | 17 => v = undef
            | 18 => v = undef
            | 19 => v = undef
            | 20 => v = undef
            | 21 => v = undef
            | 22 => v = undef
            | 23 => v = undef
            | 24 => v = undef
            | 25 => v = undef
            | 26 => v = undef
            | 27 => v = undef
            | 28 => v = .bool true
            | _ => True) (fun _ => false)
          (by kernel_rfl) (by kernel_rfl) (by kernel_rfl) (by kernel_rfl) (by kernel_rfl) (by kernel_rfl) (by kernel_rfl) ?_ (fun _ _ h => h.size) (dN (Below.refl _ _) 1) ?_ ?_
        · intro i v W W' hb hF
          match i, hF with
          | 0, h => exact h
          | 1, h => exact h
          | 2, h => exact h
          | 3, h => exact h
          | 4, h => exact h
          | 5, h => exact h
          | 6, h => exact h
          | 7, h => exact h
          | 8, h => exact h
          | 9, h => exact h
          | 10, h => exact h
          | 11, h => exact h
          | 12, h => exact h
          | 13, h => exact h
          | 14, h => exact h
          | 15, h => exact h
          | 16, h => exact h
          | 17, h => exact h
          | 18, h => exact h
          | 19, h => exact h
          | 20, h => exact h
          | 21, h => exact h
          | 22, h => exact h
          | 23, h => exact h
          | 24, h => exact h
          | 25, h => exact h
          | 26, h => exact h
          | 27, h => exact h
          | 28, h => exact h
          | _ + 29, _ => trivial
        · refine ⟨?_, ?_, ?_, ?_, ?_, ?_, ?_, ?_, ?_, ?_, ?_, ?_, ?_, ?_, ?_, ?_, ?_, ?_, ?_, ?_, ?_, ?_, ?_, ?_, ?_, ?_, ?_, ?_, ?_, trivial⟩
          · refine stepJ_any rfl fun ac W hAA hG hDD K hK => ?_
            have h4 := hAA.getD (t := 4) (by kernel_rfl)
            simp only [Array.getD_eq_getD_getElem?] at h4
            rw [if_pos (by rfl)]
            exact wp_val (v := .pointer (some ⟨wr.heap.size, 0, none⟩)) (w' := W) (by simp [execOp, Act.eval, h4, go_sem]) (hK _ _ hG (Below.refl _ _) rfl (fun h => by cases h))
          · refine stepJ_any rfl fun ac W hAA hG hDD K hK => ?_
            have h12 := hDD.get 0 12 _ rfl rfl (by kernel_rfl)
            simp only [Array.getD_eq_getD_getElem?] at h12
            obtain ⟨k0, k1⟩ := hL.out W hG
            rw [if_pos (by rfl)]
            exact wp_val (v := .int .i64 x0) (w' := W) (by simp [execOp, Act.eval, h12, go_sem, k0, k1]) (hK _ _ hG (Below.refl _ _) rfl (fun h => by cases h))
          · refine stepJ_any rfl fun ac W hAA hG hDD K hK => ?_
            have h4 := hAA.getD (t := 4) (by kernel_rfl)
            simp only [Array.getD_eq_getD_getElem?] at h4
            rw [if_pos (by rfl)]
            exact wp_val (v := .pointer (some ⟨wr.heap.size, 1, none⟩)) (w' := W) (by simp [execOp, Act.eval, h4, go_sem]) (hK _ _ hG (Below.refl _ _) rfl (fun h => by cases h))
          · refine stepJ_any rfl fun ac W hAA hG hDD K hK => ?_
            have h14 := hDD.get 2 14 _ rfl rfl (by kernel_rfl)
            simp only [Array.getD_eq_getD_getElem?] at h14
            obtain ⟨k0, k1⟩ := hL.out W hG
            rw [if_pos (by rfl)]
            exact wp_val (v := .int .i64 x1) (w' := W) (by simp [execOp, Act.eval, h14, go_sem, k0, k1]) (hK _ _ hG (Below.refl _ _) rfl (fun h => by cases h))
          · refine stepJ_any rfl fun ac W hAA hG hDD K hK => ?_
            have h13 := hDD.get 1 13 _ rfl rfl (by kernel_rfl)
            have h15 := hDD.get 3 15 _ rfl rfl (by kernel_rfl)
            simp only [Array.getD_eq_getD_getElem?] at h13 h15
            rw [if_pos (by rfl)]
            refine wp_call (f := 34) (args := #[.int .i64 x0, .int .i64 x1]) (by simp [execOp, Act.eval, h13, h15, go_sem]) ((hA.out W).mono fun e W9 he => ?_)
            obtain ⟨rfl, hbw⟩ := he
            exact hK _ _ (hG.trans (hbw.mono hG.size)) hbw rfl (fun h => by cases h)
          · refine stepJ_any rfl fun ac W hAA hG hDD K hK => ?_
            have h16 := hDD.get 4 16 _ rfl rfl (by kernel_rfl)
            simp only [Array.getD_eq_getD_getElem?] at h16
            rw [if_pos (by rfl)]
            exact wp_val (v := .bool true) (w' := W) (by simp [execOp, Act.eval, h16, go_sem]) (hK _ _ hG (Below.refl _ _) rfl (fun h => by cases h))
          · refine stepJ_any rfl fun ac W hAA hG hDD K hK => ?_
            have h17 := hDD.get 5 17 _ rfl rfl (by kernel_rfl)
            simp only [Array.getD_eq_getD_getElem?] at h17
            rw [if_pos (by rfl)]
            exact wp_val (v := .bool true) (w' := W) (by simp [execOp, Act.eval, h17, go_sem]) (hK _ _ hG (Below.refl _ _) rfl (fun h => by cases h))
          · refine stepJ_any rfl fun ac W hAA hG hDD K hK => ?_
            have hgd := hDD.get 6 18 _ rfl rfl (by kernel_rfl)
            have hgd := slot_bool hgd
            rw [if_neg (by simp [Region.wanted, yielded, hgd])]
            exact hK undef W hG (Below.refl _ _) rfl (fun h => by cases h)
          · refine stepJ_any rfl fun ac W hAA hG hDD K hK => ?_
            have hgd := hDD.get 6 18 _ rfl rfl (by kernel_rfl)
            have hgd := slot_bool hgd
            rw [if_neg (by simp [Region.wanted, yielded, hgd])]
            exact hK undef W hG (Below.refl _ _) rfl (fun h => by cases h)
          · refine stepJ_any rfl fun ac W hAA hG hDD K hK => ?_
            have hgd := hDD.get 6 18 _ rfl rfl (by kernel_rfl)
            have hgd := slot_bool hgd
            rw [if_neg (by simp [Region.wanted, yielded, hgd])]
            exact hK undef W hG (Below.refl _ _) rfl (fun h => by cases h)
          · refine stepJ_any rfl fun ac W hAA hG hDD K hK => ?_
            have hgd := hDD.get 6 18 _ rfl rfl (by kernel_rfl)
            have hgd := slot_bool hgd
            rw [if_neg (by simp [Region.wanted, yielded, hgd])]
            exact hK undef W hG (Below.refl _ _) rfl (fun h => by cases h)
          · refine stepJ_any rfl fun ac W hAA hG hDD K hK => ?_
            have hgd := hDD.get 6 18 _ rfl rfl (by kernel_rfl)
            have hgd := slot_bool hgd
            rw [if_neg (by simp [Region.wanted, yielded, hgd])]
            exact hK undef W hG (Below.refl _ _) rfl (fun h => by cases h)
          · refine stepJ_any rfl fun ac W hAA hG hDD K hK => ?_
            have hgd := hDD.get 6 18 _ rfl rfl (by kernel_rfl)
            have hgd := slot_bool hgd
            rw [if_neg (by simp [Region.wanted, yielded, hgd])]
            exact hK undef W hG (Below.refl _ _) rfl (fun h => by cases h)
          · refine stepJ_any rfl fun ac W hAA hG hDD K hK => ?_
            have hgd := hDD.get 6 18 _ rfl rfl (by kernel_rfl)
            have hgd := slot_bool hgd
            rw [if_neg (by simp [Region.wanted, yielded, hgd])]
            exact hK undef W hG (Below.refl _ _) rfl (fun h => by cases h)
          · refine stepJ_any rfl fun ac W hAA hG hDD K hK => ?_
            have h18 := hDD.get 6 18 _ rfl rfl (by kernel_rfl)
            have h25 := hDD.get 13 25 _ rfl rfl (by kernel_rfl)
            simp only [Array.getD_eq_getD_getElem?] at h18 h25
            rw [if_pos (by rfl)]
            exact wp_val (v := .bool true) (w' := W) (by simp [execOp, Act.eval, h18, h25, go_sem]) (hK _ _ hG (Below.refl _ _) rfl (fun h => by cases h))
          · refine stepJ_any rfl fun ac W hAA hG hDD K hK => ?_
            have h26 := hDD.get 14 26 _ rfl rfl (by kernel_rfl)
            simp only [Array.getD_eq_getD_getElem?] at h26
            rw [if_pos (by rfl)]
            exact wp_val (v := .bool true) (w' := W) (by simp [execOp, Act.eval, h26, go_sem]) (hK _ _ hG (Below.refl _ _) rfl (fun h => by cases h))
          · refine stepJ_any rfl fun ac W hAA hG hDD K hK => ?_
            have hgd := hDD.get 15 27 _ rfl rfl (by kernel_rfl)
            have hgd := slot_bool hgd
            rw [if_neg (by simp [Region.wanted, yielded, hgd])]
            exact hK undef W hG (Below.refl _ _) rfl (fun h => by cases h)
          · refine stepJ_any rfl fun ac W hAA hG hDD K hK => ?_
            have hgd := hDD.get 15 27 _ rfl rfl (by kernel_rfl)
            have hgd := slot_bool hgd
            rw [if_neg (by simp [Region.wanted, yielded, hgd])]
            exact hK undef W hG (Below.refl _ _) rfl (fun h => by cases h)
          · refine stepJ_any rfl fun ac W hAA hG hDD K hK => ?_
            have hgd := hDD.get 15 27 _ rfl rfl (by kernel_rfl)
            have hgd := slot_bool hgd
            rw [if_neg (by simp [Region.wanted, yielded, hgd])]
            exact hK undef W hG (Below.refl _ _) rfl (fun h => by cases h)
          · refine stepJ_any rfl fun ac W hAA hG hDD K hK => ?_
            have hgd := hDD.get 18 30 _ rfl rfl (by kernel_rfl)
            have hgd := slot_undef hgd
            rw [if_neg (by rcases hgd with hgd | hgd <;> simp [Region.wanted, yielded, hgd, undef])]
            exact hK undef W hG (Below.refl _ _) rfl (fun h => by cases h)
          · refine stepJ_any rfl fun ac W hAA hG hDD K hK => ?_
            have hgd := hDD.get 18 30 _ rfl rfl (by kernel_rfl)
            have hgd := slot_undef hgd
            rw [if_neg (by rcases hgd with hgd | hgd <;> simp [Region.wanted, yielded, hgd, undef])]
            exact hK undef W hG (Below.refl _ _) rfl (fun h => by cases h)
          · refine stepJ_any rfl fun ac W hAA hG hDD K hK => ?_
            have hgd := hDD.get 18 30 _ rfl rfl (by kernel_rfl)
            have hgd := slot_undef hgd
            rw [if_neg (by rcases hgd with hgd | hgd <;> simp [Region.wanted, yielded, hgd, undef])]
            exact hK undef W hG (Below.refl _ _) rfl (fun h => by cases h)
          · refine stepJ_any rfl fun ac W hAA hG hDD K hK => ?_
            have hgd := hDD.get 18 30 _ rfl rfl (by kernel_rfl)
            have hgd := slot_undef hgd
            rw [if_neg (by rcases hgd with hgd | hgd <;> simp [Region.wanted, yielded, hgd, undef])]
            exact hK undef W hG (Below.refl _ _) rfl (fun h => by cases h)
          · refine stepJ_any rfl fun ac W hAA hG hDD K hK => ?_
            have hgd := hDD.get 18 30 _ rfl rfl (by kernel_rfl)
            have hgd := slot_undef hgd
            rw [if_neg (by rcases hgd with hgd | hgd <;> simp [Region.wanted, yielded, hgd, undef])]
            exact hK undef W hG (Below.refl _ _) rfl (fun h => by cases h)
          · refine stepJ_any rfl fun ac W hAA hG hDD K hK => ?_
            have hgd := hDD.get 18 30 _ rfl rfl (by kernel_rfl)
            have hgd := slot_undef hgd
            rw [if_neg (by rcases hgd with hgd | hgd <;> simp [Region.wanted, yielded, hgd, undef])]
            exact hK undef W hG (Below.refl _ _) rfl (fun h => by cases h)
          · refine stepJ_any rfl fun ac W hAA hG hDD K hK => ?_
            have hgd := hDD.get 18 30 _ rfl rfl (by kernel_rfl)
            have hgd := slot_undef hgd
            rw [if_neg (by rcases hgd with hgd | hgd <;> simp [Region.wanted, yielded, hgd, undef])]
            exact hK undef W hG (Below.refl _ _) rfl (fun h => by cases h)
          · refine stepJ_any rfl fun ac W hAA hG hDD K hK => ?_
            have hgd := hDD.get 18 30 _ rfl rfl (by kernel_rfl)
            have hgd := slot_undef hgd
            rw [if_neg (by rcases hgd with hgd | hgd <;> simp [Region.wanted, yielded, hgd, undef])]
            exact hK undef W hG (Below.refl _ _) rfl (fun h => by cases h)
          · refine stepJ_any rfl fun ac W hAA hG hDD K hK => ?_
            have hgd := hDD.get 15 27 _ rfl rfl (by kernel_rfl)
            have hgd := slot_bool hgd
            rw [if_neg (by simp [Region.wanted, yielded, hgd])]
            exact hK undef W hG (Below.refl _ _) rfl (fun h => by cases h)
          · refine stepJ_any rfl fun ac W hAA hG hDD K hK => ?_
            have h27 := hDD.get 15 27 _ rfl rfl (by kernel_rfl)
            have h39 := hDD.get 27 39 _ rfl rfl (by kernel_rfl)
            simp only [Array.getD_eq_getD_getElem?] at h27 h39
            rw [if_pos (by rfl)]
            exact wp_val (v := .bool true) (w' := W) (by simp [execOp, Act.eval, h27, h39, go_sem]) (hK _ _ hG (Below.refl _ _) rfl (fun h => by cases h))
        intro fu T W9 hG hF hne hltb
        have e12 : T 12 = .pointer (some ⟨wr.heap.size, 0, none⟩) := hF 0 _ rfl (by omega)
        have e13 : T 13 = .int .i64 x0 := hF 1 _ rfl (by omega)
        have e14 : T 14 = .pointer (some ⟨wr.heap.size, 1, none⟩) := hF 2 _ rfl (by omega)
        have e15 : T 15 = .int .i64 x1 := hF 3 _ rfl (by omega)
        have e16 : T 16 = .bool false := hF 4 _ rfl (by omega)
        have e17 : T 17 = .bool true := hF 5 _ rfl (by omega)
        have e18 : T 18 = .bool true := hF 6 _ rfl (by omega)
        have e19 : T 19 = undef := hF 7 _ rfl (by omega)
        have e20 : T 20 = undef := hF 8 _ rfl (by omega)
        have e21 : T 21 = undef := hF 9 _ rfl (by omega)
        have e22 : T 22 = undef := hF 10 _ rfl (by omega)
        have e23 : T 23 = undef := hF 11 _ rfl (by omega)
        have e24 : T 24 = undef := hF 12 _ rfl (by omega)
        have e25 : T 25 = undef := hF 13 _ rfl (by omega)
        have e26 : T 26 = .bool true := hF 14 _ rfl (by omega)
        have e27 : T 27 = .bool true := hF 15 _ rfl (by omega)
        have e28 : T 28 = undef := hF 16 _ rfl (by omega)
        have e29 : T 29 = undef := hF 17 _ rfl (by omega)
        have e30 : T 30 = undef := hF 18 _ rfl (by omega)
        have e31 : T 31 = undef := hF 19 _ rfl (by omega)
        have e32 : T 32 = undef := hF 20 _ rfl (by omega)
        have e33 : T 33 = undef := hF 21 _ rfl (by omega)
        have e34 : T 34 = undef := hF 22 _ rfl (by omega)
        have e35 : T 35 = undef := hF 23 _ rfl (by omega)
        have e36 : T 36 = undef := hF 24 _ rfl (by omega)
        have e37 : T 37 = undef := hF 25 _ rfl (by omega)
        have e38 : T 38 = undef := hF 26 _ rfl (by omega)
        have e39 : T 39 = undef := hF 27 _ rfl (by omega)
        have e40 : T 40 = .bool true := hF 28 _ rfl (by omega)
        clear hF hne hltb
        simp only [List.take, fillT, List.setIfInBounds_toArray, List.set_cons_zero, List.set_cons_succ, e12, e13, e14, e15, e16, e17, e18, e19, e20, e21, e22, e23, e24, e25, e26, e27, e28, e29, e30, e31, e32, e33, e34, e35, e36, e37, e38, e39, e40]
        clear e12 e13 e14 e15 e16 e17 e18 e19 e20 e21 e22 e23 e24 e25 e26 e27 e28 e29 e30 e31 e32 e33 e34 e35 e36 e37 e38 e39 e40
        refine wpAny_done (by kernel_rfl) ?_ _
        go_wp2_with fail
        go_ret
        exact ⟨retB hv.out.symm, hfin.out _ hG⟩
      | true =>
        have hA : Hid (∀ W, Calls Try.prog 34 #[.int .i64 x0, .int .i64 x1] W fun e w' => e = .returned (.bool true) ∧ Below W.heap.size W w') := fun W => (areParties_any x0 x1 W).mono fun e w' ⟨h1, h2⟩ => ⟨by rw [h1, hx], by rw [h2]; exact Below.refl _ _⟩
        have hP := Lib.hid (pair_any x0 x1)
        by_cases hne : (x0, x1) = linkP x0 x1
        · have hEq : Hid (∀ W, (Op.equalIn 10000 55 (.agg #[.int .i64 x0, .int .i64 x1]) (.agg #[.int .i64 (linkP x0 x1).1, .int .i64 (linkP x0 x1).2])).run Try.prog W = .ok true W) := fun W => by
            rw [run_equalIn_two W 9998 55 3 Try.underlying55 Try.underlying3 Try.sizeOf3, ← hne]; simp
          have hok := Lib.hid (show okP (x0, x1) = true by rw [hkp.out, hx, decide_eq_true hne]; rfl)
          have hne := Lib.hid hne
          rcases Nat.eq_zero_or_pos k with h0 | h0
          · have hk0 := Lib.hid (show ((k : Int) == 0) = true ∧ decide ((0 : Int) < k) = false ∧ ¬ 0 < k by subst h0; exact ⟨rfl, rfl, by omega⟩)
            have hnx := Lib.hid (hn.out (by rw [hq.out, hok.out, decide_eq_true h0]; rfl))
            clear hx hq hkp ho hn hall h0
            refine wp_region_pre 29 0 (fun W => Below V.heap.size V W) (fun W W' => Below W.heap.size W W')
              (fun i v W => match i with
                | 0 => v = .pointer (some ⟨wr.heap.size, 0, none⟩)
                | 1 => v = .int .i64 x0
                | 2 => v = .pointer (some ⟨wr.heap.size, 1, none⟩)
                | 3 => v = .int .i64 x1
                | 4 => v = .bool true
                | 5 => v = .bool false
                | 6 => v = .bool false
                | 7 => v = .agg #[.int .i64 x0, .int .i64 x1]
                | 8 => v = .pointer (some ⟨wr.heap.size, 0, none⟩)
                | 9 => v = .int .i64 x0
                | 10 => v = .pointer (some ⟨wr.heap.size, 1, none⟩)
                | 11 => v = .int .i64 x1
                | 12 => v = .agg #[.int .i64 (linkP x0 x1).1, .int .i64 (linkP x0 x1).2]
                | 13 => v = .bool false
                | 14 => v = .bool false
                | 15 => v = .bool false
                | 16 => v = .int .i64 (k : Int)
                | 17 => v = .bool false
                | 18 => v = .bool false
                | 19 => v = undef
                | 20 => v = undef
                | 21 => v = undef
                | 22 => v = undef
                | 23 => v = undef
                | 24 => v = undef
                | 25 => v = undef
                | 26 => v = undef
                | 27 => v = .bool false
                | 28 => v = .bool false
                | _ => True) (fun _ => false)
              (by kernel_rfl) (by kernel_rfl) (by kernel_rfl) (by kernel_rfl) (by kernel_rfl) (by kernel_rfl) (by kernel_rfl) ?_ (fun _ _ h => h.size) (dN (Below.refl _ _) 1) ?_ ?_
            · intro i v W W' hb hF
              match i, hF with
              | 0, h => exact h
              | 1, h => exact h
              | 2, h => exact h
              | 3, h => exact h
              | 4, h => exact h
              | 5, h => exact h
              | 6, h => exact h
              | 7, h => exact h
              | 8, h => exact h
              | 9, h => exact h
              | 10, h => exact h
              | 11, h => exact h
              | 12, h => exact h
              | 13, h => exact h
              | 14, h => exact h
              | 15, h => exact h
              | 16, h => exact h
              | 17, h => exact h
              | 18, h => exact h
              | 19, h => exact h
              | 20, h => exact h
              | 21, h => exact h
              | 22, h => exact h
              | 23, h => exact h
              | 24, h => exact h
              | 25, h => exact h
              | 26, h => exact h
              | 27, h => exact h
              | 28, h => exact h
              | _ + 29, _ => trivial
            · refine ⟨?_, ?_, ?_, ?_, ?_, ?_, ?_, ?_, ?_, ?_, ?_, ?_, ?_, ?_, ?_, ?_, ?_, ?_, ?_, ?_, ?_, ?_, ?_, ?_, ?_, ?_, ?_, ?_, ?_, trivial⟩
              · refine stepJ_any rfl fun ac W hAA hG hDD K hK => ?_
                have h4 := hAA.getD (t := 4) (by kernel_rfl)
                simp only [Array.getD_eq_getD_getElem?] at h4
                rw [if_pos (by rfl)]
                exact wp_val (v := .pointer (some ⟨wr.heap.size, 0, none⟩)) (w' := W) (by simp [execOp, Act.eval, h4, go_sem]) (hK _ _ hG (Below.refl _ _) rfl (fun h => by cases h))
              · refine stepJ_any rfl fun ac W hAA hG hDD K hK => ?_
                have h12 := hDD.get 0 12 _ rfl rfl (by kernel_rfl)
                simp only [Array.getD_eq_getD_getElem?] at h12
                obtain ⟨k0, k1⟩ := hL.out W hG
                rw [if_pos (by rfl)]
                exact wp_val (v := .int .i64 x0) (w' := W) (by simp [execOp, Act.eval, h12, go_sem, k0, k1]) (hK _ _ hG (Below.refl _ _) rfl (fun h => by cases h))
              · refine stepJ_any rfl fun ac W hAA hG hDD K hK => ?_
                have h4 := hAA.getD (t := 4) (by kernel_rfl)
                simp only [Array.getD_eq_getD_getElem?] at h4
                rw [if_pos (by rfl)]
                exact wp_val (v := .pointer (some ⟨wr.heap.size, 1, none⟩)) (w' := W) (by simp [execOp, Act.eval, h4, go_sem]) (hK _ _ hG (Below.refl _ _) rfl (fun h => by cases h))
              · refine stepJ_any rfl fun ac W hAA hG hDD K hK => ?_
                have h14 := hDD.get 2 14 _ rfl rfl (by kernel_rfl)
                simp only [Array.getD_eq_getD_getElem?] at h14
                obtain ⟨k0, k1⟩ := hL.out W hG
                rw [if_pos (by rfl)]
                exact wp_val (v := .int .i64 x1) (w' := W) (by simp [execOp, Act.eval, h14, go_sem, k0, k1]) (hK _ _ hG (Below.refl _ _) rfl (fun h => by cases h))
              · refine stepJ_any rfl fun ac W hAA hG hDD K hK => ?_
                have h13 := hDD.get 1 13 _ rfl rfl (by kernel_rfl)
                have h15 := hDD.get 3 15 _ rfl rfl (by kernel_rfl)
                simp only [Array.getD_eq_getD_getElem?] at h13 h15
                rw [if_pos (by rfl)]
                refine wp_call (f := 34) (args := #[.int .i64 x0, .int .i64 x1]) (by simp [execOp, Act.eval, h13, h15, go_sem]) ((hA.out W).mono fun e W9 he => ?_)
                obtain ⟨rfl, hbw⟩ := he
                exact hK _ _ (hG.trans (hbw.mono hG.size)) hbw rfl (fun h => by cases h)
              · refine stepJ_any rfl fun ac W hAA hG hDD K hK => ?_
                have h16 := hDD.get 4 16 _ rfl rfl (by kernel_rfl)
                simp only [Array.getD_eq_getD_getElem?] at h16
                rw [if_pos (by rfl)]
                exact wp_val (v := .bool false) (w' := W) (by simp [execOp, Act.eval, h16, go_sem]) (hK _ _ hG (Below.refl _ _) rfl (fun h => by cases h))
              · refine stepJ_any rfl fun ac W hAA hG hDD K hK => ?_
                have h17 := hDD.get 5 17 _ rfl rfl (by kernel_rfl)
                simp only [Array.getD_eq_getD_getElem?] at h17
                rw [if_pos (by rfl)]
                exact wp_val (v := .bool false) (w' := W) (by simp [execOp, Act.eval, h17, go_sem]) (hK _ _ hG (Below.refl _ _) rfl (fun h => by cases h))
              · refine stepJ_any rfl fun ac W hAA hG hDD K hK => ?_
                have h4 := hAA.getD (t := 4) (by kernel_rfl)
                have hgd := hDD.get 6 18 _ rfl rfl (by kernel_rfl)
                have hgd := slot_bool hgd
                simp only [Array.getD_eq_getD_getElem?] at h4
                obtain ⟨k0, k1⟩ := hL.out W hG
                rw [if_pos (by simp [Region.wanted, yielded, hgd])]
                exact wp_val (v := .agg #[.int .i64 x0, .int .i64 x1]) (w' := W) (by simp [execOp, Act.eval, h4, go_sem, k0, k1]) (hK _ _ hG (Below.refl _ _) rfl (fun h => by cases h))
              · refine stepJ_any rfl fun ac W hAA hG hDD K hK => ?_
                have h4 := hAA.getD (t := 4) (by kernel_rfl)
                have hgd := hDD.get 6 18 _ rfl rfl (by kernel_rfl)
                have hgd := slot_bool hgd
                simp only [Array.getD_eq_getD_getElem?] at h4
                rw [if_pos (by simp [Region.wanted, yielded, hgd])]
                exact wp_val (v := .pointer (some ⟨wr.heap.size, 0, none⟩)) (w' := W) (by simp [execOp, Act.eval, h4, go_sem]) (hK _ _ hG (Below.refl _ _) rfl (fun h => by cases h))
              · refine stepJ_any rfl fun ac W hAA hG hDD K hK => ?_
                have h20 := hDD.get 8 20 _ rfl rfl (by kernel_rfl)
                have hgd := hDD.get 6 18 _ rfl rfl (by kernel_rfl)
                have hgd := slot_bool hgd
                simp only [Array.getD_eq_getD_getElem?] at h20
                obtain ⟨k0, k1⟩ := hL.out W hG
                rw [if_pos (by simp [Region.wanted, yielded, hgd])]
                exact wp_val (v := .int .i64 x0) (w' := W) (by simp [execOp, Act.eval, h20, go_sem, k0, k1]) (hK _ _ hG (Below.refl _ _) rfl (fun h => by cases h))
              · refine stepJ_any rfl fun ac W hAA hG hDD K hK => ?_
                have h4 := hAA.getD (t := 4) (by kernel_rfl)
                have hgd := hDD.get 6 18 _ rfl rfl (by kernel_rfl)
                have hgd := slot_bool hgd
                simp only [Array.getD_eq_getD_getElem?] at h4
                rw [if_pos (by simp [Region.wanted, yielded, hgd])]
                exact wp_val (v := .pointer (some ⟨wr.heap.size, 1, none⟩)) (w' := W) (by simp [execOp, Act.eval, h4, go_sem]) (hK _ _ hG (Below.refl _ _) rfl (fun h => by cases h))
              · refine stepJ_any rfl fun ac W hAA hG hDD K hK => ?_
                have h22 := hDD.get 10 22 _ rfl rfl (by kernel_rfl)
                have hgd := hDD.get 6 18 _ rfl rfl (by kernel_rfl)
                have hgd := slot_bool hgd
                simp only [Array.getD_eq_getD_getElem?] at h22
                obtain ⟨k0, k1⟩ := hL.out W hG
                rw [if_pos (by simp [Region.wanted, yielded, hgd])]
                exact wp_val (v := .int .i64 x1) (w' := W) (by simp [execOp, Act.eval, h22, go_sem, k0, k1]) (hK _ _ hG (Below.refl _ _) rfl (fun h => by cases h))
              · refine stepJ_any rfl fun ac W hAA hG hDD K hK => ?_
                have h21 := hDD.get 9 21 _ rfl rfl (by kernel_rfl)
                have h23 := hDD.get 11 23 _ rfl rfl (by kernel_rfl)
                have hgd := hDD.get 6 18 _ rfl rfl (by kernel_rfl)
                have hgd := slot_bool hgd
                simp only [Array.getD_eq_getD_getElem?] at h21 h23
                rw [if_pos (by simp [Region.wanted, yielded, hgd])]
                refine wp_call (f := 35) (args := #[.int .i64 x0, .int .i64 x1]) (by simp [execOp, Act.eval, h21, h23, go_sem]) ((hP.out W).mono fun e W9 he => ?_)
                obtain ⟨rfl, hbw⟩ := he
                exact hK _ _ (hG.trans (hbw.mono hG.size)) hbw rfl (fun h => by cases h)
              · refine stepJ_any rfl fun ac W hAA hG hDD K hK => ?_
                have h19 := hDD.get 7 19 _ rfl rfl (by kernel_rfl)
                have h24 := hDD.get 12 24 _ rfl rfl (by kernel_rfl)
                have hgd := hDD.get 6 18 _ rfl rfl (by kernel_rfl)
                have hgd := slot_bool hgd
                simp only [Array.getD_eq_getD_getElem?] at h19 h24
                have heq := hEq.out W
                rw [if_pos (by simp [Region.wanted, yielded, hgd])]
                exact wp_val (v := .bool false) (w' := W) (by simp [execOp, Act.eval, h19, h24, go_sem, heq]) (hK _ _ hG (Below.refl _ _) rfl (fun h => by cases h))
              · refine stepJ_any rfl fun ac W hAA hG hDD K hK => ?_
                have h18 := hDD.get 6 18 _ rfl rfl (by kernel_rfl)
                have h25 := hDD.get 13 25 _ rfl rfl (by kernel_rfl)
                simp only [Array.getD_eq_getD_getElem?] at h18 h25
                rw [if_pos (by rfl)]
                exact wp_val (v := .bool false) (w' := W) (by simp [execOp, Act.eval, h18, h25, go_sem]) (hK _ _ hG (Below.refl _ _) rfl (fun h => by cases h))
              · refine stepJ_any rfl fun ac W hAA hG hDD K hK => ?_
                have h26 := hDD.get 14 26 _ rfl rfl (by kernel_rfl)
                simp only [Array.getD_eq_getD_getElem?] at h26
                rw [if_pos (by rfl)]
                exact wp_val (v := .bool false) (w' := W) (by simp [execOp, Act.eval, h26, go_sem]) (hK _ _ hG (Below.refl _ _) rfl (fun h => by cases h))
              · refine stepJ_any rfl fun ac W hAA hG hDD K hK => ?_
                have h3 := hAA.getD (t := 3) (by kernel_rfl)
                have hgd := hDD.get 15 27 _ rfl rfl (by kernel_rfl)
                have hgd := slot_bool hgd
                simp only [Array.getD_eq_getD_getElem?] at h3
                rw [if_pos (by simp [Region.wanted, yielded, hgd])]
                exact wp_val (v := .int .i64 (k : Int)) (w' := W) (by simp [execOp, Act.eval, h3, go_sem]) (hK _ _ hG (Below.refl _ _) rfl (fun h => by cases h))
              · refine stepJ_any rfl fun ac W hAA hG hDD K hK => ?_
                have h28 := hDD.get 16 28 _ rfl rfl (by kernel_rfl)
                have hgd := hDD.get 15 27 _ rfl rfl (by kernel_rfl)
                have hgd := slot_bool hgd
                simp only [Array.getD_eq_getD_getElem?] at h28
                have hk0 := hk0.out
                rw [if_pos (by simp [Region.wanted, yielded, hgd])]
                exact wp_val (v := .bool false) (w' := W) (by simp [execOp, Act.eval, h28, go_sem, hk0]) (hK _ _ hG (Below.refl _ _) rfl (fun h => by cases h))
              · refine stepJ_any rfl fun ac W hAA hG hDD K hK => ?_
                have h29 := hDD.get 17 29 _ rfl rfl (by kernel_rfl)
                have hgd := hDD.get 15 27 _ rfl rfl (by kernel_rfl)
                have hgd := slot_bool hgd
                simp only [Array.getD_eq_getD_getElem?] at h29
                rw [if_pos (by simp [Region.wanted, yielded, hgd])]
                exact wp_val (v := .bool false) (w' := W) (by simp [execOp, Act.eval, h29, go_sem]) (hK _ _ hG (Below.refl _ _) rfl (fun h => by cases h))
              · refine stepJ_any rfl fun ac W hAA hG hDD K hK => ?_
                have hgd := hDD.get 18 30 _ rfl rfl (by kernel_rfl)
                have hgd := slot_bool hgd
                rw [if_neg (by simp [Region.wanted, yielded, hgd])]
                exact hK undef W hG (Below.refl _ _) rfl (fun h => by cases h)
              · refine stepJ_any rfl fun ac W hAA hG hDD K hK => ?_
                have hgd := hDD.get 18 30 _ rfl rfl (by kernel_rfl)
                have hgd := slot_bool hgd
                rw [if_neg (by simp [Region.wanted, yielded, hgd])]
                exact hK undef W hG (Below.refl _ _) rfl (fun h => by cases h)
              · refine stepJ_any rfl fun ac W hAA hG hDD K hK => ?_
                have hgd := hDD.get 18 30 _ rfl rfl (by kernel_rfl)
                have hgd := slot_bool hgd
                rw [if_neg (by simp [Region.wanted, yielded, hgd])]
                exact hK undef W hG (Below.refl _ _) rfl (fun h => by cases h)
              · refine stepJ_any rfl fun ac W hAA hG hDD K hK => ?_
                have hgd := hDD.get 18 30 _ rfl rfl (by kernel_rfl)
                have hgd := slot_bool hgd
                rw [if_neg (by simp [Region.wanted, yielded, hgd])]
                exact hK undef W hG (Below.refl _ _) rfl (fun h => by cases h)
              · refine stepJ_any rfl fun ac W hAA hG hDD K hK => ?_
                have hgd := hDD.get 18 30 _ rfl rfl (by kernel_rfl)
                have hgd := slot_bool hgd
                rw [if_neg (by simp [Region.wanted, yielded, hgd])]
                exact hK undef W hG (Below.refl _ _) rfl (fun h => by cases h)
              · refine stepJ_any rfl fun ac W hAA hG hDD K hK => ?_
                have hgd := hDD.get 18 30 _ rfl rfl (by kernel_rfl)
                have hgd := slot_bool hgd
                rw [if_neg (by simp [Region.wanted, yielded, hgd])]
                exact hK undef W hG (Below.refl _ _) rfl (fun h => by cases h)
              · refine stepJ_any rfl fun ac W hAA hG hDD K hK => ?_
                have hgd := hDD.get 18 30 _ rfl rfl (by kernel_rfl)
                have hgd := slot_bool hgd
                rw [if_neg (by simp [Region.wanted, yielded, hgd])]
                exact hK undef W hG (Below.refl _ _) rfl (fun h => by cases h)
              · refine stepJ_any rfl fun ac W hAA hG hDD K hK => ?_
                have hgd := hDD.get 18 30 _ rfl rfl (by kernel_rfl)
                have hgd := slot_bool hgd
                rw [if_neg (by simp [Region.wanted, yielded, hgd])]
                exact hK undef W hG (Below.refl _ _) rfl (fun h => by cases h)
              · refine stepJ_any rfl fun ac W hAA hG hDD K hK => ?_
                have h30 := hDD.get 18 30 _ rfl rfl (by kernel_rfl)
                have h38 := hDD.get 26 38 _ rfl rfl (by kernel_rfl)
                have hgd := hDD.get 15 27 _ rfl rfl (by kernel_rfl)
                have hgd := slot_bool hgd
                simp only [Array.getD_eq_getD_getElem?] at h30 h38
                rw [if_pos (by simp [Region.wanted, yielded, hgd])]
                exact wp_val (v := .bool false) (w' := W) (by simp [execOp, Act.eval, h30, h38, go_sem]) (hK _ _ hG (Below.refl _ _) rfl (fun h => by cases h))
              · refine stepJ_any rfl fun ac W hAA hG hDD K hK => ?_
                have h27 := hDD.get 15 27 _ rfl rfl (by kernel_rfl)
                have h39 := hDD.get 27 39 _ rfl rfl (by kernel_rfl)
                simp only [Array.getD_eq_getD_getElem?] at h27 h39
                rw [if_pos (by rfl)]
                exact wp_val (v := .bool false) (w' := W) (by simp [execOp, Act.eval, h27, h39, go_sem]) (hK _ _ hG (Below.refl _ _) rfl (fun h => by cases h))
            intro fu T W9 hG hF hne hltb
            have e12 : T 12 = .pointer (some ⟨wr.heap.size, 0, none⟩) := hF 0 _ rfl (by omega)
            have e13 : T 13 = .int .i64 x0 := hF 1 _ rfl (by omega)
            have e14 : T 14 = .pointer (some ⟨wr.heap.size, 1, none⟩) := hF 2 _ rfl (by omega)
            have e15 : T 15 = .int .i64 x1 := hF 3 _ rfl (by omega)
            have e16 : T 16 = .bool true := hF 4 _ rfl (by omega)
            have e17 : T 17 = .bool false := hF 5 _ rfl (by omega)
            have e18 : T 18 = .bool false := hF 6 _ rfl (by omega)
            have e19 : T 19 = .agg #[.int .i64 x0, .int .i64 x1] := hF 7 _ rfl (by omega)
            have e20 : T 20 = .pointer (some ⟨wr.heap.size, 0, none⟩) := hF 8 _ rfl (by omega)
            have e21 : T 21 = .int .i64 x0 := hF 9 _ rfl (by omega)
            have e22 : T 22 = .pointer (some ⟨wr.heap.size, 1, none⟩) := hF 10 _ rfl (by omega)
            have e23 : T 23 = .int .i64 x1 := hF 11 _ rfl (by omega)
            have e24 : T 24 = .agg #[.int .i64 (linkP x0 x1).1, .int .i64 (linkP x0 x1).2] := hF 12 _ rfl (by omega)
            have e25 : T 25 = .bool false := hF 13 _ rfl (by omega)
            have e26 : T 26 = .bool false := hF 14 _ rfl (by omega)
            have e27 : T 27 = .bool false := hF 15 _ rfl (by omega)
            have e28 : T 28 = .int .i64 (k : Int) := hF 16 _ rfl (by omega)
            have e29 : T 29 = .bool false := hF 17 _ rfl (by omega)
            have e30 : T 30 = .bool false := hF 18 _ rfl (by omega)
            have e31 : T 31 = undef := hF 19 _ rfl (by omega)
            have e32 : T 32 = undef := hF 20 _ rfl (by omega)
            have e33 : T 33 = undef := hF 21 _ rfl (by omega)
            have e34 : T 34 = undef := hF 22 _ rfl (by omega)
            have e35 : T 35 = undef := hF 23 _ rfl (by omega)
            have e36 : T 36 = undef := hF 24 _ rfl (by omega)
            have e37 : T 37 = undef := hF 25 _ rfl (by omega)
            have e38 : T 38 = undef := hF 26 _ rfl (by omega)
            have e39 : T 39 = .bool false := hF 27 _ rfl (by omega)
            have e40 : T 40 = .bool false := hF 28 _ rfl (by omega)
            clear hF hne hltb
            simp only [List.take, fillT, List.setIfInBounds_toArray, List.set_cons_zero, List.set_cons_succ, e12, e13, e14, e15, e16, e17, e18, e19, e20, e21, e22, e23, e24, e25, e26, e27, e28, e29, e30, e31, e32, e33, e34, e35, e36, e37, e38, e39, e40]
            clear e12 e13 e14 e15 e16 e17 e18 e19 e20 e21 e22 e23 e24 e25 e26 e27 e28 e29 e30 e31 e32 e33 e34 e35 e36 e37 e38 e39 e40
            refine wpAny_done (by kernel_rfl) ?_ _
            go_wp2_with fail
            go_roundw
            case rel => exact ⟨k + 1, by omega, by go_num, hnx.out, hfin.out _ hG⟩
            case measure => simp [intOf]; omega
          · obtain ⟨m, hm1⟩ : ∃ m, k = m + 1 := ⟨k - 1, by omega⟩
            obtain ⟨b2, off2, e2, hs2, hd0, hd1, hI2⟩ := (hh.out.keep (Kept.below hb2.out)).at_ (i := m) (by omega)
            simp only [Option.some.injEq, Addr.mk.injEq, and_true] at e2
            obtain ⟨rfl, rfl⟩ := e2
            obtain ⟨y, hy⟩ : ∃ y, y = ls[m] := ⟨_, rfl⟩
            have hyd : ls.getD m (0, 0) = y := by rw [hy]; simp [List.getD, show m < ls.length by omega]
            rw [← hy] at hd0 hd1
            clear hy
            have hk0 := Lib.hid (show 0 < k from h0)
            have hks := Lib.hid (show IntKind.i64.wrap ((k : Int) - 1) = (m : Int) from by rw [IntWalk.i64_in _ (by omega)]; omega)
            have hY : Hid (∀ W, Below V.heap.size V W → W.cell? ⟨b, off + m * 2, none⟩ = some (.int .i64 y.1) ∧ W.cell? ⟨b, off + m * 2 + 1, none⟩ = some (.int .i64 y.2)) := fun W hW => by
              have hbV := hVb.trans (hW.mono (by omega))
              exact ⟨(hbV.cell (p := ⟨b, off + m * 2, none⟩) (by simp; omega)).trans hd0, (hbV.cell (p := ⟨b, off + m * 2 + 1, none⟩) (by simp; omega)).trans hd1⟩
            have hC : Hid (∀ W, Calls Try.prog 38 #[.agg #[.int .i64 y.1, .int .i64 y.2], .agg #[.int .i64 x0, .int .i64 x1]] W fun e w' => e = .returned (.int .i64 (cmpP y (x0, x1))) ∧ Below W.heap.size W w') := fun W => (compare_any y (x0, x1) W).mono fun e w' ⟨h1, q, os, h2⟩ => ⟨h1, by rw [h2]; exact below_grow W q os⟩
            have hcg := Lib.hid (cmpP_ge y (x0, x1))
            have hqq := Lib.hid (show apAt ls k = ltP y (x0, x1) by rw [hq.out, hok.out, show k - 1 = m by omega, hyd, decide_eq_false (show ¬ k = 0 by omega)]; rfl)
            have hix := Lib.hid (show m < ls.length by omega)
            clear hx hq hkp hall hd0 hd1 hyd hI2 hm1
            refine wp_region_pre 29 0 (fun W => Below V.heap.size V W) (fun W W' => Below W.heap.size W W')
              (fun i v W => match i with
                | 0 => v = .pointer (some ⟨wr.heap.size, 0, none⟩)
                | 1 => v = .int .i64 x0
                | 2 => v = .pointer (some ⟨wr.heap.size, 1, none⟩)
                | 3 => v = .int .i64 x1
                | 4 => v = .bool true
                | 5 => v = .bool false
                | 6 => v = .bool false
                | 7 => v = .agg #[.int .i64 x0, .int .i64 x1]
                | 8 => v = .pointer (some ⟨wr.heap.size, 0, none⟩)
                | 9 => v = .int .i64 x0
                | 10 => v = .pointer (some ⟨wr.heap.size, 1, none⟩)
                | 11 => v = .int .i64 x1
                | 12 => v = .agg #[.int .i64 (linkP x0 x1).1, .int .i64 (linkP x0 x1).2]
                | 13 => v = .bool false
                | 14 => v = .bool false
                | 15 => v = .bool false
                | 16 => v = .int .i64 (k : Int)
                | 17 => v = .bool true
                | 18 => v = .bool true
                | 19 => v = .slice (some ⟨b, off, none⟩) ls.length c
                | 20 => v = .int .i64 (k : Int)
                | 21 => v = .int .i64 (m : Int)
                | 22 => v = .pointer (some ⟨b, off + m * 2, none⟩)
                | 23 => v = .agg #[.int .i64 y.1, .int .i64 y.2]
                | 24 => v = .agg #[.int .i64 x0, .int .i64 x1]
                | 25 => v = .int .i64 (cmpP y (x0, x1))
                | 26 => v = .bool (!ltP y (x0, x1))
                | 27 => v = .bool (!ltP y (x0, x1))
                | 28 => v = .bool (!ltP y (x0, x1))
                | _ => True) (fun _ => false)
              (by kernel_rfl) (by kernel_rfl) (by kernel_rfl) (by kernel_rfl) (by kernel_rfl) (by kernel_rfl) (by kernel_rfl) ?_ (fun _ _ h => h.size) (dN (Below.refl _ _) 1) ?_ ?_
            · intro i v W W' hb hF
              match i, hF with
              | 0, h => exact h
              | 1, h => exact h
              | 2, h => exact h
              | 3, h => exact h
              | 4, h => exact h
              | 5, h => exact h
              | 6, h => exact h
              | 7, h => exact h
              | 8, h => exact h
              | 9, h => exact h
              | 10, h => exact h
              | 11, h => exact h
              | 12, h => exact h
              | 13, h => exact h
              | 14, h => exact h
              | 15, h => exact h
              | 16, h => exact h
              | 17, h => exact h
              | 18, h => exact h
              | 19, h => exact h
              | 20, h => exact h
              | 21, h => exact h
              | 22, h => exact h
              | 23, h => exact h
              | 24, h => exact h
              | 25, h => exact h
              | 26, h => exact h
              | 27, h => exact h
              | 28, h => exact h
              | _ + 29, _ => trivial
            · refine ⟨?_, ?_, ?_, ?_, ?_, ?_, ?_, ?_, ?_, ?_, ?_, ?_, ?_, ?_, ?_, ?_, ?_, ?_, ?_, ?_, ?_, ?_, ?_, ?_, ?_, ?_, ?_, ?_, ?_, trivial⟩
              · refine stepJ_any rfl fun ac W hAA hG hDD K hK => ?_
                have h4 := hAA.getD (t := 4) (by kernel_rfl)
                simp only [Array.getD_eq_getD_getElem?] at h4
                rw [if_pos (by rfl)]
                exact wp_val (v := .pointer (some ⟨wr.heap.size, 0, none⟩)) (w' := W) (by simp [execOp, Act.eval, h4, go_sem]) (hK _ _ hG (Below.refl _ _) rfl (fun h => by cases h))
              · refine stepJ_any rfl fun ac W hAA hG hDD K hK => ?_
                have h12 := hDD.get 0 12 _ rfl rfl (by kernel_rfl)
                simp only [Array.getD_eq_getD_getElem?] at h12
                obtain ⟨k0, k1⟩ := hL.out W hG
                rw [if_pos (by rfl)]
                exact wp_val (v := .int .i64 x0) (w' := W) (by simp [execOp, Act.eval, h12, go_sem, k0, k1]) (hK _ _ hG (Below.refl _ _) rfl (fun h => by cases h))
              · refine stepJ_any rfl fun ac W hAA hG hDD K hK => ?_
                have h4 := hAA.getD (t := 4) (by kernel_rfl)
                simp only [Array.getD_eq_getD_getElem?] at h4
                rw [if_pos (by rfl)]
                exact wp_val (v := .pointer (some ⟨wr.heap.size, 1, none⟩)) (w' := W) (by simp [execOp, Act.eval, h4, go_sem]) (hK _ _ hG (Below.refl _ _) rfl (fun h => by cases h))
              · refine stepJ_any rfl fun ac W hAA hG hDD K hK => ?_
                have h14 := hDD.get 2 14 _ rfl rfl (by kernel_rfl)
                simp only [Array.getD_eq_getD_getElem?] at h14
                obtain ⟨k0, k1⟩ := hL.out W hG
                rw [if_pos (by rfl)]
                exact wp_val (v := .int .i64 x1) (w' := W) (by simp [execOp, Act.eval, h14, go_sem, k0, k1]) (hK _ _ hG (Below.refl _ _) rfl (fun h => by cases h))
              · refine stepJ_any rfl fun ac W hAA hG hDD K hK => ?_
                have h13 := hDD.get 1 13 _ rfl rfl (by kernel_rfl)
                have h15 := hDD.get 3 15 _ rfl rfl (by kernel_rfl)
                simp only [Array.getD_eq_getD_getElem?] at h13 h15
                rw [if_pos (by rfl)]
                refine wp_call (f := 34) (args := #[.int .i64 x0, .int .i64 x1]) (by simp [execOp, Act.eval, h13, h15, go_sem]) ((hA.out W).mono fun e W9 he => ?_)
                obtain ⟨rfl, hbw⟩ := he
                exact hK _ _ (hG.trans (hbw.mono hG.size)) hbw rfl (fun h => by cases h)
              · refine stepJ_any rfl fun ac W hAA hG hDD K hK => ?_
                have h16 := hDD.get 4 16 _ rfl rfl (by kernel_rfl)
                simp only [Array.getD_eq_getD_getElem?] at h16
                rw [if_pos (by rfl)]
                exact wp_val (v := .bool false) (w' := W) (by simp [execOp, Act.eval, h16, go_sem]) (hK _ _ hG (Below.refl _ _) rfl (fun h => by cases h))
              · refine stepJ_any rfl fun ac W hAA hG hDD K hK => ?_
                have h17 := hDD.get 5 17 _ rfl rfl (by kernel_rfl)
                simp only [Array.getD_eq_getD_getElem?] at h17
                rw [if_pos (by rfl)]
                exact wp_val (v := .bool false) (w' := W) (by simp [execOp, Act.eval, h17, go_sem]) (hK _ _ hG (Below.refl _ _) rfl (fun h => by cases h))
              · refine stepJ_any rfl fun ac W hAA hG hDD K hK => ?_
                have h4 := hAA.getD (t := 4) (by kernel_rfl)
                have hgd := hDD.get 6 18 _ rfl rfl (by kernel_rfl)
                have hgd := slot_bool hgd
                simp only [Array.getD_eq_getD_getElem?] at h4
                obtain ⟨k0, k1⟩ := hL.out W hG
                rw [if_pos (by simp [Region.wanted, yielded, hgd])]
                exact wp_val (v := .agg #[.int .i64 x0, .int .i64 x1]) (w' := W) (by simp [execOp, Act.eval, h4, go_sem, k0, k1]) (hK _ _ hG (Below.refl _ _) rfl (fun h => by cases h))
              · refine stepJ_any rfl fun ac W hAA hG hDD K hK => ?_
                have h4 := hAA.getD (t := 4) (by kernel_rfl)
                have hgd := hDD.get 6 18 _ rfl rfl (by kernel_rfl)
                have hgd := slot_bool hgd
                simp only [Array.getD_eq_getD_getElem?] at h4
                rw [if_pos (by simp [Region.wanted, yielded, hgd])]
                exact wp_val (v := .pointer (some ⟨wr.heap.size, 0, none⟩)) (w' := W) (by simp [execOp, Act.eval, h4, go_sem]) (hK _ _ hG (Below.refl _ _) rfl (fun h => by cases h))
              · refine stepJ_any rfl fun ac W hAA hG hDD K hK => ?_
                have h20 := hDD.get 8 20 _ rfl rfl (by kernel_rfl)
                have hgd := hDD.get 6 18 _ rfl rfl (by kernel_rfl)
                have hgd := slot_bool hgd
                simp only [Array.getD_eq_getD_getElem?] at h20
                obtain ⟨k0, k1⟩ := hL.out W hG
                rw [if_pos (by simp [Region.wanted, yielded, hgd])]
                exact wp_val (v := .int .i64 x0) (w' := W) (by simp [execOp, Act.eval, h20, go_sem, k0, k1]) (hK _ _ hG (Below.refl _ _) rfl (fun h => by cases h))
              · refine stepJ_any rfl fun ac W hAA hG hDD K hK => ?_
                have h4 := hAA.getD (t := 4) (by kernel_rfl)
                have hgd := hDD.get 6 18 _ rfl rfl (by kernel_rfl)
                have hgd := slot_bool hgd
                simp only [Array.getD_eq_getD_getElem?] at h4
                rw [if_pos (by simp [Region.wanted, yielded, hgd])]
                exact wp_val (v := .pointer (some ⟨wr.heap.size, 1, none⟩)) (w' := W) (by simp [execOp, Act.eval, h4, go_sem]) (hK _ _ hG (Below.refl _ _) rfl (fun h => by cases h))
              · refine stepJ_any rfl fun ac W hAA hG hDD K hK => ?_
                have h22 := hDD.get 10 22 _ rfl rfl (by kernel_rfl)
                have hgd := hDD.get 6 18 _ rfl rfl (by kernel_rfl)
                have hgd := slot_bool hgd
                simp only [Array.getD_eq_getD_getElem?] at h22
                obtain ⟨k0, k1⟩ := hL.out W hG
                rw [if_pos (by simp [Region.wanted, yielded, hgd])]
                exact wp_val (v := .int .i64 x1) (w' := W) (by simp [execOp, Act.eval, h22, go_sem, k0, k1]) (hK _ _ hG (Below.refl _ _) rfl (fun h => by cases h))
              · refine stepJ_any rfl fun ac W hAA hG hDD K hK => ?_
                have h21 := hDD.get 9 21 _ rfl rfl (by kernel_rfl)
                have h23 := hDD.get 11 23 _ rfl rfl (by kernel_rfl)
                have hgd := hDD.get 6 18 _ rfl rfl (by kernel_rfl)
                have hgd := slot_bool hgd
                simp only [Array.getD_eq_getD_getElem?] at h21 h23
                rw [if_pos (by simp [Region.wanted, yielded, hgd])]
                refine wp_call (f := 35) (args := #[.int .i64 x0, .int .i64 x1]) (by simp [execOp, Act.eval, h21, h23, go_sem]) ((hP.out W).mono fun e W9 he => ?_)
                obtain ⟨rfl, hbw⟩ := he
                exact hK _ _ (hG.trans (hbw.mono hG.size)) hbw rfl (fun h => by cases h)
              · refine stepJ_any rfl fun ac W hAA hG hDD K hK => ?_
                have h19 := hDD.get 7 19 _ rfl rfl (by kernel_rfl)
                have h24 := hDD.get 12 24 _ rfl rfl (by kernel_rfl)
                have hgd := hDD.get 6 18 _ rfl rfl (by kernel_rfl)
                have hgd := slot_bool hgd
                simp only [Array.getD_eq_getD_getElem?] at h19 h24
                have heq := hEq.out W
                rw [if_pos (by simp [Region.wanted, yielded, hgd])]
                exact wp_val (v := .bool false) (w' := W) (by simp [execOp, Act.eval, h19, h24, go_sem, heq]) (hK _ _ hG (Below.refl _ _) rfl (fun h => by cases h))
              · refine stepJ_any rfl fun ac W hAA hG hDD K hK => ?_
                have h18 := hDD.get 6 18 _ rfl rfl (by kernel_rfl)
                have h25 := hDD.get 13 25 _ rfl rfl (by kernel_rfl)
                simp only [Array.getD_eq_getD_getElem?] at h18 h25
                rw [if_pos (by rfl)]
                exact wp_val (v := .bool false) (w' := W) (by simp [execOp, Act.eval, h18, h25, go_sem]) (hK _ _ hG (Below.refl _ _) rfl (fun h => by cases h))
              · refine stepJ_any rfl fun ac W hAA hG hDD K hK => ?_
                have h26 := hDD.get 14 26 _ rfl rfl (by kernel_rfl)
                simp only [Array.getD_eq_getD_getElem?] at h26
                rw [if_pos (by rfl)]
                exact wp_val (v := .bool false) (w' := W) (by simp [execOp, Act.eval, h26, go_sem]) (hK _ _ hG (Below.refl _ _) rfl (fun h => by cases h))
              · refine stepJ_any rfl fun ac W hAA hG hDD K hK => ?_
                have h3 := hAA.getD (t := 3) (by kernel_rfl)
                have hgd := hDD.get 15 27 _ rfl rfl (by kernel_rfl)
                have hgd := slot_bool hgd
                simp only [Array.getD_eq_getD_getElem?] at h3
                rw [if_pos (by simp [Region.wanted, yielded, hgd])]
                exact wp_val (v := .int .i64 (k : Int)) (w' := W) (by simp [execOp, Act.eval, h3, go_sem]) (hK _ _ hG (Below.refl _ _) rfl (fun h => by cases h))
              · refine stepJ_any rfl fun ac W hAA hG hDD K hK => ?_
                have h28 := hDD.get 16 28 _ rfl rfl (by kernel_rfl)
                have hgd := hDD.get 15 27 _ rfl rfl (by kernel_rfl)
                have hgd := slot_bool hgd
                simp only [Array.getD_eq_getD_getElem?] at h28
                have hk0 := hk0.out
                rw [if_pos (by simp [Region.wanted, yielded, hgd])]
                exact wp_val (v := .bool true) (w' := W) (by simp [execOp, Act.eval, h28, go_sem, hk0]) (hK _ _ hG (Below.refl _ _) rfl (fun h => by cases h))
              · refine stepJ_any rfl fun ac W hAA hG hDD K hK => ?_
                have h29 := hDD.get 17 29 _ rfl rfl (by kernel_rfl)
                have hgd := hDD.get 15 27 _ rfl rfl (by kernel_rfl)
                have hgd := slot_bool hgd
                simp only [Array.getD_eq_getD_getElem?] at h29
                rw [if_pos (by simp [Region.wanted, yielded, hgd])]
                exact wp_val (v := .bool true) (w' := W) (by simp [execOp, Act.eval, h29, go_sem]) (hK _ _ hG (Below.refl _ _) rfl (fun h => by cases h))
              · refine stepJ_any rfl fun ac W hAA hG hDD K hK => ?_
                have h0 := hAA.getD (t := 0) (by kernel_rfl)
                have hgd := hDD.get 18 30 _ rfl rfl (by kernel_rfl)
                have hgd := slot_bool hgd
                simp only [Array.getD_eq_getD_getElem?] at h0
                rw [if_pos (by simp [Region.wanted, yielded, hgd])]
                exact wp_val (v := .slice (some ⟨b, off, none⟩) ls.length c) (w' := W) (by simp [execOp, Act.eval, h0, go_sem]) (hK _ _ hG (Below.refl _ _) rfl (fun h => by cases h))
              · refine stepJ_any rfl fun ac W hAA hG hDD K hK => ?_
                have h3 := hAA.getD (t := 3) (by kernel_rfl)
                have hgd := hDD.get 18 30 _ rfl rfl (by kernel_rfl)
                have hgd := slot_bool hgd
                simp only [Array.getD_eq_getD_getElem?] at h3
                rw [if_pos (by simp [Region.wanted, yielded, hgd])]
                exact wp_val (v := .int .i64 (k : Int)) (w' := W) (by simp [execOp, Act.eval, h3, go_sem]) (hK _ _ hG (Below.refl _ _) rfl (fun h => by cases h))
              · refine stepJ_any rfl fun ac W hAA hG hDD K hK => ?_
                have h32 := hDD.get 20 32 _ rfl rfl (by kernel_rfl)
                have hgd := hDD.get 18 30 _ rfl rfl (by kernel_rfl)
                have hgd := slot_bool hgd
                simp only [Array.getD_eq_getD_getElem?] at h32
                have hks := hks.out
                rw [if_pos (by simp [Region.wanted, yielded, hgd])]
                exact wp_val (v := .int .i64 (m : Int)) (w' := W) (by simp [execOp, Act.eval, h32, go_sem, hks]) (hK _ _ hG (Below.refl _ _) rfl (fun h => by cases h))
              · refine stepJ_any rfl fun ac W hAA hG hDD K hK => ?_
                have h31 := hDD.get 19 31 _ rfl rfl (by kernel_rfl)
                have h33 := hDD.get 21 33 _ rfl rfl (by kernel_rfl)
                have hgd := hDD.get 18 30 _ rfl rfl (by kernel_rfl)
                have hgd := slot_bool hgd
                simp only [Array.getD_eq_getD_getElem?] at h31 h33
                have hix := hix.out
                rw [if_pos (by simp [Region.wanted, yielded, hgd])]
                exact wp_val (v := .pointer (some ⟨b, off + m * 2, none⟩)) (w' := W) (by simp [execOp, Act.eval, h31, h33, go_sem, hix]) (hK _ _ hG (Below.refl _ _) rfl (fun h => by cases h))
              · refine stepJ_any rfl fun ac W hAA hG hDD K hK => ?_
                have h34 := hDD.get 22 34 _ rfl rfl (by kernel_rfl)
                have hgd := hDD.get 18 30 _ rfl rfl (by kernel_rfl)
                have hgd := slot_bool hgd
                simp only [Array.getD_eq_getD_getElem?] at h34
                obtain ⟨k0, k1⟩ := hY.out W hG
                rw [if_pos (by simp [Region.wanted, yielded, hgd])]
                exact wp_val (v := .agg #[.int .i64 y.1, .int .i64 y.2]) (w' := W) (by simp [execOp, Act.eval, h34, go_sem, k0, k1]) (hK _ _ hG (Below.refl _ _) rfl (fun h => by cases h))
              · refine stepJ_any rfl fun ac W hAA hG hDD K hK => ?_
                have h4 := hAA.getD (t := 4) (by kernel_rfl)
                have hgd := hDD.get 18 30 _ rfl rfl (by kernel_rfl)
                have hgd := slot_bool hgd
                simp only [Array.getD_eq_getD_getElem?] at h4
                obtain ⟨k0, k1⟩ := hL.out W hG
                rw [if_pos (by simp [Region.wanted, yielded, hgd])]
                exact wp_val (v := .agg #[.int .i64 x0, .int .i64 x1]) (w' := W) (by simp [execOp, Act.eval, h4, go_sem, k0, k1]) (hK _ _ hG (Below.refl _ _) rfl (fun h => by cases h))
              · refine stepJ_any rfl fun ac W hAA hG hDD K hK => ?_
                have h35 := hDD.get 23 35 _ rfl rfl (by kernel_rfl)
                have h36 := hDD.get 24 36 _ rfl rfl (by kernel_rfl)
                have hgd := hDD.get 18 30 _ rfl rfl (by kernel_rfl)
                have hgd := slot_bool hgd
                simp only [Array.getD_eq_getD_getElem?] at h35 h36
                rw [if_pos (by simp [Region.wanted, yielded, hgd])]
                refine wp_call (f := 38) (args := #[.agg #[.int .i64 y.1, .int .i64 y.2], .agg #[.int .i64 x0, .int .i64 x1]]) (by simp [execOp, Act.eval, h35, h36, go_sem]) ((hC.out W).mono fun e W9 he => ?_)
                obtain ⟨rfl, hbw⟩ := he
                exact hK _ _ (hG.trans (hbw.mono hG.size)) hbw rfl (fun h => by cases h)
              · refine stepJ_any rfl fun ac W hAA hG hDD K hK => ?_
                have h37 := hDD.get 25 37 _ rfl rfl (by kernel_rfl)
                have hgd := hDD.get 18 30 _ rfl rfl (by kernel_rfl)
                have hgd := slot_bool hgd
                simp only [Array.getD_eq_getD_getElem?] at h37
                have hcg := hcg.out
                rw [if_pos (by simp [Region.wanted, yielded, hgd])]
                exact wp_val (v := .bool (!ltP y (x0, x1))) (w' := W) (by simp [execOp, Act.eval, h37, go_sem, hcg]) (hK _ _ hG (Below.refl _ _) rfl (fun h => by cases h))
              · refine stepJ_any rfl fun ac W hAA hG hDD K hK => ?_
                have h30 := hDD.get 18 30 _ rfl rfl (by kernel_rfl)
                have h38 := hDD.get 26 38 _ rfl rfl (by kernel_rfl)
                have hgd := hDD.get 15 27 _ rfl rfl (by kernel_rfl)
                have hgd := slot_bool hgd
                simp only [Array.getD_eq_getD_getElem?] at h30 h38
                rw [if_pos (by simp [Region.wanted, yielded, hgd])]
                exact wp_val (v := .bool (!ltP y (x0, x1))) (w' := W) (by simp [execOp, Act.eval, h30, h38, go_sem]) (hK _ _ hG (Below.refl _ _) rfl (fun h => by cases h))
              · refine stepJ_any rfl fun ac W hAA hG hDD K hK => ?_
                have h27 := hDD.get 15 27 _ rfl rfl (by kernel_rfl)
                have h39 := hDD.get 27 39 _ rfl rfl (by kernel_rfl)
                simp only [Array.getD_eq_getD_getElem?] at h27 h39
                rw [if_pos (by rfl)]
                exact wp_val (v := .bool (!ltP y (x0, x1))) (w' := W) (by simp [execOp, Act.eval, h27, h39, go_sem]) (hK _ _ hG (Below.refl _ _) rfl (fun h => by cases h))
            intro fu T W9 hG hF hne hltb
            have e12 : T 12 = .pointer (some ⟨wr.heap.size, 0, none⟩) := hF 0 _ rfl (by omega)
            have e13 : T 13 = .int .i64 x0 := hF 1 _ rfl (by omega)
            have e14 : T 14 = .pointer (some ⟨wr.heap.size, 1, none⟩) := hF 2 _ rfl (by omega)
            have e15 : T 15 = .int .i64 x1 := hF 3 _ rfl (by omega)
            have e16 : T 16 = .bool true := hF 4 _ rfl (by omega)
            have e17 : T 17 = .bool false := hF 5 _ rfl (by omega)
            have e18 : T 18 = .bool false := hF 6 _ rfl (by omega)
            have e19 : T 19 = .agg #[.int .i64 x0, .int .i64 x1] := hF 7 _ rfl (by omega)
            have e20 : T 20 = .pointer (some ⟨wr.heap.size, 0, none⟩) := hF 8 _ rfl (by omega)
            have e21 : T 21 = .int .i64 x0 := hF 9 _ rfl (by omega)
            have e22 : T 22 = .pointer (some ⟨wr.heap.size, 1, none⟩) := hF 10 _ rfl (by omega)
            have e23 : T 23 = .int .i64 x1 := hF 11 _ rfl (by omega)
            have e24 : T 24 = .agg #[.int .i64 (linkP x0 x1).1, .int .i64 (linkP x0 x1).2] := hF 12 _ rfl (by omega)
            have e25 : T 25 = .bool false := hF 13 _ rfl (by omega)
            have e26 : T 26 = .bool false := hF 14 _ rfl (by omega)
            have e27 : T 27 = .bool false := hF 15 _ rfl (by omega)
            have e28 : T 28 = .int .i64 (k : Int) := hF 16 _ rfl (by omega)
            have e29 : T 29 = .bool true := hF 17 _ rfl (by omega)
            have e30 : T 30 = .bool true := hF 18 _ rfl (by omega)
            have e31 : T 31 = .slice (some ⟨b, off, none⟩) ls.length c := hF 19 _ rfl (by omega)
            have e32 : T 32 = .int .i64 (k : Int) := hF 20 _ rfl (by omega)
            have e33 : T 33 = .int .i64 (m : Int) := hF 21 _ rfl (by omega)
            have e34 : T 34 = .pointer (some ⟨b, off + m * 2, none⟩) := hF 22 _ rfl (by omega)
            have e35 : T 35 = .agg #[.int .i64 y.1, .int .i64 y.2] := hF 23 _ rfl (by omega)
            have e36 : T 36 = .agg #[.int .i64 x0, .int .i64 x1] := hF 24 _ rfl (by omega)
            have e37 : T 37 = .int .i64 (cmpP y (x0, x1)) := hF 25 _ rfl (by omega)
            have e38 : T 38 = .bool (!ltP y (x0, x1)) := hF 26 _ rfl (by omega)
            have e39 : T 39 = .bool (!ltP y (x0, x1)) := hF 27 _ rfl (by omega)
            have e40 : T 40 = .bool (!ltP y (x0, x1)) := hF 28 _ rfl (by omega)
            clear hF hne hltb
            simp only [List.take, fillT, List.setIfInBounds_toArray, List.set_cons_zero, List.set_cons_succ, e12, e13, e14, e15, e16, e17, e18, e19, e20, e21, e22, e23, e24, e25, e26, e27, e28, e29, e30, e31, e32, e33, e34, e35, e36, e37, e38, e39, e40]
            clear e12 e13 e14 e15 e16 e17 e18 e19 e20 e21 e22 e23 e24 e25 e26 e27 e28 e29 e30 e31 e32 e33 e34 e35 e36 e37 e38 e39 e40
            refine wpAny_done (by kernel_rfl) ?_ _
            cases hlt2 : ltP y (x0, x1) with
            | true =>
              have hnx := Lib.hid (hn.out (by rw [hqq.out, hlt2]))
              clear hlt2 hqq hn ho
              go_wp2_with fail
              go_roundw
              case rel => exact ⟨k + 1, by omega, by go_num, hnx.out, hfin.out _ hG⟩
              case measure => simp [intOf]; omega
            | false =>
              have hv := Lib.hid (ho.out (by rw [hqq.out, hlt2]))
              clear hlt2 hqq hn ho
              go_wp2_with fail
              go_ret
              exact ⟨retB hv.out.symm, hfin.out _ hG⟩
        · have hEq : Hid (∀ W, (Op.equalIn 10000 55 (.agg #[.int .i64 x0, .int .i64 x1]) (.agg #[.int .i64 (linkP x0 x1).1, .int .i64 (linkP x0 x1).2])).run Try.prog W = .ok false W) := fun W => by
            rw [run_equalIn_two W 9998 55 3 Try.underlying55 Try.underlying3 Try.sizeOf3]
            congr 1
            rw [Bool.and_eq_false_iff, decide_eq_false_iff_not, decide_eq_false_iff_not]
            exact Decidable.not_and_iff_or_not.1 fun h => hne (Prod.ext h.1 h.2)
          have hv := Lib.hid (ho.out (by rw [hq.out, hkp.out, hx, decide_eq_false hne]; rfl))
          clear hx hq hkp ho hn hall hne
          refine wp_region_pre 29 0 (fun W => Below V.heap.size V W) (fun W W' => Below W.heap.size W W')
            (fun i v W => match i with
              | 0 => v = .pointer (some ⟨wr.heap.size, 0, none⟩)
              | 1 => v = .int .i64 x0
              | 2 => v = .pointer (some ⟨wr.heap.size, 1, none⟩)
              | 3 => v = .int .i64 x1
              | 4 => v = .bool true
              | 5 => v = .bool false
              | 6 => v = .bool false
              | 7 => v = .agg #[.int .i64 x0, .int .i64 x1]
              | 8 => v = .pointer (some ⟨wr.heap.size, 0, none⟩)
              | 9 => v = .int .i64 x0
              | 10 => v = .pointer (some ⟨wr.heap.size, 1, none⟩)
              | 11 => v = .int .i64 x1
              | 12 => v = .agg #[.int .i64 (linkP x0 x1).1, .int .i64 (linkP x0 x1).2]
              | 13 => v = .bool true
              | 14 => v = .bool true
              | 15 => v = .bool true
              | 16 => v = undef
              | 17 => v = undef
              | 18 => v = undef
              | 19 => v = undef
              | 20 => v = undef
              | 21 => v = undef
              | 22 => v = undef
              | 23 => v = undef
              | 24 => v = undef
              | 25 => v = undef
              | 26 => v = undef
              | 27 => v = undef
              | 28 => v = .bool true
              | _ => True) (fun _ => false)
            (by kernel_rfl) (by kernel_rfl) (by kernel_rfl) (by kernel_rfl) (by kernel_rfl) (by kernel_rfl) (by kernel_rfl) ?_ (fun _ _ h => h.size) (dN (Below.refl _ _) 1) ?_ ?_
          · intro i v W W' hb hF
            match i, hF with
            | 0, h => exact h
            | 1, h => exact h
            | 2, h => exact h
            | 3, h => exact h
            | 4, h => exact h
            | 5, h => exact h
            | 6, h => exact h
            | 7, h => exact h
            | 8, h => exact h
            | 9, h => exact h
            | 10, h => exact h
            | 11, h => exact h
            | 12, h => exact h
            | 13, h => exact h
            | 14, h => exact h
            | 15, h => exact h
            | 16, h => exact h
            | 17, h => exact h
            | 18, h => exact h
            | 19, h => exact h
            | 20, h => exact h
            | 21, h => exact h
            | 22, h => exact h
            | 23, h => exact h
            | 24, h => exact h
            | 25, h => exact h
            | 26, h => exact h
            | 27, h => exact h
            | 28, h => exact h
            | _ + 29, _ => trivial
          · refine ⟨?_, ?_, ?_, ?_, ?_, ?_, ?_, ?_, ?_, ?_, ?_, ?_, ?_, ?_, ?_, ?_, ?_, ?_, ?_, ?_, ?_, ?_, ?_, ?_, ?_, ?_, ?_, ?_, ?_, trivial⟩
            · refine stepJ_any rfl fun ac W hAA hG hDD K hK => ?_
              have h4 := hAA.getD (t := 4) (by kernel_rfl)
              simp only [Array.getD_eq_getD_getElem?] at h4
              rw [if_pos (by rfl)]
              exact wp_val (v := .pointer (some ⟨wr.heap.size, 0, none⟩)) (w' := W) (by simp [execOp, Act.eval, h4, go_sem]) (hK _ _ hG (Below.refl _ _) rfl (fun h => by cases h))
            · refine stepJ_any rfl fun ac W hAA hG hDD K hK => ?_
              have h12 := hDD.get 0 12 _ rfl rfl (by kernel_rfl)
              simp only [Array.getD_eq_getD_getElem?] at h12
              obtain ⟨k0, k1⟩ := hL.out W hG
              rw [if_pos (by rfl)]
              exact wp_val (v := .int .i64 x0) (w' := W) (by simp [execOp, Act.eval, h12, go_sem, k0, k1]) (hK _ _ hG (Below.refl _ _) rfl (fun h => by cases h))
            · refine stepJ_any rfl fun ac W hAA hG hDD K hK => ?_
              have h4 := hAA.getD (t := 4) (by kernel_rfl)
              simp only [Array.getD_eq_getD_getElem?] at h4
              rw [if_pos (by rfl)]
              exact wp_val (v := .pointer (some ⟨wr.heap.size, 1, none⟩)) (w' := W) (by simp [execOp, Act.eval, h4, go_sem]) (hK _ _ hG (Below.refl _ _) rfl (fun h => by cases h))
            · refine stepJ_any rfl fun ac W hAA hG hDD K hK => ?_
              have h14 := hDD.get 2 14 _ rfl rfl (by kernel_rfl)
              simp only [Array.getD_eq_getD_getElem?] at h14
              obtain ⟨k0, k1⟩ := hL.out W hG
              rw [if_pos (by rfl)]
              exact wp_val (v := .int .i64 x1) (w' := W) (by simp [execOp, Act.eval, h14, go_sem, k0, k1]) (hK _ _ hG (Below.refl _ _) rfl (fun h => by cases h))
            · refine stepJ_any rfl fun ac W hAA hG hDD K hK => ?_
              have h13 := hDD.get 1 13 _ rfl rfl (by kernel_rfl)
              have h15 := hDD.get 3 15 _ rfl rfl (by kernel_rfl)
              simp only [Array.getD_eq_getD_getElem?] at h13 h15
              rw [if_pos (by rfl)]
              refine wp_call (f := 34) (args := #[.int .i64 x0, .int .i64 x1]) (by simp [execOp, Act.eval, h13, h15, go_sem]) ((hA.out W).mono fun e W9 he => ?_)
              obtain ⟨rfl, hbw⟩ := he
              exact hK _ _ (hG.trans (hbw.mono hG.size)) hbw rfl (fun h => by cases h)
            · refine stepJ_any rfl fun ac W hAA hG hDD K hK => ?_
              have h16 := hDD.get 4 16 _ rfl rfl (by kernel_rfl)
              simp only [Array.getD_eq_getD_getElem?] at h16
              rw [if_pos (by rfl)]
              exact wp_val (v := .bool false) (w' := W) (by simp [execOp, Act.eval, h16, go_sem]) (hK _ _ hG (Below.refl _ _) rfl (fun h => by cases h))
            · refine stepJ_any rfl fun ac W hAA hG hDD K hK => ?_
              have h17 := hDD.get 5 17 _ rfl rfl (by kernel_rfl)
              simp only [Array.getD_eq_getD_getElem?] at h17
              rw [if_pos (by rfl)]
              exact wp_val (v := .bool false) (w' := W) (by simp [execOp, Act.eval, h17, go_sem]) (hK _ _ hG (Below.refl _ _) rfl (fun h => by cases h))
            · refine stepJ_any rfl fun ac W hAA hG hDD K hK => ?_
              have h4 := hAA.getD (t := 4) (by kernel_rfl)
              have hgd := hDD.get 6 18 _ rfl rfl (by kernel_rfl)
              have hgd := slot_bool hgd
              simp only [Array.getD_eq_getD_getElem?] at h4
              obtain ⟨k0, k1⟩ := hL.out W hG
              rw [if_pos (by simp [Region.wanted, yielded, hgd])]
              exact wp_val (v := .agg #[.int .i64 x0, .int .i64 x1]) (w' := W) (by simp [execOp, Act.eval, h4, go_sem, k0, k1]) (hK _ _ hG (Below.refl _ _) rfl (fun h => by cases h))
            · refine stepJ_any rfl fun ac W hAA hG hDD K hK => ?_
              have h4 := hAA.getD (t := 4) (by kernel_rfl)
              have hgd := hDD.get 6 18 _ rfl rfl (by kernel_rfl)
              have hgd := slot_bool hgd
              simp only [Array.getD_eq_getD_getElem?] at h4
              rw [if_pos (by simp [Region.wanted, yielded, hgd])]
              exact wp_val (v := .pointer (some ⟨wr.heap.size, 0, none⟩)) (w' := W) (by simp [execOp, Act.eval, h4, go_sem]) (hK _ _ hG (Below.refl _ _) rfl (fun h => by cases h))
            · refine stepJ_any rfl fun ac W hAA hG hDD K hK => ?_
              have h20 := hDD.get 8 20 _ rfl rfl (by kernel_rfl)
              have hgd := hDD.get 6 18 _ rfl rfl (by kernel_rfl)
              have hgd := slot_bool hgd
              simp only [Array.getD_eq_getD_getElem?] at h20
              obtain ⟨k0, k1⟩ := hL.out W hG
              rw [if_pos (by simp [Region.wanted, yielded, hgd])]
              exact wp_val (v := .int .i64 x0) (w' := W) (by simp [execOp, Act.eval, h20, go_sem, k0, k1]) (hK _ _ hG (Below.refl _ _) rfl (fun h => by cases h))
            · refine stepJ_any rfl fun ac W hAA hG hDD K hK => ?_
              have h4 := hAA.getD (t := 4) (by kernel_rfl)
              have hgd := hDD.get 6 18 _ rfl rfl (by kernel_rfl)
              have hgd := slot_bool hgd
              simp only [Array.getD_eq_getD_getElem?] at h4
              rw [if_pos (by simp [Region.wanted, yielded, hgd])]
              exact wp_val (v := .pointer (some ⟨wr.heap.size, 1, none⟩)) (w' := W) (by simp [execOp, Act.eval, h4, go_sem]) (hK _ _ hG (Below.refl _ _) rfl (fun h => by cases h))
            · refine stepJ_any rfl fun ac W hAA hG hDD K hK => ?_
              have h22 := hDD.get 10 22 _ rfl rfl (by kernel_rfl)
              have hgd := hDD.get 6 18 _ rfl rfl (by kernel_rfl)
              have hgd := slot_bool hgd
              simp only [Array.getD_eq_getD_getElem?] at h22
              obtain ⟨k0, k1⟩ := hL.out W hG
              rw [if_pos (by simp [Region.wanted, yielded, hgd])]
              exact wp_val (v := .int .i64 x1) (w' := W) (by simp [execOp, Act.eval, h22, go_sem, k0, k1]) (hK _ _ hG (Below.refl _ _) rfl (fun h => by cases h))
            · refine stepJ_any rfl fun ac W hAA hG hDD K hK => ?_
              have h21 := hDD.get 9 21 _ rfl rfl (by kernel_rfl)
              have h23 := hDD.get 11 23 _ rfl rfl (by kernel_rfl)
              have hgd := hDD.get 6 18 _ rfl rfl (by kernel_rfl)
              have hgd := slot_bool hgd
              simp only [Array.getD_eq_getD_getElem?] at h21 h23
              rw [if_pos (by simp [Region.wanted, yielded, hgd])]
              refine wp_call (f := 35) (args := #[.int .i64 x0, .int .i64 x1]) (by simp [execOp, Act.eval, h21, h23, go_sem]) ((hP.out W).mono fun e W9 he => ?_)
              obtain ⟨rfl, hbw⟩ := he
              exact hK _ _ (hG.trans (hbw.mono hG.size)) hbw rfl (fun h => by cases h)
            · refine stepJ_any rfl fun ac W hAA hG hDD K hK => ?_
              have h19 := hDD.get 7 19 _ rfl rfl (by kernel_rfl)
              have h24 := hDD.get 12 24 _ rfl rfl (by kernel_rfl)
              have hgd := hDD.get 6 18 _ rfl rfl (by kernel_rfl)
              have hgd := slot_bool hgd
              simp only [Array.getD_eq_getD_getElem?] at h19 h24
              have heq := hEq.out W
              rw [if_pos (by simp [Region.wanted, yielded, hgd])]
              exact wp_val (v := .bool true) (w' := W) (by simp [execOp, Act.eval, h19, h24, go_sem, heq]) (hK _ _ hG (Below.refl _ _) rfl (fun h => by cases h))
            · refine stepJ_any rfl fun ac W hAA hG hDD K hK => ?_
              have h18 := hDD.get 6 18 _ rfl rfl (by kernel_rfl)
              have h25 := hDD.get 13 25 _ rfl rfl (by kernel_rfl)
              simp only [Array.getD_eq_getD_getElem?] at h18 h25
              rw [if_pos (by rfl)]
              exact wp_val (v := .bool true) (w' := W) (by simp [execOp, Act.eval, h18, h25, go_sem]) (hK _ _ hG (Below.refl _ _) rfl (fun h => by cases h))
            · refine stepJ_any rfl fun ac W hAA hG hDD K hK => ?_
              have h26 := hDD.get 14 26 _ rfl rfl (by kernel_rfl)
              simp only [Array.getD_eq_getD_getElem?] at h26
              rw [if_pos (by rfl)]
              exact wp_val (v := .bool true) (w' := W) (by simp [execOp, Act.eval, h26, go_sem]) (hK _ _ hG (Below.refl _ _) rfl (fun h => by cases h))
            · refine stepJ_any rfl fun ac W hAA hG hDD K hK => ?_
              have hgd := hDD.get 15 27 _ rfl rfl (by kernel_rfl)
              have hgd := slot_bool hgd
              rw [if_neg (by simp [Region.wanted, yielded, hgd])]
              exact hK undef W hG (Below.refl _ _) rfl (fun h => by cases h)
            · refine stepJ_any rfl fun ac W hAA hG hDD K hK => ?_
              have hgd := hDD.get 15 27 _ rfl rfl (by kernel_rfl)
              have hgd := slot_bool hgd
              rw [if_neg (by simp [Region.wanted, yielded, hgd])]
              exact hK undef W hG (Below.refl _ _) rfl (fun h => by cases h)
            · refine stepJ_any rfl fun ac W hAA hG hDD K hK => ?_
              have hgd := hDD.get 15 27 _ rfl rfl (by kernel_rfl)
              have hgd := slot_bool hgd
              rw [if_neg (by simp [Region.wanted, yielded, hgd])]
              exact hK undef W hG (Below.refl _ _) rfl (fun h => by cases h)
            · refine stepJ_any rfl fun ac W hAA hG hDD K hK => ?_
              have hgd := hDD.get 18 30 _ rfl rfl (by kernel_rfl)
              have hgd := slot_undef hgd
              rw [if_neg (by rcases hgd with hgd | hgd <;> simp [Region.wanted, yielded, hgd, undef])]
              exact hK undef W hG (Below.refl _ _) rfl (fun h => by cases h)
            · refine stepJ_any rfl fun ac W hAA hG hDD K hK => ?_
              have hgd := hDD.get 18 30 _ rfl rfl (by kernel_rfl)
              have hgd := slot_undef hgd
              rw [if_neg (by rcases hgd with hgd | hgd <;> simp [Region.wanted, yielded, hgd, undef])]
              exact hK undef W hG (Below.refl _ _) rfl (fun h => by cases h)
            · refine stepJ_any rfl fun ac W hAA hG hDD K hK => ?_
              have hgd := hDD.get 18 30 _ rfl rfl (by kernel_rfl)
              have hgd := slot_undef hgd
              rw [if_neg (by rcases hgd with hgd | hgd <;> simp [Region.wanted, yielded, hgd, undef])]
              exact hK undef W hG (Below.refl _ _) rfl (fun h => by cases h)
            · refine stepJ_any rfl fun ac W hAA hG hDD K hK => ?_
              have hgd := hDD.get 18 30 _ rfl rfl (by kernel_rfl)
              have hgd := slot_undef hgd
              rw [if_neg (by rcases hgd with hgd | hgd <;> simp [Region.wanted, yielded, hgd, undef])]
              exact hK undef W hG (Below.refl _ _) rfl (fun h => by cases h)
            · refine stepJ_any rfl fun ac W hAA hG hDD K hK => ?_
              have hgd := hDD.get 18 30 _ rfl rfl (by kernel_rfl)
              have hgd := slot_undef hgd
              rw [if_neg (by rcases hgd with hgd | hgd <;> simp [Region.wanted, yielded, hgd, undef])]
              exact hK undef W hG (Below.refl _ _) rfl (fun h => by cases h)
            · refine stepJ_any rfl fun ac W hAA hG hDD K hK => ?_
              have hgd := hDD.get 18 30 _ rfl rfl (by kernel_rfl)
              have hgd := slot_undef hgd
              rw [if_neg (by rcases hgd with hgd | hgd <;> simp [Region.wanted, yielded, hgd, undef])]
              exact hK undef W hG (Below.refl _ _) rfl (fun h => by cases h)
            · refine stepJ_any rfl fun ac W hAA hG hDD K hK => ?_
              have hgd := hDD.get 18 30 _ rfl rfl (by kernel_rfl)
              have hgd := slot_undef hgd
              rw [if_neg (by rcases hgd with hgd | hgd <;> simp [Region.wanted, yielded, hgd, undef])]
              exact hK undef W hG (Below.refl _ _) rfl (fun h => by cases h)
            · refine stepJ_any rfl fun ac W hAA hG hDD K hK => ?_
              have hgd := hDD.get 18 30 _ rfl rfl (by kernel_rfl)
              have hgd := slot_undef hgd
              rw [if_neg (by rcases hgd with hgd | hgd <;> simp [Region.wanted, yielded, hgd, undef])]
              exact hK undef W hG (Below.refl _ _) rfl (fun h => by cases h)
            · refine stepJ_any rfl fun ac W hAA hG hDD K hK => ?_
              have hgd := hDD.get 15 27 _ rfl rfl (by kernel_rfl)
              have hgd := slot_bool hgd
              rw [if_neg (by simp [Region.wanted, yielded, hgd])]
              exact hK undef W hG (Below.refl _ _) rfl (fun h => by cases h)
            · refine stepJ_any rfl fun ac W hAA hG hDD K hK => ?_
              have h27 := hDD.get 15 27 _ rfl rfl (by kernel_rfl)
              have h39 := hDD.get 27 39 _ rfl rfl (by kernel_rfl)
              simp only [Array.getD_eq_getD_getElem?] at h27 h39
              rw [if_pos (by rfl)]
              exact wp_val (v := .bool true) (w' := W) (by simp [execOp, Act.eval, h27, h39, go_sem]) (hK _ _ hG (Below.refl _ _) rfl (fun h => by cases h))
          intro fu T W9 hG hF hne hltb
          have e12 : T 12 = .pointer (some ⟨wr.heap.size, 0, none⟩) := hF 0 _ rfl (by omega)
          have e13 : T 13 = .int .i64 x0 := hF 1 _ rfl (by omega)
          have e14 : T 14 = .pointer (some ⟨wr.heap.size, 1, none⟩) := hF 2 _ rfl (by omega)
          have e15 : T 15 = .int .i64 x1 := hF 3 _ rfl (by omega)
          have e16 : T 16 = .bool true := hF 4 _ rfl (by omega)
          have e17 : T 17 = .bool false := hF 5 _ rfl (by omega)
          have e18 : T 18 = .bool false := hF 6 _ rfl (by omega)
          have e19 : T 19 = .agg #[.int .i64 x0, .int .i64 x1] := hF 7 _ rfl (by omega)
          have e20 : T 20 = .pointer (some ⟨wr.heap.size, 0, none⟩) := hF 8 _ rfl (by omega)
          have e21 : T 21 = .int .i64 x0 := hF 9 _ rfl (by omega)
          have e22 : T 22 = .pointer (some ⟨wr.heap.size, 1, none⟩) := hF 10 _ rfl (by omega)
          have e23 : T 23 = .int .i64 x1 := hF 11 _ rfl (by omega)
          have e24 : T 24 = .agg #[.int .i64 (linkP x0 x1).1, .int .i64 (linkP x0 x1).2] := hF 12 _ rfl (by omega)
          have e25 : T 25 = .bool true := hF 13 _ rfl (by omega)
          have e26 : T 26 = .bool true := hF 14 _ rfl (by omega)
          have e27 : T 27 = .bool true := hF 15 _ rfl (by omega)
          have e28 : T 28 = undef := hF 16 _ rfl (by omega)
          have e29 : T 29 = undef := hF 17 _ rfl (by omega)
          have e30 : T 30 = undef := hF 18 _ rfl (by omega)
          have e31 : T 31 = undef := hF 19 _ rfl (by omega)
          have e32 : T 32 = undef := hF 20 _ rfl (by omega)
          have e33 : T 33 = undef := hF 21 _ rfl (by omega)
          have e34 : T 34 = undef := hF 22 _ rfl (by omega)
          have e35 : T 35 = undef := hF 23 _ rfl (by omega)
          have e36 : T 36 = undef := hF 24 _ rfl (by omega)
          have e37 : T 37 = undef := hF 25 _ rfl (by omega)
          have e38 : T 38 = undef := hF 26 _ rfl (by omega)
          have e39 : T 39 = undef := hF 27 _ rfl (by omega)
          have e40 : T 40 = .bool true := hF 28 _ rfl (by omega)
          clear hF hne hltb
          simp only [List.take, fillT, List.setIfInBounds_toArray, List.set_cons_zero, List.set_cons_succ, e12, e13, e14, e15, e16, e17, e18, e19, e20, e21, e22, e23, e24, e25, e26, e27, e28, e29, e30, e31, e32, e33, e34, e35, e36, e37, e38, e39, e40]
          clear e12 e13 e14 e15 e16 e17 e18 e19 e20 e21 e22 e23 e24 e25 e26 e27 e28 e29 e30 e31 e32 e33 e34 e35 e36 e37 e38 e39 e40
          refine wpAny_done (by kernel_rfl) ?_ _
          go_wp2_with fail
          go_ret
          exact ⟨retB hv.out.symm, hfin.out _ hG⟩
    · have hv := Lib.hid (show apB ls = true by have := hall.out; rwa [show k = ls.length by omega] at this)
      have hle : ¬ ((k : Int) < ls.length) := by omega
      have hb' := Lib.hid hb
      clear hlt hall hb
      go_wp2_with fail
      go_ret
      exact ⟨retB hv.out.symm, hb'.out⟩
end Go.Proofs.Ytpmmahlmfcbbbaa
