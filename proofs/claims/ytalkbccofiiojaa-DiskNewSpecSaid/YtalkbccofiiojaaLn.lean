/- DiskNewSpec: the law. -/
import Derived.Test.YtalkbccofiiojaaRn
import Derived.Test.YtalkbccofiiojaaLr
namespace Go.Proofs.Ytalkbccofiiojaa
open Go.RowKit

set_option maxRecDepth 100000 in
set_option maxHeartbeats 8000000 in
theorem news_any (n : Int) (d : Dk) (w : World) (A A' : Option Addr) (c c' : Nat) (hd : DR w (· < w.heap.size) A c A' c' d) :
    Calls Try.prog 3 #[.int .i64 n, .agg #[.slice A d.secs.length c, .slice A' d.pend.length c', .int .i64 d.left, .bool d.stop]] w fun e w' => e = .returned (.bool true) ∧ Below w.heap.size w w' := by
  have H := Lib.hid (Held.init w A A' c c' d)
  have hdh := Lib.hid hd
  clear hd
  obtain ⟨x, m, hq⟩ : ∃ x m, newD n = (x, m) := ⟨_, _, rfl⟩
  have hq := Lib.hid hq
  go_enter Try.func3, Try.ntmps3
  go_wp2_with fail
  refine (sane_any _).mono ?_
  rintro e w1 ⟨rfl, hb⟩
  have H := Lib.hid (H.out.step hb)
  clear hb
  have hFew := fun (W : World) (h : DR W (· < W.heap.size) A c A' c' d) => Few_any d W A A' c c' h
  have hFew := Lib.hid hFew
  obtain ⟨y0, y1, y2, y3⟩ := H.out.kb.cells
  by_cases h1 : (60 : Int) < n
  · have e1 : decide ((60 : Int) < n) = true := decide_eq_true h1
    by_cases h2 : n ≤ (4096 : Int)
    · have e2 : decide (n ≤ (4096 : Int)) = true := decide_eq_true h2
      go_wp2_with fail
      go_ret
      exact ⟨rfl, H.out.below⟩
    · have e2 : decide (n ≤ (4096 : Int)) = false := decide_eq_false h2
      go_wp2_with fail
      refine (hFew.out w1 (H.out.drw hdh.out)).mono ?_
      rintro e w2 ⟨⟨f, rfl⟩, hb⟩
      have H := Lib.hid (H.out.step hb)
      clear hb y0 y1 y2 y3 hFew
      cases f with
      | false =>
        go_wp2_with fail
        go_ret
        exact ⟨rfl, H.out.below⟩
      | true =>
        go_wp2_with fail
        refine (New_any n w2).mono ?_
        intro e w3 hp
        obtain ⟨A1, c1, A1', c1', rfl, hdx, hb⟩ := hp.get hq.out
        have hdx := Lib.hid (hdx.mono (S' := (· < w3.heap.size)) fun b h => Sn.lt (fun _ h => h.elim) hb b h)
        have H := Lib.hid (H.out.step hb)
        clear hp hb
        have hbn := bnew w3 (.cells #[.slice A1 x.secs.length c1, .slice A1' x.pend.length c1', .int .i64 x.left, .bool x.stop] 25)
        have H := H.out.step hbn
        have hdx := hdx.out.step hbn
        have hkx := KB.new w3 A1 A1' c1 c1' x
        clear hbn
        go_wp2_with fail
        generalize w3.alloc (.cells #[.slice A1 x.secs.length c1, .slice A1' x.pend.length c1', .int .i64 x.left, .bool x.stop] 25) = V3 at *
        have H := Lib.hid H
        have hdx := Lib.hid hdx
        have hkx := Lib.hid hkx
        refine (rNew_any n V3).mono ?_
        intro e w4 hp
        obtain ⟨A2, c2, A2', c2', rfl, hdz, hb⟩ := hp.get hq.out
        have hdz := Lib.hid (hdz.mono (S' := (· < w4.heap.size)) fun b h => Sn.lt (fun _ h => h.elim) hb b h)
        have H := Lib.hid (H.out.step hb)
        have hdx := Lib.hid (hdx.out.step hb)
        have hkx := Lib.hid (hkx.out.step hb)
        clear hp hb
        have hbn := bnew w4 (.cells #[.slice A2 x.secs.length c2, .slice A2' x.pend.length c2', .int .i64 x.left, .bool x.stop] 25)
        have H := H.out.step hbn
        have hdx := hdx.out.step hbn
        have hkx := hkx.out.step hbn
        have hdz := hdz.out.step hbn
        have hkz := KB.new w4 A2 A2' c2 c2' x
        clear hbn
        go_wp2_with fail
        generalize w4.alloc (.cells #[.slice A2 x.secs.length c2, .slice A2' x.pend.length c2', .int .i64 x.left, .bool x.stop] 25) = V4 at *
        have H := Lib.hid H
        have hdx := Lib.hid hdx
        have hkx := Lib.hid hkx
        have hdz := Lib.hid hdz
        have hkz := Lib.hid hkz
        refine wp_region_pre 23 0 (fun W => Below V4.heap.size V4 W) (fun W W' => Below W.heap.size W W')
          (fun i v W => match i with
            | 0 => v = .agg #[.slice A1 x.secs.length c1, .slice A1' x.pend.length c1', .int .i64 x.left, .bool x.stop]
            | 1 => v = .agg #[.slice A2 x.secs.length c2, .slice A2' x.pend.length c2', .int .i64 x.left, .bool x.stop]
            | 2 => v = .bool true
            | 3 => v = .bool true
            | 4 => v = .int .i64 m
            | 5 => v = .int .i64 m
            | 6 => v = .bool true
            | 7 => v = .bool true
            | 8 => v = .bool true
            | 9 => v = .agg #[.slice A d.secs.length c, .slice A' d.pend.length c', .int .i64 d.left, .bool d.stop]
            | 10 => v = .int .i64 (chk d)
            | 11 => v = .agg #[.slice A d.secs.length c, .slice A' d.pend.length c', .int .i64 d.left, .bool d.stop]
            | 12 => v = .int .i64 (chk d)
            | 13 => v = .bool true
            | 14 => v = .bool true
            | 15 => v = .bool true
            | 16 => v = .agg #[.slice A d.secs.length c, .slice A' d.pend.length c', .int .i64 d.left, .bool d.stop]
            | 17 => v = .agg #[.slice A d.secs.length c, .slice none 0 0, .int .i64 (-1), .bool false]
            | 18 => v = .agg #[.slice A d.secs.length c, .slice A' d.pend.length c', .int .i64 d.left, .bool d.stop]
            | 19 => v = .agg #[.slice A d.secs.length c, .slice none 0 0, .int .i64 (-1), .bool false]
            | 20 => v = .bool true
            | 21 => v = .bool true
            | 22 => v = .bool true
            | _ => True) (fun _ => false)
          (by kernel_rfl) (by kernel_rfl) (by kernel_rfl) (by kernel_rfl) (by kernel_rfl) (by kernel_rfl) (by kernel_rfl) ?_ (fun _ _ h => h.size) (dN (Below.refl _ _) 1) ?_ ?_
        · intro i v W W' hb hF
          match i, hF with
          | 0, h => exact h
          | 1, h => exact h
          | 2, h => exact h
          | 3, h => exact h
          | 4, h => exact h
          | 5, h => exact h
          | 6, h => exact h
          | 7, h => exact h
          | 8, h => exact h
          | 9, h => exact h
          | 10, h => exact h
          | 11, h => exact h
          | 12, h => exact h
          | 13, h => exact h
          | 14, h => exact h
          | 15, h => exact h
          | 16, h => exact h
          | 17, h => exact h
          | 18, h => exact h
          | 19, h => exact h
          | 20, h => exact h
          | 21, h => exact h
          | 22, h => exact h
          | _ + 23, _ => trivial
        · refine ⟨?_, ?_, ?_, ?_, ?_, ?_, ?_, ?_, ?_, ?_, ?_, ?_, ?_, ?_, ?_, ?_, ?_, ?_, ?_, ?_, ?_, ?_, ?_, trivial⟩
          · refine stepJ_any rfl fun ac W hA hG hD K hK => ?_
            have h5 := hA.getD (t := 5) (by kernel_rfl)
            simp only [Array.getD_eq_getD_getElem?] at h5
            obtain ⟨k0, k1, k2, k3⟩ := (hkx.out.step hG).cells
            rw [if_pos (by rfl)]
            exact wp_val (v := .agg #[.slice A1 x.secs.length c1, .slice A1' x.pend.length c1', .int .i64 x.left, .bool x.stop]) (w' := W) (by simp [execOp, Act.eval, h5, go_sem, k0, k1, k2, k3]) (hK _ _ hG (Below.refl _ _) rfl (fun h => by cases h))
          · refine stepJ_any rfl fun ac W hA hG hD K hK => ?_
            have h7 := hA.getD (t := 7) (by kernel_rfl)
            simp only [Array.getD_eq_getD_getElem?] at h7
            obtain ⟨k0, k1, k2, k3⟩ := (hkz.out.step hG).cells
            rw [if_pos (by rfl)]
            exact wp_val (v := .agg #[.slice A2 x.secs.length c2, .slice A2' x.pend.length c2', .int .i64 x.left, .bool x.stop]) (w' := W) (by simp [execOp, Act.eval, h7, go_sem, k0, k1, k2, k3]) (hK _ _ hG (Below.refl _ _) rfl (fun h => by cases h))
          · refine stepJ_any rfl fun ac W hA hG hD K hK => ?_
            have h32 := hD.get 0 32 _ rfl rfl (by kernel_rfl)
            have h33 := hD.get 1 33 _ rfl rfl (by kernel_rfl)
            simp only [Array.getD_eq_getD_getElem?] at h32 h33
            rw [if_pos (by rfl)]
            refine wp_call (f := 14) (args := #[.agg #[.slice A1 x.secs.length c1, .slice A1' x.pend.length c1', .int .i64 x.left, .bool x.stop], .agg #[.slice A2 x.secs.length c2, .slice A2' x.pend.length c2', .int .i64 x.left, .bool x.stop]]) (by simp [execOp, Act.eval, h32, h33, go_sem]) ((Same_any x W A1 A1' A2 A2' c1 c1' c2 c2' (hdx.out.step hG) (hdz.out.step hG)).mono fun e W' he => ?_)
            obtain ⟨rfl, hbw⟩ := he
            exact hK _ _ (hG.trans (hbw.mono hG.size)) hbw rfl (fun h => by cases h)
          · refine stepJ_any rfl fun ac W hA hG hD K hK => ?_
            have h34 := hD.get 2 34 _ rfl rfl (by kernel_rfl)
            simp only [Array.getD_eq_getD_getElem?] at h34
            rw [if_pos (by rfl)]
            exact wp_val (v := .bool true) (w' := W) (by simp [execOp, Act.eval, h34, go_sem]) (hK _ _ hG (Below.refl _ _) rfl (fun h => by cases h))
          · refine stepJ_any rfl fun ac W hA hG hD K hK => ?_
            have h6 := hA.getD (t := 6) (by kernel_rfl)
            have hgd := hD.get 3 35 _ rfl rfl (by kernel_rfl)
            have hgd := slot_bool hgd
            simp only [Array.getD_eq_getD_getElem?] at h6
            rw [if_pos (by simp [Region.wanted, yielded, hgd])]
            exact wp_val (v := .int .i64 m) (w' := W) (by simp [execOp, Act.eval, h6, go_sem]) (hK _ _ hG (Below.refl _ _) rfl (fun h => by cases h))
          · refine stepJ_any rfl fun ac W hA hG hD K hK => ?_
            have h8 := hA.getD (t := 8) (by kernel_rfl)
            have hgd := hD.get 3 35 _ rfl rfl (by kernel_rfl)
            have hgd := slot_bool hgd
            simp only [Array.getD_eq_getD_getElem?] at h8
            rw [if_pos (by simp [Region.wanted, yielded, hgd])]
            exact wp_val (v := .int .i64 m) (w' := W) (by simp [execOp, Act.eval, h8, go_sem]) (hK _ _ hG (Below.refl _ _) rfl (fun h => by cases h))
          · refine stepJ_any rfl fun ac W hA hG hD K hK => ?_
            have h36 := hD.get 4 36 _ rfl rfl (by kernel_rfl)
            have h37 := hD.get 5 37 _ rfl rfl (by kernel_rfl)
            have hgd := hD.get 3 35 _ rfl rfl (by kernel_rfl)
            have hgd := slot_bool hgd
            simp only [Array.getD_eq_getD_getElem?] at h36 h37
            rw [if_pos (by simp [Region.wanted, yielded, hgd])]
            exact wp_val (v := .bool true) (w' := W) (by simp [execOp, Act.eval, h36, h37, go_sem]) (hK _ _ hG (Below.refl _ _) rfl (fun h => by cases h))
          · refine stepJ_any rfl fun ac W hA hG hD K hK => ?_
            have h35 := hD.get 3 35 _ rfl rfl (by kernel_rfl)
            have h38 := hD.get 6 38 _ rfl rfl (by kernel_rfl)
            simp only [Array.getD_eq_getD_getElem?] at h35 h38
            rw [if_pos (by rfl)]
            exact wp_val (v := .bool true) (w' := W) (by simp [execOp, Act.eval, h35, h38, go_sem]) (hK _ _ hG (Below.refl _ _) rfl (fun h => by cases h))
          · refine stepJ_any rfl fun ac W hA hG hD K hK => ?_
            have h39 := hD.get 7 39 _ rfl rfl (by kernel_rfl)
            simp only [Array.getD_eq_getD_getElem?] at h39
            rw [if_pos (by rfl)]
            exact wp_val (v := .bool true) (w' := W) (by simp [execOp, Act.eval, h39, go_sem]) (hK _ _ hG (Below.refl _ _) rfl (fun h => by cases h))
          · refine stepJ_any rfl fun ac W hA hG hD K hK => ?_
            have h3 := hA.getD (t := 3) (by kernel_rfl)
            have hgd := hD.get 8 40 _ rfl rfl (by kernel_rfl)
            have hgd := slot_bool hgd
            simp only [Array.getD_eq_getD_getElem?] at h3
            obtain ⟨k0, k1, k2, k3⟩ := ((H.out.step hG).kb).cells
            rw [if_pos (by simp [Region.wanted, yielded, hgd])]
            exact wp_val (v := .agg #[.slice A d.secs.length c, .slice A' d.pend.length c', .int .i64 d.left, .bool d.stop]) (w' := W) (by simp [execOp, Act.eval, h3, go_sem, k0, k1, k2, k3]) (hK _ _ hG (Below.refl _ _) rfl (fun h => by cases h))
          · refine stepJ_any rfl fun ac W hA hG hD K hK => ?_
            have h41 := hD.get 9 41 _ rfl rfl (by kernel_rfl)
            have hgd := hD.get 8 40 _ rfl rfl (by kernel_rfl)
            have hgd := slot_bool hgd
            simp only [Array.getD_eq_getD_getElem?] at h41
            rw [if_pos (by simp [Region.wanted, yielded, hgd])]
            refine wp_call (f := 15) (args := #[.agg #[.slice A d.secs.length c, .slice A' d.pend.length c', .int .i64 d.left, .bool d.stop]]) (by simp [execOp, Act.eval, h41, go_sem]) ((Check_any d W A A' c c' W.heap.size (Nat.le_refl _) ((H.out.step hG).drw hdh.out)).mono fun e W' he => ?_)
            obtain ⟨rfl, hbw⟩ := he
            exact hK _ _ (hG.trans (hbw.mono hG.size)) hbw rfl (fun h => by cases h)
          · refine stepJ_any rfl fun ac W hA hG hD K hK => ?_
            have h3 := hA.getD (t := 3) (by kernel_rfl)
            have hgd := hD.get 8 40 _ rfl rfl (by kernel_rfl)
            have hgd := slot_bool hgd
            simp only [Array.getD_eq_getD_getElem?] at h3
            obtain ⟨k0, k1, k2, k3⟩ := ((H.out.step hG).kb).cells
            rw [if_pos (by simp [Region.wanted, yielded, hgd])]
            exact wp_val (v := .agg #[.slice A d.secs.length c, .slice A' d.pend.length c', .int .i64 d.left, .bool d.stop]) (w' := W) (by simp [execOp, Act.eval, h3, go_sem, k0, k1, k2, k3]) (hK _ _ hG (Below.refl _ _) rfl (fun h => by cases h))
          · refine stepJ_any rfl fun ac W hA hG hD K hK => ?_
            have h43 := hD.get 11 43 _ rfl rfl (by kernel_rfl)
            have hgd := hD.get 8 40 _ rfl rfl (by kernel_rfl)
            have hgd := slot_bool hgd
            simp only [Array.getD_eq_getD_getElem?] at h43
            rw [if_pos (by simp [Region.wanted, yielded, hgd])]
            refine wp_call (f := 16) (args := #[.agg #[.slice A d.secs.length c, .slice A' d.pend.length c', .int .i64 d.left, .bool d.stop]]) (by simp [execOp, Act.eval, h43, go_sem]) ((rCheck_any d W A A' c c' W.heap.size (Nat.le_refl _) ((H.out.step hG).drw hdh.out)).mono fun e W' he => ?_)
            obtain ⟨rfl, hbw⟩ := he
            exact hK _ _ (hG.trans (hbw.mono hG.size)) hbw rfl (fun h => by cases h)
          · refine stepJ_any rfl fun ac W hA hG hD K hK => ?_
            have h42 := hD.get 10 42 _ rfl rfl (by kernel_rfl)
            have h44 := hD.get 12 44 _ rfl rfl (by kernel_rfl)
            have hgd := hD.get 8 40 _ rfl rfl (by kernel_rfl)
            have hgd := slot_bool hgd
            simp only [Array.getD_eq_getD_getElem?] at h42 h44
            rw [if_pos (by simp [Region.wanted, yielded, hgd])]
            exact wp_val (v := .bool true) (w' := W) (by simp [execOp, Act.eval, h42, h44, go_sem]) (hK _ _ hG (Below.refl _ _) rfl (fun h => by cases h))
          · refine stepJ_any rfl fun ac W hA hG hD K hK => ?_
            have h40 := hD.get 8 40 _ rfl rfl (by kernel_rfl)
            have h45 := hD.get 13 45 _ rfl rfl (by kernel_rfl)
            simp only [Array.getD_eq_getD_getElem?] at h40 h45
            rw [if_pos (by rfl)]
            exact wp_val (v := .bool true) (w' := W) (by simp [execOp, Act.eval, h40, h45, go_sem]) (hK _ _ hG (Below.refl _ _) rfl (fun h => by cases h))
          · refine stepJ_any rfl fun ac W hA hG hD K hK => ?_
            have h46 := hD.get 14 46 _ rfl rfl (by kernel_rfl)
            simp only [Array.getD_eq_getD_getElem?] at h46
            rw [if_pos (by rfl)]
            exact wp_val (v := .bool true) (w' := W) (by simp [execOp, Act.eval, h46, go_sem]) (hK _ _ hG (Below.refl _ _) rfl (fun h => by cases h))
          · refine stepJ_any rfl fun ac W hA hG hD K hK => ?_
            have h3 := hA.getD (t := 3) (by kernel_rfl)
            have hgd := hD.get 15 47 _ rfl rfl (by kernel_rfl)
            have hgd := slot_bool hgd
            simp only [Array.getD_eq_getD_getElem?] at h3
            obtain ⟨k0, k1, k2, k3⟩ := ((H.out.step hG).kb).cells
            rw [if_pos (by simp [Region.wanted, yielded, hgd])]
            exact wp_val (v := .agg #[.slice A d.secs.length c, .slice A' d.pend.length c', .int .i64 d.left, .bool d.stop]) (w' := W) (by simp [execOp, Act.eval, h3, go_sem, k0, k1, k2, k3]) (hK _ _ hG (Below.refl _ _) rfl (fun h => by cases h))
          · refine stepJ_any rfl fun ac W hA hG hD K hK => ?_
            have h48 := hD.get 16 48 _ rfl rfl (by kernel_rfl)
            have hgd := hD.get 15 47 _ rfl rfl (by kernel_rfl)
            have hgd := slot_bool hgd
            simp only [Array.getD_eq_getD_getElem?] at h48
            rw [if_pos (by simp [Region.wanted, yielded, hgd])]
            refine wp_call (f := 17) (args := #[.agg #[.slice A d.secs.length c, .slice A' d.pend.length c', .int .i64 d.left, .bool d.stop]]) (by simp [execOp, Act.eval, h48, go_sem]) ((Restart_any d W A A' c c').mono fun e W' he => ?_)
            obtain ⟨rfl, hbw⟩ := he
            exact hK _ _ (hG.trans (hbw.mono hG.size)) hbw rfl (fun h => by cases h)
          · refine stepJ_any rfl fun ac W hA hG hD K hK => ?_
            have h3 := hA.getD (t := 3) (by kernel_rfl)
            have hgd := hD.get 15 47 _ rfl rfl (by kernel_rfl)
            have hgd := slot_bool hgd
            simp only [Array.getD_eq_getD_getElem?] at h3
            obtain ⟨k0, k1, k2, k3⟩ := ((H.out.step hG).kb).cells
            rw [if_pos (by simp [Region.wanted, yielded, hgd])]
            exact wp_val (v := .agg #[.slice A d.secs.length c, .slice A' d.pend.length c', .int .i64 d.left, .bool d.stop]) (w' := W) (by simp [execOp, Act.eval, h3, go_sem, k0, k1, k2, k3]) (hK _ _ hG (Below.refl _ _) rfl (fun h => by cases h))
          · refine stepJ_any rfl fun ac W hA hG hD K hK => ?_
            have h50 := hD.get 18 50 _ rfl rfl (by kernel_rfl)
            have hgd := hD.get 15 47 _ rfl rfl (by kernel_rfl)
            have hgd := slot_bool hgd
            simp only [Array.getD_eq_getD_getElem?] at h50
            rw [if_pos (by simp [Region.wanted, yielded, hgd])]
            refine wp_call (f := 18) (args := #[.agg #[.slice A d.secs.length c, .slice A' d.pend.length c', .int .i64 d.left, .bool d.stop]]) (by simp [execOp, Act.eval, h50, go_sem]) ((rRestart_any d W A A' c c').mono fun e W' he => ?_)
            obtain ⟨rfl, hbw⟩ := he
            exact hK _ _ (hG.trans (hbw.mono hG.size)) hbw rfl (fun h => by cases h)
          · refine stepJ_any rfl fun ac W hA hG hD K hK => ?_
            have h49 := hD.get 17 49 _ rfl rfl (by kernel_rfl)
            have h51 := hD.get 19 51 _ rfl rfl (by kernel_rfl)
            have hgd := hD.get 15 47 _ rfl rfl (by kernel_rfl)
            have hgd := slot_bool hgd
            simp only [Array.getD_eq_getD_getElem?] at h49 h51
            rw [if_pos (by simp [Region.wanted, yielded, hgd])]
            refine wp_call (f := 14) (args := #[.agg #[.slice A d.secs.length c, .slice none 0 0, .int .i64 (-1), .bool false], .agg #[.slice A d.secs.length c, .slice none 0 0, .int .i64 (-1), .bool false]]) (by simp [execOp, Act.eval, h49, h51, go_sem]) ((Same_rest d.secs W A A c c ((H.out.step hG).drw hdh.out).secs ((H.out.step hG).drw hdh.out).secs ⟨hdh.out.cap, hdh.out.max⟩ ⟨hdh.out.cap, hdh.out.max⟩).mono fun e W' he => ?_)
            obtain ⟨rfl, hbw⟩ := he
            exact hK _ _ (hG.trans (hbw.mono hG.size)) hbw rfl (fun h => by cases h)
          · refine stepJ_any rfl fun ac W hA hG hD K hK => ?_
            have h47 := hD.get 15 47 _ rfl rfl (by kernel_rfl)
            have h52 := hD.get 20 52 _ rfl rfl (by kernel_rfl)
            simp only [Array.getD_eq_getD_getElem?] at h47 h52
            rw [if_pos (by rfl)]
            exact wp_val (v := .bool true) (w' := W) (by simp [execOp, Act.eval, h47, h52, go_sem]) (hK _ _ hG (Below.refl _ _) rfl (fun h => by cases h))
          · refine stepJ_any rfl fun ac W hA hG hD K hK => ?_
            have h53 := hD.get 21 53 _ rfl rfl (by kernel_rfl)
            simp only [Array.getD_eq_getD_getElem?] at h53
            rw [if_pos (by rfl)]
            exact wp_val (v := .bool true) (w' := W) (by simp [execOp, Act.eval, h53, go_sem]) (hK _ _ hG (Below.refl _ _) rfl (fun h => by cases h))
        intro fu T W hG hF hne hltb
        have e32 : T 32 = .agg #[.slice A1 x.secs.length c1, .slice A1' x.pend.length c1', .int .i64 x.left, .bool x.stop] := hF 0 _ rfl (by omega)
        have e33 : T 33 = .agg #[.slice A2 x.secs.length c2, .slice A2' x.pend.length c2', .int .i64 x.left, .bool x.stop] := hF 1 _ rfl (by omega)
        have e34 : T 34 = .bool true := hF 2 _ rfl (by omega)
        have e35 : T 35 = .bool true := hF 3 _ rfl (by omega)
        have e36 : T 36 = .int .i64 m := hF 4 _ rfl (by omega)
        have e37 : T 37 = .int .i64 m := hF 5 _ rfl (by omega)
        have e38 : T 38 = .bool true := hF 6 _ rfl (by omega)
        have e39 : T 39 = .bool true := hF 7 _ rfl (by omega)
        have e40 : T 40 = .bool true := hF 8 _ rfl (by omega)
        have e41 : T 41 = .agg #[.slice A d.secs.length c, .slice A' d.pend.length c', .int .i64 d.left, .bool d.stop] := hF 9 _ rfl (by omega)
        have e42 : T 42 = .int .i64 (chk d) := hF 10 _ rfl (by omega)
        have e43 : T 43 = .agg #[.slice A d.secs.length c, .slice A' d.pend.length c', .int .i64 d.left, .bool d.stop] := hF 11 _ rfl (by omega)
        have e44 : T 44 = .int .i64 (chk d) := hF 12 _ rfl (by omega)
        have e45 : T 45 = .bool true := hF 13 _ rfl (by omega)
        have e46 : T 46 = .bool true := hF 14 _ rfl (by omega)
        have e47 : T 47 = .bool true := hF 15 _ rfl (by omega)
        have e48 : T 48 = .agg #[.slice A d.secs.length c, .slice A' d.pend.length c', .int .i64 d.left, .bool d.stop] := hF 16 _ rfl (by omega)
        have e49 : T 49 = .agg #[.slice A d.secs.length c, .slice none 0 0, .int .i64 (-1), .bool false] := hF 17 _ rfl (by omega)
        have e50 : T 50 = .agg #[.slice A d.secs.length c, .slice A' d.pend.length c', .int .i64 d.left, .bool d.stop] := hF 18 _ rfl (by omega)
        have e51 : T 51 = .agg #[.slice A d.secs.length c, .slice none 0 0, .int .i64 (-1), .bool false] := hF 19 _ rfl (by omega)
        have e52 : T 52 = .bool true := hF 20 _ rfl (by omega)
        have e53 : T 53 = .bool true := hF 21 _ rfl (by omega)
        have e4 : T 4 = .bool true := hF 22 _ rfl (by omega)
        clear hF hne hltb
        simp only [List.take, fillT, List.setIfInBounds_toArray, List.set_cons_zero, List.set_cons_succ, e32, e33, e34, e35, e36, e37, e38, e39, e40, e41, e42, e43, e44, e45, e46, e47, e48, e49, e50, e51, e52, e53, e4]
        clear e32 e33 e34 e35 e36 e37 e38 e39 e40 e41 e42 e43 e44 e45 e46 e47 e48 e49 e50 e51 e52 e53 e4
        refine wpAny_done (by kernel_rfl) ?_ _
        have hbf := H.out.below.trans (hG.mono H.out.below.size)
        clear hG
        go_wp2_with fail
        go_ret
        exact ⟨rfl, hbf⟩
  · have e1 : decide ((60 : Int) < n) = false := decide_eq_false h1
    go_wp2_with fail
    refine (hFew.out w1 (H.out.drw hdh.out)).mono ?_
    rintro e w2 ⟨⟨f, rfl⟩, hb⟩
    have H := Lib.hid (H.out.step hb)
    clear hb y0 y1 y2 y3 hFew
    cases f with
    | false =>
      go_wp2_with fail
      go_ret
      exact ⟨rfl, H.out.below⟩
    | true =>
      go_wp2_with fail
      refine (New_any n w2).mono ?_
      intro e w3 hp
      obtain ⟨A1, c1, A1', c1', rfl, hdx, hb⟩ := hp.get hq.out
      have hdx := Lib.hid (hdx.mono (S' := (· < w3.heap.size)) fun b h => Sn.lt (fun _ h => h.elim) hb b h)
      have H := Lib.hid (H.out.step hb)
      clear hp hb
      have hbn := bnew w3 (.cells #[.slice A1 x.secs.length c1, .slice A1' x.pend.length c1', .int .i64 x.left, .bool x.stop] 25)
      have H := H.out.step hbn
      have hdx := hdx.out.step hbn
      have hkx := KB.new w3 A1 A1' c1 c1' x
      clear hbn
      go_wp2_with fail
      generalize w3.alloc (.cells #[.slice A1 x.secs.length c1, .slice A1' x.pend.length c1', .int .i64 x.left, .bool x.stop] 25) = V3 at *
      have H := Lib.hid H
      have hdx := Lib.hid hdx
      have hkx := Lib.hid hkx
      refine (rNew_any n V3).mono ?_
      intro e w4 hp
      obtain ⟨A2, c2, A2', c2', rfl, hdz, hb⟩ := hp.get hq.out
      have hdz := Lib.hid (hdz.mono (S' := (· < w4.heap.size)) fun b h => Sn.lt (fun _ h => h.elim) hb b h)
      have H := Lib.hid (H.out.step hb)
      have hdx := Lib.hid (hdx.out.step hb)
      have hkx := Lib.hid (hkx.out.step hb)
      clear hp hb
      have hbn := bnew w4 (.cells #[.slice A2 x.secs.length c2, .slice A2' x.pend.length c2', .int .i64 x.left, .bool x.stop] 25)
      have H := H.out.step hbn
      have hdx := hdx.out.step hbn
      have hkx := hkx.out.step hbn
      have hdz := hdz.out.step hbn
      have hkz := KB.new w4 A2 A2' c2 c2' x
      clear hbn
      go_wp2_with fail
      generalize w4.alloc (.cells #[.slice A2 x.secs.length c2, .slice A2' x.pend.length c2', .int .i64 x.left, .bool x.stop] 25) = V4 at *
      have H := Lib.hid H
      have hdx := Lib.hid hdx
      have hkx := Lib.hid hkx
      have hdz := Lib.hid hdz
      have hkz := Lib.hid hkz
      refine wp_region_pre 23 0 (fun W => Below V4.heap.size V4 W) (fun W W' => Below W.heap.size W W')
        (fun i v W => match i with
          | 0 => v = .agg #[.slice A1 x.secs.length c1, .slice A1' x.pend.length c1', .int .i64 x.left, .bool x.stop]
          | 1 => v = .agg #[.slice A2 x.secs.length c2, .slice A2' x.pend.length c2', .int .i64 x.left, .bool x.stop]
          | 2 => v = .bool true
          | 3 => v = .bool true
          | 4 => v = .int .i64 m
          | 5 => v = .int .i64 m
          | 6 => v = .bool true
          | 7 => v = .bool true
          | 8 => v = .bool true
          | 9 => v = .agg #[.slice A d.secs.length c, .slice A' d.pend.length c', .int .i64 d.left, .bool d.stop]
          | 10 => v = .int .i64 (chk d)
          | 11 => v = .agg #[.slice A d.secs.length c, .slice A' d.pend.length c', .int .i64 d.left, .bool d.stop]
          | 12 => v = .int .i64 (chk d)
          | 13 => v = .bool true
          | 14 => v = .bool true
          | 15 => v = .bool true
          | 16 => v = .agg #[.slice A d.secs.length c, .slice A' d.pend.length c', .int .i64 d.left, .bool d.stop]
          | 17 => v = .agg #[.slice A d.secs.length c, .slice none 0 0, .int .i64 (-1), .bool false]
          | 18 => v = .agg #[.slice A d.secs.length c, .slice A' d.pend.length c', .int .i64 d.left, .bool d.stop]
          | 19 => v = .agg #[.slice A d.secs.length c, .slice none 0 0, .int .i64 (-1), .bool false]
          | 20 => v = .bool true
          | 21 => v = .bool true
          | 22 => v = .bool true
          | _ => True) (fun _ => false)
        (by kernel_rfl) (by kernel_rfl) (by kernel_rfl) (by kernel_rfl) (by kernel_rfl) (by kernel_rfl) (by kernel_rfl) ?_ (fun _ _ h => h.size) (dN (Below.refl _ _) 1) ?_ ?_
      · intro i v W W' hb hF
        match i, hF with
        | 0, h => exact h
        | 1, h => exact h
        | 2, h => exact h
        | 3, h => exact h
        | 4, h => exact h
        | 5, h => exact h
        | 6, h => exact h
        | 7, h => exact h
        | 8, h => exact h
        | 9, h => exact h
        | 10, h => exact h
        | 11, h => exact h
        | 12, h => exact h
        | 13, h => exact h
        | 14, h => exact h
        | 15, h => exact h
        | 16, h => exact h
        | 17, h => exact h
        | 18, h => exact h
        | 19, h => exact h
        | 20, h => exact h
        | 21, h => exact h
        | 22, h => exact h
        | _ + 23, _ => trivial
      · refine ⟨?_, ?_, ?_, ?_, ?_, ?_, ?_, ?_, ?_, ?_, ?_, ?_, ?_, ?_, ?_, ?_, ?_, ?_, ?_, ?_, ?_, ?_, ?_, trivial⟩
        · refine stepJ_any rfl fun ac W hA hG hD K hK => ?_
          have h5 := hA.getD (t := 5) (by kernel_rfl)
          simp only [Array.getD_eq_getD_getElem?] at h5
          obtain ⟨k0, k1, k2, k3⟩ := (hkx.out.step hG).cells
          rw [if_pos (by rfl)]
          exact wp_val (v := .agg #[.slice A1 x.secs.length c1, .slice A1' x.pend.length c1', .int .i64 x.left, .bool x.stop]) (w' := W) (by simp [execOp, Act.eval, h5, go_sem, k0, k1, k2, k3]) (hK _ _ hG (Below.refl _ _) rfl (fun h => by cases h))
        · refine stepJ_any rfl fun ac W hA hG hD K hK => ?_
          have h7 := hA.getD (t := 7) (by kernel_rfl)
          simp only [Array.getD_eq_getD_getElem?] at h7
          obtain ⟨k0, k1, k2, k3⟩ := (hkz.out.step hG).cells
          rw [if_pos (by rfl)]
          exact wp_val (v := .agg #[.slice A2 x.secs.length c2, .slice A2' x.pend.length c2', .int .i64 x.left, .bool x.stop]) (w' := W) (by simp [execOp, Act.eval, h7, go_sem, k0, k1, k2, k3]) (hK _ _ hG (Below.refl _ _) rfl (fun h => by cases h))
        · refine stepJ_any rfl fun ac W hA hG hD K hK => ?_
          have h32 := hD.get 0 32 _ rfl rfl (by kernel_rfl)
          have h33 := hD.get 1 33 _ rfl rfl (by kernel_rfl)
          simp only [Array.getD_eq_getD_getElem?] at h32 h33
          rw [if_pos (by rfl)]
          refine wp_call (f := 14) (args := #[.agg #[.slice A1 x.secs.length c1, .slice A1' x.pend.length c1', .int .i64 x.left, .bool x.stop], .agg #[.slice A2 x.secs.length c2, .slice A2' x.pend.length c2', .int .i64 x.left, .bool x.stop]]) (by simp [execOp, Act.eval, h32, h33, go_sem]) ((Same_any x W A1 A1' A2 A2' c1 c1' c2 c2' (hdx.out.step hG) (hdz.out.step hG)).mono fun e W' he => ?_)
          obtain ⟨rfl, hbw⟩ := he
          exact hK _ _ (hG.trans (hbw.mono hG.size)) hbw rfl (fun h => by cases h)
        · refine stepJ_any rfl fun ac W hA hG hD K hK => ?_
          have h34 := hD.get 2 34 _ rfl rfl (by kernel_rfl)
          simp only [Array.getD_eq_getD_getElem?] at h34
          rw [if_pos (by rfl)]
          exact wp_val (v := .bool true) (w' := W) (by simp [execOp, Act.eval, h34, go_sem]) (hK _ _ hG (Below.refl _ _) rfl (fun h => by cases h))
        · refine stepJ_any rfl fun ac W hA hG hD K hK => ?_
          have h6 := hA.getD (t := 6) (by kernel_rfl)
          have hgd := hD.get 3 35 _ rfl rfl (by kernel_rfl)
          have hgd := slot_bool hgd
          simp only [Array.getD_eq_getD_getElem?] at h6
          rw [if_pos (by simp [Region.wanted, yielded, hgd])]
          exact wp_val (v := .int .i64 m) (w' := W) (by simp [execOp, Act.eval, h6, go_sem]) (hK _ _ hG (Below.refl _ _) rfl (fun h => by cases h))
        · refine stepJ_any rfl fun ac W hA hG hD K hK => ?_
          have h8 := hA.getD (t := 8) (by kernel_rfl)
          have hgd := hD.get 3 35 _ rfl rfl (by kernel_rfl)
          have hgd := slot_bool hgd
          simp only [Array.getD_eq_getD_getElem?] at h8
          rw [if_pos (by simp [Region.wanted, yielded, hgd])]
          exact wp_val (v := .int .i64 m) (w' := W) (by simp [execOp, Act.eval, h8, go_sem]) (hK _ _ hG (Below.refl _ _) rfl (fun h => by cases h))
        · refine stepJ_any rfl fun ac W hA hG hD K hK => ?_
          have h36 := hD.get 4 36 _ rfl rfl (by kernel_rfl)
          have h37 := hD.get 5 37 _ rfl rfl (by kernel_rfl)
          have hgd := hD.get 3 35 _ rfl rfl (by kernel_rfl)
          have hgd := slot_bool hgd
          simp only [Array.getD_eq_getD_getElem?] at h36 h37
          rw [if_pos (by simp [Region.wanted, yielded, hgd])]
          exact wp_val (v := .bool true) (w' := W) (by simp [execOp, Act.eval, h36, h37, go_sem]) (hK _ _ hG (Below.refl _ _) rfl (fun h => by cases h))
        · refine stepJ_any rfl fun ac W hA hG hD K hK => ?_
          have h35 := hD.get 3 35 _ rfl rfl (by kernel_rfl)
          have h38 := hD.get 6 38 _ rfl rfl (by kernel_rfl)
          simp only [Array.getD_eq_getD_getElem?] at h35 h38
          rw [if_pos (by rfl)]
          exact wp_val (v := .bool true) (w' := W) (by simp [execOp, Act.eval, h35, h38, go_sem]) (hK _ _ hG (Below.refl _ _) rfl (fun h => by cases h))
        · refine stepJ_any rfl fun ac W hA hG hD K hK => ?_
          have h39 := hD.get 7 39 _ rfl rfl (by kernel_rfl)
          simp only [Array.getD_eq_getD_getElem?] at h39
          rw [if_pos (by rfl)]
          exact wp_val (v := .bool true) (w' := W) (by simp [execOp, Act.eval, h39, go_sem]) (hK _ _ hG (Below.refl _ _) rfl (fun h => by cases h))
        · refine stepJ_any rfl fun ac W hA hG hD K hK => ?_
          have h3 := hA.getD (t := 3) (by kernel_rfl)
          have hgd := hD.get 8 40 _ rfl rfl (by kernel_rfl)
          have hgd := slot_bool hgd
          simp only [Array.getD_eq_getD_getElem?] at h3
          obtain ⟨k0, k1, k2, k3⟩ := ((H.out.step hG).kb).cells
          rw [if_pos (by simp [Region.wanted, yielded, hgd])]
          exact wp_val (v := .agg #[.slice A d.secs.length c, .slice A' d.pend.length c', .int .i64 d.left, .bool d.stop]) (w' := W) (by simp [execOp, Act.eval, h3, go_sem, k0, k1, k2, k3]) (hK _ _ hG (Below.refl _ _) rfl (fun h => by cases h))
        · refine stepJ_any rfl fun ac W hA hG hD K hK => ?_
          have h41 := hD.get 9 41 _ rfl rfl (by kernel_rfl)
          have hgd := hD.get 8 40 _ rfl rfl (by kernel_rfl)
          have hgd := slot_bool hgd
          simp only [Array.getD_eq_getD_getElem?] at h41
          rw [if_pos (by simp [Region.wanted, yielded, hgd])]
          refine wp_call (f := 15) (args := #[.agg #[.slice A d.secs.length c, .slice A' d.pend.length c', .int .i64 d.left, .bool d.stop]]) (by simp [execOp, Act.eval, h41, go_sem]) ((Check_any d W A A' c c' W.heap.size (Nat.le_refl _) ((H.out.step hG).drw hdh.out)).mono fun e W' he => ?_)
          obtain ⟨rfl, hbw⟩ := he
          exact hK _ _ (hG.trans (hbw.mono hG.size)) hbw rfl (fun h => by cases h)
        · refine stepJ_any rfl fun ac W hA hG hD K hK => ?_
          have h3 := hA.getD (t := 3) (by kernel_rfl)
          have hgd := hD.get 8 40 _ rfl rfl (by kernel_rfl)
          have hgd := slot_bool hgd
          simp only [Array.getD_eq_getD_getElem?] at h3
          obtain ⟨k0, k1, k2, k3⟩ := ((H.out.step hG).kb).cells
          rw [if_pos (by simp [Region.wanted, yielded, hgd])]
          exact wp_val (v := .agg #[.slice A d.secs.length c, .slice A' d.pend.length c', .int .i64 d.left, .bool d.stop]) (w' := W) (by simp [execOp, Act.eval, h3, go_sem, k0, k1, k2, k3]) (hK _ _ hG (Below.refl _ _) rfl (fun h => by cases h))
        · refine stepJ_any rfl fun ac W hA hG hD K hK => ?_
          have h43 := hD.get 11 43 _ rfl rfl (by kernel_rfl)
          have hgd := hD.get 8 40 _ rfl rfl (by kernel_rfl)
          have hgd := slot_bool hgd
          simp only [Array.getD_eq_getD_getElem?] at h43
          rw [if_pos (by simp [Region.wanted, yielded, hgd])]
          refine wp_call (f := 16) (args := #[.agg #[.slice A d.secs.length c, .slice A' d.pend.length c', .int .i64 d.left, .bool d.stop]]) (by simp [execOp, Act.eval, h43, go_sem]) ((rCheck_any d W A A' c c' W.heap.size (Nat.le_refl _) ((H.out.step hG).drw hdh.out)).mono fun e W' he => ?_)
          obtain ⟨rfl, hbw⟩ := he
          exact hK _ _ (hG.trans (hbw.mono hG.size)) hbw rfl (fun h => by cases h)
        · refine stepJ_any rfl fun ac W hA hG hD K hK => ?_
          have h42 := hD.get 10 42 _ rfl rfl (by kernel_rfl)
          have h44 := hD.get 12 44 _ rfl rfl (by kernel_rfl)
          have hgd := hD.get 8 40 _ rfl rfl (by kernel_rfl)
          have hgd := slot_bool hgd
          simp only [Array.getD_eq_getD_getElem?] at h42 h44
          rw [if_pos (by simp [Region.wanted, yielded, hgd])]
          exact wp_val (v := .bool true) (w' := W) (by simp [execOp, Act.eval, h42, h44, go_sem]) (hK _ _ hG (Below.refl _ _) rfl (fun h => by cases h))
        · refine stepJ_any rfl fun ac W hA hG hD K hK => ?_
          have h40 := hD.get 8 40 _ rfl rfl (by kernel_rfl)
          have h45 := hD.get 13 45 _ rfl rfl (by kernel_rfl)
          simp only [Array.getD_eq_getD_getElem?] at h40 h45
          rw [if_pos (by rfl)]
          exact wp_val (v := .bool true) (w' := W) (by simp [execOp, Act.eval, h40, h45, go_sem]) (hK _ _ hG (Below.refl _ _) rfl (fun h => by cases h))
        · refine stepJ_any rfl fun ac W hA hG hD K hK => ?_
          have h46 := hD.get 14 46 _ rfl rfl (by kernel_rfl)
          simp only [Array.getD_eq_getD_getElem?] at h46
          rw [if_pos (by rfl)]
          exact wp_val (v := .bool true) (w' := W) (by simp [execOp, Act.eval, h46, go_sem]) (hK _ _ hG (Below.refl _ _) rfl (fun h => by cases h))
        · refine stepJ_any rfl fun ac W hA hG hD K hK => ?_
          have h3 := hA.getD (t := 3) (by kernel_rfl)
          have hgd := hD.get 15 47 _ rfl rfl (by kernel_rfl)
          have hgd := slot_bool hgd
          simp only [Array.getD_eq_getD_getElem?] at h3
          obtain ⟨k0, k1, k2, k3⟩ := ((H.out.step hG).kb).cells
          rw [if_pos (by simp [Region.wanted, yielded, hgd])]
          exact wp_val (v := .agg #[.slice A d.secs.length c, .slice A' d.pend.length c', .int .i64 d.left, .bool d.stop]) (w' := W) (by simp [execOp, Act.eval, h3, go_sem, k0, k1, k2, k3]) (hK _ _ hG (Below.refl _ _) rfl (fun h => by cases h))
        · refine stepJ_any rfl fun ac W hA hG hD K hK => ?_
          have h48 := hD.get 16 48 _ rfl rfl (by kernel_rfl)
          have hgd := hD.get 15 47 _ rfl rfl (by kernel_rfl)
          have hgd := slot_bool hgd
          simp only [Array.getD_eq_getD_getElem?] at h48
          rw [if_pos (by simp [Region.wanted, yielded, hgd])]
          refine wp_call (f := 17) (args := #[.agg #[.slice A d.secs.length c, .slice A' d.pend.length c', .int .i64 d.left, .bool d.stop]]) (by simp [execOp, Act.eval, h48, go_sem]) ((Restart_any d W A A' c c').mono fun e W' he => ?_)
          obtain ⟨rfl, hbw⟩ := he
          exact hK _ _ (hG.trans (hbw.mono hG.size)) hbw rfl (fun h => by cases h)
        · refine stepJ_any rfl fun ac W hA hG hD K hK => ?_
          have h3 := hA.getD (t := 3) (by kernel_rfl)
          have hgd := hD.get 15 47 _ rfl rfl (by kernel_rfl)
          have hgd := slot_bool hgd
          simp only [Array.getD_eq_getD_getElem?] at h3
          obtain ⟨k0, k1, k2, k3⟩ := ((H.out.step hG).kb).cells
          rw [if_pos (by simp [Region.wanted, yielded, hgd])]
          exact wp_val (v := .agg #[.slice A d.secs.length c, .slice A' d.pend.length c', .int .i64 d.left, .bool d.stop]) (w' := W) (by simp [execOp, Act.eval, h3, go_sem, k0, k1, k2, k3]) (hK _ _ hG (Below.refl _ _) rfl (fun h => by cases h))
        · refine stepJ_any rfl fun ac W hA hG hD K hK => ?_
          have h50 := hD.get 18 50 _ rfl rfl (by kernel_rfl)
          have hgd := hD.get 15 47 _ rfl rfl (by kernel_rfl)
          have hgd := slot_bool hgd
          simp only [Array.getD_eq_getD_getElem?] at h50
          rw [if_pos (by simp [Region.wanted, yielded, hgd])]
          refine wp_call (f := 18) (args := #[.agg #[.slice A d.secs.length c, .slice A' d.pend.length c', .int .i64 d.left, .bool d.stop]]) (by simp [execOp, Act.eval, h50, go_sem]) ((rRestart_any d W A A' c c').mono fun e W' he => ?_)
          obtain ⟨rfl, hbw⟩ := he
          exact hK _ _ (hG.trans (hbw.mono hG.size)) hbw rfl (fun h => by cases h)
        · refine stepJ_any rfl fun ac W hA hG hD K hK => ?_
          have h49 := hD.get 17 49 _ rfl rfl (by kernel_rfl)
          have h51 := hD.get 19 51 _ rfl rfl (by kernel_rfl)
          have hgd := hD.get 15 47 _ rfl rfl (by kernel_rfl)
          have hgd := slot_bool hgd
          simp only [Array.getD_eq_getD_getElem?] at h49 h51
          rw [if_pos (by simp [Region.wanted, yielded, hgd])]
          refine wp_call (f := 14) (args := #[.agg #[.slice A d.secs.length c, .slice none 0 0, .int .i64 (-1), .bool false], .agg #[.slice A d.secs.length c, .slice none 0 0, .int .i64 (-1), .bool false]]) (by simp [execOp, Act.eval, h49, h51, go_sem]) ((Same_rest d.secs W A A c c ((H.out.step hG).drw hdh.out).secs ((H.out.step hG).drw hdh.out).secs ⟨hdh.out.cap, hdh.out.max⟩ ⟨hdh.out.cap, hdh.out.max⟩).mono fun e W' he => ?_)
          obtain ⟨rfl, hbw⟩ := he
          exact hK _ _ (hG.trans (hbw.mono hG.size)) hbw rfl (fun h => by cases h)
        · refine stepJ_any rfl fun ac W hA hG hD K hK => ?_
          have h47 := hD.get 15 47 _ rfl rfl (by kernel_rfl)
          have h52 := hD.get 20 52 _ rfl rfl (by kernel_rfl)
          simp only [Array.getD_eq_getD_getElem?] at h47 h52
          rw [if_pos (by rfl)]
          exact wp_val (v := .bool true) (w' := W) (by simp [execOp, Act.eval, h47, h52, go_sem]) (hK _ _ hG (Below.refl _ _) rfl (fun h => by cases h))
        · refine stepJ_any rfl fun ac W hA hG hD K hK => ?_
          have h53 := hD.get 21 53 _ rfl rfl (by kernel_rfl)
          simp only [Array.getD_eq_getD_getElem?] at h53
          rw [if_pos (by rfl)]
          exact wp_val (v := .bool true) (w' := W) (by simp [execOp, Act.eval, h53, go_sem]) (hK _ _ hG (Below.refl _ _) rfl (fun h => by cases h))
      intro fu T W hG hF hne hltb
      have e32 : T 32 = .agg #[.slice A1 x.secs.length c1, .slice A1' x.pend.length c1', .int .i64 x.left, .bool x.stop] := hF 0 _ rfl (by omega)
      have e33 : T 33 = .agg #[.slice A2 x.secs.length c2, .slice A2' x.pend.length c2', .int .i64 x.left, .bool x.stop] := hF 1 _ rfl (by omega)
      have e34 : T 34 = .bool true := hF 2 _ rfl (by omega)
      have e35 : T 35 = .bool true := hF 3 _ rfl (by omega)
      have e36 : T 36 = .int .i64 m := hF 4 _ rfl (by omega)
      have e37 : T 37 = .int .i64 m := hF 5 _ rfl (by omega)
      have e38 : T 38 = .bool true := hF 6 _ rfl (by omega)
      have e39 : T 39 = .bool true := hF 7 _ rfl (by omega)
      have e40 : T 40 = .bool true := hF 8 _ rfl (by omega)
      have e41 : T 41 = .agg #[.slice A d.secs.length c, .slice A' d.pend.length c', .int .i64 d.left, .bool d.stop] := hF 9 _ rfl (by omega)
      have e42 : T 42 = .int .i64 (chk d) := hF 10 _ rfl (by omega)
      have e43 : T 43 = .agg #[.slice A d.secs.length c, .slice A' d.pend.length c', .int .i64 d.left, .bool d.stop] := hF 11 _ rfl (by omega)
      have e44 : T 44 = .int .i64 (chk d) := hF 12 _ rfl (by omega)
      have e45 : T 45 = .bool true := hF 13 _ rfl (by omega)
      have e46 : T 46 = .bool true := hF 14 _ rfl (by omega)
      have e47 : T 47 = .bool true := hF 15 _ rfl (by omega)
      have e48 : T 48 = .agg #[.slice A d.secs.length c, .slice A' d.pend.length c', .int .i64 d.left, .bool d.stop] := hF 16 _ rfl (by omega)
      have e49 : T 49 = .agg #[.slice A d.secs.length c, .slice none 0 0, .int .i64 (-1), .bool false] := hF 17 _ rfl (by omega)
      have e50 : T 50 = .agg #[.slice A d.secs.length c, .slice A' d.pend.length c', .int .i64 d.left, .bool d.stop] := hF 18 _ rfl (by omega)
      have e51 : T 51 = .agg #[.slice A d.secs.length c, .slice none 0 0, .int .i64 (-1), .bool false] := hF 19 _ rfl (by omega)
      have e52 : T 52 = .bool true := hF 20 _ rfl (by omega)
      have e53 : T 53 = .bool true := hF 21 _ rfl (by omega)
      have e4 : T 4 = .bool true := hF 22 _ rfl (by omega)
      clear hF hne hltb
      simp only [List.take, fillT, List.setIfInBounds_toArray, List.set_cons_zero, List.set_cons_succ, e32, e33, e34, e35, e36, e37, e38, e39, e40, e41, e42, e43, e44, e45, e46, e47, e48, e49, e50, e51, e52, e53, e4]
      clear e32 e33 e34 e35 e36 e37 e38 e39 e40 e41 e42 e43 e44 e45 e46 e47 e48 e49 e50 e51 e52 e53 e4
      refine wpAny_done (by kernel_rfl) ?_ _
      have hbf := H.out.below.trans (hG.mono H.out.below.size)
      clear hG
      go_wp2_with fail
      go_ret
      exact ⟨rfl, hbf⟩
end Go.Proofs.Ytalkbccofiiojaa
