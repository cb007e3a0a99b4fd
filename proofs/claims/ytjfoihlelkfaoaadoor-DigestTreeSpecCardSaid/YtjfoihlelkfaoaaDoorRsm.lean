/- The reference's Same, at one list read twice. -/
import Derived.Test.YtjfoihlelkfaoaaDoorRcm
namespace Go.Proofs.YtjfoihlelkfaoaaDoor
open Go.RowKit

attribute [local irreducible] Calls
set_option maxRecDepth 100000 in
set_option maxHeartbeats 2000000 in
theorem rSame_any (l : List (List UInt8)) (hm : l.length ≤ 1000000000) (w : World) (a a' : Option Addr) (cap cap' : Nat) (hR : RD w w.heap.size l a cap) (hR' : RD w w.heap.size l a' cap') :
    Calls Tryd.prog 12 #[.slice a l.length cap, .slice a' l.length cap'] w fun e w' => e = .returned (.bool true) ∧ Below w.heap.size w w' := by
  have hRH := Lib.hid hR
  have hRH' := Lib.hid hR'
  have h32 := Lib.hid hR.2.2.1
  have hu : Tryd.prog.underlying 24 = some (.array 32 5) := by kernel_rfl
  have hi : (Tryd.prog.info? 24).map (·.size) = some 32 := by kernel_rfl
  have huH := Lib.hid hu
  have hiH := Lib.hid hi
  clear hR hR' hu hi
  go_enter Tryd.func12, Tryd.ntmps12
  go_wp2_with fail
  go_loopw [5] (fun i wr => ∃ k : Nat, i = .int .i64 (k : Int) ∧ k ≤ l.length ∧ Hid (Below w.heap.size w wr)) (fun i _ => l.length - (intOf i).toNat)
  case atStart => exact ⟨0, rfl, by omega, Below.refl _ _⟩
  case round =>
    obtain ⟨k, rfl, hk, hb⟩ := hrel
    by_cases hkl : k < l.length
    · obtain ⟨b, off, rfl, hbB, hr⟩ := hRH.out.at_ hkl
      obtain ⟨b', off', rfl, hbB', hr'⟩ := hRH'.out.at_ hkl
      have hx := Lib.hid (h32.out l[k] (List.getElem_mem hkl))
      generalize l[k] = x at *
      have hr1 : Hid (∀ W, Below wr.heap.size wr W → W.rangeAt b (off + k * 32) (BV x)) := fun W hW j v hv => ((hb.out.trans (hW.mono hb.out.size)).cell (p := ⟨b, off + k * 32 + j, none⟩) hbB).trans (hr j v hv)
      have hr2 : Hid (∀ W, Below wr.heap.size wr W → W.rangeAt b' (off' + k * 32) (BV x)) := fun W hW j v hv => ((hb.out.trans (hW.mono hb.out.size)).cell (p := ⟨b', off' + k * 32 + j, none⟩) hbB').trans (hr' j v hv)
      have heq : Hid (∀ W, (Op.equalIn 10000 24 (.agg (BV x).toArray) (.agg (BV x).toArray)).run Tryd.prog W = .ok true W) := fun W => by
        rw [eq_digest x x hx.out hx.out W, beq_self_eq_true]
      have i0 : (0 : Int) ≤ k := by omega
      have i1 : (k : Int) < l.length := by omega
      clear hr hr'
      go_wp2_with fail
      refine wp_region_pre 9 0 (fun W => Below wr.heap.size wr W) (fun W W' => Below W.heap.size W W')
        (fun j v W => match j with
        | 0 => v = .slice (some ⟨b, off, none⟩) l.length cap
        | 1 => v = .int .i64 (k : Int)
        | 2 => v = .pointer (some ⟨b, off + k * 32, none⟩)
        | 3 => v = .agg (BV x).toArray
        | 4 => v = .slice (some ⟨b', off', none⟩) l.length cap'
        | 5 => v = .int .i64 (k : Int)
        | 6 => v = .pointer (some ⟨b', off' + k * 32, none⟩)
        | 7 => v = .agg (BV x).toArray
        | 8 => v = .bool false
          | _ => True) (fun _ => false)
        (by kernel_rfl) (by kernel_rfl) (by kernel_rfl) (by kernel_rfl) (by kernel_rfl) (by kernel_rfl) (by kernel_rfl) ?_ (fun _ _ h => h.size) (dN (Below.refl _ _) 1) ?_ ?_
      · intro j v W W' hb hF
        match j, hF with
        | 0, h => exact h
        | 1, h => exact h
        | 2, h => exact h
        | 3, h => exact h
        | 4, h => exact h
        | 5, h => exact h
        | 6, h => exact h
        | 7, h => exact h
        | 8, h => exact h
        | _ + 9, _ => trivial
      · refine ⟨?_, ?_, ?_, ?_, ?_, ?_, ?_, ?_, ?_, trivial⟩
        · refine stepJ_val' (fun _ _ => Below.refl _ _) rfl rfl rfl fun ac W hA hG hD => ⟨_, ?_, rfl⟩
          have h0 := hA.getD (t := 0) (by kernel_rfl)
          simp only [Array.getD_eq_getD_getElem?] at h0
          simp [execOp, Act.eval, h0, go_sem]
        · refine stepJ_val' (fun _ _ => Below.refl _ _) rfl rfl rfl fun ac W hA hG hD => ⟨_, ?_, rfl⟩
          have h5 := hA.getD (t := 5) (by kernel_rfl)
          simp only [Array.getD_eq_getD_getElem?] at h5
          simp [execOp, Act.eval, h5, go_sem]
        · refine stepJ_val' (fun _ _ => Below.refl _ _) rfl rfl rfl fun ac W hA hG hD => ⟨_, ?_, rfl⟩
          have h17 := hD.get 0 17 _ rfl rfl (by kernel_rfl)
          have h18 := hD.get 1 18 _ rfl rfl (by kernel_rfl)
          simp only [Array.getD_eq_getD_getElem?] at h17 h18
          simp [execOp, Act.eval, h17, h18, go_sem, i0, i1]
        · refine stepJ_any rfl fun ac W hA hG hD K hK => ?_
          have h19 := hD.get 2 19 _ rfl rfl (by kernel_rfl)
          rw [if_pos (by rfl)]
          exact wp_load_mid 24 _ rfl b (off + k * 32) h19 (BV x) _ (hr1.out W hG) huH.out rfl (by rw [hiH.out, BV_length, hx.out]) (hK _ _ hG (Below.refl _ _) rfl (fun h => by cases h))
        · refine stepJ_val' (fun _ _ => Below.refl _ _) rfl rfl rfl fun ac W hA hG hD => ⟨_, ?_, rfl⟩
          have h1 := hA.getD (t := 1) (by kernel_rfl)
          simp only [Array.getD_eq_getD_getElem?] at h1
          simp [execOp, Act.eval, h1, go_sem]
        · refine stepJ_val' (fun _ _ => Below.refl _ _) rfl rfl rfl fun ac W hA hG hD => ⟨_, ?_, rfl⟩
          have h5 := hA.getD (t := 5) (by kernel_rfl)
          simp only [Array.getD_eq_getD_getElem?] at h5
          simp [execOp, Act.eval, h5, go_sem]
        · refine stepJ_val' (fun _ _ => Below.refl _ _) rfl rfl rfl fun ac W hA hG hD => ⟨_, ?_, rfl⟩
          have h21 := hD.get 4 21 _ rfl rfl (by kernel_rfl)
          have h22 := hD.get 5 22 _ rfl rfl (by kernel_rfl)
          simp only [Array.getD_eq_getD_getElem?] at h21 h22
          simp [execOp, Act.eval, h21, h22, go_sem, i0, i1]
        · refine stepJ_any rfl fun ac W hA hG hD K hK => ?_
          have h23 := hD.get 6 23 _ rfl rfl (by kernel_rfl)
          rw [if_pos (by rfl)]
          exact wp_load_mid 24 _ rfl b' (off' + k * 32) h23 (BV x) _ (hr2.out W hG) huH.out rfl (by rw [hiH.out, BV_length, hx.out]) (hK _ _ hG (Below.refl _ _) rfl (fun h => by cases h))
        · refine stepJ_val' (fun _ _ => Below.refl _ _) rfl rfl rfl fun ac W hA hG hD => ⟨_, ?_, rfl⟩
          have h20 := hD.get 3 20 _ rfl rfl (by kernel_rfl)
          have h24 := hD.get 7 24 _ rfl rfl (by kernel_rfl)
          simp only [Array.getD_eq_getD_getElem?] at h20 h24
          have := heq.out W
          simp [execOp, Act.eval, h20, h24, go_sem, this]
      · intro n0 T W hG hF hne hltb
        have e17 : T 17 = .slice (some ⟨b, off, none⟩) l.length cap := hF 0 _ rfl (by omega)
        have e18 : T 18 = .int .i64 (k : Int) := hF 1 _ rfl (by omega)
        have e19 : T 19 = .pointer (some ⟨b, off + k * 32, none⟩) := hF 2 _ rfl (by omega)
        have e20 : T 20 = .agg (BV x).toArray := hF 3 _ rfl (by omega)
        have e21 : T 21 = .slice (some ⟨b', off', none⟩) l.length cap' := hF 4 _ rfl (by omega)
        have e22 : T 22 = .int .i64 (k : Int) := hF 5 _ rfl (by omega)
        have e23 : T 23 = .pointer (some ⟨b', off' + k * 32, none⟩) := hF 6 _ rfl (by omega)
        have e24 : T 24 = .agg (BV x).toArray := hF 7 _ rfl (by omega)
        have e25 : T 25 = .bool false := hF 8 _ rfl (by omega)
        clear hF hne hltb
        simp only [List.take, fillT, List.setIfInBounds_toArray, List.set_cons_zero, List.set_cons_succ, e17, e18, e19, e20, e21, e22, e23, e24, e25]
        refine wpAny_done (by kernel_rfl) ?_ _
        have hb2 := Lib.hid (hb.out.trans (hG.mono hb.out.size))
        clear e17 e18 e19 e20 e21 e22 e23 e24 e25 hG hr1 hr2 heq hb
        go_wp2_with fail
        go_roundw
        case rel => exact ⟨k + 1, by go_num, by omega, hb2⟩
        case measure => simp [intOf]; omega
    · have hkl' : ¬ (k : Int) < l.length := by omega
      go_wp2_with fail
      go_ret
      exact ⟨rfl, hb.out⟩
end Go.Proofs.YtjfoihlelkfaoaaDoor
