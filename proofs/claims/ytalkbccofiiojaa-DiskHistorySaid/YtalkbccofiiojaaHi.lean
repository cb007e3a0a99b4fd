/- DiskHistory: the law. -/
import Derived.Test.YtalkbccofiiojaaTh
import Derived.Deep.DeepCutAuto
namespace Go.Proofs.Ytalkbccofiiojaa
open Go.RowKit

def kN : Dk := ⟨[zero128, zero128, zero128, zero128], [], -1, false⟩
theorem newH : newD 4 = (kN, 0) := by kernel_rfl
theorem stopH (lf : UInt8) : stopD kN (lf.toNat : Int) = (dH [0, 0, 0, 0] [] lf.toNat, 0) := by
  have hr : runB kN = true := by kernel_rfl
  have := lf.toNat_lt
  unfold stopD
  rw [hr, if_neg (by decide), if_neg (by omega)]
  rfl
theorem wrap64_8 (c : UInt8) : wrap64 (c.toNat : Int) = (c.toNat : Int) := by
  have := c.toNat_lt
  unfold wrap64
  omega
theorem wrapI_8 (c : UInt8) : IntKind.i64.wrap (c.toNat : Int) = (c.toNat : Int) := by
  have := c.toNat_lt
  simp only [IntKind.wrap, IntKind.bits, IntKind.signed]
  simp
  omega

theorem TH.start {w w3 : World} {gd : Nat} {S : Nat → Prop} {x x0 : Dk} {A A' A0 A0' : Option Addr} {c c' c0 c0' : Nat} (H : Below w.heap.size w w3) (hgd : w.heap.size ≤ gd) (hk : KB w3 gd A0 c0 A0' c0' x0) (hd : DR w3 S A c A' c' x) (hS : ∀ b, S b → b < w3.heap.size ∧ b ≠ gd) :
    TH w.heap.size gd w3.heap.size (w3.heap.size + 1) (w3.heap.size + 1 + 1) (w3.heap.size + 1 + 1 + 1) w x [0, 0, 0, 0] [0, 0, 0, 0] [0, 0, 0, 0] (.slice (some ⟨w3.heap.size + 1 + 1 + 1, 0, none⟩) 0 0) [] ((((((((w3.setCell ⟨gd, 0, none⟩ (.slice A x.secs.length c)).setCell ⟨gd, 1, none⟩ (.slice A' x.pend.length c')).setCell ⟨gd, 2, none⟩ (.int .i64 x.left)).setCell ⟨gd, 3, none⟩ (.bool x.stop)).alloc (.cells #[.int .u8 0, .int .u8 0, .int .u8 0, .int .u8 0] 44)).alloc (.cells #[.int .u8 0, .int .u8 0, .int .u8 0, .int .u8 0] 44)).alloc (.cells #[.int .u8 0, .int .u8 0, .int .u8 0, .int .u8 0] 44)).alloc (.cells #[] 46)) := by
  have hgl := hk.lt
  have hHz := H.size
  obtain ⟨V, hV⟩ : ∃ V, V = ((((w3.setCell ⟨gd, 0, none⟩ (.slice A x.secs.length c)).setCell ⟨gd, 1, none⟩ (.slice A' x.pend.length c')).setCell ⟨gd, 2, none⟩ (.int .i64 x.left)).setCell ⟨gd, 3, none⟩ (.bool x.stop)) := ⟨_, rfl⟩
  have hz : V.heap.size = w3.heap.size := by rw [hV]; simp
  have k1 : V.heap[gd]? = some (.cells #[.slice A x.secs.length c, .slice A' x.pend.length c', .int .i64 x.left, .bool x.stop] 25 (0, 0)) := by rw [hV]; exact set4_same w3 gd hk
  have d1 : DR V S A c A' c' x := by rw [hV]; exact hd.keep fun b o hb => set4_other w3 gd _ _ _ _ b o (hS b hb).2
  have hB : Below w.heap.size w V := by rw [hV]; exact (((H.setCell (by exact hgd) _).setCell (by exact hgd) _).setCell (by exact hgd) _).setCell (by exact hgd) _
  rw [← hV, ← hz]
  rw [← hz] at hHz hgl
  have b1 := bnew V (.cells #[.int .u8 0, .int .u8 0, .int .u8 0, .int .u8 0] 44)
  have b2 := bnew (V.alloc (.cells #[.int .u8 0, .int .u8 0, .int .u8 0, .int .u8 0] 44)) (.cells #[.int .u8 0, .int .u8 0, .int .u8 0, .int .u8 0] 44)
  have b3 := bnew ((V.alloc (.cells #[.int .u8 0, .int .u8 0, .int .u8 0, .int .u8 0] 44)).alloc (.cells #[.int .u8 0, .int .u8 0, .int .u8 0, .int .u8 0] 44)) (.cells #[.int .u8 0, .int .u8 0, .int .u8 0, .int .u8 0] 44)
  have b4 := bnew (((V.alloc (.cells #[.int .u8 0, .int .u8 0, .int .u8 0, .int .u8 0] 44)).alloc (.cells #[.int .u8 0, .int .u8 0, .int .u8 0, .int .u8 0] 44)).alloc (.cells #[.int .u8 0, .int .u8 0, .int .u8 0, .int .u8 0] 44)) (.cells #[] 46)
  have n1 := heap_alloc_new V (.cells #[.int .u8 0, .int .u8 0, .int .u8 0, .int .u8 0] 44)
  have n2 := heap_alloc_new (V.alloc (.cells #[.int .u8 0, .int .u8 0, .int .u8 0, .int .u8 0] 44)) (.cells #[.int .u8 0, .int .u8 0, .int .u8 0, .int .u8 0] 44)
  have n3 := heap_alloc_new ((V.alloc (.cells #[.int .u8 0, .int .u8 0, .int .u8 0, .int .u8 0] 44)).alloc (.cells #[.int .u8 0, .int .u8 0, .int .u8 0, .int .u8 0] 44)) (.cells #[.int .u8 0, .int .u8 0, .int .u8 0, .int .u8 0] 44)
  have n4 := heap_alloc_new (((V.alloc (.cells #[.int .u8 0, .int .u8 0, .int .u8 0, .int .u8 0] 44)).alloc (.cells #[.int .u8 0, .int .u8 0, .int .u8 0, .int .u8 0] 44)).alloc (.cells #[.int .u8 0, .int .u8 0, .int .u8 0, .int .u8 0] 44)) (.cells #[] 46)
  simp only [World.size_alloc] at b1 b2 b3 b4 n1 n2 n3 n4
  have b34 := b3.trans (b4.mono (by omega))
  have b234 := b2.trans (b34.mono (by omega))
  have b1234 := b1.trans (b234.mono (by omega))
  refine ⟨hB.trans (b1234.mono (by omega)), ⟨hgd, by omega, by omega, by omega, by omega⟩, ⟨by omega, by omega, by omega, by omega, by omega, by omega⟩, ⟨by omega, by omega, by omega, by omega, by simp⟩, ⟨S, fun b hb => ?_, A, c, A', c', (b1234.block _ hgl).trans k1, d1.keep (Kept.of (fun b hb => by have := (hS b hb).1; omega) b1234)⟩, (b234.block _ (by omega)).trans n1, (b34.block _ (by omega)).trans n2, (b4.block _ (by omega)).trans n3, own_empty n4 (Nat.le_refl _)⟩
  obtain ⟨q1, q2⟩ := hS b hb
  refine ⟨by simp; omega, q2, by omega, by omega, by omega, fun e => ?_⟩
  simp only [Value.ownBlock, Option.some.injEq] at e
  omega
theorem row_any {w : World} {B n k : Nat} {t : TypeId} {v : Value} {xs : List Value} (h : w.ownsRow B t k v n xs) : ∃ A c, v = .slice A n c ∧ n ≤ c ∧ c ≤ maxLen := by
  rcases h.2 with ⟨rfl, rfl⟩ | ⟨g, cap, cur, rfl, -, -, hc, hm, -⟩
  · exact ⟨_, _, rfl, Nat.le_refl _, Nat.zero_le _⟩
  · exact ⟨_, _, rfl, hc, hm⟩
theorem list4 {α : Type} {l : List α} (h : l.length = 4) : ∃ a b c e, l = [a, b, c, e] := by
  match l, h with
  | [a, b, c, e], _ => exact ⟨a, b, c, e, rfl⟩
theorem gap4 (c : UInt8) : Int.tmod (c.toNat : Int) 4 = ((c.toNat % 4 : Nat) : Int) := by
  rw [Int.tmod_eq_emod_of_nonneg (by omega)]
  omega

set_option maxRecDepth 100000 in
set_option maxHeartbeats 8000000 in
theorem history_any (l : List Ac) (lf : UInt8) (w : World) (Al : Option Addr) (cl : Nat) (hll : l.length ≤ cl ∧ cl ≤ maxLen) (hrl : AR w (· < w.heap.size) Al l) :
    Calls Try.prog 6 #[.slice Al l.length cl, .int .u8 (lf.toNat : Int)] w fun e w' => e = .returned (.bool true) ∧ Below w.heap.size w w' := by
  have hrlh := Lib.hid hrl
  have hl63 : l.length ≤ 9223372036854775807 := by have := hll; unfold maxLen at this; omega
  clear hrl hll
  go_enter Try.func6, Try.ntmps6
  go_wp2_with fail
  refine (sane_any _).mono ?_
  rintro e w1 ⟨rfl, hb⟩
  have H := Lib.hid hb
  clear hb
  by_cases h1 : (40 : Int) < l.length
  · go_wp2_with fail
    go_ret
    exact ⟨rfl, H.out⟩
  have hl40 := Lib.hid (show l.length ≤ 40 by omega)
  go_wp2_with fail
  clear h1
  refine (New_any 4 w1).mono ?_
  intro e w2 hp
  obtain ⟨A1, c1, A1', c1', rfl, hd1, hb⟩ := hp.get newH
  clear hp
  have hd1 := Lib.hid (hd1.mono (S' := (· < w2.heap.size)) fun b h => Sn.lt (fun _ h => h.elim) hb b h)
  have H := Lib.hid (H.out.trans (hb.mono H.out.size))
  clear hb
  have H2 := H.out.size
  have wI := wrapI_8 lf
  have w64 := wrap64_8 lf
  have hkb := KB.new w2 A1 A1' c1 c1' kN
  have hbn := bnew w2 (.cells #[.slice A1 kN.secs.length c1, .slice A1' kN.pend.length c1', .int .i64 kN.left, .bool kN.stop] 25)
  have hd1 := Lib.hid (hd1.out.keep (Kept.of (fun _ h => h) hbn))
  have H := Lib.hid (H.out.trans (hbn.mono H.out.size))
  clear hbn
  have hz2 : (w2.alloc (.cells #[.slice A1 kN.secs.length c1, .slice A1' kN.pend.length c1', .int .i64 kN.left, .bool kN.stop] 25)).heap.size = w2.heap.size + 1 := by simp
  have hkb := Lib.hid hkb
  have hlI : I64 (lf.toNat : Int) := by have := lf.toNat_lt; unfold I64; omega
  go_wp2_with fail
  generalize w2.alloc (.cells #[.slice A1 kN.secs.length c1, .slice A1' kN.pend.length c1', .int .i64 kN.left, .bool kN.stop] 25) = V2 at *
  refine (Stop_any kN (lf.toNat : Int) hlI V2 A1 A1' c1 c1' (· < w2.heap.size) (fun _ h => by omega) hd1.out).mono ?_
  intro e w3 hp
  obtain ⟨A2, c2, A2', c2', rfl, hd2, hb⟩ := hp.get (stopH lf)
  clear hp hd1
  have hs3 := hb.size
  have hkb := hkb.out.step hb
  have H := Lib.hid (H.out.trans (hb.mono H.out.size))
  clear hb
  have hgx : w.heap.size ≤ w2.heap.size := H2
  obtain ⟨x0, x1, x2, x3⟩ := hkb.cells
  have xf := hkb.fz
  have hr0 : lf.toNat ≤ 255 := by have := lf.toNat_lt; omega
  have J := Lib.hid (TH.start H.out hgx hkb hd2 (fun b hb => by unfold Sn at hb; omega))
  have hB2 := H.out
  clear hkb hd2
  go_wp2_with fail
  clear x0 x1 x2 x3 xf
  generalize ((((((((w3.setCell ⟨w2.heap.size, 0, none⟩ (.slice A2 (dH [0, 0, 0, 0] [] lf.toNat).secs.length c2)).setCell ⟨w2.heap.size, 1, none⟩ (.slice A2' (dH [0, 0, 0, 0] [] lf.toNat).pend.length c2')).setCell ⟨w2.heap.size, 2, none⟩ (.int .i64 (dH [0, 0, 0, 0] [] lf.toNat).left)).setCell ⟨w2.heap.size, 3, none⟩ (.bool (dH [0, 0, 0, 0] [] lf.toNat).stop)).alloc (.cells #[.int .u8 0, .int .u8 0, .int .u8 0, .int .u8 0] 44)).alloc (.cells #[.int .u8 0, .int .u8 0, .int .u8 0, .int .u8 0] 44)).alloc (.cells #[.int .u8 0, .int .u8 0, .int .u8 0, .int .u8 0] 44)).alloc (.cells #[] 46)) = V9 at *
  obtain ⟨gd, hgd⟩ : ∃ g, g = w2.heap.size := ⟨_, rfl⟩
  obtain ⟨gl, hgl⟩ : ∃ g, g = w3.heap.size := ⟨_, rfl⟩
  rw [← hgd, ← hgl] at J ⊢
  clear hgd hgl hs3 hz2 hgx H2 H hB2 wI w64 hlI
  go_loopw [11, 12, 13] (fun v rm i wr => ∃ (k : Nat) (P : List UInt8) (acts : List Ac) (r : Nat), k ≤ l.length ∧ i = .int .i64 k ∧ rm = .int .i64 r ∧ P.length = 4 ∧ acts.length ≤ k ∧ r ≤ 255 ∧ Hid (TH w.heap.size gd gl (gl + 1) (gl + 1 + 1) (gl + 1 + 1 + 1) w (dH P acts r) (setA P acts) P P v acts wr)) (fun _ _ i _ => l.length - (intOf i).toNat)
  case atStart => exact ⟨0, [0, 0, 0, 0], [], lf.toNat, Nat.zero_le _, rfl, rfl, rfl, Nat.le_refl _, hr0, J⟩
  case round =>
    clear J
    obtain ⟨k, P, acts, r, hk, rfl, rfl, hP, hac, hr, J⟩ := hrel
    by_cases hlt : k < l.length
    · have hl4 := hl40.out
      have j1 : (k : Int) < l.length := by omega
      have j0 : (0 : Int) ≤ k := by omega
      obtain ⟨bl, ol, rfl, hbl, l0, l1, l2⟩ := (hrlh.out.keep (Kept.of (fun _ h => h) J.out.base)).at_ hlt
      cases hsy : l[k].sync with
      | false =>
        rw [hsy] at l0
        have ka := Lib.hid (heap_alloc_new wr (.cells #[.bool false, .int .u8 (l[k].pl.toNat : Int), .int .u8 (l[k].by_.toNat : Int)] 46))
        have J1 := Lib.hid (J.out.step (bnew wr (.cells #[.bool false, .int .u8 (l[k].pl.toNat : Int), .int .u8 (l[k].by_.toNat : Int)] 46)))
        go_wp2_with fail
        have hwp : IntKind.i64.wrap ((l[k].pl.toNat : Int) % 4) = (l[k].pl.toNat : Int) % 4 := by
          simp only [IntKind.wrap, IntKind.bits, IntKind.signed]
          simp
          omega
        have hpI : I64 (((l[k].pl.toNat % 4 : Nat)) : Int) := by unfold I64; omega
        have hac4 : acts.length ≤ 40 := by omega
        have hac5 : (acts ++ [l[k]]).length ≤ 40 := by simp; omega
        have hwx := write_dH hP hac4 hr l[k]
        have hzn := show (dH P (acts ++ [l[k]]) r).secs.length = 4 from secsH_length hP hP
        have hz8 := show ∀ s ∈ (dH P (acts ++ [l[k]]) r).secs, s.length = 128 from secsH_128 P P
        have hzp := show (dH P (acts ++ [l[k]]) r).pend.length ≠ 128 by simp [dH]; omega
        obtain ⟨xd, hxd⟩ : ∃ z, z = dH P acts r := ⟨_, rfl⟩
        obtain ⟨zd, hzd⟩ : ∃ z, z = dH P (acts ++ [l[k]]) r := ⟨_, rfl⟩
        rw [← hxd] at J1 hwx
        rw [← hzd] at hwx hzn hz8 hzp
        replace hwx := Lib.hid hwx
        replace hzn := Lib.hid hzn
        replace hz8 := Lib.hid hz8
        replace hzp := Lib.hid hzp
        have hzdh := Lib.hid hzd
        clear hxd hzd
        obtain ⟨ga, hgae⟩ : ∃ g, g = wr.heap.size := ⟨_, rfl⟩
        rw [← hgae] at ka ⊢
        have hwr1 : (wr.alloc (.cells #[.bool false, .int .u8 (l[k].pl.toNat : Int), .int .u8 (l[k].by_.toNat : Int)] 46)).heap.size = ga + 1 := by simp [hgae]
        have gaU : gl + 1 + 1 + 1 ≤ ga ∧ gd < ga := by have := J.out.up; omega
        generalize wr.alloc (.cells #[.bool false, .int .u8 (l[k].pl.toNat : Int), .int .u8 (l[k].by_.toNat : Int)] 46) = W1 at *
        have hga : ga < W1.heap.size := by omega
        clear hgae
        obtain ⟨S, hS, Ad, cd, Ad', cd', kd, dd⟩ := J1.out.bx
        have hSl : ∀ b, S b → b < W1.heap.size := fun b h => (hS b h).1
        replace kd := Lib.hid (show W1.heap[gd]? = _ from kd)
        replace dd := Lib.hid dd
        clear l0 l1 l2 J
        refine wp_region_preA 15 0 (fun W => Below W1.heap.size W1 W) (Qg S W1.heap.size 4 zd)
          (fun i a v W => match i with
            | 0 => v = .agg #[.slice Ad xd.secs.length cd, .slice Ad' xd.pend.length cd', .int .i64 xd.left, .bool xd.stop]
            | 1 => v = .pointer (some ⟨ga, 1, none⟩)
            | 2 => v = .int .u8 (l[k].pl.toNat : Int)
            | 3 => v = .int .u8 (((l[k].pl.toNat % 4 : Nat)) : Int)
            | 4 => v = .int .i64 (((l[k].pl.toNat % 4 : Nat)) : Int)
            | 5 => v = .pointer (some ⟨ga, 2, none⟩)
            | 6 => v = .int .u8 (l[k].by_.toNat : Int)
            | 7 => ∃ g, v = .slice (some ⟨g, 0, none⟩) 128 128 ∧ DB W g (dbl l[k].by_)
            | 8 => ∃ A1 c1 A1' c1', v = .tuple #[.agg #[.slice A1 zd.secs.length c1, .slice A1' zd.pend.length c1', .int .i64 zd.left, .bool zd.stop], .int .i64 0] ∧ DR W (Sg S W1.heap.size W) A1 c1 A1' c1' zd
            | 9 => ∃ A1 c1 A1' c1', v = .tuple #[.agg #[.slice A1 zd.secs.length c1, .slice A1' zd.pend.length c1', .int .i64 zd.left, .bool zd.stop], .int .i64 0] ∧ DR W (Sg S W1.heap.size W) A1 c1 A1' c1' zd
            | 10 => ∃ A1 c1 A1' c1', v = .agg #[.slice A1 zd.secs.length c1, .slice A1' zd.pend.length c1', .int .i64 zd.left, .bool zd.stop] ∧ DR W (Sg S W1.heap.size W) A1 c1 A1' c1' zd
            | 11 => v = .int .i64 0
            | 12 => ∃ g, v = .pointer (some ⟨g, 0, none⟩) ∧ W1.heap.size ≤ g ∧ Qb 4 W g
            | 13 => ∃ g, a.tmps.getD 15 undef = .pointer (some ⟨g, 0, none⟩) ∧ Bx W g (Sg S W1.heap.size W) zd
            | 14 => v = .int .i64 0
            | _ => True) (fun _ => false)
          (by kernel_rfl) (by kernel_rfl) (by kernel_rfl) (by kernel_rfl) (by kernel_rfl) (by kernel_rfl) (by kernel_rfl) ?_ (fun _ _ h => h.1) (dN (Below.refl _ _) 1) ?_ ?_
        · intro i v a a' W W' hs hb hF
          match i, hs, hF with
          | 0, _, h => exact h
          | 1, _, h => exact h
          | 2, _, h => exact h
          | 3, _, h => exact h
          | 4, _, h => exact h
          | 5, _, h => exact h
          | 6, _, h => exact h
          | 7, _, ⟨g, h1, h2⟩ => exact ⟨g, h1, h2.qk hb.qk⟩
          | 8, _, ⟨A1, c1, A1', c1', h1, h2⟩ => exact ⟨A1, c1, A1', c1', h1, hb.dr hzn.out hz8.out h2⟩
          | 9, _, ⟨A1, c1, A1', c1', h1, h2⟩ => exact ⟨A1, c1, A1', c1', h1, hb.dr hzn.out hz8.out h2⟩
          | 10, _, ⟨A1, c1, A1', c1', h1, h2⟩ => exact ⟨A1, c1, A1', c1', h1, hb.dr hzn.out hz8.out h2⟩
          | 11, _, h => exact h
          | 12, _, ⟨g, h1, h2, h3⟩ => exact ⟨g, h1, h2, hb.qb hzn.out hzp.out h3⟩
          | 13, hs, ⟨g, h1, h2⟩ => exact ⟨g, (hs 15 (by decide +kernel)).trans h1, hb.bx hzn.out hz8.out h2⟩
          | 14, _, h => exact h
          | _ + 15, _, _ => trivial
        · refine ⟨?_, ?_, ?_, ?_, ?_, ?_, ?_, ?_, ?_, ?_, ?_, ?_, ?_, ?_, ?_, trivial⟩
          · refine stepA_any rfl fun ac W hA hG hD K hK => ?_
            have h5 := hA.getD (t := 5) (by kernel_rfl)
            simp only [Array.getD_eq_getD_getElem?] at h5
            obtain ⟨k0, k1, k2, k3⟩ := KB.cells (show KB W gd Ad cd Ad' cd' xd from blk_step kd.out hG)
            rw [if_pos (by rfl)]
            exact wp_val (v := .agg #[.slice Ad xd.secs.length cd, .slice Ad' xd.pend.length cd', .int .i64 xd.left, .bool xd.stop]) (w' := W) (by simp [execOp, Act.eval, h5, go_sem, k0, k1, k2, k3]) (hK _ _ hG (Qg.same _ _ _ _ _) rfl (fun h => by cases h))
          · refine stepA_any rfl fun ac W hA hG hD K hK => ?_
            have h14 := hA.getD (t := 14) (by kernel_rfl)
            simp only [Array.getD_eq_getD_getElem?] at h14
            rw [if_pos (by rfl)]
            exact wp_val (v := .pointer (some ⟨ga, 1, none⟩)) (w' := W) (by simp [execOp, Act.eval, h14, go_sem]) (hK _ _ hG (Qg.same _ _ _ _ _) rfl (fun h => by cases h))
          · refine stepA_any rfl fun ac W hA hG hD K hK => ?_
            have h61 := hD.get 1 61 _ rfl rfl (by kernel_rfl)
            simp only [Array.getD_eq_getD_getElem?] at h61
            have c2 : W.cell? ⟨ga, 1, none⟩ = some (.int .u8 (l[k].pl.toNat : Int)) := cell_of_row W _ 1 _ _ _ ((hG.block _ hga).trans ka.out)
            rw [if_pos (by rfl)]
            exact wp_val (v := .int .u8 (l[k].pl.toNat : Int)) (w' := W) (by simp [execOp, Act.eval, h61, go_sem, c2]) (hK _ _ hG (Qg.same _ _ _ _ _) rfl (fun h => by cases h))
          · refine stepA_any rfl fun ac W hA hG hD K hK => ?_
            have h62 := hD.get 2 62 _ rfl rfl (by kernel_rfl)
            simp only [Array.getD_eq_getD_getElem?] at h62
            rw [if_pos (by rfl)]
            exact wp_val (v := .int .u8 (((l[k].pl.toNat % 4 : Nat)) : Int)) (w' := W) (by simp [execOp, Act.eval, h62, go_sem, gap4]) (hK _ _ hG (Qg.same _ _ _ _ _) rfl (fun h => by cases h))
          · refine stepA_any rfl fun ac W hA hG hD K hK => ?_
            have h63 := hD.get 3 63 _ rfl rfl (by kernel_rfl)
            simp only [Array.getD_eq_getD_getElem?] at h63
            rw [if_pos (by rfl)]
            exact wp_val (v := .int .i64 (((l[k].pl.toNat % 4 : Nat)) : Int)) (w' := W) (by simp [execOp, Act.eval, h63, go_sem, hwp]) (hK _ _ hG (Qg.same _ _ _ _ _) rfl (fun h => by cases h))
          · refine stepA_any rfl fun ac W hA hG hD K hK => ?_
            have h14 := hA.getD (t := 14) (by kernel_rfl)
            simp only [Array.getD_eq_getD_getElem?] at h14
            rw [if_pos (by rfl)]
            exact wp_val (v := .pointer (some ⟨ga, 2, none⟩)) (w' := W) (by simp [execOp, Act.eval, h14, go_sem]) (hK _ _ hG (Qg.same _ _ _ _ _) rfl (fun h => by cases h))
          · refine stepA_any rfl fun ac W hA hG hD K hK => ?_
            have h65 := hD.get 5 65 _ rfl rfl (by kernel_rfl)
            simp only [Array.getD_eq_getD_getElem?] at h65
            have c2 : W.cell? ⟨ga, 2, none⟩ = some (.int .u8 (l[k].by_.toNat : Int)) := cell_of_row W _ 2 _ _ _ ((hG.block _ hga).trans ka.out)
            rw [if_pos (by rfl)]
            exact wp_val (v := .int .u8 (l[k].by_.toNat : Int)) (w' := W) (by simp [execOp, Act.eval, h65, go_sem, c2]) (hK _ _ hG (Qg.same _ _ _ _ _) rfl (fun h => by cases h))
          · refine stepA_any rfl fun ac W hA hG hD K hK => ?_
            have h66 := hD.get 6 66 _ rfl rfl (by kernel_rfl)
            simp only [Array.getD_eq_getD_getElem?] at h66
            rw [if_pos (by rfl)]
            refine wp_call (f := 27) (args := #[.int .u8 (l[k].by_.toNat : Int)]) (by simp [execOp, Act.eval, h66, go_sem]) ((double_any l[k].by_ W).mono fun e W' he => ?_)
            obtain ⟨rfl, hdb, hbw⟩ := he
            exact hK _ _ (hG.trans (hbw.mono hG.size)) (Qg.below hbw) ⟨_, rfl, hdb⟩ (fun h => by cases h)
          · refine stepA_any rfl fun ac W hA hG hD K hK => ?_
            have h60 := hD.get 0 60 _ rfl rfl (by kernel_rfl)
            have h64 := hD.get 4 64 _ rfl rfl (by kernel_rfl)
            obtain ⟨g, h67, hdb⟩ := hD.get 7 67 _ rfl rfl (by kernel_rfl)
            simp only [Array.getD_eq_getD_getElem?] at h60 h64 h67
            rw [if_pos (by rfl)]
            refine wp_call (f := 19) (args := #[.agg #[.slice Ad xd.secs.length cd, .slice Ad' xd.pend.length cd', .int .i64 xd.left, .bool xd.stop], .int .i64 (((l[k].pl.toNat % 4 : Nat)) : Int), .slice (some ⟨g, 0, none⟩) 128 128]) (by simp [execOp, Act.eval, h60, h64, h67, go_sem]) ((Write_any xd (((l[k].pl.toNat % 4 : Nat)) : Int) hpI (dbl l[k].by_) (by rw [dbl_length]; decide) W Ad Ad' (some ⟨g, 0, none⟩) cd cd' 128 (Sg S W1.heap.size W) (Sg.lt hSl hG.size) ((dd.out.keep (Kept.of hSl hG)).mono fun b h => .inl h) hdb.reads).mono fun e W' he => ?_)
            obtain ⟨A1, c1, A1', c1', rfl, hdz, hbw⟩ := he.get hwx.out
            exact hK _ _ (hG.trans (hbw.mono hG.size)) (Qg.below hbw) ⟨A1, c1, A1', c1', rfl, hdz.mono fun b h => Sg.sn hG.size hbw.size b h⟩ (fun h => by cases h)
          · refine stepA_any rfl fun ac W hA hG hD K hK => ?_
            obtain ⟨A1, c1, A1', c1', h68, hdz⟩ := hD.get 8 68 _ rfl rfl (by kernel_rfl)
            simp only [Array.getD_eq_getD_getElem?] at h68
            rw [if_pos (by rfl)]
            exact wp_val (v := .tuple #[.agg #[.slice A1 zd.secs.length c1, .slice A1' zd.pend.length c1', .int .i64 zd.left, .bool zd.stop], .int .i64 0]) (w' := W) (by simp [execOp, Act.eval, h68, go_sem]) (hK _ _ hG (Qg.same _ _ _ _ _) ⟨A1, c1, A1', c1', rfl, hdz⟩ (fun h => by cases h))
          · refine stepA_any rfl fun ac W hA hG hD K hK => ?_
            obtain ⟨A1, c1, A1', c1', h59, hdz⟩ := hD.get 9 59 _ rfl rfl (by kernel_rfl)
            simp only [Array.getD_eq_getD_getElem?] at h59
            rw [if_pos (by rfl)]
            exact wp_val (v := .agg #[.slice A1 zd.secs.length c1, .slice A1' zd.pend.length c1', .int .i64 zd.left, .bool zd.stop]) (w' := W) (by simp [execOp, Act.eval, h59, go_sem]) (hK _ _ hG (Qg.same _ _ _ _ _) ⟨A1, c1, A1', c1', rfl, hdz⟩ (fun h => by cases h))
          · refine stepA_any rfl fun ac W hA hG hD K hK => ?_
            obtain ⟨A1, c1, A1', c1', h59, hdz⟩ := hD.get 9 59 _ rfl rfl (by kernel_rfl)
            simp only [Array.getD_eq_getD_getElem?] at h59
            rw [if_pos (by rfl)]
            exact wp_val (v := .int .i64 0) (w' := W) (by simp [execOp, Act.eval, h59, go_sem]) (hK _ _ hG (Qg.same _ _ _ _ _) rfl (fun h => by cases h))
          · refine stepA_any rfl fun ac W hA hG hD K hK => ?_
            rw [if_pos (by rfl)]
            exact wp_val (v := .pointer (some ⟨W.heap.size, 0, none⟩)) (w' := W.alloc (.cells #[.slice none 0 0, .slice none 0 0, .int .i64 0, .bool false] 25)) (by simp [execOp, go_sem]) (hK _ _ (hG.alloc hG.size _) (Qg.below (bnew W _)) ⟨_, rfl, hG.size, Qb.rawg W⟩ (fun h => by cases h))
          · refine stepA_store rfl rfl fun ac W hA hG hD K hK => ?_
            obtain ⟨g, h15, hg, hq⟩ := hD.get 12 15 _ rfl rfl (by kernel_rfl)
            obtain ⟨A1, c1, A1', c1', h69, hdz⟩ := hD.get 10 69 _ rfl rfl (by kernel_rfl)
            rw [if_pos (by rfl)]
            obtain ⟨p1, p2⟩ := Qg.put hq hzn.out hz8.out hdz
            obtain ⟨_, _, _, _, _, _, _, _, hbx, -⟩ := hq
            exact wp_store_row 25 (.tmp 15) (.tmp 69) rfl g #[.slice A1 zd.secs.length c1, .slice A1' zd.pend.length c1', .int .i64 zd.left, .bool zd.stop] h15 h69 25 _ hbx (by kernel_rfl) rfl (by simp [Value.oneCell']) (hK _ (below_setRow hG hg _) p1 ⟨g, h15, p2⟩)
          · refine stepA_any rfl fun ac W hA hG hD K hK => ?_
            have h70 := hD.get 11 70 _ rfl rfl (by kernel_rfl)
            simp only [Array.getD_eq_getD_getElem?] at h70
            rw [if_pos (by rfl)]
            exact wp_val (v := .int .i64 0) (w' := W) (by simp [execOp, Act.eval, h70, go_sem]) (hK _ _ hG (Qg.same _ _ _ _ _) rfl (fun h => by cases h))
        intro fu T W hG hF hne hltb
        have e60 : T 60 = .agg #[.slice Ad xd.secs.length cd, .slice Ad' xd.pend.length cd', .int .i64 xd.left, .bool xd.stop] := hF 0 _ rfl (by omega)
        have e61 : T 61 = .pointer (some ⟨ga, 1, none⟩) := hF 1 _ rfl (by omega)
        have e62 : T 62 = .int .u8 (l[k].pl.toNat : Int) := hF 2 _ rfl (by omega)
        have e63 : T 63 = .int .u8 (((l[k].pl.toNat % 4 : Nat)) : Int) := hF 3 _ rfl (by omega)
        have e64 : T 64 = .int .i64 (((l[k].pl.toNat % 4 : Nat)) : Int) := hF 4 _ rfl (by omega)
        have e65 : T 65 = .pointer (some ⟨ga, 2, none⟩) := hF 5 _ rfl (by omega)
        have e66 : T 66 = .int .u8 (l[k].by_.toNat : Int) := hF 6 _ rfl (by omega)
        obtain ⟨g7, e67, -⟩ := hF 7 _ rfl (by omega)
        have e67 : T 67 = _ := e67
        obtain ⟨A8, c8, A8', c8', e68, -⟩ := hF 8 _ rfl (by omega)
        have e68 : T 68 = _ := e68
        obtain ⟨A9, c9, A9', c9', e59, -⟩ := hF 9 _ rfl (by omega)
        have e59 : T 59 = _ := e59
        obtain ⟨A10, c10, A10', c10', e69, -⟩ := hF 10 _ rfl (by omega)
        have e69 : T 69 = _ := e69
        have e70 : T 70 = .int .i64 0 := hF 11 _ rfl (by omega)
        obtain ⟨gz, e15, hgz, -⟩ := hF 12 _ rfl (by omega)
        have e15 : T 15 = _ := e15
        have e16 : T 16 = .int .i64 0 := hF 14 _ rfl (by omega)
        have hbz := hF 13 _ rfl (by omega)
        clear hF hne hltb
        simp only [List.take, fillT, List.setIfInBounds_toArray, List.set_cons_zero, List.set_cons_succ, e60, e61, e62, e63, e64, e65, e66, e67, e68, e59, e69, e70, e15, e16] at hbz ⊢
        clear e60 e61 e62 e63 e64 e65 e66 e67 e68 e59 e69 e70 e15 e16
        obtain ⟨g', hg1, hbz⟩ := hbz
        obtain rfl : gz = g' := by simpa using hg1
        clear hg1
        refine wpAny_done (by kernel_rfl) ?_ _
        obtain ⟨A1, c1, A1', c1', kz, dz⟩ := hbz
        have J2 := J1.out.step hG
        have ka2 : W.heap[ga]? = some (.cells #[.bool false, .int .u8 (l[k].pl.toNat : Int), .int .u8 (l[k].by_.toNat : Int)] 46 (0, 0)) := (hG.block _ hga).trans ka.out
        have hWz := hG.size
        obtain ⟨z0, z1, z2, z3⟩ := kz.cells
        obtain ⟨j, hj⟩ : ∃ j, j = l[k].pl.toNat % 4 := ⟨_, rfl⟩
        have hj4 : j < 4 := by omega
        have hg4 : Int.tmod (l[k].pl.toNat : Int) 4 = (j : Int) := by rw [gap4, hj]
        have hup := J1.out.up
        have J3 := J2.putr (S' := Sg S W1.heap.size W) (fun b hb => by
          rcases hb with hb | hb
          · obtain ⟨q1, q2⟩ := hS b hb
            exact ⟨by omega, q2⟩
          · refine ⟨hb.2, by omega, by omega, by omega, by omega, fun e => ?_⟩
            have := (World.ownsRow.lt J1.out.wa _ e).2
            omega) dz
        have hLj : (setA P acts).length = 4 := by rw [setA_length, hP]
        obtain ⟨S0, hS0, Ay, cy, Ay', cy', ky, -⟩ := J2.bx
        have hagd : ga ≠ gd := by omega
        have hagl : ga ≠ gl := by omega
        have ka3 := (setRow_other W gd ga #[.slice A1 zd.secs.length c1, .slice A1' zd.pend.length c1', .int .i64 zd.left, .bool zd.stop] hagd).trans ka2
        have hgaW : ga < W.heap.size := by omega
        clear J2 kz dz hS0 S0 hgz hSl hS hG dd kd ka2
        go_upto_region 21 with (refine wpList_store_row rfl 25 _ _ rfl gd #[.slice A1 zd.secs.length c1, .slice A1' zd.pend.length c1', .int .i64 zd.left, .bool zd.stop] rfl rfl 25 _ ky ?cj2 ?cl2 ?ck2 ?_
                                case cj2 => kernel_rfl
                                case cl2 => rfl
                                case ck2 => simp [Value.oneCell'])
        clear z0 z1 z2 z3 ky
        generalize W.setRow gd #[.slice A1 zd.secs.length c1, .slice A1' zd.pend.length c1', .int .i64 zd.left, .bool zd.stop] = V at *
        have J4 := J3.setL j l[k].by_
        have vl0 := (cell_of_row V gl j _ _ _ J3.la).trans ((List.getElem?_toArray).trans (BV_get (setA P acts) j (by omega)))
        obtain ⟨old, vl⟩ : ∃ old, V.cell? ⟨gl, j, none⟩ = some old := ⟨_, vl0⟩
        clear vl0
        have vf := frozen_of_row V gl j _ _ J3.la
        have wa1 : V.cell? ⟨ga, 1, none⟩ = some (.int .u8 (l[k].pl.toNat : Int)) := cell_of_row _ ga 1 _ _ _ ka3
        have wa2 : V.cell? ⟨ga, 2, none⟩ = some (.int .u8 (l[k].by_.toNat : Int)) := cell_of_row _ ga 2 _ _ _ ka3
        have ka4 := (heap_setCell_other V ⟨gl, j, none⟩ ga (.int .u8 (l[k].by_.toNat : Int)) hagl).trans ka3
        have hjh := Lib.hid hj
        have jj : (j : Int) < 4 := by omega
        have jj0 : (0 : Int) ≤ j := by omega
        clear J3 hj ka3
        have J4 := Lib.hid J4
        have ka4 := Lib.hid ka4
        go_upto_region 22 with fail
        generalize V.setCell ⟨gl, j, none⟩ (.int .u8 (l[k].by_.toNat : Int)) = V2 at *
        clear vl vf wa1 wa2 hg4
        have wa0 : V2.cell? ⟨ga, 0, none⟩ = some (.bool false) := cell_of_row _ ga 0 _ _ _ ka4.out
        have wa1 : V2.cell? ⟨ga, 1, none⟩ = some (.int .u8 (l[k].pl.toNat : Int)) := cell_of_row _ ga 1 _ _ _ ka4.out
        have wa2 : V2.cell? ⟨ga, 2, none⟩ = some (.int .u8 (l[k].by_.toNat : Int)) := cell_of_row _ ga 2 _ _ _ ka4.out
        have kf := heap_alloc_new V2 (.cells #[.bool false, .int .u8 (l[k].pl.toNat : Int), .int .u8 (l[k].by_.toNat : Int)] 46)
        have J5 := J4.out.step (bnew V2 (.cells #[.bool false, .int .u8 (l[k].pl.toNat : Int), .int .u8 (l[k].by_.toNat : Int)] 46))
        obtain ⟨v', W', hr', J6⟩ := J5.app l[k] (by omega) 43 _ (by rw [hsy]; exact kf)
        have hLe : (setA P acts).set j l[k].by_ = setA P (acts ++ [l[k]]) := by rw [setA_append, hjh.out]
        rw [hLe] at J6
        obtain ⟨p0, p1, p2, p3, hp⟩ := list4 (show (setA P (acts ++ [l[k]])).length = 4 by rw [setA_length, hP])
        have hHR := HR_dH hP hac5 hr (l := acts ++ [l[k]])
        rw [← hzdh.out] at hHR
        rw [hp] at J6 hHR
        replace hp := Lib.hid hp
        replace hHR := Lib.hid hHR
        obtain ⟨S0, hS0, Ay, cy, Ay', cy', ky, dy⟩ := J6.bx
        obtain ⟨y0, y1, y2, y3⟩ := ky.cells
        replace dy := dy.mono (S' := (· < W'.heap.size)) fun b h => (hS0 b h).1
        have q0 : W'.cell? ⟨gl, 0, none⟩ = some (.int .u8 (p0.toNat : Int)) := cell_of_row _ gl 0 _ _ _ J6.la
        have q1 : W'.cell? ⟨gl, 1, none⟩ = some (.int .u8 (p1.toNat : Int)) := cell_of_row _ gl 1 _ _ _ J6.la
        have q2 : W'.cell? ⟨gl, 2, none⟩ = some (.int .u8 (p2.toNat : Int)) := cell_of_row _ gl 2 _ _ _ J6.la
        have q3 : W'.cell? ⟨gl, 3, none⟩ = some (.int .u8 (p3.toNat : Int)) := cell_of_row _ gl 3 _ _ _ J6.la
        replace J6 := Lib.hid J6
        replace hr' := Lib.hid hr'
        replace dy := Lib.hid dy
        clear J5 kf ky hS0 S0 J4 ka4 hLe jj jj0
        go_wp2_with (at_builtin; refine Lib.wpList_append_run _ rfl _ _ _ _ rfl _ _ rfl rfl _ _ hr'.out ?_)
        clear y0 y1 y2 y3 q0 q1 q2 q3 wa0 wa1 wa2
        refine (holds_any zd W' Ay Ay' cy cy' dy.out p0 p1 p2 p3 p0 p1 p2 p3 hHR.out).mono ?_
        rintro e W2' ⟨rfl, hb⟩
        have J7 := J6.out.step hb
        rw [← hp.out, hzdh.out] at J7
        replace J7 := Lib.hid J7
        clear hb hr'
        go_wp2_with fail
        go_roundw
        case rel => exact ⟨k + 1, P, acts ++ [l[k]], r, by omega, by go_num, rfl, hP, by simp; omega, hr, J7⟩
        case measure => simp [intOf]; omega
      | true =>
        rw [hsy] at l0
        have J1 := J.out.step (bnew wr (.cells #[.bool true, .int .u8 (l[k].pl.toNat : Int), .int .u8 (l[k].by_.toNat : Int)] 46))
        obtain ⟨Av, cv, hve, -, -⟩ := row_any J.out.wa
        subst hve
        have hac4 : acts.length ≤ 40 := by omega
        have hsy2 := sync_dH hP hac4 hr
        obtain ⟨xd, hxd⟩ : ∃ z, z = dH P acts r := ⟨_, rfl⟩
        rw [← hxd] at J1 hsy2
        clear hxd J
        obtain ⟨S, hS, Ad, cd, Ad', cd', kd, dd⟩ := J1.bx
        replace J1 := Lib.hid J1
        have hz1 : (wr.alloc (.cells #[.bool true, .int .u8 (l[k].pl.toNat : Int), .int .u8 (l[k].by_.toNat : Int)] 46)).heap.size = wr.heap.size + 1 := by simp
        go_upto_region 23 with fail
        generalize wr.alloc (.cells #[.bool true, .int .u8 (l[k].pl.toNat : Int), .int .u8 (l[k].by_.toNat : Int)] 46) = W1 at *
        clear hz1 l0 l1 l2
        obtain ⟨zd, mz, hzd⟩ : ∃ z m, (z, m) = (if acts.length ≤ r then (dH (setA P acts) [] (r - acts.length), (0 : Int)) else (tornH P acts r, 40)) := ⟨_, _, rfl⟩
        rw [← hzd] at hsy2
        replace hzd := Lib.hid hzd
        obtain ⟨y0, y1, y2, y3⟩ := kd.cells
        have hSl : ∀ b, S b → b < W1.heap.size := fun b h => (hS b h).1
        replace dd := Lib.hid dd
        replace hsy2 := Lib.hid hsy2
        clear kd
        have hup := Lib.hid J1.out.up
        go_wp2_with fail
        clear y0 y1 y2 y3
        refine (Sync_any xd W1 Ad Ad' cd cd' S hSl dd.out).mono ?_
        intro e W2 hp
        obtain ⟨A1, c1, A1', c1', rfl, dz, hb⟩ := hp.get hsy2.out
        clear hp
        have hT : ∀ b, Sn S W1 W2 b → b < W2.heap.size ∧ b ≠ gd ∧ b ≠ gl ∧ b ≠ gl + 1 ∧ b ≠ gl + 1 + 1 ∧ (Value.slice Av acts.length cv).ownBlock ≠ some b := fun b hb2 => by
          have hz := hb.size
          have hup := hup.out
          rcases hb2 with hb2 | hb2
          · obtain ⟨q1, q2⟩ := hS b hb2
            exact ⟨by omega, q2⟩
          · refine ⟨hb2.2, by omega, by omega, by omega, by omega, fun e => ?_⟩
            have := (World.ownsRow.lt J1.out.wa _ e).2
            omega
        generalize Sn S W1 W2 = T at *
        have J2 := J1.out.step hb
        have J3 := J2.step (bnew W2 (.cells #[.slice A1 zd.secs.length c1, .slice A1' zd.pend.length c1', .int .i64 zd.left, .bool zd.stop] 25))
        have kx := KB.new W2 A1 A1' c1 c1' zd
        have dx := dz.keep (Kept.of (fun b h => (hT b h).1) (bnew W2 (.cells #[.slice A1 zd.secs.length c1, .slice A1' zd.pend.length c1', .int .i64 zd.left, .bool zd.stop] 25)))
        have hz3 : (W2.alloc (.cells #[.slice A1 zd.secs.length c1, .slice A1' zd.pend.length c1', .int .i64 zd.left, .bool zd.stop] 25)).heap.size = W2.heap.size + 1 := by simp
        have hgxn := J2.up.2.2.2.2
        have hgdn := J2.up.1
        replace J3 := Lib.hid J3
        replace kx := Lib.hid kx
        replace dx := Lib.hid dx
        clear J1 J2 dz hS dd hSl hb hup
        go_upto_region 24 with fail
        obtain ⟨gx, hgx⟩ : ∃ g, g = W2.heap.size := ⟨_, rfl⟩
        generalize W2.alloc (.cells #[.slice A1 zd.secs.length c1, .slice A1' zd.pend.length c1', .int .i64 zd.left, .bool zd.stop] 25) = V at *
        rw [← hgx] at hz3 kx hgxn ⊢
        replace hT : ∀ b, T b → b < gx ∧ b ≠ gd ∧ b ≠ gl ∧ b ≠ gl + 1 ∧ b ≠ gl + 1 + 1 ∧ (Value.slice Av acts.length cv).ownBlock ≠ some b := by rw [hgx]; exact hT
        clear hgx
        go_wp2_with fail
        obtain ⟨w0, hw0⟩ : ∃ w0, w0 = wr := ⟨_, rfl⟩
        subst hw0
        go_loopw [20] (fun i wr => ∃ q : Nat, q ≤ acts.length ∧ q ≤ r + 1 ∧ i = .int .i64 q ∧ Hid (TH w.heap.size gd gl (gl + 1) (gl + 1 + 1) (gl + 1 + 1 + 1) w xd (setA P acts) (setA P (acts.take q)) (setA P (acts.take (min q r))) (.slice Av acts.length cv) acts wr) ∧ Hid (KB wr gx A1 c1 A1' c1' zd) ∧ Hid (DR wr T A1 c1 A1' c1' zd)) (fun i _ => acts.length - (intOf i).toNat)
        case atStart => exact ⟨0, Nat.zero_le _, Nat.zero_le _, rfl, by rw [Nat.zero_min]; exact J3, kx, dx⟩
        case round =>
          clear J3 kx dx
          obtain ⟨q, hq, hqr, rfl, J, kx, dx⟩ := hrel
          have hgxr : gx < wr.heap.size := kx.out.lt
          by_cases hlt : q < acts.length ∧ q ≤ r
          · obtain ⟨hlt, hle⟩ := hlt
            have j0 : (0 : Int) ≤ q := by omega
            have j1 : (q : Int) < acts.length := by omega
            have j2 : (q : Int) ≤ r := by omega
            obtain ⟨gv, rfl⟩ : ∃ g, Av = some ⟨g, 0, none⟩ := by
              rcases J.out.wa.2 with ⟨h1, h2⟩ | ⟨g, cap, cur, h1, -⟩
              · omega
              · injection h1 with h1; exact ⟨g, h1⟩
            have hav := AV_get hlt
            have c1 := World.ownsRow.cells J.out.wa (g := gv) rfl _ _ hav.2.1
            have c2 := World.ownsRow.cells J.out.wa (g := gv) rfl _ _ hav.2.2
            rw [add_none, Nat.zero_add] at c1 c2
            have hgv : gv < wr.heap.size := World.block_lt_of_cell? wr ⟨gv, _, none⟩ c1
            obtain ⟨j, hj⟩ : ∃ j, j = acts[q].pl.toNat % 4 := ⟨_, rfl⟩
            have hj4 : j < 4 := by omega
            have hg4 : Int.tmod (acts[q].pl.toNat : Int) 4 = (j : Int) := by rw [gap4, hj]
            have jj : (j : Int) < 4 := by omega
            have jj0 : (0 : Int) ≤ j := by omega
            have hsF := setA_take_succ P acts q hlt
            rw [← hj] at hsF
            replace hsF := Lib.hid hsF
            replace hj := Lib.hid hj
            replace c1 := Lib.hid c1
            replace c2 := Lib.hid c2
            clear hav
            go_wp2_with fail
            refine wp_region_pre 12 1 (fun W => Below wr.heap.size wr W) (fun W W' => Below W.heap.size W W')
              (fun i v W => match i with
                | 0 => v = .slice (some ⟨gv, 0, none⟩) acts.length cv
                | 1 => v = .int .i64 (q : Int)
                | 2 => v = .pointer (some ⟨gv, q * 3, none⟩)
                | 3 => v = .pointer (some ⟨gv, q * 3 + 1, none⟩)
                | 4 => v = .int .u8 (acts[q].pl.toNat : Int)
                | 5 => v = .int .u8 (j : Int)
                | 6 => v = .slice (some ⟨gv, 0, none⟩) acts.length cv
                | 7 => v = .int .i64 (q : Int)
                | 8 => v = .pointer (some ⟨gv, q * 3, none⟩)
                | 9 => v = .pointer (some ⟨gv, q * 3 + 2, none⟩)
                | 10 => v = .int .u8 (acts[q].by_.toNat : Int)
                | 11 => v = .pointer (some ⟨gl + 1, j, none⟩)
                | _ => True) (fun _ => false)
              (by kernel_rfl) (by kernel_rfl) (by kernel_rfl) (by kernel_rfl) (by kernel_rfl) (by kernel_rfl) (by kernel_rfl) ?_ (fun _ _ h => h.size) (dN (Below.refl _ _) 1) ?_ ?_
            · intro i v W W' hb hF
              match i, hF with
              | 0, h => exact h
              | 1, h => exact h
              | 2, h => exact h
              | 3, h => exact h
              | 4, h => exact h
              | 5, h => exact h
              | 6, h => exact h
              | 7, h => exact h
              | 8, h => exact h
              | 9, h => exact h
              | 10, h => exact h
              | 11, h => exact h
              | _ + 12, _ => trivial
            · refine ⟨?_, ?_, ?_, ?_, ?_, ?_, ?_, ?_, ?_, ?_, ?_, ?_, trivial⟩
              · refine stepJ_val' (fun _ _ => Below.refl _ _) rfl rfl rfl fun ac W hA hG hD => ⟨_, ?_, rfl⟩
                have h11 := hA.getD (t := 11) (by kernel_rfl)
                simp only [Array.getD_eq_getD_getElem?] at h11
                simp [execOp, Act.eval, h11, go_sem]
              · refine stepJ_val' (fun _ _ => Below.refl _ _) rfl rfl rfl fun ac W hA hG hD => ⟨_, ?_, rfl⟩
                have h20 := hA.getD (t := 20) (by kernel_rfl)
                simp only [Array.getD_eq_getD_getElem?] at h20
                simp [execOp, Act.eval, h20, go_sem]
              · refine stepJ_val' (fun _ _ => Below.refl _ _) rfl rfl rfl fun ac W hA hG hD => ⟨_, ?_, rfl⟩
                have h104 := hD.get 0 104 _ rfl rfl (by kernel_rfl)
                have h105 := hD.get 1 105 _ rfl rfl (by kernel_rfl)
                simp only [Array.getD_eq_getD_getElem?] at h104 h105
                simp [execOp, Act.eval, h104, h105, go_sem, j0, j1]
              · refine stepJ_val' (fun _ _ => Below.refl _ _) rfl rfl rfl fun ac W hA hG hD => ⟨_, ?_, rfl⟩
                have h106 := hD.get 2 106 _ rfl rfl (by kernel_rfl)
                simp only [Array.getD_eq_getD_getElem?] at h106
                simp [execOp, Act.eval, h106, go_sem]
              · refine stepJ_val' (fun _ _ => Below.refl _ _) rfl rfl rfl fun ac W hA hG hD => ⟨_, ?_, rfl⟩
                have h107 := hD.get 3 107 _ rfl rfl (by kernel_rfl)
                simp only [Array.getD_eq_getD_getElem?] at h107
                have c0 := (hG.cell (p := ⟨gv, q * 3 + 1, none⟩) hgv).trans c1.out
                simp [execOp, Act.eval, h107, go_sem, c0]
              · refine stepJ_val' (fun _ _ => Below.refl _ _) rfl rfl rfl fun ac W hA hG hD => ⟨_, ?_, rfl⟩
                have h108 := hD.get 4 108 _ rfl rfl (by kernel_rfl)
                simp only [Array.getD_eq_getD_getElem?] at h108
                simp [execOp, Act.eval, h108, go_sem, hg4]
              · refine stepJ_val' (fun _ _ => Below.refl _ _) rfl rfl rfl fun ac W hA hG hD => ⟨_, ?_, rfl⟩
                have h11 := hA.getD (t := 11) (by kernel_rfl)
                simp only [Array.getD_eq_getD_getElem?] at h11
                simp [execOp, Act.eval, h11, go_sem]
              · refine stepJ_val' (fun _ _ => Below.refl _ _) rfl rfl rfl fun ac W hA hG hD => ⟨_, ?_, rfl⟩
                have h20 := hA.getD (t := 20) (by kernel_rfl)
                simp only [Array.getD_eq_getD_getElem?] at h20
                simp [execOp, Act.eval, h20, go_sem]
              · refine stepJ_val' (fun _ _ => Below.refl _ _) rfl rfl rfl fun ac W hA hG hD => ⟨_, ?_, rfl⟩
                have h110 := hD.get 6 110 _ rfl rfl (by kernel_rfl)
                have h111 := hD.get 7 111 _ rfl rfl (by kernel_rfl)
                simp only [Array.getD_eq_getD_getElem?] at h110 h111
                simp [execOp, Act.eval, h110, h111, go_sem, j0, j1]
              · refine stepJ_val' (fun _ _ => Below.refl _ _) rfl rfl rfl fun ac W hA hG hD => ⟨_, ?_, rfl⟩
                have h112 := hD.get 8 112 _ rfl rfl (by kernel_rfl)
                simp only [Array.getD_eq_getD_getElem?] at h112
                simp [execOp, Act.eval, h112, go_sem]
              · refine stepJ_val' (fun _ _ => Below.refl _ _) rfl rfl rfl fun ac W hA hG hD => ⟨_, ?_, rfl⟩
                have h113 := hD.get 9 113 _ rfl rfl (by kernel_rfl)
                simp only [Array.getD_eq_getD_getElem?] at h113
                have c0 := (hG.cell (p := ⟨gv, q * 3 + 2, none⟩) hgv).trans c2.out
                simp [execOp, Act.eval, h113, go_sem, c0]
              · refine stepJ_val' (fun _ _ => Below.refl _ _) rfl rfl rfl fun ac W hA hG hD => ⟨_, ?_, rfl⟩
                have h9 := hA.getD (t := 9) (by kernel_rfl)
                have h109 := hD.get 5 109 _ rfl rfl (by kernel_rfl)
                simp only [Array.getD_eq_getD_getElem?] at h9 h109
                simp [execOp, Act.eval, h9, h109, go_sem, jj, jj0]
            intro fu T W hG hF hne hltb
            have e104 : T 104 = .slice (some ⟨gv, 0, none⟩) acts.length cv := hF 0 _ rfl (by omega)
            have e105 : T 105 = .int .i64 (q : Int) := hF 1 _ rfl (by omega)
            have e106 : T 106 = .pointer (some ⟨gv, q * 3, none⟩) := hF 2 _ rfl (by omega)
            have e107 : T 107 = .pointer (some ⟨gv, q * 3 + 1, none⟩) := hF 3 _ rfl (by omega)
            have e108 : T 108 = .int .u8 (acts[q].pl.toNat : Int) := hF 4 _ rfl (by omega)
            have e109 : T 109 = .int .u8 (j : Int) := hF 5 _ rfl (by omega)
            have e110 : T 110 = .slice (some ⟨gv, 0, none⟩) acts.length cv := hF 6 _ rfl (by omega)
            have e111 : T 111 = .int .i64 (q : Int) := hF 7 _ rfl (by omega)
            have e112 : T 112 = .pointer (some ⟨gv, q * 3, none⟩) := hF 8 _ rfl (by omega)
            have e113 : T 113 = .pointer (some ⟨gv, q * 3 + 2, none⟩) := hF 9 _ rfl (by omega)
            have e114 : T 114 = .int .u8 (acts[q].by_.toNat : Int) := hF 10 _ rfl (by omega)
            have e115 : T 115 = .pointer (some ⟨gl + 1, j, none⟩) := hF 11 _ rfl (by omega)
            clear hF hne hltb
            simp only [List.take, fillT, List.setIfInBounds_toArray, List.set_cons_zero, List.set_cons_succ, e104, e105, e106, e107, e108, e109, e110, e111, e112, e113, e114, e115]
            clear e104 e105 e106 e107 e108 e109 e110 e111 e112 e113 e114 e115
            refine wpAny_ready (rs := [12]) (by kernel_rfl) (by simp) (AllReady.cons (o := ⟨none, .store 5 (.tmp 115) (.tmp 114), _, _, _, none⟩) rfl (fun K1 hK1 => ?_) AllReady.nil)
            rw [if_pos (by rfl)]
            have JW := J.out.step hG
            have hold := (cell_of_row W (gl + 1) j _ _ _ JW.fi).trans ((List.getElem?_toArray).trans (BV_get _ j (by rw [setA_length, hP]; exact hj4)))
            refine wp_store_one 5 _ _ rfl (gl + 1) j rfl (.int .u8 (acts[q].by_.toNat : Int)) rfl rfl rfl Try.sizeOf5 _ hold (frozen_of_row W (gl + 1) j _ _ JW.fi) ?_
            refine hK1 _ _ ?_
            clear hK1 K1
            refine wpAny_done (by kernel_rfl) ?_ _
            simp only [Act.put]
            have J9 := JW.setF j acts[q].by_
            have kx9 := (heap_setCell_other W ⟨gl + 1, j, none⟩ gx (.int .u8 (acts[q].by_.toNat : Int)) (by show gx ≠ gl + 1; omega)).trans ((hG.block _ (by omega)).trans kx.out)
            have dx9 := (dx.out.keep (Kept.of (fun b h => by have := (hT b h).1; omega) hG)).keep (w' := W.setCell ⟨gl + 1, j, none⟩ (.int .u8 (acts[q].by_.toNat : Int))) fun b _ hb => World.cell?_of_block (heap_setCell_other W ⟨gl + 1, j, none⟩ b (.int .u8 (acts[q].by_.toNat : Int)) (hT b hb).2.2.2.1)
            have hz9 : (W.setCell ⟨gl + 1, j, none⟩ (.int .u8 (acts[q].by_.toNat : Int))).heap.size = W.heap.size := by simp
            have hz8 := hG.size
            clear JW hold hG J kx dx
            generalize W.setCell ⟨gl + 1, j, none⟩ (.int .u8 (acts[q].by_.toNat : Int)) = w9 at *
            rw [← hsF.out] at J9
            have hgv9 : gv < w9.heap.size := by omega
            have hgx9 : gx < w9.heap.size := by omega
            have c1 := World.ownsRow.cells J9.wa (g := gv) rfl _ _ (AV_get hlt).2.1
            have c2 := World.ownsRow.cells J9.wa (g := gv) rfl _ _ (AV_get hlt).2.2
            rw [add_none, Nat.zero_add] at c1 c2
            replace c1 := Lib.hid c1
            replace c2 := Lib.hid c2
            have J := Lib.hid J9
            have kx := Lib.hid kx9
            have dx := Lib.hid dx9
            clear J9 kx9 dx9
            by_cases hqr2 : q < r
            · have j3 : (q : Int) < r := by omega
              go_wp2_with fail
              refine wp_region_pre 12 1 (fun W => Below w9.heap.size w9 W) (fun W W' => Below W.heap.size W W')
                (fun i v W => match i with
                  | 0 => v = .slice (some ⟨gv, 0, none⟩) acts.length cv
                  | 1 => v = .int .i64 (q : Int)
                  | 2 => v = .pointer (some ⟨gv, q * 3, none⟩)
                  | 3 => v = .pointer (some ⟨gv, q * 3 + 1, none⟩)
                  | 4 => v = .int .u8 (acts[q].pl.toNat : Int)
                  | 5 => v = .int .u8 (j : Int)
                  | 6 => v = .slice (some ⟨gv, 0, none⟩) acts.length cv
                  | 7 => v = .int .i64 (q : Int)
                  | 8 => v = .pointer (some ⟨gv, q * 3, none⟩)
                  | 9 => v = .pointer (some ⟨gv, q * 3 + 2, none⟩)
                  | 10 => v = .int .u8 (acts[q].by_.toNat : Int)
                  | 11 => v = .pointer (some ⟨gl + 1 + 1, j, none⟩)
                  | _ => True) (fun _ => false)
                (by kernel_rfl) (by kernel_rfl) (by kernel_rfl) (by kernel_rfl) (by kernel_rfl) (by kernel_rfl) (by kernel_rfl) ?_ (fun _ _ h => h.size) (dN (Below.refl _ _) 1) ?_ ?_
              · intro i v W W' hb hF
                match i, hF with
                | 0, h => exact h
                | 1, h => exact h
                | 2, h => exact h
                | 3, h => exact h
                | 4, h => exact h
                | 5, h => exact h
                | 6, h => exact h
                | 7, h => exact h
                | 8, h => exact h
                | 9, h => exact h
                | 10, h => exact h
                | 11, h => exact h
                | _ + 12, _ => trivial
              · refine ⟨?_, ?_, ?_, ?_, ?_, ?_, ?_, ?_, ?_, ?_, ?_, ?_, trivial⟩
                · refine stepJ_val' (fun _ _ => Below.refl _ _) rfl rfl rfl fun ac W hA hG hD => ⟨_, ?_, rfl⟩
                  have h11 := hA.getD (t := 11) (by kernel_rfl)
                  simp only [Array.getD_eq_getD_getElem?] at h11
                  simp [execOp, Act.eval, h11, go_sem]
                · refine stepJ_val' (fun _ _ => Below.refl _ _) rfl rfl rfl fun ac W hA hG hD => ⟨_, ?_, rfl⟩
                  have h20 := hA.getD (t := 20) (by kernel_rfl)
                  simp only [Array.getD_eq_getD_getElem?] at h20
                  simp [execOp, Act.eval, h20, go_sem]
                · refine stepJ_val' (fun _ _ => Below.refl _ _) rfl rfl rfl fun ac W hA hG hD => ⟨_, ?_, rfl⟩
                  have h119 := hD.get 0 119 _ rfl rfl (by kernel_rfl)
                  have h120 := hD.get 1 120 _ rfl rfl (by kernel_rfl)
                  simp only [Array.getD_eq_getD_getElem?] at h119 h120
                  simp [execOp, Act.eval, h119, h120, go_sem, j0, j1]
                · refine stepJ_val' (fun _ _ => Below.refl _ _) rfl rfl rfl fun ac W hA hG hD => ⟨_, ?_, rfl⟩
                  have h121 := hD.get 2 121 _ rfl rfl (by kernel_rfl)
                  simp only [Array.getD_eq_getD_getElem?] at h121
                  simp [execOp, Act.eval, h121, go_sem]
                · refine stepJ_val' (fun _ _ => Below.refl _ _) rfl rfl rfl fun ac W hA hG hD => ⟨_, ?_, rfl⟩
                  have h122 := hD.get 3 122 _ rfl rfl (by kernel_rfl)
                  simp only [Array.getD_eq_getD_getElem?] at h122
                  have c0 := (hG.cell (p := ⟨gv, q * 3 + 1, none⟩) hgv9).trans c1.out
                  simp [execOp, Act.eval, h122, go_sem, c0]
                · refine stepJ_val' (fun _ _ => Below.refl _ _) rfl rfl rfl fun ac W hA hG hD => ⟨_, ?_, rfl⟩
                  have h123 := hD.get 4 123 _ rfl rfl (by kernel_rfl)
                  simp only [Array.getD_eq_getD_getElem?] at h123
                  simp [execOp, Act.eval, h123, go_sem, hg4]
                · refine stepJ_val' (fun _ _ => Below.refl _ _) rfl rfl rfl fun ac W hA hG hD => ⟨_, ?_, rfl⟩
                  have h11 := hA.getD (t := 11) (by kernel_rfl)
                  simp only [Array.getD_eq_getD_getElem?] at h11
                  simp [execOp, Act.eval, h11, go_sem]
                · refine stepJ_val' (fun _ _ => Below.refl _ _) rfl rfl rfl fun ac W hA hG hD => ⟨_, ?_, rfl⟩
                  have h20 := hA.getD (t := 20) (by kernel_rfl)
                  simp only [Array.getD_eq_getD_getElem?] at h20
                  simp [execOp, Act.eval, h20, go_sem]
                · refine stepJ_val' (fun _ _ => Below.refl _ _) rfl rfl rfl fun ac W hA hG hD => ⟨_, ?_, rfl⟩
                  have h125 := hD.get 6 125 _ rfl rfl (by kernel_rfl)
                  have h126 := hD.get 7 126 _ rfl rfl (by kernel_rfl)
                  simp only [Array.getD_eq_getD_getElem?] at h125 h126
                  simp [execOp, Act.eval, h125, h126, go_sem, j0, j1]
                · refine stepJ_val' (fun _ _ => Below.refl _ _) rfl rfl rfl fun ac W hA hG hD => ⟨_, ?_, rfl⟩
                  have h127 := hD.get 8 127 _ rfl rfl (by kernel_rfl)
                  simp only [Array.getD_eq_getD_getElem?] at h127
                  simp [execOp, Act.eval, h127, go_sem]
                · refine stepJ_val' (fun _ _ => Below.refl _ _) rfl rfl rfl fun ac W hA hG hD => ⟨_, ?_, rfl⟩
                  have h128 := hD.get 9 128 _ rfl rfl (by kernel_rfl)
                  simp only [Array.getD_eq_getD_getElem?] at h128
                  have c0 := (hG.cell (p := ⟨gv, q * 3 + 2, none⟩) hgv9).trans c2.out
                  simp [execOp, Act.eval, h128, go_sem, c0]
                · refine stepJ_val' (fun _ _ => Below.refl _ _) rfl rfl rfl fun ac W hA hG hD => ⟨_, ?_, rfl⟩
                  have h10 := hA.getD (t := 10) (by kernel_rfl)
                  have h124 := hD.get 5 124 _ rfl rfl (by kernel_rfl)
                  simp only [Array.getD_eq_getD_getElem?] at h10 h124
                  simp [execOp, Act.eval, h10, h124, go_sem, jj, jj0]
              intro fu T W hG hF hne hltb
              have e119 : T 119 = .slice (some ⟨gv, 0, none⟩) acts.length cv := hF 0 _ rfl (by omega)
              have e120 : T 120 = .int .i64 (q : Int) := hF 1 _ rfl (by omega)
              have e121 : T 121 = .pointer (some ⟨gv, q * 3, none⟩) := hF 2 _ rfl (by omega)
              have e122 : T 122 = .pointer (some ⟨gv, q * 3 + 1, none⟩) := hF 3 _ rfl (by omega)
              have e123 : T 123 = .int .u8 (acts[q].pl.toNat : Int) := hF 4 _ rfl (by omega)
              have e124 : T 124 = .int .u8 (j : Int) := hF 5 _ rfl (by omega)
              have e125 : T 125 = .slice (some ⟨gv, 0, none⟩) acts.length cv := hF 6 _ rfl (by omega)
              have e126 : T 126 = .int .i64 (q : Int) := hF 7 _ rfl (by omega)
              have e127 : T 127 = .pointer (some ⟨gv, q * 3, none⟩) := hF 8 _ rfl (by omega)
              have e128 : T 128 = .pointer (some ⟨gv, q * 3 + 2, none⟩) := hF 9 _ rfl (by omega)
              have e129 : T 129 = .int .u8 (acts[q].by_.toNat : Int) := hF 10 _ rfl (by omega)
              have e130 : T 130 = .pointer (some ⟨gl + 1 + 1, j, none⟩) := hF 11 _ rfl (by omega)
              clear hF hne hltb
              simp only [List.take, fillT, List.setIfInBounds_toArray, List.set_cons_zero, List.set_cons_succ, e119, e120, e121, e122, e123, e124, e125, e126, e127, e128, e129, e130]
              clear e119 e120 e121 e122 e123 e124 e125 e126 e127 e128 e129 e130
              refine wpAny_ready (rs := [12]) (by kernel_rfl) (by simp) (AllReady.cons (o := ⟨none, .store 5 (.tmp 130) (.tmp 129), _, _, _, none⟩) rfl (fun K1 hK1 => ?_) AllReady.nil)
              rw [if_pos (by rfl)]
              have JW := J.out.step hG
              have hold := (cell_of_row W (gl + 1 + 1) j _ _ _ JW.se).trans ((List.getElem?_toArray).trans (BV_get _ j (by rw [setA_length, hP]; exact hj4)))
              refine wp_store_one 5 _ _ rfl (gl + 1 + 1) j rfl (.int .u8 (acts[q].by_.toNat : Int)) rfl rfl rfl Try.sizeOf5 _ hold (frozen_of_row W (gl + 1 + 1) j _ _ JW.se) ?_
              refine hK1 _ _ ?_
              clear hK1 K1
              refine wpAny_done (by kernel_rfl) ?_ _
              simp only [Act.put]
              have J9 := JW.setQ j acts[q].by_
              have kx9 := (heap_setCell_other W ⟨gl + 1 + 1, j, none⟩ gx (.int .u8 (acts[q].by_.toNat : Int)) (by show gx ≠ gl + 1 + 1; omega)).trans ((hG.block _ (by omega)).trans kx.out)
              have dx9 := (dx.out.keep (Kept.of (fun b h => by have := (hT b h).1; omega) hG)).keep (w' := W.setCell ⟨gl + 1 + 1, j, none⟩ (.int .u8 (acts[q].by_.toNat : Int))) fun b _ hb => World.cell?_of_block (heap_setCell_other W ⟨gl + 1 + 1, j, none⟩ b (.int .u8 (acts[q].by_.toNat : Int)) (hT b hb).2.2.2.2.1)
              have hz9 : (W.setCell ⟨gl + 1 + 1, j, none⟩ (.int .u8 (acts[q].by_.toNat : Int))).heap.size = W.heap.size := by simp
              have hz8 := hG.size
              clear JW hold hG J kx dx
              generalize W.setCell ⟨gl + 1 + 1, j, none⟩ (.int .u8 (acts[q].by_.toNat : Int)) = w8 at *
              have hmin : min q r = q := by omega
              have hmin2 : min (q + 1) r = q + 1 := by omega
              rw [hmin, ← hsF.out] at J9
              have J := Lib.hid (show TH w.heap.size gd gl (gl + 1) (gl + 1 + 1) (gl + 1 + 1 + 1) w xd (setA P acts) (setA P (acts.take (q + 1))) (setA P (acts.take (min (q + 1) r))) (.slice (some ⟨gv, 0, none⟩) acts.length cv) acts w8 by rw [hmin2]; exact J9)
              clear J9 hmin hmin2
              go_wp2_with fail
              go_roundw
              case rel => exact ⟨q + 1, by omega, by omega, by go_num, J, kx9, dx9⟩
              case measure => simp [intOf]; omega
            · have j3 : ¬ (q : Int) < r := by omega
              have hmin : min q r = min (q + 1) r := by omega
              have J := J.out
              rw [hmin] at J
              replace J := Lib.hid J
              clear hmin
              go_wp2_with fail
              go_roundw
              case rel => exact ⟨q + 1, by omega, by omega, by go_num, J, kx, dx⟩
              case measure => simp [intOf]; omega
          · have hst : acts.length ≤ r ∨ r < acts.length := by omega
            rcases hst with hst | hst
            · have hql : q = acts.length := by omega
              have j1 : ¬ (q : Int) < acts.length := by omega
              have e1 : decide ((r : Int) < acts.length) = false := decide_eq_false (by omega)
              have e1' : ¬ (r : Int) < acts.length := by omega
              have hz := hzd.out
              rw [if_pos hst] at hz
              injection hz with hz hm
              subst hm
              replace hz := Lib.hid hz
              have J := J.out
              rw [show min q r = q by omega, hql, List.take_of_length_le (Nat.le_refl _)] at J
              replace J := Lib.hid J
              rw [hql] at j1 ⊢
              clear hql hlt hzd hsy2
              go_upto_region 37 with fail
              have J5 := J.out.fresh
              have hbn := bnew wr (.cells #[] 46)
              have kx5 := kx.out.step hbn
              have dx5 := dx.out.keep (Kept.of (fun b h => by have := (hT b h).1; omega) hbn)
              have hz5 : (wr.alloc (.cells #[] 46)).heap.size = wr.heap.size + 1 := by simp
              have hT5 : ∀ b, T b → b < (wr.alloc (.cells #[] 46)).heap.size ∧ b ≠ gd ∧ b ≠ gl ∧ b ≠ gl + 1 ∧ b ≠ gl + 1 + 1 ∧ (Value.slice (some ⟨wr.heap.size, 0, none⟩) 0 0).ownBlock ≠ some b := fun b hb => by
                obtain ⟨q1, q2, q3, q4, q5, -⟩ := hT b hb
                refine ⟨by omega, q2, q3, q4, q5, fun e => ?_⟩
                simp only [Value.ownBlock, Option.some.injEq] at e
                omega
              clear J kx dx hbn hT
              generalize wr.alloc (.cells #[] 46) = W5 at *
              obtain ⟨z0, z1, z2, z3⟩ := kx5.cells
              obtain ⟨S0, hS0, Ay, cy, Ay', cy', ky, -⟩ := J5.bx
              have J6 := J5.putr hT5 dx5
              clear J5 hS0 S0 hT5 dx5
              go_upto_region 38 with (refine wpList_store_row rfl 25 _ _ rfl gd #[.slice A1 zd.secs.length c1, .slice A1' zd.pend.length c1', .int .i64 zd.left, .bool zd.stop] rfl rfl 25 _ ky ?cj2 ?cl2 ?ck2 ?_
                                      case cj2 => kernel_rfl
                                      case cl2 => rfl
                                      case ck2 => simp [Value.oneCell'])
              clear z0 z1 z2 z3 ky kx5
              generalize W5.setRow gd #[.slice A1 zd.secs.length c1, .slice A1' zd.pend.length c1', .int .i64 zd.left, .bool zd.stop] = V5 at *
              obtain ⟨p0, p1, p2, p3, hp⟩ := list4 (show (setA P acts).length = 4 by rw [setA_length, hP])
              have hP2 : (setA P acts).length = 4 := by rw [setA_length, hP]
              have hHR := HR_dH (l := []) (room := r - acts.length) hP2 (by simp) (by omega)
              rw [← hz.out, show setA (setA P acts) [] = setA P acts from rfl] at hHR
              rw [hp] at J6 hHR
              obtain ⟨S0, hS0, Ay, cy, Ay', cy', ky, dy⟩ := J6.bx
              obtain ⟨y0, y1, y2, y3⟩ := ky.cells
              replace dy := dy.mono (S' := (· < V5.heap.size)) fun b h => (hS0 b h).1
              have q0 : V5.cell? ⟨gl, 0, none⟩ = some (.int .u8 (p0.toNat : Int)) := cell_of_row _ gl 0 _ _ _ J6.la
              have q1 : V5.cell? ⟨gl, 1, none⟩ = some (.int .u8 (p1.toNat : Int)) := cell_of_row _ gl 1 _ _ _ J6.la
              have q2 : V5.cell? ⟨gl, 2, none⟩ = some (.int .u8 (p2.toNat : Int)) := cell_of_row _ gl 2 _ _ _ J6.la
              have q3 : V5.cell? ⟨gl, 3, none⟩ = some (.int .u8 (p3.toNat : Int)) := cell_of_row _ gl 3 _ _ _ J6.la
              replace J6 := Lib.hid J6
              replace hHR := Lib.hid hHR
              replace hp := Lib.hid hp
              replace dy := Lib.hid dy
              clear ky hS0
              go_wp2_with fail
              clear y0 y1 y2 y3 q0 q1 q2 q3
              refine (holds_any zd V5 Ay Ay' cy cy' dy.out p0 p1 p2 p3 p0 p1 p2 p3 hHR.out).mono ?_
              rintro e W7 ⟨rfl, hb⟩
              have J7 := J6.out.step hb
              rw [← hp.out, hz.out] at J7
              have J7 : TH w.heap.size gd gl (gl + 1) (gl + 1 + 1) (gl + 1 + 1 + 1) w (dH (setA P acts) [] (r - acts.length)) (setA (setA P acts) []) (setA P acts) (setA P acts) _ [] W7 := J7
              replace J7 := Lib.hid J7
              clear hb
              go_wp2_with fail
              go_roundw
              case rel => exact ⟨k + 1, setA P acts, [], r - acts.length, by omega, by go_num, by go_num, hP2, by simp, by omega, J7⟩
              case measure => simp [intOf]; omega
            · have hql : q = r + 1 := by omega
              have j1 : ¬ (q : Int) ≤ r := by omega
              have j2 : (decide ((q : Int) ≤ r)) = false := decide_eq_false j1
              have e1 : decide ((r : Int) < acts.length) = true := decide_eq_true (by omega)
              have hz := hzd.out
              rw [if_neg (by omega)] at hz
              injection hz with hz hm
              subst hm
              have hstp : zd.stop = true := by rw [hz]; rfl
              have hHR := HR_restT P acts r hP
              rw [← hz] at hHR
              replace hHR := Lib.hid hHR
              have J := J.out
              rw [show min q r = r by omega, hql] at J
              obtain ⟨p0, p1, p2, p3, hp⟩ := list4 (show (setA P (acts.take (r + 1))).length = 4 by rw [setA_length, hP])
              obtain ⟨s0, s1, s2, s3, hs⟩ := list4 (show (setA P (acts.take r)).length = 4 by rw [setA_length, hP])
              have hHR := hHR.out
              rw [hp, hs] at J hHR
              replace hHR := Lib.hid hHR
              replace J := Lib.hid J
              have hgf : gl + 1 < wr.heap.size := by have := J.out.up; omega
              have hgs : gl + 1 + 1 < wr.heap.size := by have := J.out.up; omega
              have hqe : (q : Int) < acts.length ∨ ¬ (q : Int) < acts.length := by omega
              clear hz hp hs hzd hsy2 hlt
              rcases hqe with hqe | hqe
              all_goals
                go_wp2_with fail
                refine wp_region_pre 14 0 (fun W => Below wr.heap.size wr W) (fun W W' => Below W.heap.size W W')
                  (fun i v W => match i with
                    | 0 => v = .int .i64 40
                    | 1 => v = .bool true
                    | 2 => v = .bool true
                    | 3 => v = .pointer (some ⟨gx, 3, none⟩)
                    | 4 => v = .bool true
                    | 5 => v = .bool true
                    | 6 => v = .bool true
                    | 7 => v = .agg #[.slice A1 zd.secs.length c1, .slice A1' zd.pend.length c1', .int .i64 zd.left, .bool zd.stop]
                    | 8 => v = .agg #[.slice A1 zd.secs.length c1, .slice none 0 0, .int .i64 (-1), .bool false]
                    | 9 => v = .agg #[.int .u8 (p0.toNat : Int), .int .u8 (p1.toNat : Int), .int .u8 (p2.toNat : Int), .int .u8 (p3.toNat : Int)]
                    | 10 => v = .agg #[.int .u8 (s0.toNat : Int), .int .u8 (s1.toNat : Int), .int .u8 (s2.toNat : Int), .int .u8 (s3.toNat : Int)]
                    | 11 => v = .bool true
                    | 12 => v = .bool true
                    | 13 => v = .bool true
                    | _ => True) (fun _ => false)
                  (by kernel_rfl) (by kernel_rfl) (by kernel_rfl) (by kernel_rfl) (by kernel_rfl) (by kernel_rfl) (by kernel_rfl) ?_ (fun _ _ h => h.size) (dN (Below.refl _ _) 1) ?_ ?_
                · intro i v W W' hb hF
                  match i, hF with
                  | 0, h => exact h
                  | 1, h => exact h
                  | 2, h => exact h
                  | 3, h => exact h
                  | 4, h => exact h
                  | 5, h => exact h
                  | 6, h => exact h
                  | 7, h => exact h
                  | 8, h => exact h
                  | 9, h => exact h
                  | 10, h => exact h
                  | 11, h => exact h
                  | 12, h => exact h
                  | 13, h => exact h
                  | _ + 14, _ => trivial
                · refine ⟨?_, ?_, ?_, ?_, ?_, ?_, ?_, ?_, ?_, ?_, ?_, ?_, ?_, ?_, trivial⟩
                  · refine stepJ_any rfl fun ac W hA hG hD K hK => ?_
                    have h18 := hA.getD (t := 18) (by kernel_rfl)
                    simp only [Array.getD_eq_getD_getElem?] at h18
                    rw [if_pos (by rfl)]
                    exact wp_val (v := .int .i64 40) (w' := W) (by simp [execOp, Act.eval, h18, go_sem]) (hK _ _ hG (Below.refl _ _) rfl (fun h => by cases h))
                  · refine stepJ_any rfl fun ac W hA hG hD K hK => ?_
                    have h132 := hD.get 0 132 _ rfl rfl (by kernel_rfl)
                    simp only [Array.getD_eq_getD_getElem?] at h132
                    rw [if_pos (by rfl)]
                    exact wp_val (v := .bool true) (w' := W) (by simp [execOp, Act.eval, h132, go_sem]) (hK _ _ hG (Below.refl _ _) rfl (fun h => by cases h))
                  · refine stepJ_any rfl fun ac W hA hG hD K hK => ?_
                    have h133 := hD.get 1 133 _ rfl rfl (by kernel_rfl)
                    simp only [Array.getD_eq_getD_getElem?] at h133
                    rw [if_pos (by rfl)]
                    exact wp_val (v := .bool true) (w' := W) (by simp [execOp, Act.eval, h133, go_sem]) (hK _ _ hG (Below.refl _ _) rfl (fun h => by cases h))
                  · refine stepJ_any rfl fun ac W hA hG hD K hK => ?_
                    have h17 := hA.getD (t := 17) (by kernel_rfl)
                    have hgd := hD.get 2 134 _ rfl rfl (by kernel_rfl)
                    have hgd := slot_bool hgd
                    simp only [Array.getD_eq_getD_getElem?] at h17
                    rw [if_pos (by simp [Region.wanted, yielded, hgd])]
                    exact wp_val (v := .pointer (some ⟨gx, 3, none⟩)) (w' := W) (by simp [execOp, Act.eval, h17, go_sem]) (hK _ _ hG (Below.refl _ _) rfl (fun h => by cases h))
                  · refine stepJ_any rfl fun ac W hA hG hD K hK => ?_
                    have h135 := hD.get 3 135 _ rfl rfl (by kernel_rfl)
                    have hgd := hD.get 2 134 _ rfl rfl (by kernel_rfl)
                    have hgd := slot_bool hgd
                    simp only [Array.getD_eq_getD_getElem?] at h135
                    obtain ⟨-, -, -, k3⟩ := (kx.out.step hG).cells
                    rw [hstp] at k3
                    rw [if_pos (by simp [Region.wanted, yielded, hgd])]
                    exact wp_val (v := .bool true) (w' := W) (by simp [execOp, Act.eval, h135, go_sem, k3]) (hK _ _ hG (Below.refl _ _) rfl (fun h => by cases h))
                  · refine stepJ_any rfl fun ac W hA hG hD K hK => ?_
                    have h134 := hD.get 2 134 _ rfl rfl (by kernel_rfl)
                    have h136 := hD.get 4 136 _ rfl rfl (by kernel_rfl)
                    simp only [Array.getD_eq_getD_getElem?] at h134 h136
                    rw [if_pos (by rfl)]
                    exact wp_val (v := .bool true) (w' := W) (by simp [execOp, Act.eval, h134, h136, go_sem]) (hK _ _ hG (Below.refl _ _) rfl (fun h => by cases h))
                  · refine stepJ_any rfl fun ac W hA hG hD K hK => ?_
                    have h137 := hD.get 5 137 _ rfl rfl (by kernel_rfl)
                    simp only [Array.getD_eq_getD_getElem?] at h137
                    rw [if_pos (by rfl)]
                    exact wp_val (v := .bool true) (w' := W) (by simp [execOp, Act.eval, h137, go_sem]) (hK _ _ hG (Below.refl _ _) rfl (fun h => by cases h))
                  · refine stepJ_any rfl fun ac W hA hG hD K hK => ?_
                    have h17 := hA.getD (t := 17) (by kernel_rfl)
                    have hgd := hD.get 6 138 _ rfl rfl (by kernel_rfl)
                    have hgd := slot_bool hgd
                    simp only [Array.getD_eq_getD_getElem?] at h17
                    obtain ⟨k0, k1, k2, k3⟩ := (kx.out.step hG).cells
                    rw [if_pos (by simp [Region.wanted, yielded, hgd])]
                    exact wp_val (v := .agg #[.slice A1 zd.secs.length c1, .slice A1' zd.pend.length c1', .int .i64 zd.left, .bool zd.stop]) (w' := W) (by simp [execOp, Act.eval, h17, go_sem, k0, k1, k2, k3]) (hK _ _ hG (Below.refl _ _) rfl (fun h => by cases h))
                  · refine stepJ_any rfl fun ac W hA hG hD K hK => ?_
                    have h139 := hD.get 7 139 _ rfl rfl (by kernel_rfl)
                    have hgd := hD.get 6 138 _ rfl rfl (by kernel_rfl)
                    have hgd := slot_bool hgd
                    simp only [Array.getD_eq_getD_getElem?] at h139
                    rw [if_pos (by simp [Region.wanted, yielded, hgd])]
                    refine wp_call (f := 17) (args := #[.agg #[.slice A1 zd.secs.length c1, .slice A1' zd.pend.length c1', .int .i64 zd.left, .bool zd.stop]]) (by simp [execOp, Act.eval, h139, go_sem]) ((Restart_any zd W A1 A1' c1 c1').mono fun e W' he => ?_)
                    obtain ⟨rfl, hbw⟩ := he
                    exact hK _ _ (hG.trans (hbw.mono hG.size)) hbw rfl (fun h => by cases h)
                  · refine stepJ_any rfl fun ac W hA hG hD K hK => ?_
                    have h9 := hA.getD (t := 9) (by kernel_rfl)
                    have hgd := hD.get 6 138 _ rfl rfl (by kernel_rfl)
                    have hgd := slot_bool hgd
                    simp only [Array.getD_eq_getD_getElem?] at h9
                    have hla := (hG.block _ hgf).trans J.out.fi
                    have k0 : W.cell? ⟨gl + 1, 0, none⟩ = some (.int .u8 (p0.toNat : Int)) := cell_of_row W _ 0 _ _ _ hla
                    have k1 : W.cell? ⟨gl + 1, 1, none⟩ = some (.int .u8 (p1.toNat : Int)) := cell_of_row W _ 1 _ _ _ hla
                    have k2 : W.cell? ⟨gl + 1, 2, none⟩ = some (.int .u8 (p2.toNat : Int)) := cell_of_row W _ 2 _ _ _ hla
                    have k3 : W.cell? ⟨gl + 1, 3, none⟩ = some (.int .u8 (p3.toNat : Int)) := cell_of_row W _ 3 _ _ _ hla
                    rw [if_pos (by simp [Region.wanted, yielded, hgd])]
                    exact wp_val (v := .agg #[.int .u8 (p0.toNat : Int), .int .u8 (p1.toNat : Int), .int .u8 (p2.toNat : Int), .int .u8 (p3.toNat : Int)]) (w' := W) (by simp [execOp, Act.eval, h9, go_sem, k0, k1, k2, k3]) (hK _ _ hG (Below.refl _ _) rfl (fun h => by cases h))
                  · refine stepJ_any rfl fun ac W hA hG hD K hK => ?_
                    have h10 := hA.getD (t := 10) (by kernel_rfl)
                    have hgd := hD.get 6 138 _ rfl rfl (by kernel_rfl)
                    have hgd := slot_bool hgd
                    simp only [Array.getD_eq_getD_getElem?] at h10
                    have hla := (hG.block _ hgs).trans J.out.se
                    have k0 : W.cell? ⟨gl + 1 + 1, 0, none⟩ = some (.int .u8 (s0.toNat : Int)) := cell_of_row W _ 0 _ _ _ hla
                    have k1 : W.cell? ⟨gl + 1 + 1, 1, none⟩ = some (.int .u8 (s1.toNat : Int)) := cell_of_row W _ 1 _ _ _ hla
                    have k2 : W.cell? ⟨gl + 1 + 1, 2, none⟩ = some (.int .u8 (s2.toNat : Int)) := cell_of_row W _ 2 _ _ _ hla
                    have k3 : W.cell? ⟨gl + 1 + 1, 3, none⟩ = some (.int .u8 (s3.toNat : Int)) := cell_of_row W _ 3 _ _ _ hla
                    rw [if_pos (by simp [Region.wanted, yielded, hgd])]
                    exact wp_val (v := .agg #[.int .u8 (s0.toNat : Int), .int .u8 (s1.toNat : Int), .int .u8 (s2.toNat : Int), .int .u8 (s3.toNat : Int)]) (w' := W) (by simp [execOp, Act.eval, h10, go_sem, k0, k1, k2, k3]) (hK _ _ hG (Below.refl _ _) rfl (fun h => by cases h))
                  · refine stepJ_any rfl fun ac W hA hG hD K hK => ?_
                    have h140 := hD.get 8 140 _ rfl rfl (by kernel_rfl)
                    have h141 := hD.get 9 141 _ rfl rfl (by kernel_rfl)
                    have h142 := hD.get 10 142 _ rfl rfl (by kernel_rfl)
                    have hgd := hD.get 6 138 _ rfl rfl (by kernel_rfl)
                    have hgd := slot_bool hgd
                    simp only [Array.getD_eq_getD_getElem?] at h140 h141 h142
                    rw [if_pos (by simp [Region.wanted, yielded, hgd])]
                    refine wp_call (f := 28) (args := #[.agg #[.slice A1 zd.secs.length c1, .slice none 0 0, .int .i64 (-1), .bool false], .agg #[.int .u8 (p0.toNat : Int), .int .u8 (p1.toNat : Int), .int .u8 (p2.toNat : Int), .int .u8 (p3.toNat : Int)], .agg #[.int .u8 (s0.toNat : Int), .int .u8 (s1.toNat : Int), .int .u8 (s2.toNat : Int), .int .u8 (s3.toNat : Int)]]) (by simp [execOp, Act.eval, h140, h141, h142, go_sem]) ((holds_any (restD zd) W A1 none c1 0 (((dx.out.keep (Kept.of (fun b h => by have := (hT b h).1; omega) hG)).mono fun b h => by have := (hT b h).1; have := hG.size; omega).rest) p0 p1 p2 p3 s0 s1 s2 s3 hHR.out).mono fun e W' he => ?_)
                    obtain ⟨rfl, hbw⟩ := he
                    exact hK _ _ (hG.trans (hbw.mono hG.size)) hbw rfl (fun h => by cases h)
                  · refine stepJ_any rfl fun ac W hA hG hD K hK => ?_
                    have h138 := hD.get 6 138 _ rfl rfl (by kernel_rfl)
                    have h143 := hD.get 11 143 _ rfl rfl (by kernel_rfl)
                    simp only [Array.getD_eq_getD_getElem?] at h138 h143
                    rw [if_pos (by rfl)]
                    exact wp_val (v := .bool true) (w' := W) (by simp [execOp, Act.eval, h138, h143, go_sem]) (hK _ _ hG (Below.refl _ _) rfl (fun h => by cases h))
                  · refine stepJ_any rfl fun ac W hA hG hD K hK => ?_
                    have h144 := hD.get 12 144 _ rfl rfl (by kernel_rfl)
                    simp only [Array.getD_eq_getD_getElem?] at h144
                    rw [if_pos (by rfl)]
                    exact wp_val (v := .bool true) (w' := W) (by simp [execOp, Act.eval, h144, go_sem]) (hK _ _ hG (Below.refl _ _) rfl (fun h => by cases h))
                intro fu T W hG hF hne hltb
                have e132 : T 132 = .int .i64 40 := hF 0 _ rfl (by omega)
                have e133 : T 133 = .bool true := hF 1 _ rfl (by omega)
                have e134 : T 134 = .bool true := hF 2 _ rfl (by omega)
                have e135 : T 135 = .pointer (some ⟨gx, 3, none⟩) := hF 3 _ rfl (by omega)
                have e136 : T 136 = .bool true := hF 4 _ rfl (by omega)
                have e137 : T 137 = .bool true := hF 5 _ rfl (by omega)
                have e138 : T 138 = .bool true := hF 6 _ rfl (by omega)
                have e139 : T 139 = .agg #[.slice A1 zd.secs.length c1, .slice A1' zd.pend.length c1', .int .i64 zd.left, .bool zd.stop] := hF 7 _ rfl (by omega)
                have e140 : T 140 = .agg #[.slice A1 zd.secs.length c1, .slice none 0 0, .int .i64 (-1), .bool false] := hF 8 _ rfl (by omega)
                have e141 : T 141 = .agg #[.int .u8 (p0.toNat : Int), .int .u8 (p1.toNat : Int), .int .u8 (p2.toNat : Int), .int .u8 (p3.toNat : Int)] := hF 9 _ rfl (by omega)
                have e142 : T 142 = .agg #[.int .u8 (s0.toNat : Int), .int .u8 (s1.toNat : Int), .int .u8 (s2.toNat : Int), .int .u8 (s3.toNat : Int)] := hF 10 _ rfl (by omega)
                have e143 : T 143 = .bool true := hF 11 _ rfl (by omega)
                have e144 : T 144 = .bool true := hF 12 _ rfl (by omega)
                have e4 : T 4 = .bool true := hF 13 _ rfl (by omega)
                clear hF hne hltb
                simp only [List.take, fillT, List.setIfInBounds_toArray, List.set_cons_zero, List.set_cons_succ, e132, e133, e134, e135, e136, e137, e138, e139, e140, e141, e142, e143, e144, e4]
                clear e132 e133 e134 e135 e136 e137 e138 e139 e140 e141 e142 e143 e144 e4
                refine wpAny_done (by kernel_rfl) ?_ _
                have hbf := J.out.base.trans (hG.mono (by have := J.out.base.size; omega))
                clear hG
                go_wp2_with fail
                go_ret
                exact ⟨rfl, hbf⟩
    · have hle : ¬ ((k : Int) < l.length) := by omega
      go_wp2_with fail
      obtain ⟨xd, hxd⟩ : ∃ z, z = dH P acts r := ⟨_, rfl⟩
      have hHR := HR_restD P acts r hP
      have J := J.out
      rw [← hxd] at J hHR
      obtain ⟨p0, p1, p2, p3, hp⟩ := list4 hP
      have hla : wr.heap[gl + 1]? = some (.cells (BV P).toArray 44 (0, 0)) := J.fi
      have hlb : wr.heap[gl + 1 + 1]? = some (.cells (BV P).toArray 44 (0, 0)) := J.se
      rw [hp] at hla hlb hHR
      obtain ⟨S0, hS0, Ad, cd, Ad', cd', kd, dd⟩ := J.bx
      have hbase := J.base
      replace kd := Lib.hid kd
      replace dd := Lib.hid (dd.mono (S' := (· < wr.heap.size)) fun b h => (hS0 b h).1)
      replace hHR := Lib.hid hHR
      have hgf : gl + 1 < wr.heap.size := (Array.getElem?_eq_some_iff.1 hla).1
      have hgs : gl + 1 + 1 < wr.heap.size := (Array.getElem?_eq_some_iff.1 hlb).1
      replace hla := Lib.hid hla
      replace hlb := Lib.hid hlb
      clear hp hxd J hS0 S0
      refine wp_region_pre 6 0 (fun W => Below wr.heap.size wr W) (fun W W' => Below W.heap.size W W')
        (fun i v W => match i with
          | 0 => v = .agg #[.slice Ad xd.secs.length cd, .slice Ad' xd.pend.length cd', .int .i64 xd.left, .bool xd.stop]
          | 1 => v = .agg #[.slice Ad xd.secs.length cd, .slice none 0 0, .int .i64 (-1), .bool false]
          | 2 => v = .agg #[.int .u8 (p0.toNat : Int), .int .u8 (p1.toNat : Int), .int .u8 (p2.toNat : Int), .int .u8 (p3.toNat : Int)]
          | 3 => v = .agg #[.int .u8 (p0.toNat : Int), .int .u8 (p1.toNat : Int), .int .u8 (p2.toNat : Int), .int .u8 (p3.toNat : Int)]
          | 4 => v = .bool true
          | 5 => v = .bool true
          | _ => True) (fun _ => false)
        (by kernel_rfl) (by kernel_rfl) (by kernel_rfl) (by kernel_rfl) (by kernel_rfl) (by kernel_rfl) (by kernel_rfl) ?_ (fun _ _ h => h.size) (dN (Below.refl _ _) 1) ?_ ?_
      · intro i v W W' hb hF
        match i, hF with
        | 0, h => exact h
        | 1, h => exact h
        | 2, h => exact h
        | 3, h => exact h
        | 4, h => exact h
        | 5, h => exact h
        | _ + 6, _ => trivial
      · refine ⟨?_, ?_, ?_, ?_, ?_, ?_, trivial⟩
        · refine stepJ_any rfl fun ac W hA hG hD K hK => ?_
          have h5 := hA.getD (t := 5) (by kernel_rfl)
          simp only [Array.getD_eq_getD_getElem?] at h5
          obtain ⟨k0, k1, k2, k3⟩ := (kd.out.step hG).cells
          rw [if_pos (by rfl)]
          exact wp_val (v := .agg #[.slice Ad xd.secs.length cd, .slice Ad' xd.pend.length cd', .int .i64 xd.left, .bool xd.stop]) (w' := W) (by simp [execOp, Act.eval, h5, go_sem, k0, k1, k2, k3]) (hK _ _ hG (Below.refl _ _) rfl (fun h => by cases h))
        · refine stepJ_any rfl fun ac W hA hG hD K hK => ?_
          have h158 := hD.get 0 158 _ rfl rfl (by kernel_rfl)
          simp only [Array.getD_eq_getD_getElem?] at h158
          rw [if_pos (by rfl)]
          refine wp_call (f := 17) (args := #[.agg #[.slice Ad xd.secs.length cd, .slice Ad' xd.pend.length cd', .int .i64 xd.left, .bool xd.stop]]) (by simp [execOp, Act.eval, h158, go_sem]) ((Restart_any xd W Ad Ad' cd cd').mono fun e W' he => ?_)
          obtain ⟨rfl, hbw⟩ := he
          exact hK _ _ (hG.trans (hbw.mono hG.size)) hbw rfl (fun h => by cases h)
        · refine stepJ_any rfl fun ac W hA hG hD K hK => ?_
          have h9 := hA.getD (t := 9) (by kernel_rfl)
          simp only [Array.getD_eq_getD_getElem?] at h9
          have hl := (hG.block _ hgf).trans hla.out
          have k0 : W.cell? ⟨gl + 1, 0, none⟩ = some (.int .u8 (p0.toNat : Int)) := cell_of_row W _ 0 _ _ _ hl
          have k1 : W.cell? ⟨gl + 1, 1, none⟩ = some (.int .u8 (p1.toNat : Int)) := cell_of_row W _ 1 _ _ _ hl
          have k2 : W.cell? ⟨gl + 1, 2, none⟩ = some (.int .u8 (p2.toNat : Int)) := cell_of_row W _ 2 _ _ _ hl
          have k3 : W.cell? ⟨gl + 1, 3, none⟩ = some (.int .u8 (p3.toNat : Int)) := cell_of_row W _ 3 _ _ _ hl
          rw [if_pos (by rfl)]
          exact wp_val (v := .agg #[.int .u8 (p0.toNat : Int), .int .u8 (p1.toNat : Int), .int .u8 (p2.toNat : Int), .int .u8 (p3.toNat : Int)]) (w' := W) (by simp [execOp, Act.eval, h9, go_sem, k0, k1, k2, k3]) (hK _ _ hG (Below.refl _ _) rfl (fun h => by cases h))
        · refine stepJ_any rfl fun ac W hA hG hD K hK => ?_
          have h10 := hA.getD (t := 10) (by kernel_rfl)
          simp only [Array.getD_eq_getD_getElem?] at h10
          have hl := (hG.block _ hgs).trans hlb.out
          have k0 : W.cell? ⟨gl + 1 + 1, 0, none⟩ = some (.int .u8 (p0.toNat : Int)) := cell_of_row W _ 0 _ _ _ hl
          have k1 : W.cell? ⟨gl + 1 + 1, 1, none⟩ = some (.int .u8 (p1.toNat : Int)) := cell_of_row W _ 1 _ _ _ hl
          have k2 : W.cell? ⟨gl + 1 + 1, 2, none⟩ = some (.int .u8 (p2.toNat : Int)) := cell_of_row W _ 2 _ _ _ hl
          have k3 : W.cell? ⟨gl + 1 + 1, 3, none⟩ = some (.int .u8 (p3.toNat : Int)) := cell_of_row W _ 3 _ _ _ hl
          rw [if_pos (by rfl)]
          exact wp_val (v := .agg #[.int .u8 (p0.toNat : Int), .int .u8 (p1.toNat : Int), .int .u8 (p2.toNat : Int), .int .u8 (p3.toNat : Int)]) (w' := W) (by simp [execOp, Act.eval, h10, go_sem, k0, k1, k2, k3]) (hK _ _ hG (Below.refl _ _) rfl (fun h => by cases h))
        · refine stepJ_any rfl fun ac W hA hG hD K hK => ?_
          have h159 := hD.get 1 159 _ rfl rfl (by kernel_rfl)
          have h160 := hD.get 2 160 _ rfl rfl (by kernel_rfl)
          have h161 := hD.get 3 161 _ rfl rfl (by kernel_rfl)
          simp only [Array.getD_eq_getD_getElem?] at h159 h160 h161
          rw [if_pos (by rfl)]
          refine wp_call (f := 28) (args := #[.agg #[.slice Ad xd.secs.length cd, .slice none 0 0, .int .i64 (-1), .bool false], .agg #[.int .u8 (p0.toNat : Int), .int .u8 (p1.toNat : Int), .int .u8 (p2.toNat : Int), .int .u8 (p3.toNat : Int)], .agg #[.int .u8 (p0.toNat : Int), .int .u8 (p1.toNat : Int), .int .u8 (p2.toNat : Int), .int .u8 (p3.toNat : Int)]]) (by simp [execOp, Act.eval, h159, h160, h161, go_sem]) ((holds_any (restD xd) W Ad none cd 0 ((dd.out.step hG).rest) p0 p1 p2 p3 p0 p1 p2 p3 hHR.out).mono fun e W' he => ?_)
          obtain ⟨rfl, hbw⟩ := he
          exact hK _ _ (hG.trans (hbw.mono hG.size)) hbw rfl (fun h => by cases h)
        · refine stepJ_any rfl fun ac W hA hG hD K hK => ?_
          have h162 := hD.get 4 162 _ rfl rfl (by kernel_rfl)
          simp only [Array.getD_eq_getD_getElem?] at h162
          rw [if_pos (by rfl)]
          exact wp_val (v := .bool true) (w' := W) (by simp [execOp, Act.eval, h162, go_sem]) (hK _ _ hG (Below.refl _ _) rfl (fun h => by cases h))
      intro fu T W hG hF hne hltb
      have e158 : T 158 = .agg #[.slice Ad xd.secs.length cd, .slice Ad' xd.pend.length cd', .int .i64 xd.left, .bool xd.stop] := hF 0 _ rfl (by omega)
      have e159 : T 159 = .agg #[.slice Ad xd.secs.length cd, .slice none 0 0, .int .i64 (-1), .bool false] := hF 1 _ rfl (by omega)
      have e160 : T 160 = .agg #[.int .u8 (p0.toNat : Int), .int .u8 (p1.toNat : Int), .int .u8 (p2.toNat : Int), .int .u8 (p3.toNat : Int)] := hF 2 _ rfl (by omega)
      have e161 : T 161 = .agg #[.int .u8 (p0.toNat : Int), .int .u8 (p1.toNat : Int), .int .u8 (p2.toNat : Int), .int .u8 (p3.toNat : Int)] := hF 3 _ rfl (by omega)
      have e162 : T 162 = .bool true := hF 4 _ rfl (by omega)
      have e4 : T 4 = .bool true := hF 5 _ rfl (by omega)
      clear hF hne hltb
      simp only [List.take, fillT, List.setIfInBounds_toArray, List.set_cons_zero, List.set_cons_succ, e158, e159, e160, e161, e162, e4]
      clear e158 e159 e160 e161 e162 e4
      refine wpAny_done (by kernel_rfl) ?_ _
      have hbf := hbase.trans (hG.mono hbase.size)
      clear hG
      go_wp2_with fail
      go_ret
      exact ⟨rfl, hbf⟩
end Go.Proofs.Ytalkbccofiiojaa
