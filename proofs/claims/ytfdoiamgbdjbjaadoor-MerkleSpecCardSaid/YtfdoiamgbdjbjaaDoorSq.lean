/- MerkleSpec: the law. -/
import Derived.Test.YtfdoiamgbdjbjaaDoorQe
import Derived.Test.YtfdoiamgbdjbjaaDoorFw
namespace Go.Proofs.YtfdoiamgbdjbjaaDoor
open Go.RowKit

theorem prove_32 (ls : List (List UInt8)) (i : Int) : ∀ d ∈ (proveP ls i).1, d.length = 32 := by
  unfold proveP
  split
  · intro d hd; cases hd
  · have h := pathP_32 (firstM_32 ls) (Int.toNat i) (rows ls.length)
    rw [firstM_len] at h
    exact h

set_option maxRecDepth 100000 in
set_option maxHeartbeats 4000000 in
theorem spec_any (ls : List (List UInt8)) (n : Int) (hlm : ls.length ≤ 9223372036854775807) (w : World) (A : Option Addr) (c : Nat) (hr : LL w w.heap.size ls A) (hK : KT w) (h0 : 0 < w.heap.size) :
    Calls Tryd.prog 3 #[.slice A ls.length c, .int .i64 n] w fun e w' => e = .returned (.bool true) ∧ Below w.heap.size w w' := by
  have hKH := Lib.hid hK
  have hS := Lib.hid (sane_any w hK h0)
  clear hK
  replace hr := Lib.hid hr
  go_enter Tryd.func3, Tryd.ntmps3
  go_wp2_with fail
  refine hS.out.mono ?_
  rintro e w1 ⟨rfl, hb1⟩
  clear hS
  have hFw := Lib.hid (Few_any ls w1 A c (hr.out.lift hb1 hb1.size) hlm)
  replace hb1 := Lib.hid hb1
  obtain ⟨fb, hfb⟩ : ∃ b, fewB ls = b := ⟨_, rfl⟩
  rw [hfb] at hFw
  cases fb with
  | false =>
    go_wp2_with fail
    refine hFw.out.mono ?_
    rintro e w2 ⟨rfl, hb2⟩
    clear hFw
    replace hb1 := Lib.hid (hb1.out.trans (hb2.mono hb1.out.size))
    clear hb2
    go_wp2_with fail
    go_ret
    exact ⟨rfl, hb1.out⟩
  | true =>
    obtain ⟨hl40, hsm⟩ := fewB_iff.1 hfb
    have hsmH : Hid (Small ls) := Lib.hid (fun x hx => Nat.le_trans (hsm x hx) (by decide))
    clear hsm hfb
    go_wp2_with fail
    refine hFw.out.mono ?_
    rintro e w2 ⟨rfl, hb2⟩
    clear hFw
    replace hb1 := Lib.hid (hb1.out.trans (hb2.mono hb1.out.size))
    clear hb2
    have hPc : Hid (∀ W, Below w.heap.size w W → Calls Tryd.prog 13 #[.slice A ls.length c, .int .i64 n] W fun e w' => (∃ v, e = .returned (.tuple #[v, .int .i64 (proveP ls n).2]) ∧ OD w' W.heap.size v (proveP ls n).1) ∧ Below W.heap.size W w') := Lib.hid fun W hW => rProve_any ls n (by omega) hsmH.out W A c (hr.out.lift hW hW.size)
    have hP := Lib.hid (Prove_any ls n (by omega) hsmH.out w2 A c (hr.out.lift hb1.out hb1.out.size) (hKH.out.below hb1.out h0) (Nat.lt_of_lt_of_le h0 hb1.out.size))
    have h32 := Lib.hid (prove_32 ls n)
    generalize proveP ls n = q at hP hPc h32
    obtain ⟨p, er⟩ := q
    dsimp only at hP hPc h32
    go_wp2_with fail
    refine hP.out.mono ?_
    rintro e w3 ⟨⟨v1, rfl, ho1⟩, hb3⟩
    obtain ⟨a1, c1, rfl, -⟩ := ho1.reads h32.out
    clear hP
    replace hb1 := Lib.hid (hb1.out.trans (hb3.mono hb1.out.size))
    replace ho1 := Lib.hid ho1
    clear hb3
    replace hPc := Lib.hid (hPc.out w3 hb1.out)
    go_wp2_with fail
    refine hPc.out.mono ?_
    rintro e w4 ⟨⟨v2, rfl, ho2⟩, hb4⟩
    obtain ⟨a2, c2, rfl, -⟩ := ho2.reads h32.out
    clear hPc
    replace hb1 := Lib.hid (hb1.out.trans (hb4.mono hb1.out.size))
    replace ho1 := Lib.hid (ho1.out.below hb4)
    replace ho2 := Lib.hid ho2
    clear hb4
    have hRt := Lib.hid (Root_any ls (by omega) hsmH.out w4 A c (hr.out.lift hb1.out hb1.out.size) (hKH.out.below hb1.out h0) (Nat.lt_of_lt_of_le h0 hb1.out.size))
    go_wp2_with fail
    refine hRt.out.mono ?_
    rintro e w5 ⟨rfl, hb5⟩
    clear hRt
    replace hb1 := Lib.hid (hb1.out.trans (hb5.mono hb1.out.size))
    replace ho1 := Lib.hid (ho1.out.below hb5)
    replace ho2 := Lib.hid (ho2.out.below hb5)
    clear hb5
    have hRr := Lib.hid (rRoot_any ls (by omega) hsmH.out w5 A c (hr.out.lift hb1.out hb1.out.size))
    go_wp2_with fail
    refine hRr.out.mono ?_
    rintro e w6 ⟨rfl, hb6⟩
    clear hRr
    replace hb1 := Lib.hid (hb1.out.trans (hb6.mono hb1.out.size))
    replace ho1 := ho1.out.below hb6
    replace ho2 := ho2.out.below hb6
    clear hb6
    obtain ⟨a1', c1', e1, hR1⟩ := ho1.reads h32.out
    injection e1 with e11 e12 e13
    subst e11 e13
    obtain ⟨a2', c2', e2, hR2⟩ := ho2.reads h32.out
    injection e2 with e21 e22 e23
    subst e21 e23
    have hSa := Lib.hid (rSame_any p w6 a1 a2 c1 c2 hR1 hR2)
    have eq1 : ∀ W, (Op.equalIn 10000 30 (.agg (BV (rootM ls)).toArray) (.agg (BV (rootM ls)).toArray)).run Tryd.prog W = .ok true W := fun W => by
      have h := eq_digest (rootM ls) (rootM ls) (rootM_len _) (rootM_len _) W
      rwa [beq_self_eq_true] at h
    clear ho1 ho2 hR1 hR2
    go_wp2_with fail
    refine hSa.out.mono ?_
    rintro e w7 ⟨rfl, hb7⟩
    replace hb1 := Lib.hid (hb1.out.trans (hb7.mono hb1.out.size))
    clear hSa hb7
    go_wp2_with fail
    all_goals
      go_ret
      exact ⟨rfl, hb1.out⟩
end Go.Proofs.YtfdoiamgbdjbjaaDoor
