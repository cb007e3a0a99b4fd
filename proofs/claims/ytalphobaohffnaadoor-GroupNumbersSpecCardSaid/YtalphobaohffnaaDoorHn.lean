/- The reference's Element, Number; GroupNumbersSpec: true. -/
import Derived.Test.YtalphobaohffnaaDoorHr
import Derived.Test.YtalphobaohffnaaDoorGs
namespace Go.Proofs.YtalphobaohffnaaDoor
open Go.RowKit

set_option maxRecDepth 100000 in
set_option maxHeartbeats 1000000 in
theorem rElement_any (n : Int) (w : World) : Calls Tryd.prog 7 #[.int .i64 n] w fun e w' => e = .returned (.tuple #[.int .i64 (elV n), .int .i64 (elE n)]) ∧ w' = w := by
  go_enter Tryd.func7, Tryd.ntmps7
  by_cases h1 : n < 1
  · have hv := Lib.hid (show elV n = 0 ∧ elE n = 1 by unfold elV elE; rw [if_neg (by omega), if_neg (by omega)]; exact ⟨rfl, rfl⟩)
    go_wp2_with fail
    go_ret2
    exact ⟨by rw [hv.out.1, hv.out.2]; rfl, rfl⟩
  · by_cases h2 : n > 1073741789
    · have hv := Lib.hid (show elV n = 0 ∧ elE n = 1 by unfold elV elE; rw [if_neg (by omega), if_neg (by omega)]; exact ⟨rfl, rfl⟩)
      go_wp2_with fail
      go_ret2
      exact ⟨by rw [hv.out.1, hv.out.2]; rfl, rfl⟩
    · have hE := Lib.hid (show elE n = 0 by unfold elE; rw [if_pos (by omega)])
      go_wp2_with fail
      refine (rValid_any n _).mono ?_
      rintro e w1 ⟨rfl, rfl⟩
      by_cases ha : vd n = true
      · have hv := Lib.hid (show elV n = n by unfold elV; rw [if_pos (by omega), if_pos ha])
        go_wp2_with fail
        go_ret2
        exact ⟨by rw [hv.out, hE.out]; rfl, rfl⟩
      · have hv := Lib.hid (show elV n = 2147483579 - n by unfold elV; rw [if_pos (by omega), if_neg ha])
        have ha : vd n = false := by simpa using ha
        go_wp2_with fail
        go_ret2
        exact ⟨by rw [hv.out, hE.out]; rfl, rfl⟩

set_option maxRecDepth 100000 in
set_option maxHeartbeats 1000000 in
theorem rNumber_any (x : Int) (w : World) : Calls Tryd.prog 9 #[.int .i64 x] w fun e w' => e = .returned (.tuple #[.int .i64 (nuV x), .int .i64 (powE x)]) ∧ w' = w := by
  go_enter Tryd.func9, Tryd.ntmps9
  go_wp2_with fail
  refine (rValid_any x _).mono ?_
  rintro e w1 ⟨rfl, rfl⟩
  by_cases ha : vd x = true
  · have ra := vd_range ha
    by_cases hx : x ≤ 1073741789
    · have hv := Lib.hid (show nuV x = x ∧ powE x = 0 by unfold nuV powE; rw [if_pos ha, if_pos ha, if_pos hx]; exact ⟨rfl, rfl⟩)
      go_wp2_with fail
      go_ret2
      exact ⟨by rw [hv.out.1, hv.out.2]; rfl, rfl⟩
    · have hv := Lib.hid (show nuV x = 2147483579 - x ∧ powE x = 0 by unfold nuV powE; rw [if_pos ha, if_pos ha, if_neg hx]; exact ⟨rfl, rfl⟩)
      go_wp2_with fail
      go_ret2
      exact ⟨by rw [hv.out.1, hv.out.2]; rfl, rfl⟩
  · have ha : vd x = false := by simpa using ha
    have hv := Lib.hid (show nuV x = 0 ∧ powE x = 100 by unfold nuV powE; simp [ha])
    go_wp2_with fail
    go_ret2
    exact ⟨by rw [hv.out.1, hv.out.2]; rfl, rfl⟩

set_option maxRecDepth 100000 in
set_option maxHeartbeats 4000000 in
theorem numbers_law (n : Int) (tag : ByteArray) (bs : List UInt8) (W : World) (A : Option Addr) (c : Nat) (hr : RBs W W.heap.size A bs) (hA : A = none → bs = []) (hK : KT W) (h0 : 0 < W.heap.size) :
    Calls Tryd.prog 3 #[.int .i64 n, .string tag, .slice A bs.length c] W fun e w' => e = .returned (.bool true) ∧ Below W.heap.size W w' := by
  replace hr := Lib.hid hr
  replace hK := Lib.hid hK
  replace hA := Lib.hid hA
  go_enter Tryd.func3, Tryd.ntmps3
  go_wp2_with fail
  refine (sane_any _).mono ?_
  rintro e w ⟨rfl, hB⟩
  replace hB := Lib.hid hB
  by_cases hb : bs.length ≤ 2000
  · by_cases htg : tag.size ≤ 200
    · have hH := Lib.hid (fun w hr hK h0 => Hash_any tag (by omega) bs (by omega) w A c hr hA.out hK h0)
      have hT := Lib.hid (fun w hr => rHash_any tag (by omega) bs (by omega) w A c hr hA.out)
      have b1 : decide ((2000 : Int) < bs.length) = false := by simp; omega
      have b2 : decide ((200 : Int) < tag.size) = false := by simp; omega
      go_wp2_with fail
      refine (Element_any n _).mono ?_
      rintro e w2 ⟨rfl, rfl⟩
      go_wp2_with fail
      refine (rElement_any n _).mono ?_
      rintro e w2 ⟨rfl, rfl⟩
      go_wp2_with fail
      refine (Number_any n _).mono ?_
      rintro e w2 ⟨rfl, rfl⟩
      go_wp2_with fail
      refine (rNumber_any n _).mono ?_
      rintro e w2 ⟨rfl, rfl⟩
      go_wp2_with fail
      refine (hH.out _ (hr.out.below hB.out) (hK.out.below hB.out h0) (by have := hB.out.size; omega)).mono ?_
      rintro e w3 ⟨rfl, hb2⟩
      replace hB := Lib.hid (hB.out.trans (hb2.mono hB.out.size))
      clear hb2 hH
      go_wp2_with fail
      refine (hT.out _ (hr.out.below hB.out)).mono ?_
      rintro e w4 ⟨rfl, hb2⟩
      replace hB := Lib.hid (hB.out.trans (hb2.mono hB.out.size))
      clear hb2 hT
      go_wp2_with fail
      go_ret
      exact ⟨rfl, hB.out⟩
    · have b1 : decide ((2000 : Int) < bs.length) = false := by simp; omega
      have b2 : decide ((200 : Int) < tag.size) = true := by simp; omega
      go_wp2_with fail
      go_ret
      exact ⟨rfl, hB.out⟩
  · have b1 : decide ((2000 : Int) < bs.length) = true := by simp; omega
    go_wp2_with fail
    go_ret
    exact ⟨rfl, hB.out⟩
end Go.Proofs.YtalphobaohffnaaDoor
