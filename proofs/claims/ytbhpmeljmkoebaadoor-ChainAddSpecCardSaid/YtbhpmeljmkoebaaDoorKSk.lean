/- The reference: Encode, Size. -/
import Derived.Test.YtbhpmeljmkoebaaDoorKEn
namespace Go.Proofs.YtbhpmeljmkoebaaDoor.K
open Go.RowKit

set_option maxRecDepth 100000 in
set_option maxHeartbeats 800000 in
theorem rEncode_any (x : GV) (hbig : big x ≤ 1000000) (w : World) (B : Nat) (v : Value) (hB : B ≤ w.heap.size) (hv : RV w B x v) : Calls Tryd.prog 42 #[v] w (EncPost x w) := by
  have hC := Lib.hid (rcheck_any x hbig)
  obtain ⟨a, cap, rfl, hk, hn, hs, hby, hl⟩ := hv.parts
  have hv1 := (hv.alloc hB (.cells #[.int .i64 x.kind, .int .i64 x.num, .string x.str, .slice a x.els.length cap] 64)).mono hB
  clear hv hl
  by_cases hc : chk x = 0
  · obtain ⟨hf, hd⟩ := chk_zero hc
    have hc' := Lib.hid hc
    have hS := Lib.hid (rencode_any x hbig hf)
    have he : Hid (encB x = enc x) := by unfold encB; rw [if_pos hc]; rfl
    clear hc hf
    go_enter Tryd.func42, Tryd.ntmps42
    go_wp2_with fail
    refine (hC.out _ _ _ (by simp) hv1).mono ?_
    rintro e w1 ⟨rfl, hb1⟩
    rw [hc'.out]
    simp only [World.size_alloc] at hb1
    obtain ⟨hx0, hx1, hx2, hx3⟩ := box4 hb1
    have hz := hb1.size
    simp only [World.size_alloc] at hz
    go_wp2_with fail
    refine (hS.out _ w.heap.size _ (by omega) (hv1.under hb1 (by omega))).mono ?_
    rintro e w2 ⟨v2, rfl, hv2, hb2⟩
    go_wp2_with fail
    go_ret2
    exact ⟨v2, by rw [hc'.out]; rfl, by rw [he.out]; exact hv2.mono (by omega), unbox (hb1.trans (hb2.mono (by omega)))⟩
  · have he : Hid (encB x = []) := by unfold encB; rw [if_neg hc]; rfl
    go_enter Tryd.func42, Tryd.ntmps42
    go_wp2_with fail
    refine (hC.out _ _ _ (by simp) hv1).mono ?_
    rintro e w1 ⟨rfl, hb1⟩
    have hneq : (chk x != 0) = true := by simpa using hc
    clear hc
    go_wp2_with fail
    go_ret2
    exact ⟨_, rfl, by rw [he.out]; exact OB.nil _ _, unbox (by simpa using hb1)⟩

end Go.Proofs.YtbhpmeljmkoebaaDoor.K
