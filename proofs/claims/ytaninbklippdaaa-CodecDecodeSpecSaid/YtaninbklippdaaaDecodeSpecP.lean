/- For all bytes the law CodecDecodeSpec returns true, and leaves the memory that was there as it was. No condition. -/
import Derived.Test.YtaninbklippdaaaOe
import Derived.Test.YtaninbklippdaaaDw
namespace Go.Proofs.Ytaninbklippdaaa
open Go.ChangeShapes Go.WideShapes Go.ChangeAt Go.RowKit

theorem dsP_laid : laidOutB Try.prog = true := by kernel_rfl
theorem dsP_read : Try.prog.readableRec 22 = true ∧ 22 < Try.prog.types.size := ⟨by kernel_rfl, of_decide_eq_true (by kernel_rfl)⟩

set_option maxRecDepth 100000 in
theorem decodeSpec_lifted (os : Os) (started : os.Started) (H : Type) (enc : TypeId × Value → H) :
    ReturnsInHanded {} Try.checked os 3 .any (Rows.codecDecodeSpecSpec.pre6 enc Try.prog Try.f3 Rows.codecDecodeSpecRow.domain false) (Rows.codecDecodeSpecSpec.post enc Try.prog Try.f3 false true false false) := by
  refine returnsInHanded_of_change (C := Try.checked) Try.own started (by kernel_rfl) Try.func3
    (ChangeSpec.witness6 (enc := enc) (C := Try.checked) false ⟨#[], #[.slice none 0 0], []⟩ 8 (by kernel_rfl) (by kernel_rfl) (by kernel_rfl) (by kernel_rfl)) ?_
  intro W base args ds gs before hval0 hW hcnd _
  have hval : ∀ (j : Nat) t v, Try.f3.params[j]? = some t → args[j]? = some v → Value.okWide Try.prog W .any base t v := hval0
  have hW' := hW
  obtain ⟨p, q, hA0, hV, rfl, hfz, hnd⟩ := hW
  have hA : DataW.TrodAll enc Try.prog W 0 (fun _ => true) true Try.f3.params.toList args.toList ds p := hA0
  rw [Try.params3] at hA hval
  obtain ⟨v0, d0, rfl, rfl, h0⟩ := trodAll_one hA
  obtain ⟨rfl, rfl⟩ := trodVars_none hV
  obtain ⟨A, bs, cap, rfl, hc, hm, hr⟩ := openB (hval 0 22 v0 rfl rfl) h0
  clear hA0 hval0
  refine (decodeSpec_any bs W A cap hc hm hr).mono fun e W' ⟨he, hb⟩ => ?_
  subst he
  exact ⟨_, rfl, post_true dsP_laid hW' rfl rfl rfl (by rw [Try.params3]; intro t ht; simp at ht; subst ht; exact dsP_read) rfl rfl rfl hb⟩

theorem decodeSpec_holds : Rows.CodecDecodeSpecSaid :=
  OpenClaim.holds_of_wide 3 Try.f3 rfl rfl rfl rfl rfl rfl rfl ⟨rfl, rfl, rfl, rfl, rfl⟩ rfl rfl rfl rfl rfl (by kernel_rfl) Try.func3 (by kernel_rfl)
    (of_decide_eq_true (by kernel_rfl)) (by unfold Func.isWrapper; first | (rw [if_pos (by decide +kernel)]; kernel_rfl) | (rw [if_neg (by decide +kernel)]; exact ⟨rfl, rfl⟩))
    (fun os started H enc _ => decodeSpec_lifted os started H enc)
#print axioms decodeSpec_holds
end Go.Proofs.Ytaninbklippdaaa
