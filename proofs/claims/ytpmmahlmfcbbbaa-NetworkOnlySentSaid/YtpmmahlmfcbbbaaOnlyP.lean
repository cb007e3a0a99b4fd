/- For every input the law NetworkOnlySent returns true, and leaves the memory that was there as it was. No condition. -/
import Derived.Test.YtpmmahlmfcbbbaaO5
import Derived.Carry
namespace Go.Proofs.Ytpmmahlmfcbbbaa
open Go.ChangeShapes Go.WideShapes Go.ChangeAt Go.RowKit

theorem onlyP_laid : laidOutB Try.prog = true := by kernel_rfl
theorem onlyP_read : ∀ t ∈ [45], Try.prog.readableRec t = true ∧ t < Try.prog.types.size := by
  have h : ([45].all fun t => Try.prog.readableRec t && decide (t < Try.prog.types.size)) = true := by kernel_rfl
  intro t ht
  have := List.all_eq_true.1 h t ht
  rw [Bool.and_eq_true, decide_eq_true_eq] at this
  exact this
theorem onlyP_mem : ∀ t ∈ (Try.f5 : Func).params.toList, t ∈ [45] := by
  rw [Try.params5]
  have h : ([45].all fun t => [45].contains t) = true := by decide
  intro t ht
  exact List.contains_iff_mem.1 (List.all_eq_true.1 h t ht)

set_option maxRecDepth 100000 in
theorem only_lifted (os : Os) (started : os.Started) (H : Type) (enc : TypeId × Value → H) :
    ReturnsInHanded {} Try.checked os 5 .any (Rows.networkOnlySentSpec.pre6 enc Try.prog Try.f5 Rows.networkOnlySentRow.domain false) (Rows.networkOnlySentSpec.post enc Try.prog Try.f5 false true false false) := by
  refine returnsInHanded_of_change (C := Try.checked) Try.own started (by kernel_rfl) Try.func5
    (ChangeSpec.witness6 (enc := enc) (C := Try.checked) false ⟨#[], #[.slice none 0 0], []⟩ 8 (by kernel_rfl) (by kernel_rfl) (by kernel_rfl) (by kernel_rfl)) ?_
  intro W base args ds gs before hval0 hW hcnd _
  have hval : ∀ (j : Nat) t v, Try.f5.params[j]? = some t → args[j]? = some v → Value.okWide Try.prog W .any base t v := hval0
  have hW' := hW
  obtain ⟨p, q, hA0, hV, rfl, hfz, hnd⟩ := hW
  have hA : DataW.TrodAll enc Try.prog W 0 (fun _ => true) true Try.f5.params.toList args.toList ds p := hA0
  rw [Try.params5] at hA hval
  obtain ⟨v0, d0, rfl, rfl, h0⟩ := trodAll_one hA
  obtain ⟨rfl, rfl⟩ := trodVars_none hV
  obtain ⟨l, A, c, rfl, hlc, hd⟩ := openM (hval 0 45 v0 rfl rfl) h0
  clear hA0 hval0
  refine (only_any l W A c hlc hd).mono fun e W' ⟨he, hb⟩ => ?_
  subst he
  exact ⟨_, rfl, post_true onlyP_laid hW' rfl rfl rfl (fun t ht => onlyP_read t (onlyP_mem t ht)) rfl rfl rfl hb⟩

theorem only_holds : Rows.NetworkOnlySentSaid :=
  OpenClaim.holds_of_wide 5 Try.f5 rfl rfl rfl rfl rfl rfl rfl ⟨rfl, rfl, rfl, rfl, rfl⟩ rfl rfl rfl rfl rfl (by kernel_rfl) Try.func5 (by kernel_rfl)
    (of_decide_eq_true (by kernel_rfl)) (by unfold Func.isWrapper; first | (rw [if_pos (by decide +kernel)]; kernel_rfl) | (rw [if_neg (by decide +kernel)]; exact ⟨rfl, rfl⟩))
    (fun os started H enc _ => only_lifted os started H enc)
#print axioms only_holds
end Go.Proofs.Ytpmmahlmfcbbbaa
