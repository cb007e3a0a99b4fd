/- For every input the law DiskSyncSpec returns true, and leaves the memory that was there as it was. No condition. -/
import Derived.Test.YtalkbccofiiojaaRw
import Derived.Test.YtalkbccofiiojaaLy
import Derived.Test.YtalkbccofiiojaaRd
import Derived.Carry
namespace Go.Proofs.Ytalkbccofiiojaa
open Go.ChangeShapes Go.WideShapes Go.ChangeAt Go.RowKit

theorem syncsP_laid : laidOutB Try.prog = true := by kernel_rfl
theorem syncsP_read : ∀ t ∈ [25, 3], Try.prog.readableRec t = true ∧ t < Try.prog.types.size := by
  have h : ([25, 3].all fun t => Try.prog.readableRec t && decide (t < Try.prog.types.size)) = true := by kernel_rfl
  intro t ht
  have := List.all_eq_true.1 h t ht
  rw [Bool.and_eq_true, decide_eq_true_eq] at this
  exact this
theorem syncsP_mem : ∀ t ∈ (Try.f5 : Func).params.toList, t ∈ [25, 3] := by
  rw [Try.params5]
  have h : ([25, 3].all fun t => [25, 3].contains t) = true := by decide
  intro t ht
  exact List.contains_iff_mem.1 (List.all_eq_true.1 h t ht)

set_option maxRecDepth 100000 in
theorem syncs_lifted (os : Os) (started : os.Started) (H : Type) (enc : TypeId × Value → H) :
    ReturnsInHanded {} Try.checked os 5 .any (Rows.diskSyncSpecSpec.pre6 enc Try.prog Try.f5 Rows.diskSyncSpecRow.domain false) (Rows.diskSyncSpecSpec.post enc Try.prog Try.f5 false true false false) := by
  refine returnsInHanded_of_change (C := Try.checked) Try.own started (by kernel_rfl) Try.func5
    (ChangeSpec.witness6 (enc := enc) (C := Try.checked) false ⟨#[], #[.agg #[.slice none 0 0, .slice none 0 0, .int .i64 0, .bool false], .int .i64 0], []⟩ 8 (by kernel_rfl) (by kernel_rfl) (by kernel_rfl) (by kernel_rfl)) ?_
  intro W base args ds gs before hval0 hW hcnd _
  have hval : ∀ (j : Nat) t v, Try.f5.params[j]? = some t → args[j]? = some v → Value.okWide Try.prog W .any base t v := hval0
  have hW' := hW
  obtain ⟨p, q, hA0, hV, rfl, hfz, hnd⟩ := hW
  have hA : DataW.TrodAll enc Try.prog W 0 (fun _ => true) true Try.f5.params.toList args.toList ds p := hA0
  rw [Try.params5] at hA hval
  obtain ⟨v0, v1, d0, d1, p0, p1, rfl, rfl, rfl, h0, h1⟩ := trodAll_two hA
  obtain ⟨rfl, rfl⟩ := trodVars_none hV
  obtain ⟨k, A, c, A2, c2, rfl, hd⟩ := openD (hval 0 25 v0 rfl rfl) h0
  obtain ⟨x1, rfl, -, -, hx1⟩ := open_int Try.underlying3 (hval 1 3 v1 rfl rfl) h1
  clear hA0 hval0
  refine (syncs_any k x1 (I64.wf hx1) W A A2 c c2 hd).mono fun e W' ⟨he, hb⟩ => ?_
  subst he
  exact ⟨_, rfl, post_true syncsP_laid hW' rfl rfl rfl (fun t ht => syncsP_read t (syncsP_mem t ht)) rfl rfl rfl hb⟩

theorem syncs_holds : Rows.DiskSyncSpecSaid :=
  OpenClaim.holds_of_wide 5 Try.f5 rfl rfl rfl rfl rfl rfl rfl ⟨rfl, rfl, rfl, rfl, rfl⟩ rfl rfl rfl rfl rfl (by kernel_rfl) Try.func5 (by kernel_rfl)
    (of_decide_eq_true (by kernel_rfl)) (by unfold Func.isWrapper; first | (rw [if_pos (by decide +kernel)]; kernel_rfl) | (rw [if_neg (by decide +kernel)]; exact ⟨rfl, rfl⟩))
    (fun os started H enc _ => syncs_lifted os started H enc)
#print axioms syncs_holds
end Go.Proofs.Ytalkbccofiiojaa
