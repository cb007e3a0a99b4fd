/- For every input the law FieldThrough returns true, and leaves the memory that was there as it was. No condition. -/
import Derived.Test.YtfblkkdoijfpfaaFm
import Derived.Test.YtfblkkdoijfpfaaFo
import Derived.Carry
namespace Go.Proofs.Ytfblkkdoijfpfaa
open Go.ChangeShapes Go.WideShapes Go.ChangeAt Go.RowKit

theorem throughP_laid : laidOutB Try.prog = true := by kernel_rfl
theorem throughP_read : ∀ t ∈ [31, 32, 3], Try.prog.readableRec t = true ∧ t < Try.prog.types.size := by
  have h : ([31, 32, 3].all fun t => Try.prog.readableRec t && decide (t < Try.prog.types.size)) = true := by kernel_rfl
  intro t ht
  have := List.all_eq_true.1 h t ht
  rw [Bool.and_eq_true, decide_eq_true_eq] at this
  exact this
theorem throughP_mem : ∀ t ∈ (Try.f5 : Func).params.toList, t ∈ [31, 32, 3] := by
  rw [Try.params5]
  have h : ([31, 32, 3].all fun t => [31, 32, 3].contains t) = true := by decide
  intro t ht
  exact List.contains_iff_mem.1 (List.all_eq_true.1 h t ht)

set_option maxRecDepth 100000 in
theorem through_lifted (os : Os) (started : os.Started) (H : Type) (enc : TypeId × Value → H) :
    ReturnsInHanded {} Try.checked os 5 .any (Rows.fieldThroughSpec.pre6 enc Try.prog Try.f5 Rows.fieldThroughRow.domain false) (Rows.fieldThroughSpec.post enc Try.prog Try.f5 false true false false) := by
  refine returnsInHanded_of_change (C := Try.checked) Try.own started (by kernel_rfl) Try.func5
    (ChangeSpec.witness6 (enc := enc) (C := Try.checked) false ⟨#[], #[.slice none 0 0, .slice none 0 0, .int .i64 0], []⟩ 8 (by kernel_rfl) (by kernel_rfl) (by kernel_rfl) (by kernel_rfl)) ?_
  intro W base args ds gs before hval0 hW hcnd _
  have hval : ∀ (j : Nat) t v, Try.f5.params[j]? = some t → args[j]? = some v → Value.okWide Try.prog W .any base t v := hval0
  have hW' := hW
  obtain ⟨p, q, hA0, hV, rfl, hfz, hnd⟩ := hW
  have hA : DataW.TrodAll enc Try.prog W 0 (fun _ => true) true Try.f5.params.toList args.toList ds p := hA0
  rw [Try.params5] at hA hval
  obtain ⟨v0, v1, v2, d0, d1, d2, p0, p1, p2, rfl, rfl, rfl, h0, h1, h2⟩ := trodAll_three hA
  obtain ⟨rfl, rfl⟩ := trodVars_none hV
  obtain ⟨l, A, c, rfl, hlc, hcm, hd⟩ := openL (hval 0 31 v0 rfl rfl) h0
  have hc63 : c ≤ 9223372036854775807 := by unfold maxLen at hcm; omega
  obtain ⟨ps, Ap, cp, rfl, hpc, hpm, hi⟩ := openI (hval 1 32 v1 rfl rfl) h1
  have hp63 : cp ≤ 9223372036854775807 := by unfold maxLen at hpm; omega
  obtain ⟨x2, rfl, -, -, hx2⟩ := open_int Try.underlying3 (hval 2 3 v2 rfl rfl) h2
  clear hA0 hval0
  refine (through_any l ps x2 (by omega) (by omega) (I64.wf hx2) W A c hd Ap cp hi).mono fun e W' ⟨he, hb⟩ => ?_
  subst he
  exact ⟨_, rfl, post_true throughP_laid hW' rfl rfl rfl (fun t ht => throughP_read t (throughP_mem t ht)) rfl rfl rfl hb⟩

theorem through_holds : Rows.FieldThroughSaid :=
  OpenClaim.holds_of_wide 5 Try.f5 rfl rfl rfl rfl rfl rfl rfl ⟨rfl, rfl, rfl, rfl, rfl⟩ rfl rfl rfl rfl rfl (by kernel_rfl) Try.func5 (by kernel_rfl)
    (of_decide_eq_true (by kernel_rfl)) (by unfold Func.isWrapper; first | (rw [if_pos (by decide +kernel)]; kernel_rfl) | (rw [if_neg (by decide +kernel)]; exact ⟨rfl, rfl⟩))
    (fun os started H enc _ => through_lifted os started H enc)
#print axioms through_holds
end Go.Proofs.Ytfblkkdoijfpfaa
