/- For every input the law DiskWriteSpec returns true, and leaves the memory that was there as it was. No condition. -/
import Derived.Test.YtalkbccofiiojaaRw
import Derived.Test.YtalkbccofiiojaaLw
import Derived.Carry
namespace Go.Proofs.Ytalkbccofiiojaa
open Go.ChangeShapes Go.WideShapes Go.ChangeAt Go.RowKit

theorem writesP_laid : laidOutB Try.prog = true := by kernel_rfl
theorem writesP_read : ∀ t ∈ [25, 3, 35], Try.prog.readableRec t = true ∧ t < Try.prog.types.size := by
  have h : ([25, 3, 35].all fun t => Try.prog.readableRec t && decide (t < Try.prog.types.size)) = true := by kernel_rfl
  intro t ht
  have := List.all_eq_true.1 h t ht
  rw [Bool.and_eq_true, decide_eq_true_eq] at this
  exact this
theorem writesP_mem : ∀ t ∈ (Try.f4 : Func).params.toList, t ∈ [25, 3, 35] := by
  rw [Try.params4]
  have h : ([25, 3, 35].all fun t => [25, 3, 35].contains t) = true := by decide
  intro t ht
  exact List.contains_iff_mem.1 (List.all_eq_true.1 h t ht)

set_option maxRecDepth 100000 in
theorem writes_lifted (os : Os) (started : os.Started) (H : Type) (enc : TypeId × Value → H) :
    ReturnsInHanded {} Try.checked os 4 .any (Rows.diskWriteSpecSpec.pre6 enc Try.prog Try.f4 Rows.diskWriteSpecRow.domain false) (Rows.diskWriteSpecSpec.post enc Try.prog Try.f4 false true false false) := by
  refine returnsInHanded_of_change (C := Try.checked) Try.own started (by kernel_rfl) Try.func4
    (ChangeSpec.witness6 (enc := enc) (C := Try.checked) false ⟨#[], #[.agg #[.slice none 0 0, .slice none 0 0, .int .i64 0, .bool false], .int .i64 0, .slice none 0 0], []⟩ 8 (by kernel_rfl) (by kernel_rfl) (by kernel_rfl) (by kernel_rfl)) ?_
  intro W base args ds gs before hval0 hW hcnd _
  have hval : ∀ (j : Nat) t v, Try.f4.params[j]? = some t → args[j]? = some v → Value.okWide Try.prog W .any base t v := hval0
  have hW' := hW
  obtain ⟨p, q, hA0, hV, rfl, hfz, hnd⟩ := hW
  have hA : DataW.TrodAll enc Try.prog W 0 (fun _ => true) true Try.f4.params.toList args.toList ds p := hA0
  rw [Try.params4] at hA hval
  obtain ⟨v0, v1, v2, d0, d1, d2, p0, p1, p2, rfl, rfl, rfl, h0, h1, h2⟩ := trodAll_three hA
  obtain ⟨rfl, rfl⟩ := trodVars_none hV
  obtain ⟨k, A, c, A2, c2, rfl, hd⟩ := openD (hval 0 25 v0 rfl rfl) h0
  obtain ⟨x1, rfl, -, -, hx1⟩ := open_int Try.underlying3 (hval 1 3 v1 rfl rfl) h1
  obtain ⟨b, B, cb, rfl, hbl, hbm, hb0⟩ := openB (hval 2 35 v2 rfl rfl) h2
  clear hA0 hval0
  refine (writes_any k x1 (I64.wf hx1) b W A A2 B c c2 cb hd ⟨hbl, hbm⟩ hb0).mono fun e W' ⟨he, hb⟩ => ?_
  subst he
  exact ⟨_, rfl, post_true writesP_laid hW' rfl rfl rfl (fun t ht => writesP_read t (writesP_mem t ht)) rfl rfl rfl hb⟩

theorem writes_holds : Rows.DiskWriteSpecSaid :=
  OpenClaim.holds_of_wide 4 Try.f4 rfl rfl rfl rfl rfl rfl rfl ⟨rfl, rfl, rfl, rfl, rfl⟩ rfl rfl rfl rfl rfl (by kernel_rfl) Try.func4 (by kernel_rfl)
    (of_decide_eq_true (by kernel_rfl)) (by unfold Func.isWrapper; first | (rw [if_pos (by decide +kernel)]; kernel_rfl) | (rw [if_neg (by decide +kernel)]; exact ⟨rfl, rfl⟩))
    (fun os started H enc _ => writes_lifted os started H enc)
#print axioms writes_holds
end Go.Proofs.Ytalkbccofiiojaa
