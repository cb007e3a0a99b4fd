/- For every input the law DiskHistory returns true, and leaves the memory that was there as it was. No condition. -/
import Derived.Test.YtalkbccofiiojaaRw
import Derived.Test.YtalkbccofiiojaaHi
import Derived.Test.YtalkbccofiiojaaRd
import Derived.Carry
namespace Go.Proofs.Ytalkbccofiiojaa
open Go.ChangeShapes Go.WideShapes Go.ChangeAt Go.RowKit

theorem historyP_laid : laidOutB Try.prog = true := by kernel_rfl
theorem historyP_read : ∀ t ∈ [43, 5], Try.prog.readableRec t = true ∧ t < Try.prog.types.size := by
  have h : ([43, 5].all fun t => Try.prog.readableRec t && decide (t < Try.prog.types.size)) = true := by kernel_rfl
  intro t ht
  have := List.all_eq_true.1 h t ht
  rw [Bool.and_eq_true, decide_eq_true_eq] at this
  exact this
theorem historyP_mem : ∀ t ∈ (Try.f6 : Func).params.toList, t ∈ [43, 5] := by
  rw [Try.params6]
  have h : ([43, 5].all fun t => [43, 5].contains t) = true := by decide
  intro t ht
  exact List.contains_iff_mem.1 (List.all_eq_true.1 h t ht)

set_option maxRecDepth 100000 in
theorem history_lifted (os : Os) (started : os.Started) (H : Type) (enc : TypeId × Value → H) :
    ReturnsInHanded {} Try.checked os 6 .any (Rows.diskHistorySpec.pre6 enc Try.prog Try.f6 Rows.diskHistoryRow.domain false) (Rows.diskHistorySpec.post enc Try.prog Try.f6 false true false false) := by
  refine returnsInHanded_of_change (C := Try.checked) Try.own started (by kernel_rfl) Try.func6
    (ChangeSpec.witness6 (enc := enc) (C := Try.checked) false ⟨#[], #[.slice none 0 0, .int .u8 0], []⟩ 8 (by kernel_rfl) (by kernel_rfl) (by kernel_rfl) (by kernel_rfl)) ?_
  intro W base args ds gs before hval0 hW hcnd _
  have hval : ∀ (j : Nat) t v, Try.f6.params[j]? = some t → args[j]? = some v → Value.okWide Try.prog W .any base t v := hval0
  have hW' := hW
  obtain ⟨p, q, hA0, hV, rfl, hfz, hnd⟩ := hW
  have hA : DataW.TrodAll enc Try.prog W 0 (fun _ => true) true Try.f6.params.toList args.toList ds p := hA0
  rw [Try.params6] at hA hval
  obtain ⟨v0, v1, d0, d1, p0, p1, rfl, rfl, rfl, h0, h1⟩ := trodAll_two hA
  obtain ⟨rfl, rfl⟩ := trodVars_none hV
  obtain ⟨l, Al, cl, rfl, hl1, hl2, hl3⟩ := openA (hval 0 43 v0 rfl rfl) h0
  obtain ⟨x1, rfl, -, -, hx1⟩ := open_int Try.underlying5 (hval 1 5 v1 rfl rfl) h1
  obtain ⟨lf, rfl⟩ := u8_of hx1
  clear hA0 hval0
  refine (history_any l lf W Al cl ⟨hl1, hl2⟩ hl3).mono fun e W' ⟨he, hb⟩ => ?_
  subst he
  exact ⟨_, rfl, post_true historyP_laid hW' rfl rfl rfl (fun t ht => historyP_read t (historyP_mem t ht)) rfl rfl rfl hb⟩

theorem history_holds : Rows.DiskHistorySaid :=
  OpenClaim.holds_of_wide 6 Try.f6 rfl rfl rfl rfl rfl rfl rfl ⟨rfl, rfl, rfl, rfl, rfl⟩ rfl rfl rfl rfl rfl (by kernel_rfl) Try.func6 (by kernel_rfl)
    (of_decide_eq_true (by kernel_rfl)) (by unfold Func.isWrapper; first | (rw [if_pos (by decide +kernel)]; kernel_rfl) | (rw [if_neg (by decide +kernel)]; exact ⟨rfl, rfl⟩))
    (fun os started H enc _ => history_lifted os started H enc)
#print axioms history_holds
end Go.Proofs.Ytalkbccofiiojaa
