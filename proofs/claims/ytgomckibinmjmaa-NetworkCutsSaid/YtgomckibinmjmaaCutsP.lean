/- For every input the law NetworkCuts returns true, and leaves the memory that was there as it was. No condition. -/
import Derived.Test.YtgomckibinmjmaaN9
import Derived.Test.YtgomckibinmjmaaL7
import Derived.Carry
namespace Go.Proofs.Ytgomckibinmjmaa
open Go.ChangeShapes Go.WideShapes Go.ChangeAt Go.RowKit

theorem cutsP_laid : laidOutB Try.prog = true := by kernel_rfl
theorem cutsP_read : ∀ t ∈ [25, 3, 52], Try.prog.readableRec t = true ∧ t < Try.prog.types.size := by
  have h : ([25, 3, 52].all fun t => Try.prog.readableRec t && decide (t < Try.prog.types.size)) = true := by kernel_rfl
  intro t ht
  have := List.all_eq_true.1 h t ht
  rw [Bool.and_eq_true, decide_eq_true_eq] at this
  exact this
theorem cutsP_mem : ∀ t ∈ (Try.f7 : Func).params.toList, t ∈ [25, 3, 52] := by
  rw [Try.params7]
  have h : ([25, 3, 3, 52].all fun t => [25, 3, 52].contains t) = true := by decide
  intro t ht
  exact List.contains_iff_mem.1 (List.all_eq_true.1 h t ht)

set_option maxRecDepth 100000 in
theorem cuts_lifted (os : Os) (started : os.Started) (H : Type) (enc : TypeId × Value → H) :
    ReturnsInHanded {} Try.checked os 7 .any (Rows.networkCutsSpec.pre6 enc Try.prog Try.f7 Rows.networkCutsRow.domain false) (Rows.networkCutsSpec.post enc Try.prog Try.f7 false true false false) := by
  refine returnsInHanded_of_change (C := Try.checked) Try.own started (by kernel_rfl) Try.func7
    (ChangeSpec.witness6 (enc := enc) (C := Try.checked) false ⟨#[], #[.agg #[.slice none 0 0, .slice none 0 0], .int .i64 0, .int .i64 0, .int .u64 0], []⟩ 8 (by kernel_rfl) (by kernel_rfl) (by kernel_rfl) (by kernel_rfl)) ?_
  intro W base args ds gs before hval0 hW hcnd _
  have hval : ∀ (j : Nat) t v, Try.f7.params[j]? = some t → args[j]? = some v → Value.okWide Try.prog W .any base t v := hval0
  have hW' := hW
  obtain ⟨p, q, hA0, hV, rfl, hfz, hnd⟩ := hW
  have hA : DataW.TrodAll enc Try.prog W 0 (fun _ => true) true Try.f7.params.toList args.toList ds p := hA0
  rw [Try.params7] at hA hval
  obtain ⟨v0, v1, v2, v3, d0, d1, d2, d3, p0, p1, p2, p3, rfl, rfl, rfl, h0, h1, h2, h3⟩ := trodAll_four hA
  obtain ⟨rfl, rfl⟩ := trodVars_none hV
  obtain ⟨n, A, c, A2, c2, rfl, hd⟩ := openN (hval 0 25 v0 rfl rfl) h0
  obtain ⟨a, rfl, -, -, ha⟩ := open_int Try.underlying3 (hval 1 3 v1 rfl rfl) h1
  obtain ⟨b, rfl, -, -, hb0⟩ := open_int Try.underlying3 (hval 2 3 v2 rfl rfl) h2
  obtain ⟨x1, rfl, -, -, hx1⟩ := open_int Try.underlying52 (hval 3 52 v3 rfl rfl) h3
  obtain ⟨k, rfl, hk⟩ := U64.wf hx1
  clear hA0 hval0
  refine (cuts_any n a b k hk W A A2 c c2 hd).mono fun e W' ⟨he, hb⟩ => ?_
  subst he
  exact ⟨_, rfl, post_true cutsP_laid hW' rfl rfl rfl (fun t ht => cutsP_read t (cutsP_mem t ht)) rfl rfl rfl hb⟩

theorem cuts_holds : Rows.NetworkCutsSaid :=
  OpenClaim.holds_of_wide 7 Try.f7 rfl rfl rfl rfl rfl rfl rfl ⟨rfl, rfl, rfl, rfl, rfl⟩ rfl rfl rfl rfl rfl (by kernel_rfl) Try.func7 (by kernel_rfl)
    (of_decide_eq_true (by kernel_rfl)) (by unfold Func.isWrapper; first | (rw [if_pos (by decide +kernel)]; kernel_rfl) | (rw [if_neg (by decide +kernel)]; exact ⟨rfl, rfl⟩))
    (fun os started H enc _ => cuts_lifted os started H enc)
#print axioms cuts_holds
end Go.Proofs.Ytgomckibinmjmaa
