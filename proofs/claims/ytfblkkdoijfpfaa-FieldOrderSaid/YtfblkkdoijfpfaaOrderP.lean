/- For every input the law FieldOrder returns true, and leaves the memory that was there as it was. No condition. -/
import Derived.Test.YtfblkkdoijfpfaaFm
import Derived.Test.YtfblkkdoijfpfaaFp
import Derived.Carry
namespace Go.Proofs.Ytfblkkdoijfpfaa
open Go.ChangeShapes Go.WideShapes Go.ChangeAt Go.RowKit

theorem orderP_laid : laidOutB Try.prog = true := by kernel_rfl
theorem orderP_read : ∀ t ∈ [31, 5, 3], Try.prog.readableRec t = true ∧ t < Try.prog.types.size := by
  have h : ([31, 5, 3].all fun t => Try.prog.readableRec t && decide (t < Try.prog.types.size)) = true := by kernel_rfl
  intro t ht
  have := List.all_eq_true.1 h t ht
  rw [Bool.and_eq_true, decide_eq_true_eq] at this
  exact this
theorem orderP_mem : ∀ t ∈ (Try.f6 : Func).params.toList, t ∈ [31, 5, 3] := by
  rw [Try.params6]
  have h : ([31, 5, 3, 3].all fun t => [31, 5, 3].contains t) = true := by decide
  intro t ht
  exact List.contains_iff_mem.1 (List.all_eq_true.1 h t ht)

set_option maxRecDepth 100000 in
theorem order_lifted (os : Os) (started : os.Started) (H : Type) (enc : TypeId × Value → H) :
    ReturnsInHanded {} Try.checked os 6 .any (Rows.fieldOrderSpec.pre6 enc Try.prog Try.f6 Rows.fieldOrderRow.domain false) (Rows.fieldOrderSpec.post enc Try.prog Try.f6 false true false false) := by
  refine returnsInHanded_of_change (C := Try.checked) Try.own started (by kernel_rfl) Try.func6
    (ChangeSpec.witness6 (enc := enc) (C := Try.checked) false ⟨#[], #[.slice none 0 0, .int .u8 0, .int .i64 0, .int .i64 0], []⟩ 8 (by kernel_rfl) (by kernel_rfl) (by kernel_rfl) (by kernel_rfl)) ?_
  intro W base args ds gs before hval0 hW hcnd _
  have hval : ∀ (j : Nat) t v, Try.f6.params[j]? = some t → args[j]? = some v → Value.okWide Try.prog W .any base t v := hval0
  have hW' := hW
  obtain ⟨p, q, hA0, hV, rfl, hfz, hnd⟩ := hW
  have hA : DataW.TrodAll enc Try.prog W 0 (fun _ => true) true Try.f6.params.toList args.toList ds p := hA0
  rw [Try.params6] at hA hval
  obtain ⟨v0, v1, v2, v3, d0, d1, d2, d3, p0, p1, p2, p3, rfl, rfl, rfl, h0, h1, h2, h3⟩ := trodAll_four hA
  obtain ⟨rfl, rfl⟩ := trodVars_none hV
  obtain ⟨l, A, c, rfl, hlc, hcm, hd⟩ := openL (hval 0 31 v0 rfl rfl) h0
  have hc63 : c ≤ 9223372036854775807 := by unfold maxLen at hcm; omega
  obtain ⟨x1, rfl, -, -, hx1⟩ := open_int Try.underlying5 (hval 1 5 v1 rfl rfl) h1
  have hb8 := bounds_u8 hx1
  obtain ⟨tn, rfl⟩ : ∃ tn : Nat, x1 = tn := ⟨x1.toNat, by omega⟩
  obtain ⟨x2, rfl, -, -, hx2⟩ := open_int Try.underlying3 (hval 2 3 v2 rfl rfl) h2
  obtain ⟨x3, rfl, -, -, hx3⟩ := open_int Try.underlying3 (hval 3 3 v3 rfl rfl) h3
  clear hA0 hval0
  refine (order_any l tn x2 x3 (by omega) (by omega) (I64.wf hx2) (I64.wf hx3) W A c hlc hd).mono fun e W' ⟨he, hb⟩ => ?_
  subst he
  exact ⟨_, rfl, post_true orderP_laid hW' rfl rfl rfl (fun t ht => orderP_read t (orderP_mem t ht)) rfl rfl rfl hb⟩

theorem order_holds : Rows.FieldOrderSaid :=
  OpenClaim.holds_of_wide 6 Try.f6 rfl rfl rfl rfl rfl rfl rfl ⟨rfl, rfl, rfl, rfl, rfl⟩ rfl rfl rfl rfl rfl (by kernel_rfl) Try.func6 (by kernel_rfl)
    (of_decide_eq_true (by kernel_rfl)) (by unfold Func.isWrapper; first | (rw [if_pos (by decide +kernel)]; kernel_rfl) | (rw [if_neg (by decide +kernel)]; exact ⟨rfl, rfl⟩))
    (fun os started H enc _ => order_lifted os started H enc)
#print axioms order_holds
end Go.Proofs.Ytfblkkdoijfpfaa
