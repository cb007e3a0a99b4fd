/- For every input the law ChainBuilt returns true, and leaves the memory that was there as it was. No condition; the listed variables are tied to the program's text. -/
import Derived.Test.YtbhpmeljmkoebaaDoorVs
import Derived.Test.YtbhpmeljmkoebaaDoorVt
import Derived.Test.YtbhpmeljmkoebaaDoorCards
import Derived.Test.YtbhpmeljmkoebaaDoorTie
import Derived.SevenTiedAt
namespace Go.Proofs.YtbhpmeljmkoebaaDoor
open Go.ChangeShapes Go.WideShapes Go.ChangeAt Go.RowKit

theorem builtP_laid : laidOutB Tryd.prog = true := by kernel_rfl
theorem builtP_read : ∀ t ∈ [3, 33], Tryd.prog.readableRec t = true ∧ t < Tryd.prog.types.size := by
  have h : ([3, 33].all fun t => Tryd.prog.readableRec t && decide (t < Tryd.prog.types.size)) = true := by kernel_rfl
  intro t ht
  have := List.all_eq_true.1 h t ht
  rw [Bool.and_eq_true, decide_eq_true_eq] at this
  exact this
theorem builtP_mem : ∀ t ∈ (Tryd.f4 : Func).params.toList, t ∈ [3, 33] := by
  rw [Tryd.params4]
  have h : ([3, 33].all fun t => [3, 33].contains t) = true := by decide
  intro t ht
  exact List.contains_iff_mem.1 (List.all_eq_true.1 h t ht)
theorem builtP_door (os : Os) (args : Array Value) : laidMetH Tryd.prog laidR ((World.doorLaid Tryd.prog 400 os).forCall (fun _ _ => 0) ⟨#[], args, []⟩).memory :=
  laidMetH_of_parts3 (fuel := 8) (laidMet_of_run' 8 (by kernel_rfl) (by kernel_rfl)) (by kernel_rfl) (by kernel_rfl)

set_option maxRecDepth 100000 in
theorem built_lifted (os : Os) (started : os.Started) (H : Type) (enc : TypeId × Value → H) :
    ReturnsInHanded {} Tryd.checked os 4 .any (fun w args => (Rows.chainBuiltSpec.pre enc Tryd.prog Tryd.f4 [] false w args ∧ laidMetH Tryd.prog laidR w) ∧ sizedMet enc Tryd.prog Tryd.f4 (OpenSpec.ofChange Rows.chainBuiltSpec) false w args)
      (Rows.chainBuiltSpec.post enc Tryd.prog Tryd.f4 false true false false) := by
  refine returnsInHanded_of_change_and (C := Tryd.checked) (X := fun w _ => laidMetH Tryd.prog laidR w) (fun _ _ _ hh h => h.of_heap hh) Tryd.own started (by kernel_rfl) Tryd.func4
    (ChangeSpec.witness_shaped (enc := enc) (C := Tryd.checked) (os := os) (X := fun w _ => laidMetH Tryd.prog laidR w) false (World.doorLaid Tryd.prog 400 os) #[.int .i64 0, .slice none 0 0] 8 rfl (World.shaped_of_RefB (by kernel_rfl) (by kernel_rfl)) (by kernel_rfl) (by kernel_rfl) (by kernel_rfl) (builtP_door os _)) ?_
  intro W base args ds gs before hval0 hW _ hsz hL _
  have hval : ∀ (j : Nat) t v, Tryd.f4.params[j]? = some t → args[j]? = some v → Value.okWide Tryd.prog W .any base t v := hval0
  have hW' := hW
  obtain ⟨p, q, hA0, hV, rfl, hfz, hnd⟩ := hW
  have hA : DataW.TrodAll enc Tryd.prog W 0 (fun _ => true) true Tryd.f4.params.toList args.toList ds p := hA0
  rw [Tryd.params4] at hA hval
  obtain ⟨v0, v1, d0, d1, p0, p1, rfl, rfl, rfl, h0, h1⟩ := trodAll_two hA
  obtain ⟨rfl, rfl⟩ := trodVars_none hV
  obtain ⟨z0, rfl, -, hz0⟩ := open_int Tryd.underlying3 (hval 0 3 v0 rfl rfl) h0
  obtain ⟨A1, l1, c1, rfl, hc1, hm1, q1⟩ := openLs (hval 1 33 v1 rfl rfl) h1
  have hK := kt_of_laid hL
  clear hA0 hval0
  refine (built_law z0 (I64.wf hz0.2) l1 W A1 c1 q1 hK.1 hK.2).mono fun e W' ⟨he, hb⟩ => ?_
  subst he
  exact ⟨_, rfl, post_true builtP_laid hW' rfl rfl rfl (fun t ht => builtP_read t (builtP_mem t ht)) rfl rfl rfl hb⟩

theorem built_holds : Rows.ChainBuiltSaid :=
  OpenClaim.holds_of_wide 4 Tryd.f4 rfl rfl rfl rfl rfl rfl rfl ⟨rfl, rfl, rfl, rfl, rfl⟩ rfl rfl rfl rfl rfl (by kernel_rfl) Tryd.func4 (by kernel_rfl)
    (of_decide_eq_true (by kernel_rfl)) (by unfold Func.isWrapper; first | (rw [if_pos (by decide +kernel)]; kernel_rfl) | (rw [if_neg (by decide +kernel)]; exact ⟨rfl, rfl⟩))
    (fun os started H enc _ => built_lifted os started H enc)

theorem built_card : Rows.ChainBuiltCardSaid :=
  Claim7.holds_tied_plain_at .later [] [.data] true _ false
    built_holds (fun _ h => by cases h) (by kernel_rfl) (fun _ h => by cases h) chainBuilt_row_tie rfl ⟨rfl, rfl⟩ (by kernel_rfl) rfl
    (fun f fn hf hfn => by
      obtain rfl : f = 4 := Option.some.inj ((show Tryd.prog.funcNamed "kinesphere/kinespherelaw08.ChainBuilt" = some 4 by kernel_rfl).symm.trans hf) |>.symm
      obtain rfl : fn = Tryd.f4 := (Option.some.inj (Tryd.func4.symm.trans hfn)).symm
      exact ⟨by kernel_rfl, fun j t ht => by
        have hm := builtP_mem t (by have := Array.mem_of_getElem? ht; simpa using this)
        have hall : ([3, 33].all fun u => !Tryd.prog.wantsStandIn u) = true := by kernel_rfl
        exact (show Tryd.prog.wantsStandIn t = false by simpa using List.all_eq_true.1 hall t hm)⟩)
    (by kernel_rfl)
#print axioms built_card
end Go.Proofs.YtbhpmeljmkoebaaDoor
