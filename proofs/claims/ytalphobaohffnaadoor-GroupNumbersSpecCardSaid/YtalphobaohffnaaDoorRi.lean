/- A region that draws its order, by an invariant: operations that make blocks (told apart), and a tail that waits for all the others. -/
import Derived.Test.YtalphobaohffnaaDoorRg
namespace Go.Proofs.YtalphobaohffnaaDoor

/-- The block that a value points into. -/
def pb : Value → Nat
  | .pointer (some a) => a.block
  | .slice (some a) _ _ => a.block
  | _ => 0

/-- One operation's obligation; 'mk': it makes the block that its value points into. -/
def StepJ (P : Program) (ops : Array Oper) (n : Nat) (Q : Exit → Act → World → Prop) (a0 : Act) (G : World → Prop) (R : World → World → Prop) (F : Nat → Value → World → Prop) (mk : Nat → Bool) (i : Nat) (o : Oper) : Prop :=
  ∀ (a : Act) (w : World), Agree (ops.toList.take n) a0 a → G w → DepsI ops F o a w →
    ∀ K : Act → World → Prop, Shut (∀ v w', (o.dst = none → v = undef) → G w' → R w w' → F i v w' → (mk i = true → w.heap.size ≤ pb v ∧ pb v < w'.heap.size) → K (a.put o.dst v) w') →
      if Region.wanted o (yielded ops a.tmps) = true then Oper.wp P o a w K Q else K (a.put o.dst undef) w
theorem stepJ_val {P : Program} {ops : Array Oper} {n : Nat} {Q : Exit → Act → World → Prop} {a0 : Act} {G : World → Prop} {R : World → World → Prop} {F : Nat → Value → World → Prop} {mk : Nat → Bool} {i : Nat} {o : Oper} (hmk : mk i = false) (hR : ∀ w, R w w) (hg : o.guard = none) (hd : o.dst.isSome = true)
    (h : ∀ (a : Act) (w : World), Agree (ops.toList.take n) a0 a → G w → DepsI ops F o a w → ∃ v, (execOp a.eval o).run P w = .ok (.value v) w ∧ F i v w) : StepJ P ops n Q a0 G R F mk i o := by
  intro a w hA hG hdep K hK
  obtain ⟨v, h1, h2⟩ := h a w hA hG hdep
  rw [if_pos (by unfold Region.wanted; rw [hg])]
  unfold Oper.wp
  rw [h1]
  exact hK v w (fun e => by rw [e] at hd; cases hd) hG (hR w) h2 (fun e => by rw [hmk] at e; cases e)
theorem stepJ_make {P : Program} {ops : Array Oper} {n : Nat} {Q : Exit → Act → World → Prop} {a0 : Act} {G : World → Prop} {R : World → World → Prop} {F : Nat → Value → World → Prop} {mk : Nat → Bool} {i : Nat} {o : Oper} (hg : o.guard = none) (hd : o.dst.isSome = true)
    (h : ∀ (a : Act) (w : World), Agree (ops.toList.take n) a0 a → G w → DepsI ops F o a w → ∃ v w', (execOp a.eval o).run P w = .ok (.value v) w' ∧ G w' ∧ R w w' ∧ F i v w' ∧ (mk i = true → w.heap.size ≤ pb v ∧ pb v < w'.heap.size)) : StepJ P ops n Q a0 G R F mk i o := by
  intro a w hA hG hdep K hK
  obtain ⟨v, w', h1, h2, h3, h4, h5⟩ := h a w hA hG hdep
  rw [if_pos (by unfold Region.wanted; rw [hg])]
  unfold Oper.wp
  rw [h1]
  exact hK v w' (fun e => by rw [e] at hd; cases hd) h2 h3 h4 h5
theorem stepJ_call {P : Program} {ops : Array Oper} {n : Nat} {Q : Exit → Act → World → Prop} {a0 : Act} {G : World → Prop} {R : World → World → Prop} {F : Nat → Value → World → Prop} {mk : Nat → Bool} {i : Nat} {o : Oper} (hmk : mk i = false) (hg : o.guard = none) (hd : o.dst.isSome = true)
    (h : ∀ (a : Act) (w : World), Agree (ops.toList.take n) a0 a → G w → DepsI ops F o a w → ∃ f args, (execOp a.eval o).run P w = .ok (.enter f args) w ∧
      Calls P f args w fun e w' => ∃ v, e = .returned v ∧ G w' ∧ R w w' ∧ F i v w') : StepJ P ops n Q a0 G R F mk i o := by
  intro a w hA hG hdep K hK
  obtain ⟨f, args, h1, h2⟩ := h a w hA hG hdep
  rw [if_pos (by unfold Region.wanted; rw [hg])]
  unfold Oper.wp
  rw [h1]
  refine h2.mono fun e w' he => ?_
  obtain ⟨v, rfl, h3, h4, h5⟩ := he
  exact hK v w' (fun e => by rw [e] at hd; cases hd) h3 h4 h5 (fun e => by rw [hmk] at e; cases e)
/-- As the step of a region: whatever the kit's own laws of a step give. -/
theorem stepJ_any {P : Program} {ops : Array Oper} {n : Nat} {Q : Exit → Act → World → Prop} {a0 : Act} {G : World → Prop} {R : World → World → Prop} {F : Nat → Value → World → Prop} {mk : Nat → Bool} {i : Nat} {o : Oper} (hd : o.dst.isSome = true)
    (h : ∀ (a : Act) (w : World), Agree (ops.toList.take n) a0 a → G w → DepsI ops F o a w → ∀ K : Act → World → Prop, (∀ v w', G w' → R w w' → F i v w' → (mk i = true → w.heap.size ≤ pb v ∧ pb v < w'.heap.size) → K (a.put o.dst v) w') →
      if Region.wanted o (yielded ops a.tmps) = true then Oper.wp P o a w K Q else K (a.put o.dst undef) w) : StepJ P ops n Q a0 G R F mk i o := by
  intro a w hA hG hdep K hK
  exact h a w hA hG hdep K fun v w' h1 h2 h3 h4 => hK v w' (fun e => by rw [e] at hd; cases hd) h1 h2 h3 h4
/-- An operation with a guard that lets it by yields a value. -/
theorem stepJ_valG {P : Program} {ops : Array Oper} {n : Nat} {Q : Exit → Act → World → Prop} {a0 : Act} {G : World → Prop} {R : World → World → Prop} {F : Nat → Value → World → Prop} {mk : Nat → Bool} {i : Nat} {o : Oper} (hmk : mk i = false) (hR : ∀ w, R w w) (hd : o.dst.isSome = true)
    (h : ∀ (a : Act) (w : World), Agree (ops.toList.take n) a0 a → G w → DepsI ops F o a w → Region.wanted o (yielded ops a.tmps) = true ∧ ∃ v, (execOp a.eval o).run P w = .ok (.value v) w ∧ F i v w) : StepJ P ops n Q a0 G R F mk i o := by
  intro a w hA hG hdep K hK
  obtain ⟨hw, v, h1, h2⟩ := h a w hA hG hdep
  rw [if_pos hw]
  unfold Oper.wp
  rw [h1]
  exact hK v w (fun e => by rw [e] at hd; cases hd) hG (hR w) h2 (fun e => by rw [hmk] at e; cases e)

/-- The same, where the step to the same world is owed at worlds of the invariant alone. -/
theorem stepJ_val' {P : Program} {ops : Array Oper} {n : Nat} {Q : Exit → Act → World → Prop} {a0 : Act} {G : World → Prop} {R : World → World → Prop} {F : Nat → Value → World → Prop} {mk : Nat → Bool} {i : Nat} {o : Oper} (hR : ∀ w, G w → R w w) (hmk : mk i = false) (hg : o.guard = none) (hd : o.dst.isSome = true)
    (h : ∀ (a : Act) (w : World), Agree (ops.toList.take n) a0 a → G w → DepsI ops F o a w → ∃ v, (execOp a.eval o).run P w = .ok (.value v) w ∧ F i v w) : StepJ P ops n Q a0 G R F mk i o := by
  intro a w hA hG hdep K hK
  obtain ⟨v, h1, h2⟩ := h a w hA hG hdep
  rw [if_pos (by unfold Region.wanted; rw [hg])]
  unfold Oper.wp
  rw [h1]
  exact hK v w (fun e => by rw [e] at hd; cases hd) hG (hR w hG) h2 (fun e => by rw [hmk] at e; cases e)
theorem stepJ_valG' {P : Program} {ops : Array Oper} {n : Nat} {Q : Exit → Act → World → Prop} {a0 : Act} {G : World → Prop} {R : World → World → Prop} {F : Nat → Value → World → Prop} {mk : Nat → Bool} {i : Nat} {o : Oper} (hR : ∀ w, G w → R w w) (hmk : mk i = false) (hd : o.dst.isSome = true)
    (h : ∀ (a : Act) (w : World), Agree (ops.toList.take n) a0 a → G w → DepsI ops F o a w → Region.wanted o (yielded ops a.tmps) = true ∧ ∃ v, (execOp a.eval o).run P w = .ok (.value v) w ∧ F i v w) : StepJ P ops n Q a0 G R F mk i o := by
  intro a w hA hG hdep K hK
  obtain ⟨hw, v, h1, h2⟩ := h a w hA hG hdep
  rw [if_pos hw]
  unfold Oper.wp
  rw [h1]
  exact hK v w (fun e => by rw [e] at hd; cases hd) hG (hR w hG) h2 (fun e => by rw [hmk] at e; cases e)

/-- All operations' obligations, one after the other. -/
def StepsJ (P : Program) (ops : Array Oper) (n : Nat) (Q : Exit → Act → World → Prop) (a0 : Act) (G : World → Prop) (R : World → World → Prop) (F : Nat → Value → World → Prop) (mk : Nat → Bool) : Nat → List Oper → Prop
  | _, [] => True
  | i, o :: r => StepJ P ops n Q a0 G R F mk i o ∧ StepsJ P ops n Q a0 G R F mk (i + 1) r
theorem StepsJ.get {P : Program} {ops : Array Oper} {n : Nat} {Q : Exit → Act → World → Prop} {a0 : Act} {G : World → Prop} {R : World → World → Prop} {F : Nat → Value → World → Prop} {mk : Nat → Bool} :
    ∀ (l : List Oper) (k : Nat), StepsJ P ops n Q a0 G R F mk k l → ∀ i o, l[i]? = some o → StepJ P ops n Q a0 G R F mk (k + i) o := by
  intro l
  induction l with
  | nil => intro k _ i o h; simp at h
  | cons x r ih =>
    intro k hs i o h
    cases i with
    | zero =>
      simp only [List.getElem?_cons_zero, Option.some.injEq] at h
      subst h
      exact hs.1
    | succ i =>
      have := ih (k + 1) hs.2 i o (by simpa using h)
      rwa [show k + 1 + i = k + (i + 1) by omega] at this

/-- Operation i waits for operation k, over others or not. -/
def waitsFor (ops : Array Oper) : Nat → Nat → Nat → Bool
  | 0, _, _ => false
  | f + 1, i, k => match ops[i]? with
    | some o => o.after.toList.any fun e => Region.binds .any e && (e.on == k || waitsFor ops f e.on k)
    | none => false
/-- What stands from n on waits for all that stands ahead of n. -/
def tailWaits (ops : Array Oper) (n : Nat) : Bool := (List.range ops.size).all fun i => i < n || (List.range n).all fun k => waitsFor ops 8 i k
/-- What is listed waits for nothing that is not. -/
def Closed (ops : Array Oper) (listed : Array Bool) : Prop := ∀ j o, ops[j]? = some o → listed.getD j true = true → ∀ e ∈ o.after.toList, Region.binds .any e = true → listed.getD e.on true = true
theorem waitsFor_listed {ops : Array Oper} {listed : Array Bool} (hcl : Closed ops listed) {k : Nat} : ∀ (f i : Nat), (∀ o, ops[i]? = some o → ∀ e ∈ o.after.toList, Region.binds .any e = true → listed.getD e.on true = true) → waitsFor ops f i k = true → listed.getD k true = true := by
  intro f
  induction f with
  | zero => intro i _ h; cases h
  | succ f ih =>
    intro i hi h
    rw [waitsFor] at h
    split at h
    · rename_i o ho
      obtain ⟨e, he, h1⟩ := List.any_eq_true.1 h
      rw [Bool.and_eq_true, Bool.or_eq_true, beq_iff_eq] at h1
      have hl := hi o ho e he h1.1
      rcases h1.2 with h2 | h2
      · rw [← h2]; exact hl
      · exact ih e.on (fun o' ho' e' he' hb' => hcl e.on o' ho' hl e' he' hb') h2
    · cases h
/-- The first n are listed. -/
def mask (n m : Nat) : Array Bool := ((List.range m).map fun i => decide (i < n)).toArray
theorem mask_eq {listed : Array Bool} {n m : Nat} (hz : listed.size = m) (h1 : ∀ i, i < n → i < m → listed.getD i true = true) (h2 : ∀ i, i < m → listed.getD i true = true → i < n) : listed = mask n m := by
  refine Array.ext (by simp [mask, hz]) fun i hi hi' => ?_
  have him : i < m := by omega
  simp only [mask, List.getElem_toArray, List.getElem_map, List.getElem_range]
  by_cases hin : i < n
  · rw [decide_eq_true hin]
    have := h1 i hin him
    simpa [Array.getD, hi] using this
  · rw [decide_eq_false hin]
    cases hl : listed[i] with
    | false => rfl
    | true => exact absurd (h2 i him (by simp [Array.getD, hi, hl])) hin

/-- The blocks that were made are told apart. -/
def Apart (ops : Array Oper) (mk : Nat → Bool) (listed : Array Bool) (a : Act) (w : World) : Prop :=
  ∀ i o, ops[i]? = some o → listed.getD i true = true → mk i = true → pb (slotV o a) < w.heap.size ∧ ∀ j o', ops[j]? = some o' → listed.getD j true = true → mk j = true → i ≠ j → pb (slotV o a) ≠ pb (slotV o' a)

theorem wpAny_pre {P : Program} {ops : Array Oper} {n : Nat} {Q : Exit → Act → World → Prop} {a0 : Act} {G : World → Prop} {R : World → World → Prop} {F : Nat → Value → World → Prop} {mk : Nat → Bool} {c : Nat}
    (hc : c = ops.size - ((mask n ops.size).toList.filter id).length)
    (hn : slotsApart ops.toList = true) (hd : edgesDown 0 ops.toList = true) (hin : ∀ d ∈ dsts ops.toList, d < a0.tmps.size) (htail : tailWaits ops n = true) (hmk : ∀ i o, ops[i]? = some o → mk i = true → o.dst.isSome = true)
    (hstab : ∀ i v w w', R w w' → F i v w → F i v w') (hsz : ∀ w w', R w w' → w.heap.size ≤ w'.heap.size)
    (hstep : StepsJ P ops n Q a0 G R F mk 0 (ops.toList.take n))
    (hend : ∀ f a w, Agree (ops.toList.take n) a0 a → G w → (∀ i o, ops[i]? = some o → i < n → F i (slotV o a) w) → Apart ops mk (mask n ops.size) a w → wpAny P .any ops Q (f + c) (mask n ops.size) a w) :
    ∀ (fuel : Nat) (listed : Array Bool) (a : Act) (w : World), listed.size = ops.size →
      ops.size - (listed.toList.filter id).length ≤ fuel → Agree (ops.toList.take n) a0 a → G w → Facts ops F listed a w → Apart ops mk listed a w → (∀ i, i < ops.size → listed.getD i true = true → i < n) → Closed ops listed → wpAny P .any ops Q fuel listed a w := by
  have whole : ∀ (fuel : Nat) (listed : Array Bool) (a : Act) (w : World), listed.size = ops.size → ops.size - (listed.toList.filter id).length ≤ fuel → Agree (ops.toList.take n) a0 a → G w → Facts ops F listed a w → Apart ops mk listed a w → (∀ i, i < ops.size → listed.getD i true = true → i < n) →
      (∀ i, i < n → i < ops.size → listed.getD i true = true) → wpAny P .any ops Q fuel listed a w := by
    intro fuel listed a w hz hfu ha hG hf hap hlt hall
    have hm := mask_eq hz hall hlt
    subst hm
    obtain ⟨f, rfl⟩ : ∃ f, fuel = f + c := ⟨fuel - c, by omega⟩
    exact hend f a w ha hG (fun i o ho hi => hf i o ho (hall i hi (Array.getElem?_eq_some_iff.1 ho).1)) hap
  intro fuel
  induction fuel with
  | zero =>
    intro listed a w hz hfu ha hG hf hap hlt _
    have hcount : (listed.toList.filter id).length = listed.toList.length := by
      have h1 := List.length_filter_le id listed.toList
      have h2 : listed.toList.length = ops.size := by simpa using hz
      omega
    have hallT : ∀ x ∈ listed.toList, x = true := by
      have := List.filter_eq_self.1 (List.filter_sublist.eq_of_length hcount)
      intro x hx
      simpa using this x hx
    refine whole 0 listed a w hz hfu ha hG hf hap hlt fun i _ hi => ?_
    have h : i < listed.size := by omega
    have := hallT listed[i] (by simp)
    simp [Array.getD, h, this]
  | succ fuel ih =>
    intro listed a w hz hfu ha hG hf hap hlt hcl
    by_cases hall : ∀ i, i < n → i < ops.size → listed.getD i true = true
    · exact whole _ listed a w hz hfu ha hG hf hap hlt hall
    have hall' : ∃ k, k < n ∧ k < ops.size ∧ listed.getD k true = false := by
      apply Classical.byContradiction
      intro hno
      apply hall
      intro i h1 h2
      cases h3 : listed.getD i true with
      | true => rfl
      | false => exact absurd ⟨i, h1, h2, h3⟩ hno
    obtain ⟨k, hkn, hko, hkf⟩ := hall'
    refine ⟨fun hr => ?_, fun i hi => ?_⟩
    · have := all_listed hd hz hr k k (Nat.le_refl _) hko
      rw [hkf] at this
      cases this
    obtain ⟨h0, o, ho, hdeps⟩ := mem_ready.1 hi
    have hilt : i < ops.size := (Array.getElem?_eq_some_iff.1 ho).1
    have hin' : i < n := by
      apply Classical.byContradiction
      intro hge
      have ht := List.all_eq_true.1 htail i (List.mem_range.2 hilt)
      simp only [Bool.or_eq_true, decide_eq_true_eq] at ht
      rcases ht with ht | ht
      · exact hge ht
      · have := waitsFor_listed hcl 8 i (fun o' ho' e he hb => by
          obtain rfl : o = o' := Option.some.inj (ho.symm.trans ho')
          have := hdeps e (by simpa using he) hb
          rcases Nat.lt_or_ge e.on listed.size with h | h
          · simp [Array.getD, h] at this ⊢; exact this
          · simp [Array.getD, Nat.not_lt.2 h]) (List.all_eq_true.1 ht k (List.mem_range.2 hkn))
        rw [hkf] at this
        cases this
    have hol : ops.toList[i]? = some o := by rw [Array.getElem?_toList]; exact ho
    have holt : (ops.toList.take n)[i]? = some o := by rw [List.getElem?_take_of_lt hin']; exact hol
    have hst := StepsJ.get _ 0 hstep i o holt
    rw [Nat.zero_add] at hst
    refine wpOp_step ho fun K hK => hst a w ha hG ?_ K ?_
    · intro e he hb o' ho'
      have := hdeps e (by simpa using he) hb
      refine hf e.on o' ho' ?_
      rcases Nat.lt_or_ge e.on listed.size with h | h
      · simp [Array.getD, h] at this ⊢; exact this
      · simp [Array.getD, Nat.not_lt.2 h]
    · intro v w' hv hG' hR hF hnew
      have hlisted : ∀ j, i ≠ j → (listed.setIfInBounds i true).getD j true = true → listed.getD j true = true := fun j hij hl => by
        rw [Array.getD_eq_getD_getElem?, Array.getElem?_setIfInBounds_ne hij, ← Array.getD_eq_getD_getElem?] at hl
        exact hl
      have hother : ∀ j o', ops[j]? = some o' → i ≠ j → slotV o' (a.put o.dst v) = slotV o' a := fun j o' ho' hij => by
        have hol' : ops.toList[j]? = some o' := by rw [Array.getElem?_toList]; exact ho'
        exact slotV_put_other (slotsApart_spec _ hn i j o o' hol hol' hij) _
      have hsame : slotV o (a.put o.dst v) = match o.dst with | some _ => v | none => undef :=
        slotV_put_same (fun d hd => by rw [ha.size]; exact hin d (List.mem_filterMap.2 ⟨o, List.mem_of_getElem? hol, hd⟩)) v
      refine hK _ _ (ih _ _ _ (by simpa using hz) ?_ (ha.put (List.mem_of_getElem? holt) v) hG' ?_ ?_ ?_ ?_)
      · have hlt : i < listed.size := by omega
        have hfalse : listed[i] = false := by simpa [Array.getD, hlt] using h0
        have : ((listed.setIfInBounds i true).toList.filter id).length = (listed.toList.filter id).length + 1 := by
          rw [Array.toList_setIfInBounds]
          have : ∀ (l : List Bool) (i : Nat) (h : i < l.length), l[i] = false → ((l.set i true).filter id).length = (l.filter id).length + 1 := by
            intro l
            induction l with
            | nil => intro i h; simp at h
            | cons b r ih =>
              intro i h hb
              cases i with
              | zero =>
                simp only [List.getElem_cons_zero] at hb
                subst hb
                simp
              | succ i =>
                simp only [List.getElem_cons_succ] at hb
                have := ih i (by simpa using h) hb
                simp only [List.set_cons_succ, List.filter_cons]
                split <;> simp [this]
          exact this _ _ (by simpa using hlt) (by simpa using hfalse)
        omega
      · intro j o' ho' hl
        by_cases hij : i = j
        · subst hij
          obtain rfl : o = o' := Option.some.inj (ho.symm.trans ho')
          rw [hsame]
          cases hd : o.dst with
          | none => rw [hv hd] at hF; exact hF
          | some d => exact hF
        · rw [hother j o' ho' hij]
          exact hstab j _ w w' hR (hf j o' ho' (hlisted j hij hl))
      · have hgrow := hsz _ _ hR
        have hval : mk i = true → slotV o (a.put o.dst v) = v := fun hm => by
          rw [hsame]
          have := hmk i o ho hm
          cases hd : o.dst with
          | none => rw [hd] at this; cases this
          | some d => rfl
        intro j o' ho' hl hm
        by_cases hij : i = j
        · subst hij
          obtain rfl : o = o' := Option.some.inj (ho.symm.trans ho')
          rw [hval hm]
          refine ⟨(hnew hm).2, fun j' o2 ho2 hl2 hm2 hne => ?_⟩
          rw [hother j' o2 ho2 hne]
          have := (hap j' o2 ho2 (hlisted j' hne hl2) hm2).1
          have := (hnew hm).1
          omega
        · rw [hother j o' ho' hij]
          have h1 := hap j o' ho' (hlisted j hij hl) hm
          refine ⟨by omega, fun j' o2 ho2 hl2 hm2 hne => ?_⟩
          by_cases hij' : i = j'
          · subst hij'
            obtain rfl : o = o2 := Option.some.inj (ho.symm.trans ho2)
            rw [hval hm2]
            have := (hnew hm2).1
            omega
          · rw [hother j' o2 ho2 hij']
            exact h1.2 j' o2 ho2 (hlisted j' hij' hl2) hm2 hne
      · intro j hj hl
        by_cases hij : i = j
        · omega
        · exact hlt j hj (hlisted j hij hl)
      · have hkeep : ∀ j, listed.getD j true = true → (listed.setIfInBounds i true).getD j true = true := fun j hl => by
          by_cases hij : i = j
          · subst hij
            rcases Nat.lt_or_ge i listed.size with h | h
            · simp [Array.getD, h]
            · simp [Array.getD, Nat.not_lt.2 h]
          · rw [Array.getD_eq_getD_getElem?, Array.getElem?_setIfInBounds_ne hij, ← Array.getD_eq_getD_getElem?]
            exact hl
        intro j o' ho' hl e he hb
        apply hkeep
        by_cases hij : i = j
        · subst hij
          obtain rfl : o = o' := Option.some.inj (ho.symm.trans ho')
          have := hdeps e (by simpa using he) hb
          rcases Nat.lt_or_ge e.on listed.size with h | h
          · simp [Array.getD, h] at this ⊢; exact this
          · simp [Array.getD, Nat.not_lt.2 h]
        · exact hcl j o' ho' (hlisted j hij hl) e he hb

/-- An operation whose run is known. -/
theorem wp_val {P : Program} {o : Oper} {a : Act} {w w' : World} {K : Act → World → Prop} {Q : Exit → Act → World → Prop} {v : Value} (h : (execOp a.eval o).run P w = .ok (.value v) w') (hk : K (a.put o.dst v) w') : o.wp P a w K Q := by
  unfold Oper.wp
  rw [h]
  exact hk

/-- A call of a Go function, by its contract. -/
theorem wp_call {P : Program} {o : Oper} {a : Act} {w : World} {K : Act → World → Prop} {Q : Exit → Act → World → Prop} {f : Nat} {args : Array Value} (h : (execOp a.eval o).run P w = .ok (.enter f args) w)
    (hc : Calls P f args w fun e w' => match e with | .returned v => K (a.put o.dst v) w' | _ => False) : o.wp P a w K Q := by
  unfold Oper.wp
  rw [h]
  refine hc.mono fun e w' he => ?_
  cases e <;> first | exact he | exact (he : False).elim

/-- A slot that holds a boolean. -/
theorem slot_bool {t : Array Value} {k : Nat} {c : Bool} (h : t.getD k undef = .bool c) : t[k]? = some (.bool c) := by
  rw [Array.getD_eq_getD_getElem?] at h
  cases hx : t[k]? with
  | none => rw [hx] at h; exact absurd h (by simp [undef])
  | some v => rw [hx] at h; simpa using h

/-- **The region's law, with a tail.** -/
theorem wp_region_pre {P : Program} {rid : Nat} {ops : Array Oper} {Q : Exit → Act → World → Prop} {a0 : Act} {w : World} (n : Nat) (c : Nat) (G : World → Prop) (R : World → World → Prop) (F : Nat → Value → World → Prop) (mk : Nat → Bool)
    (hm : P.follows .mixedOrders = true) (hc : c = ops.size - ((mask n ops.size).toList.filter id).length) (hn : slotsApart ops.toList = true) (hd : edgesDown 0 ops.toList = true) (hin : ((dsts ops.toList).all fun d => d < a0.tmps.size) = true) (htail : tailWaits ops n = true)
    (hmk : ((List.range ops.size).all fun i => !mk i || (match ops[i]? with | some o => o.dst.isSome | none => false)) = true)
    (hstab : ∀ i v w w', R w w' → F i v w → F i v w') (hsz : ∀ w w', R w w' → w.heap.size ≤ w'.heap.size)
    (hG : G w.drew) (hstep : StepsJ P ops n Q a0 G R F mk 0 (ops.toList.take n))
    (hend : ∀ (f : Nat) (T : Nat → Value) (w' : World), G w' → (∀ i o, ops[i]? = some o → i < n → F i (match o.dst with | some d => T d | none => undef) w') →
      (∀ i j o o' d d', i < n → j < n → mk i = true → mk j = true → i ≠ j → ops[i]? = some o → ops[j]? = some o' → o.dst = some d → o'.dst = some d' → pb (T d) ≠ pb (T d')) → (∀ i o d, i < n → mk i = true → ops[i]? = some o → o.dst = some d → pb (T d) < w'.heap.size) →
      wpAny P .any ops Q (f + c) (mask n ops.size) ⟨fillT T (ops.toList.take n) a0.tmps, a0.defers⟩ w') :
    (Code.region rid ops true).wp P Q a0 w := by
  refine wp_region_any hm (wpAny_pre hc hn hd (fun d h => by simpa using List.all_eq_true.1 hin d h) htail (fun i o ho h => ?_) hstab hsz hstep ?_ ops.size (Array.replicate ops.size false) a0 _ (by simp) (by omega) (Agree.refl _ _) hG ?_ ?_ ?_ ?_)
  · have := List.all_eq_true.1 hmk i (List.mem_range.2 (Array.getElem?_eq_some_iff.1 ho).1)
    rw [h, ho] at this
    simpa using this
  · intro f a w' ha hG' hf hap
    have hmask : ∀ i, i < n → i < ops.size → (mask n ops.size).getD i true = true := fun i h1 h2 => by simp [mask, Array.getD, h2, h1]
    rw [ha.fill]
    refine hend f _ w' hG' (fun i o ho hi => ?_) (fun i j o o' d d' hi hj h1 h2 hne ho ho' hd1 hd2 => ?_) (fun i o d hi h1 ho hd1 => ?_)
    · have := hf i o ho hi
      unfold slotV at this
      exact this
    · have := (hap i o ho (hmask i hi (Array.getElem?_eq_some_iff.1 ho).1) h1).2 j o' ho' (hmask j hj (Array.getElem?_eq_some_iff.1 ho').1) h2 hne
      unfold slotV at this
      rw [hd1, hd2] at this
      exact this
    · have := (hap i o ho (hmask i hi (Array.getElem?_eq_some_iff.1 ho).1) h1).1
      unfold slotV at this
      rw [hd1] at this
      exact this
  · intro i o ho hl
    exfalso
    have hlt := (Array.getElem?_eq_some_iff.1 ho).1
    rw [Array.getD_eq_getD_getElem?] at hl
    simp [hlt] at hl
  · intro i o ho hl
    exfalso
    have hlt := (Array.getElem?_eq_some_iff.1 ho).1
    rw [Array.getD_eq_getD_getElem?] at hl
    simp [hlt] at hl
  · intro i hi hl
    exfalso
    rw [Array.getD_eq_getD_getElem?] at hl
    simp [hi] at hl
  · intro i o ho hl
    exfalso
    have hlt := (Array.getElem?_eq_some_iff.1 ho).1
    rw [Array.getD_eq_getD_getElem?] at hl
    simp [hlt] at hl
end Go.Proofs.YtalphobaohffnaaDoor
