/- A region that draws its order, by an invariant: one obligation for each operation, in the place of a goal for each order. -/
import Derived.Deep.RegionHeld3
namespace Go.Proofs.YtalphobaohffnaaDoor

/-- The slots that a region writes. -/
def dsts (l : List Oper) : List Nat := l.filterMap (·.dst)
/-- The slots of a region, filled by T. -/
def fillT (T : Nat → Value) : List Oper → Array Value → Array Value
  | [], t => t
  | o :: r, t => fillT T r (match o.dst with | some d => t.setIfInBounds d (T d) | none => t)
theorem fillT_size (T : Nat → Value) (l : List Oper) : ∀ t, (fillT T l t).size = t.size := by
  induction l with
  | nil => intro t; rfl
  | cons o r ih =>
    intro t
    rw [fillT, ih]
    cases o.dst <;> simp
theorem fillT_get (T : Nat → Value) (l : List Oper) : ∀ (t : Array Value) (k : Nat), (fillT T l t)[k]? = if k ∈ dsts l ∧ k < t.size then some (T k) else t[k]? := by
  induction l with
  | nil => intro t k; simp [fillT, dsts]
  | cons o r ih =>
    intro t k
    rw [fillT, ih]
    cases hd : o.dst with
    | none => simp [dsts, hd]
    | some d =>
      simp only [Array.size_setIfInBounds]
      by_cases hk : k ∈ dsts r ∧ k < t.size
      · rw [if_pos hk, if_pos ⟨by unfold dsts; rw [List.filterMap_cons, hd]; exact List.mem_cons_of_mem _ hk.1, hk.2⟩]
      · rw [if_neg hk, Array.getElem?_setIfInBounds]
        by_cases hdk : d = k
        · subst hdk
          by_cases hs : d < t.size <;> simp [hs, dsts, hd]
        · rw [if_neg hdk, if_neg]
          rintro ⟨h1, h2⟩
          unfold dsts at h1
          rw [List.filterMap_cons, hd] at h1
          rcases List.mem_cons.1 h1 with h1 | h1
          · exact hdk h1.symm
          · exact hk ⟨h1, h2⟩

/-- What has become of the frame: only the region's slots have turned. -/
structure Agree (l : List Oper) (a0 a : Act) : Prop where
  defers : a.defers = a0.defers
  size : a.tmps.size = a0.tmps.size
  keep : ∀ t, t ∉ dsts l → a.tmps[t]? = a0.tmps[t]?
theorem Agree.refl (l : List Oper) (a : Act) : Agree l a a := ⟨rfl, rfl, fun _ _ => rfl⟩
theorem Agree.put {l : List Oper} {a0 a : Act} (h : Agree l a0 a) {o : Oper} (ho : o ∈ l) (v : Value) : Agree l a0 (a.put o.dst v) := by
  cases hd : o.dst with
  | none => exact h
  | some d =>
    refine ⟨h.defers, by simpa [Act.put] using h.size, fun t ht => ?_⟩
    have hne : d ≠ t := fun e => ht (e ▸ List.mem_filterMap.2 ⟨o, ho, hd⟩)
    simp only [Act.put]
    rw [Array.getElem?_setIfInBounds_ne hne]
    exact h.keep t ht
theorem Agree.getD {l : List Oper} {a0 a : Act} (h : Agree l a0 a) {t : Nat} (ht : (dsts l).contains t = false) : a.tmps.getD t undef = a0.tmps.getD t undef := by
  have : t ∉ dsts l := fun hm => by rw [List.contains_iff_mem.2 hm] at ht; cases ht
  rw [Array.getD_eq_getD_getElem?, Array.getD_eq_getD_getElem?, h.keep t this]
theorem Agree.fill {l : List Oper} {a0 a : Act} (h : Agree l a0 a) : a = ⟨fillT (fun d => a.tmps.getD d undef) l a0.tmps, a0.defers⟩ := by
  obtain ⟨t, d⟩ := a
  obtain ⟨h1, h2, h3⟩ := h
  simp only at h1 h2 h3
  subst h1
  congr 1
  refine Array.ext_getElem? fun k => ?_
  rw [fillT_get]
  split
  · rename_i hk
    have : k < t.size := by omega
    simp [Array.getD, this]
  · rename_i hk
    by_cases hm : k ∈ dsts l
    · have : ¬ k < a0.tmps.size := fun e => hk ⟨hm, e⟩
      rw [Array.getElem?_eq_none (by omega), Array.getElem?_eq_none (by omega)]
    · exact h3 k hm

/-- The value of an operation's slot. -/
def slotV (o : Oper) (a : Act) : Value := match o.dst with | some d => a.tmps.getD d undef | none => undef
theorem slotV_put_same {a : Act} {o : Oper} (hin : ∀ d, o.dst = some d → d < a.tmps.size) (v : Value) : slotV o (a.put o.dst v) = match o.dst with | some _ => v | none => undef := by
  unfold slotV
  cases hd : o.dst with
  | none => rfl
  | some d => have := hin d hd; simp [Act.put, Array.getD_eq_getD_getElem?, this]
theorem slotV_put_other {a : Act} {o o' : Oper} (hne : ∀ d, o.dst = some d → o'.dst ≠ some d) (v : Value) : slotV o' (a.put o.dst v) = slotV o' a := by
  unfold slotV
  cases hd : o.dst with
  | none => rfl
  | some d =>
    cases hd' : o'.dst with
    | none => rfl
    | some d' =>
      have : d ≠ d' := fun e => hne d hd (by rw [hd', e])
      simp [Act.put, Array.getD_eq_getD_getElem?, Array.getElem?_setIfInBounds_ne this]

/-- No two operations write one slot. -/
def slotsApart : List Oper → Bool
  | [] => true
  | o :: r => (match o.dst with | some d => !(dsts r).contains d | none => true) && slotsApart r
theorem slotsApart_spec : ∀ (l : List Oper), slotsApart l = true → ∀ (i j : Nat) (o o' : Oper), l[i]? = some o → l[j]? = some o' → i ≠ j → ∀ d, o.dst = some d → o'.dst ≠ some d := by
  intro l
  induction l with
  | nil => intro _ i j o o' h; simp at h
  | cons x r ih =>
    intro hs i j o o' hi hj hne d hd hd'
    rw [slotsApart, Bool.and_eq_true] at hs
    cases i with
    | zero =>
      simp only [List.getElem?_cons_zero, Option.some.injEq] at hi
      subst hi
      cases j with
      | zero => exact hne rfl
      | succ j =>
        simp only [List.getElem?_cons_succ] at hj
        have h1 := hs.1
        rw [hd] at h1
        have : d ∈ dsts r := List.mem_filterMap.2 ⟨o', List.mem_of_getElem? hj, hd'⟩
        rw [Bool.not_eq_true'] at h1
        rw [List.contains_iff_mem.2 this] at h1
        cases h1
    | succ i =>
      simp only [List.getElem?_cons_succ] at hi
      cases j with
      | zero =>
        simp only [List.getElem?_cons_zero, Option.some.injEq] at hj
        subst hj
        have h1 := hs.1
        rw [hd'] at h1
        have : d ∈ dsts r := List.mem_filterMap.2 ⟨o, List.mem_of_getElem? hi, hd⟩
        rw [Bool.not_eq_true'] at h1
        rw [List.contains_iff_mem.2 this] at h1
        cases h1
      | succ j =>
        simp only [List.getElem?_cons_succ] at hj
        exact ih hs.2 i j o o' hi hj (by omega) d hd hd'

/-- One operation's obligation: at any frame that differs in the region's slots alone, and in which what it waits for has the facts, it gives its fact. -/
def StepI (P : Program) (ops : Array Oper) (Q : Exit → Act → World → Prop) (a0 : Act) (G : World → Prop) (R : World → World → Prop) (F : Nat → Value → World → Prop) (i : Nat) (o : Oper) : Prop :=
  ∀ (a : Act) (w : World), Agree ops.toList a0 a → G w → (∀ e ∈ o.after.toList, Region.binds .any e = true → ∀ o', ops[e.on]? = some o' → F e.on (slotV o' a) w) →
    ∀ K : Act → World → Prop, Shut (∀ v w', (o.dst = none → v = undef) → G w' → R w w' → F i v w' → K (a.put o.dst v) w') → if Region.wanted o (yielded ops a.tmps) = true then Oper.wp P o a w K Q else K (a.put o.dst undef) w

/-- The facts that an operation has in hand. -/
def DepsI (ops : Array Oper) (F : Nat → Value → World → Prop) (o : Oper) (a : Act) (w : World) : Prop :=
  ∀ e ∈ o.after.toList, Region.binds .any e = true → ∀ o', ops[e.on]? = some o' → F e.on (slotV o' a) w
theorem DepsI.get {ops : Array Oper} {F : Nat → Value → World → Prop} {o : Oper} {a : Act} {w : World} (h : DepsI ops F o a w) (j d : Nat) (o' : Oper) (ho' : ops[j]? = some o') (hd : o'.dst = some d) (hj : (o.after.toList.any fun e => e.on == j && Region.binds .any e) = true) : F j (a.tmps.getD d undef) w := by
  obtain ⟨e, he, h1⟩ := List.any_eq_true.1 hj
  rw [Bool.and_eq_true, beq_iff_eq] at h1
  have := h e he h1.2 o' (by rw [h1.1]; exact ho')
  rw [h1.1] at this
  unfold slotV at this
  rw [hd] at this
  exact this
/-- An operation that only yields a value. -/
theorem stepI_val {P : Program} {ops : Array Oper} {Q : Exit → Act → World → Prop} {a0 : Act} {G : World → Prop} {R : World → World → Prop} {F : Nat → Value → World → Prop} {i : Nat} {o : Oper} (hR : ∀ w, R w w) (hg : o.guard = none) (hd : o.dst.isSome = true)
    (h : ∀ (a : Act) (w : World), Agree ops.toList a0 a → G w → DepsI ops F o a w → ∃ v, (execOp a.eval o).run P w = .ok (.value v) w ∧ F i v w) : StepI P ops Q a0 G R F i o := by
  intro a w hA hG hdep K hK
  obtain ⟨v, h1, h2⟩ := h a w hA hG hdep
  rw [if_pos (by unfold Region.wanted; rw [hg])]
  unfold Oper.wp
  rw [h1]
  exact hK v w (fun e => by rw [e] at hd; cases hd) hG (hR w) h2
/-- An operation that yields a value and leaves another world. -/
theorem stepI_make {P : Program} {ops : Array Oper} {Q : Exit → Act → World → Prop} {a0 : Act} {G : World → Prop} {R : World → World → Prop} {F : Nat → Value → World → Prop} {i : Nat} {o : Oper} (hg : o.guard = none) (hd : o.dst.isSome = true)
    (h : ∀ (a : Act) (w : World), Agree ops.toList a0 a → G w → DepsI ops F o a w → ∃ v w', (execOp a.eval o).run P w = .ok (.value v) w' ∧ G w' ∧ R w w' ∧ F i v w') : StepI P ops Q a0 G R F i o := by
  intro a w hA hG hdep K hK
  obtain ⟨v, w', h1, h2, h3, h4⟩ := h a w hA hG hdep
  rw [if_pos (by unfold Region.wanted; rw [hg])]
  unfold Oper.wp
  rw [h1]
  exact hK v w' (fun e => by rw [e] at hd; cases hd) h2 h3 h4
/-- A call of a Go function. -/
theorem stepI_call {P : Program} {ops : Array Oper} {Q : Exit → Act → World → Prop} {a0 : Act} {G : World → Prop} {R : World → World → Prop} {F : Nat → Value → World → Prop} {i : Nat} {o : Oper} (hg : o.guard = none) (hd : o.dst.isSome = true)
    (h : ∀ (a : Act) (w : World), Agree ops.toList a0 a → G w → DepsI ops F o a w → ∃ f args, (execOp a.eval o).run P w = .ok (.enter f args) w ∧
      Calls P f args w fun e w' => (∃ v, e = .returned v ∧ G w' ∧ R w w' ∧ F i v w') ∨ (∃ c, e = .panicked c ∧ Q (.panic c) a w')) : StepI P ops Q a0 G R F i o := by
  intro a w hA hG hdep K hK
  obtain ⟨f, args, h1, h2⟩ := h a w hA hG hdep
  rw [if_pos (by unfold Region.wanted; rw [hg])]
  unfold Oper.wp
  rw [h1]
  refine h2.mono fun e w' he => ?_
  rcases he with ⟨v, rfl, h3, h4, h5⟩ | ⟨c, rfl, h3⟩
  · exact hK v w' (fun e => by rw [e] at hd; cases hd) h3 h4 h5
  · exact h3
/-- An operation whose guard shuts it out. -/
theorem stepI_shut {P : Program} {ops : Array Oper} {Q : Exit → Act → World → Prop} {a0 : Act} {G : World → Prop} {R : World → World → Prop} {F : Nat → Value → World → Prop} {i : Nat} {o : Oper} (hR : ∀ w, R w w)
    (h : ∀ (a : Act) (w : World), Agree ops.toList a0 a → G w → DepsI ops F o a w → Region.wanted o (yielded ops a.tmps) = false ∧ F i undef w) : StepI P ops Q a0 G R F i o := by
  intro a w hA hG hdep K hK
  obtain ⟨h1, h2⟩ := h a w hA hG hdep
  rw [if_neg (by rw [h1]; decide)]
  exact hK undef w (fun _ => rfl) hG (hR w) h2
/-- An operation that never comes up. -/
theorem stepI_never {P : Program} {ops : Array Oper} {Q : Exit → Act → World → Prop} {a0 : Act} {G : World → Prop} {R : World → World → Prop} {F : Nat → Value → World → Prop} {i : Nat} {o : Oper}
    (h : ∀ (a : Act) (w : World), DepsI ops F o a w → False) : StepI P ops Q a0 G R F i o := fun a w _ _ hdep _ _ => (h a w hdep).elim

/-- All operations' obligations, one after the other. -/
def StepsI (P : Program) (ops : Array Oper) (Q : Exit → Act → World → Prop) (a0 : Act) (G : World → Prop) (R : World → World → Prop) (F : Nat → Value → World → Prop) : Nat → List Oper → Prop
  | _, [] => True
  | i, o :: r => StepI P ops Q a0 G R F i o ∧ StepsI P ops Q a0 G R F (i + 1) r
theorem StepsI.get {P : Program} {ops : Array Oper} {Q : Exit → Act → World → Prop} {a0 : Act} {G : World → Prop} {R : World → World → Prop} {F : Nat → Value → World → Prop} :
    ∀ (l : List Oper) (k : Nat), StepsI P ops Q a0 G R F k l → ∀ i o, l[i]? = some o → StepI P ops Q a0 G R F (k + i) o := by
  intro l
  induction l with
  | nil => intro k _ i o h; simp at h
  | cons x r ih =>
    intro k hs i o h
    cases i with
    | zero =>
      simp only [List.getElem?_cons_zero, Option.some.injEq] at h
      subst h
      exact hs.1
    | succ i =>
      have := ih (k + 1) hs.2 i o (by simpa using h)
      rwa [show k + 1 + i = k + (i + 1) by omega] at this

/-- What an operation waits for stands before it. -/
def edgesDown : Nat → List Oper → Bool
  | _, [] => true
  | i, o :: r => o.after.toList.all (fun e => !Region.binds .any e || decide (e.on < i)) && edgesDown (i + 1) r
theorem edgesDown_spec : ∀ (l : List Oper) (k : Nat), edgesDown k l = true → ∀ (i : Nat) (o : Oper), l[i]? = some o → ∀ e ∈ o.after.toList, Region.binds .any e = true → e.on < k + i := by
  intro l
  induction l with
  | nil => intro k _ i o h; simp at h
  | cons x r ih =>
    intro k hs i o h e he hb
    rw [edgesDown, Bool.and_eq_true] at hs
    cases i with
    | zero =>
      simp only [List.getElem?_cons_zero, Option.some.injEq] at h
      subst h
      have := List.all_eq_true.1 hs.1 e he
      rw [hb] at this
      simpa using this
    | succ i =>
      have := ih (k + 1) hs.2 i o (by simpa using h) e he hb
      omega
theorem all_listed {ops : Array Oper} (hd : edgesDown 0 ops.toList = true) {listed : Array Bool} (hz : listed.size = ops.size) (hr : Region.ready .any ops listed = []) :
    ∀ (n i : Nat), i ≤ n → i < ops.size → listed.getD i true = true := by
  have key : ∀ i, i < ops.size → (∀ j, j < i → listed.getD j true = true) → listed.getD i true = true := by
    intro i hi hj
    cases h0 : listed.getD i true with
    | true => rfl
    | false =>
      have ho : ops[i]? = some ops[i] := Array.getElem?_eq_getElem hi
      have : i ∈ Region.ready .any ops listed := mem_ready.2 ⟨h0, ops[i], ho, fun e he hb => by
        have hlt := edgesDown_spec _ 0 hd i ops[i] (by rw [Array.getElem?_toList]; exact ho) e (by simpa using he) hb
        rw [Nat.zero_add] at hlt
        have h1 := hj e.on hlt
        have h2 : e.on < listed.size := by omega
        simpa [Array.getD, h2] using h1⟩
      rw [hr] at this
      cases this
  intro n
  induction n with
  | zero => intro i h1 h2; exact key i h2 fun j hj => absurd hj (by omega)
  | succ n ih => intro i h1 h2; exact key i h2 fun j hj => ih j (by omega) (by omega)

/-- The facts of the operations that have come up. -/
def Facts (ops : Array Oper) (F : Nat → Value → World → Prop) (listed : Array Bool) (a : Act) (w : World) : Prop :=
  ∀ i o, ops[i]? = some o → listed.getD i true = true → F i (slotV o a) w

theorem wpAny_inv {P : Program} {ops : Array Oper} {Q : Exit → Act → World → Prop} {a0 : Act} {G : World → Prop} {R : World → World → Prop} {F : Nat → Value → World → Prop}
    (hn : slotsApart ops.toList = true) (hd : edgesDown 0 ops.toList = true) (hin : ∀ d ∈ dsts ops.toList, d < a0.tmps.size)
    (hstab : ∀ i v w w', R w w' → F i v w → F i v w')
    (hstep : StepsI P ops Q a0 G R F 0 ops.toList) (hend : ∀ a w, Agree ops.toList a0 a → G w → (∀ i o, ops[i]? = some o → F i (slotV o a) w) → Q .normal a w) :
    ∀ (fuel : Nat) (listed : Array Bool) (a : Act) (w : World), listed.size = ops.size →
      ops.size - (listed.toList.filter id).length ≤ fuel → Agree ops.toList a0 a → G w → Facts ops F listed a w → wpAny P .any ops Q fuel listed a w := by
  have fin : ∀ (listed : Array Bool) (a : Act) (w : World), listed.size = ops.size → Agree ops.toList a0 a → G w → Facts ops F listed a w → Region.ready .any ops listed = [] → Q .normal a w :=
    fun listed a w hz ha hG hf hr => hend a w ha hG fun i o ho => hf i o ho (all_listed hd hz hr i i (Nat.le_refl _) (Array.getElem?_eq_some_iff.1 ho).1)
  intro fuel
  induction fuel with
  | zero =>
    intro listed a w hz hfu ha hG hf
    have hcount : (listed.toList.filter id).length = listed.toList.length := by
      have h1 := List.length_filter_le id listed.toList
      have h2 : listed.toList.length = ops.size := by simpa using hz
      omega
    have hallT : ∀ x ∈ listed.toList, x = true := by
      have := List.filter_eq_self.1 (List.filter_sublist.eq_of_length hcount)
      intro x hx
      simpa using this x hx
    have hr : Region.ready .any ops listed = [] := by
      rw [List.eq_nil_iff_forall_not_mem]
      intro j hj
      obtain ⟨h0, -⟩ := mem_ready.1 hj
      rcases Nat.lt_or_ge j listed.size with h | h
      · have := hallT listed[j] (by simp)
        simp [Array.getD, h, this] at h0
      · simp [Array.getD, Nat.not_lt.2 h] at h0
    exact ⟨hr, fin listed a w hz ha hG hf hr⟩
  | succ fuel ih =>
    intro listed a w hz hfu ha hG hf
    refine ⟨fin listed a w hz ha hG hf, fun i hi => ?_⟩
    obtain ⟨h0, o, ho, hdeps⟩ := mem_ready.1 hi
    have hilt : i < ops.size := (Array.getElem?_eq_some_iff.1 ho).1
    have hol : ops.toList[i]? = some o := by rw [Array.getElem?_toList]; exact ho
    have hst := StepsI.get ops.toList 0 hstep i o hol
    rw [Nat.zero_add] at hst
    refine wpOp_step ho fun K hK => hst a w ha hG ?_ K ?_
    · intro e he hb o' ho'
      have := hdeps e (by simpa using he) hb
      refine hf e.on o' ho' ?_
      rcases Nat.lt_or_ge e.on listed.size with h | h
      · simp [Array.getD, h] at this ⊢; exact this
      · simp [Array.getD, Nat.not_lt.2 h]
    · intro v w' hv hG' hR hF
      refine hK _ _ (ih _ _ _ (by simpa using hz) ?_ (ha.put (List.mem_of_getElem? hol) v) hG' ?_)
      · have hlt : i < listed.size := by omega
        have hfalse : listed[i] = false := by simpa [Array.getD, hlt] using h0
        have : ((listed.setIfInBounds i true).toList.filter id).length = (listed.toList.filter id).length + 1 := by
          rw [Array.toList_setIfInBounds]
          have : ∀ (l : List Bool) (i : Nat) (h : i < l.length), l[i] = false → ((l.set i true).filter id).length = (l.filter id).length + 1 := by
            intro l
            induction l with
            | nil => intro i h; simp at h
            | cons b r ih =>
              intro i h hb
              cases i with
              | zero =>
                simp only [List.getElem_cons_zero] at hb
                subst hb
                simp
              | succ i =>
                simp only [List.getElem_cons_succ] at hb
                have := ih i (by simpa using h) hb
                simp only [List.set_cons_succ, List.filter_cons]
                split <;> simp [this]
          exact this _ _ (by simpa using hlt) (by simpa using hfalse)
        omega
      · intro j o' ho' hl
        by_cases hij : i = j
        · subst hij
          obtain rfl : o = o' := Option.some.inj (ho.symm.trans ho')
          rw [slotV_put_same (fun d hd => by rw [ha.size]; exact hin d (List.mem_filterMap.2 ⟨o, List.mem_of_getElem? hol, hd⟩))]
          cases hd : o.dst with
          | none => rw [hv hd] at hF; exact hF
          | some d => exact hF
        · have hol' : ops.toList[j]? = some o' := by rw [Array.getElem?_toList]; exact ho'
          rw [slotV_put_other (slotsApart_spec _ hn i j o o' hol hol' hij)]
          refine hstab j _ w w' hR (hf j o' ho' ?_)
          rw [Array.getD_eq_getD_getElem?, Array.getElem?_setIfInBounds_ne hij, ← Array.getD_eq_getD_getElem?] at hl
          exact hl

/-- **The region's law.** -/
theorem wp_region_inv {P : Program} {id : Nat} {ops : Array Oper} {Q : Exit → Act → World → Prop} {a0 : Act} {w : World} (G : World → Prop) (R : World → World → Prop) (F : Nat → Value → World → Prop)
    (hm : P.follows .mixedOrders = true) (hn : slotsApart ops.toList = true) (hd : edgesDown 0 ops.toList = true) (hin : ((dsts ops.toList).all fun d => d < a0.tmps.size) = true)
    (hstab : ∀ i v w w', R w w' → F i v w → F i v w')
    (hG : G w.drew) (hstep : StepsI P ops Q a0 G R F 0 ops.toList)
    (hend : ∀ (T : Nat → Value) (w' : World), G w' → (∀ i o, ops[i]? = some o → F i (match o.dst with | some d => T d | none => undef) w') → Q .normal ⟨fillT T ops.toList a0.tmps, a0.defers⟩ w') :
    (Code.region id ops true).wp P Q a0 w := by
  refine wp_region_any hm (wpAny_inv hn hd (fun d h => by simpa using List.all_eq_true.1 hin d h) hstab hstep ?_ ops.size (Array.replicate ops.size false) a0 _ (by simp) (by omega) (Agree.refl _ _) hG ?_)
  · intro a w' ha hG' hf
    rw [ha.fill]
    refine hend _ w' hG' fun i o ho => ?_
    have := hf i o ho
    unfold slotV at this
    exact this
  · intro i o ho hl
    exfalso
    have hlt := (Array.getElem?_eq_some_iff.1 ho).1
    rw [Array.getD_eq_getD_getElem?] at hl
    simp [hlt] at hl
end Go.Proofs.YtalphobaohffnaaDoor
