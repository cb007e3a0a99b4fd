/- A drawn region with a state that is chosen on the way: what an operation gives may speak of it; each operation knows which have come. -/
import Derived.Test.YtpmmahlmfcbbbaaRj
namespace Go.Proofs.Ytpmmahlmfcbbbaa

def updS (L : Nat → Bool) (i : Nat) : Nat → Bool := fun s => if s = i then true else L s
/-- Does the operation j wait for the operation i? -/
def waitsS (ops : Array Oper) (j i : Nat) : Bool := match ops[j]? with | some o => o.after.toList.any (fun e => Region.binds .any e && e.on == i) | none => false
/-- What has come has all come for which it waits. -/
def ClosedS (ops : Array Oper) (L : Nat → Bool) : Prop := ∀ j i, waitsS ops j i = true → L j = true → L i = true
section
variable {σ : Type} {P : Program} {ops : Array Oper} {Q : Exit → Act → World → Prop} {a0 : Act} {G : σ → (Nat → Bool) → World → Prop} {R : (Nat → Bool) → σ → World → σ → World → Prop} {F : σ → Nat → Value → World → Prop}
/-- One operation's obligation; L: which operations have come. -/
def StepS (P : Program) (ops : Array Oper) (Q : Exit → Act → World → Prop) (a0 : Act) (G : σ → (Nat → Bool) → World → Prop) (R : (Nat → Bool) → σ → World → σ → World → Prop) (F : σ → Nat → Value → World → Prop) (i : Nat) (o : Oper) : Prop :=
  ∀ (s : σ) (L : Nat → Bool) (a : Act) (w : World), Agree ops.toList a0 a → G s L w → L i = false → ClosedS ops L → (∀ e, waitsS ops i e = true → L e = true) → DepsI ops (F s) o a w →
    ∀ K : Act → World → Prop, (∀ s' v w', (o.dst = none → v = undef) → G s' (updS L i) w' → R L s w s' w' → F s' i v w' → K (a.put o.dst v) w') → if Region.wanted o (yielded ops a.tmps) = true then Oper.wp P o a w K Q else K (a.put o.dst undef) w
theorem stepS_any {i : Nat} {o : Oper} (hd : o.dst.isSome = true)
    (h : ∀ (s : σ) (L : Nat → Bool) (a : Act) (w : World), Agree ops.toList a0 a → G s L w → L i = false → ClosedS ops L → (∀ e, waitsS ops i e = true → L e = true) → DepsI ops (F s) o a w → ∀ K : Act → World → Prop, (∀ s' v w', G s' (updS L i) w' → R L s w s' w' → F s' i v w' → K (a.put o.dst v) w') →
      if Region.wanted o (yielded ops a.tmps) = true then Oper.wp P o a w K Q else K (a.put o.dst undef) w) : StepS P ops Q a0 G R F i o :=
  fun s L a w hA hG hi hL hw hdep K hK => h s L a w hA hG hi hL hw hdep K fun s' v w' h1 h2 h3 => hK s' v w' (fun e => by rw [e] at hd; cases hd) h1 h2 h3
theorem stepS_store {i : Nat} {o : Oper} (hd : o.dst = none)
    (h : ∀ (s : σ) (L : Nat → Bool) (a : Act) (w : World), Agree ops.toList a0 a → G s L w → L i = false → ClosedS ops L → (∀ e, waitsS ops i e = true → L e = true) → DepsI ops (F s) o a w → ∀ K : Act → World → Prop, (∀ s' w', G s' (updS L i) w' → R L s w s' w' → F s' i undef w' → K a w') →
      if Region.wanted o (yielded ops a.tmps) = true then Oper.wp P o a w K Q else K a w) : StepS P ops Q a0 G R F i o := by
  intro s L a w hA hG hi hL hw hdep K hK
  have := h s L a w hA hG hi hL hw hdep K fun s' w' h1 h2 h3 => by
    have := hK s' undef w' (fun _ => rfl) h1 h2 h3
    rw [hd] at this
    exact this
  rw [hd]
  exact this
def StepsS (P : Program) (ops : Array Oper) (Q : Exit → Act → World → Prop) (a0 : Act) (G : σ → (Nat → Bool) → World → Prop) (R : (Nat → Bool) → σ → World → σ → World → Prop) (F : σ → Nat → Value → World → Prop) : Nat → List Oper → Prop
  | _, [] => True
  | i, o :: r => StepS P ops Q a0 G R F i o ∧ StepsS P ops Q a0 G R F (i + 1) r
theorem StepsS.get : ∀ (l : List Oper) (k : Nat), StepsS P ops Q a0 G R F k l → ∀ i o, l[i]? = some o → StepS P ops Q a0 G R F (k + i) o := by
  intro l
  induction l with
  | nil => intro k _ i o h; simp at h
  | cons x r ih =>
    intro k hs i o h
    cases i with
    | zero =>
      simp only [List.getElem?_cons_zero, Option.some.injEq] at h
      subst h
      exact hs.1
    | succ i =>
      have := ih (k + 1) hs.2 i o (by simpa using h)
      rwa [show k + 1 + i = k + (i + 1) by omega] at this
theorem getD_tfS {l : Array Bool} {i : Nat} (h : l.getD i false = true) : l.getD i true = true := by
  rw [Array.getD_eq_getD_getElem?] at h ⊢
  rcases hx : l[i]? with _ | b
  · rw [hx] at h; cases h
  · rw [hx] at h; simpa using h
theorem getD_ft {l : Array Bool} {i : Nat} (hi : i < l.size) : l.getD i true = l.getD i false := by
  simp [Array.getD, hi]
theorem wpAny_st
    (hn : slotsApart ops.toList = true) (hd : edgesDown 0 ops.toList = true) (hin : ∀ d ∈ dsts ops.toList, d < a0.tmps.size)
    (hstab : ∀ L i v s w s' w', L i = true → ClosedS ops L → R L s w s' w' → F s i v w → F s' i v w')
    (hstep : StepsS P ops Q a0 G R F 0 ops.toList) (hend : ∀ s L a w, (∀ i, i < ops.size → L i = true) → Agree ops.toList a0 a → G s L w → (∀ i o, ops[i]? = some o → F s i (slotV o a) w) → Q .normal a w) :
    ∀ (fuel : Nat) (s : σ) (listed : Array Bool) (a : Act) (w : World), listed.size = ops.size → Closed ops listed →
      ops.size - (listed.toList.filter id).length ≤ fuel → Agree ops.toList a0 a → G s (fun i => listed.getD i false) w → Facts ops (F s) listed a w → wpAny P .any ops Q fuel listed a w := by
  have fin : ∀ (s : σ) (listed : Array Bool) (a : Act) (w : World), listed.size = ops.size → Agree ops.toList a0 a → G s (fun i => listed.getD i false) w → Facts ops (F s) listed a w → Region.ready .any ops listed = [] → Q .normal a w :=
    fun s listed a w hz ha hG hf hr => hend s _ a w (fun i hi => by
      have h := all_listed hd hz hr i i (Nat.le_refl _) hi
      have hl : i < listed.size := by omega
      simpa [Array.getD, hl] using h) ha hG fun i o ho => hf i o ho (all_listed hd hz hr i i (Nat.le_refl _) (Array.getElem?_eq_some_iff.1 ho).1)
  intro fuel
  induction fuel with
  | zero =>
    intro s listed a w hz hcl hfu ha hG hf
    have hcount : (listed.toList.filter id).length = listed.toList.length := by
      have h1 := List.length_filter_le id listed.toList
      have h2 : listed.toList.length = ops.size := by simpa using hz
      omega
    have hallT : ∀ x ∈ listed.toList, x = true := by
      have := List.filter_eq_self.1 (List.filter_sublist.eq_of_length hcount)
      intro x hx
      simpa using this x hx
    have hr : Region.ready .any ops listed = [] := by
      rw [List.eq_nil_iff_forall_not_mem]
      intro j hj
      obtain ⟨h0, -⟩ := mem_ready.1 hj
      rcases Nat.lt_or_ge j listed.size with h | h
      · have := hallT listed[j] (by simp)
        simp [Array.getD, h, this] at h0
      · simp [Array.getD, Nat.not_lt.2 h] at h0
    exact ⟨hr, fin s listed a w hz ha hG hf hr⟩
  | succ fuel ih =>
    intro s listed a w hz hcl hfu ha hG hf
    refine ⟨fin s listed a w hz ha hG hf, fun i hi => ?_⟩
    obtain ⟨h0, o, ho, hdeps⟩ := mem_ready.1 hi
    have hilt : i < ops.size := (Array.getElem?_eq_some_iff.1 ho).1
    have hol : ops.toList[i]? = some o := by rw [Array.getElem?_toList]; exact ho
    have hlt : i < listed.size := by omega
    have hst := StepsS.get ops.toList 0 hstep i o hol
    rw [Nat.zero_add] at hst
    have hupd : updS (fun i => listed.getD i false) i = fun s => (listed.setIfInBounds i true).getD s false := by
      funext s
      unfold updS
      by_cases hs : s = i
      · subst hs
        simp [Array.getD, hlt]
      · rw [if_neg hs]
        show listed.getD s false = _
        rw [Array.getD_eq_getD_getElem?, Array.getD_eq_getD_getElem?, Array.getElem?_setIfInBounds_ne (fun e => hs e.symm)]
    have hset : ∀ j, (listed.setIfInBounds i true).getD j true = true ↔ j = i ∨ listed.getD j true = true := fun j => by
      by_cases hj : j = i
      · subst hj
        simp [Array.getD, hlt]
      · rw [Array.getD_eq_getD_getElem?, Array.getElem?_setIfInBounds_ne (fun e => hj e.symm), ← Array.getD_eq_getD_getElem?]
        exact ⟨fun h => .inr h, fun h => h.resolve_left hj⟩
    have hclS : ClosedS ops fun i => listed.getD i false := fun j e hw hj => by
      have hjt := getD_tfS hj
      unfold waitsS at hw
      cases hoj : ops[j]? with
      | none => rw [hoj] at hw; cases hw
      | some oj =>
        rw [hoj] at hw
        obtain ⟨x, hx, h1⟩ := List.any_eq_true.1 hw
        rw [Bool.and_eq_true, beq_iff_eq] at h1
        have := hcl j oj hoj hjt x hx h1.1
        rw [h1.2] at this
        rcases Nat.lt_or_ge e listed.size with h | h
        · exact (getD_ft h).symm.trans this
        · exfalso
          have := edgesDown_spec ops.toList 0 hd j oj (by rw [Array.getElem?_toList]; exact hoj) x hx h1.1
          have hjl := (Array.getElem?_eq_some_iff.1 hoj).1
          omega
    refine wpOp_step ho fun K hK => hst s _ a w ha hG (by simpa [Array.getD, hlt] using h0) hclS (fun e hw => ?_) ?_ K ?_
    · unfold waitsS at hw
      rw [ho] at hw
      obtain ⟨x, hx, h1⟩ := List.any_eq_true.1 hw
      rw [Bool.and_eq_true, beq_iff_eq] at h1
      have := hdeps x (by simpa using hx) h1.1
      rw [h1.2] at this
      show listed.getD e false = true
      rcases Nat.lt_or_ge e listed.size with h | h
      · simp [Array.getD, h] at this ⊢; exact this
      · exfalso
        have := edgesDown_spec ops.toList 0 hd i o hol x hx h1.1
        omega
    · intro e he hb o' ho'
      have := hdeps e (by simpa using he) hb
      refine hf e.on o' ho' ?_
      rcases Nat.lt_or_ge e.on listed.size with h | h
      · simp [Array.getD, h] at this ⊢; exact this
      · simp [Array.getD, Nat.not_lt.2 h]
    · intro s' v w' hv hG' hR hF
      rw [hupd] at hG'
      refine hK _ _ (ih s' _ _ _ (by simpa using hz) ?_ ?_ (ha.put (List.mem_of_getElem? hol) v) hG' ?_)
      · intro j oj hoj hj e he hb
        rw [hset] at hj ⊢
        rcases hj with rfl | hj
        · obtain rfl : o = oj := Option.some.inj (ho.symm.trans hoj)
          have := hdeps e (by simpa using he) hb
          refine .inr ?_
          rcases Nat.lt_or_ge e.on listed.size with h | h
          · simp [Array.getD, h] at this ⊢; exact this
          · simp [Array.getD, Nat.not_lt.2 h]
        · exact .inr (hcl j oj hoj hj e he hb)
      · have hfalse : listed[i] = false := by simpa [Array.getD, hlt] using h0
        have : ((listed.setIfInBounds i true).toList.filter id).length = (listed.toList.filter id).length + 1 := by
          rw [Array.toList_setIfInBounds]
          have : ∀ (l : List Bool) (i : Nat) (h : i < l.length), l[i] = false → ((l.set i true).filter id).length = (l.filter id).length + 1 := by
            intro l
            induction l with
            | nil => intro i h; simp at h
            | cons b r ih =>
              intro i h hb
              cases i with
              | zero =>
                simp only [List.getElem_cons_zero] at hb
                subst hb
                simp
              | succ i =>
                simp only [List.getElem_cons_succ] at hb
                have := ih i (by simpa using h) hb
                simp only [List.set_cons_succ, List.filter_cons]
                split <;> simp [this]
          exact this _ _ (by simpa using hlt) (by simpa using hfalse)
        omega
      · intro j o' ho' hl
        by_cases hij : i = j
        · subst hij
          obtain rfl : o = o' := Option.some.inj (ho.symm.trans ho')
          rw [slotV_put_same (fun d hd => by rw [ha.size]; exact hin d (List.mem_filterMap.2 ⟨o, List.mem_of_getElem? hol, hd⟩))]
          cases hd : o.dst with
          | none => rw [hv hd] at hF; exact hF
          | some d => exact hF
        · have hol' : ops.toList[j]? = some o' := by rw [Array.getElem?_toList]; exact ho'
          rw [slotV_put_other (slotsApart_spec _ hn i j o o' hol hol' hij)]
          have hjl := ((hset j).1 hl).resolve_left (fun e => hij e.symm)
          have hjz : j < listed.size := by rw [hz]; exact (Array.getElem?_eq_some_iff.1 ho').1
          exact hstab _ j _ s w s' w' ((getD_ft hjz).symm.trans hjl) hclS hR (hf j o' ho' hjl)


/-- The law. -/
theorem wp_region_st {rid : Nat} {w : World} (s0 : σ) (G : σ → (Nat → Bool) → World → Prop) (R : (Nat → Bool) → σ → World → σ → World → Prop) (F : σ → Nat → Value → World → Prop)
    (hm : P.follows .mixedOrders = true) (hn : slotsApart ops.toList = true) (hd : edgesDown 0 ops.toList = true) (hin : ((dsts ops.toList).all fun d => d < a0.tmps.size) = true)
    (hstab : ∀ L i v s w s' w', L i = true → ClosedS ops L → R L s w s' w' → F s i v w → F s' i v w')
    (hG : G s0 (fun _ => false) w.drew) (hstep : StepsS P ops Q a0 G R F 0 ops.toList)
    (hend : ∀ (s : σ) (L : Nat → Bool) (T : Nat → Value) (w' : World), (∀ i, i < ops.size → L i = true) → G s L w' → (∀ i o, ops[i]? = some o → F s i (match o.dst with | some d => T d | none => undef) w') → Q .normal ⟨fillT T ops.toList a0.tmps, a0.defers⟩ w') :
    (Code.region rid ops true).wp P Q a0 w := by
  have none0 : ∀ {i : Nat}, i < ops.size → (Array.replicate ops.size false).getD i true = true → False := fun {i} hi hl => by
    rw [Array.getD_eq_getD_getElem?] at hl
    simp [hi] at hl
  have hL0 : (fun i => (Array.replicate ops.size false).getD i false) = fun _ => false := by
    funext i
    rw [Array.getD_eq_getD_getElem?]
    rcases Nat.lt_or_ge i ops.size with h | h
    · simp [h]
    · simp [Nat.not_lt.2 h]
  refine wp_region_any hm ?_
  refine wpAny_st hn hd (fun d h => by simpa using List.all_eq_true.1 hin d h) hstab hstep (fun s L a w' hL ha hG' hf => ?_) ops.size s0 (Array.replicate ops.size false) a0 _ (by simp) (fun j o ho hl => (none0 (Array.getElem?_eq_some_iff.1 ho).1 hl).elim) (by omega) (Agree.refl _ _) (by rw [hL0]; exact hG) (fun i o ho hl => (none0 (Array.getElem?_eq_some_iff.1 ho).1 hl).elim)
  rw [ha.fill]
  refine hend s L _ w' hL hG' fun i o ho => ?_
  have := hf i o ho
  unfold slotV at this
  exact this
end
end Go.Proofs.Ytpmmahlmfcbbbaa
