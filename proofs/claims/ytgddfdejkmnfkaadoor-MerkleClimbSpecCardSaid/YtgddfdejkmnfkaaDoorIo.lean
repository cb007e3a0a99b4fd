/- A drawn region that stores into boxes that it has read: each operation knows which stores have come. -/
import Derived.Test.YtgddfdejkmnfkaaDoorIr
namespace Go.Proofs.YtgddfdejkmnfkaaDoor
open Go.RowKit

def upd (L : Nat → Bool) (i : Nat) : Nat → Bool := fun s => if s = i then true else L s
/-- Does the operation j wait for the operation i? -/
def waitsOn (ops : Array Oper) (j i : Nat) : Bool := match ops[j]? with | some o => o.after.toList.any (fun e => Region.binds .any e && e.on == i) | none => false
/-- One operation's obligation; L: which operations have come. -/
def StepO (P : Program) (ops : Array Oper) (Q : Exit → Act → World → Prop) (a0 : Act) (G : (Nat → Bool) → World → Prop) (R : World → World → Prop) (F : Nat → Value → World → Prop) (i : Nat) (o : Oper) : Prop :=
  ∀ (L : Nat → Bool) (a : Act) (w : World), Agree ops.toList a0 a → G L w → (∀ j, waitsOn ops j i = true → L j = false) → DepsI ops F o a w →
    ∀ K : Act → World → Prop, (∀ v w', (o.dst = none → v = undef) → G (upd L i) w' → R w w' → F i v w' → K (a.put o.dst v) w') → if Region.wanted o (yielded ops a.tmps) = true then Oper.wp P o a w K Q else K (a.put o.dst undef) w
theorem stepO_any {P : Program} {ops : Array Oper} {Q : Exit → Act → World → Prop} {a0 : Act} {G : (Nat → Bool) → World → Prop} {R : World → World → Prop} {F : Nat → Value → World → Prop} {i : Nat} {o : Oper} (hd : o.dst.isSome = true)
    (h : ∀ (L : Nat → Bool) (a : Act) (w : World), Agree ops.toList a0 a → G L w → (∀ j, waitsOn ops j i = true → L j = false) → DepsI ops F o a w → ∀ K : Act → World → Prop, (∀ v w', G (upd L i) w' → R w w' → F i v w' → K (a.put o.dst v) w') →
      if Region.wanted o (yielded ops a.tmps) = true then Oper.wp P o a w K Q else K (a.put o.dst undef) w) : StepO P ops Q a0 G R F i o :=
  fun L a w hA hG hL hdep K hK => h L a w hA hG hL hdep K fun v w' h1 h2 h3 => hK v w' (fun e => by rw [e] at hd; cases hd) h1 h2 h3
theorem stepO_store {P : Program} {ops : Array Oper} {Q : Exit → Act → World → Prop} {a0 : Act} {G : (Nat → Bool) → World → Prop} {R : World → World → Prop} {F : Nat → Value → World → Prop} {i : Nat} {o : Oper} (hd : o.dst = none)
    (h : ∀ (L : Nat → Bool) (a : Act) (w : World), Agree ops.toList a0 a → G L w → (∀ j, waitsOn ops j i = true → L j = false) → DepsI ops F o a w → ∀ K : Act → World → Prop, (∀ w', G (upd L i) w' → R w w' → F i undef w' → K a w') →
      if Region.wanted o (yielded ops a.tmps) = true then Oper.wp P o a w K Q else K a w) : StepO P ops Q a0 G R F i o := by
  intro L a w hA hG hL hdep K hK
  have := h L a w hA hG hL hdep K fun w' h1 h2 h3 => by
    have := hK undef w' (fun _ => rfl) h1 h2 h3
    rw [hd] at this
    exact this
  rw [hd]
  exact this
def StepsO (P : Program) (ops : Array Oper) (Q : Exit → Act → World → Prop) (a0 : Act) (G : (Nat → Bool) → World → Prop) (R : World → World → Prop) (F : Nat → Value → World → Prop) : Nat → List Oper → Prop
  | _, [] => True
  | i, o :: r => StepO P ops Q a0 G R F i o ∧ StepsO P ops Q a0 G R F (i + 1) r
theorem StepsO.get {P : Program} {ops : Array Oper} {Q : Exit → Act → World → Prop} {a0 : Act} {G : (Nat → Bool) → World → Prop} {R : World → World → Prop} {F : Nat → Value → World → Prop} :
    ∀ (l : List Oper) (k : Nat), StepsO P ops Q a0 G R F k l → ∀ i o, l[i]? = some o → StepO P ops Q a0 G R F (k + i) o := by
  intro l
  induction l with
  | nil => intro k _ i o h; simp at h
  | cons x r ih =>
    intro k hs i o h
    cases i with
    | zero =>
      simp only [List.getElem?_cons_zero, Option.some.injEq] at h
      subst h
      exact hs.1
    | succ i =>
      have := ih (k + 1) hs.2 i o (by simpa using h)
      rwa [show k + 1 + i = k + (i + 1) by omega] at this
theorem getD_tf {l : Array Bool} {i : Nat} (h : l.getD i false = true) : l.getD i true = true := by
  rw [Array.getD_eq_getD_getElem?] at h ⊢
  rcases hx : l[i]? with _ | b
  · rw [hx] at h; cases h
  · rw [hx] at h; simpa using h

theorem wpAny_ord {P : Program} {ops : Array Oper} {Q : Exit → Act → World → Prop} {a0 : Act} {G : (Nat → Bool) → World → Prop} {R : World → World → Prop} {F : Nat → Value → World → Prop}
    (hn : slotsApart ops.toList = true) (hd : edgesDown 0 ops.toList = true) (hin : ∀ d ∈ dsts ops.toList, d < a0.tmps.size)
    (hstab : ∀ i v w w', R w w' → F i v w → F i v w')
    (hstep : StepsO P ops Q a0 G R F 0 ops.toList) (hend : ∀ L a w, (∀ i, i < ops.size → L i = true) → Agree ops.toList a0 a → G L w → (∀ i o, ops[i]? = some o → F i (slotV o a) w) → Q .normal a w) :
    ∀ (fuel : Nat) (listed : Array Bool) (a : Act) (w : World), listed.size = ops.size → Closed ops listed →
      ops.size - (listed.toList.filter id).length ≤ fuel → Agree ops.toList a0 a → G (fun i => listed.getD i false) w → Facts ops F listed a w → wpAny P .any ops Q fuel listed a w := by
  have fin : ∀ (listed : Array Bool) (a : Act) (w : World), listed.size = ops.size → Agree ops.toList a0 a → G (fun i => listed.getD i false) w → Facts ops F listed a w → Region.ready .any ops listed = [] → Q .normal a w :=
    fun listed a w hz ha hG hf hr => hend _ a w (fun i hi => by
      have h := all_listed hd hz hr i i (Nat.le_refl _) hi
      have hl : i < listed.size := by omega
      simpa [Array.getD, hl] using h) ha hG fun i o ho => hf i o ho (all_listed hd hz hr i i (Nat.le_refl _) (Array.getElem?_eq_some_iff.1 ho).1)
  intro fuel
  induction fuel with
  | zero =>
    intro listed a w hz hcl hfu ha hG hf
    have hcount : (listed.toList.filter id).length = listed.toList.length := by
      have h1 := List.length_filter_le id listed.toList
      have h2 : listed.toList.length = ops.size := by simpa using hz
      omega
    have hallT : ∀ x ∈ listed.toList, x = true := by
      have := List.filter_eq_self.1 (List.filter_sublist.eq_of_length hcount)
      intro x hx
      simpa using this x hx
    have hr : Region.ready .any ops listed = [] := by
      rw [List.eq_nil_iff_forall_not_mem]
      intro j hj
      obtain ⟨h0, -⟩ := mem_ready.1 hj
      rcases Nat.lt_or_ge j listed.size with h | h
      · have := hallT listed[j] (by simp)
        simp [Array.getD, h, this] at h0
      · simp [Array.getD, Nat.not_lt.2 h] at h0
    exact ⟨hr, fin listed a w hz ha hG hf hr⟩
  | succ fuel ih =>
    intro listed a w hz hcl hfu ha hG hf
    refine ⟨fin listed a w hz ha hG hf, fun i hi => ?_⟩
    obtain ⟨h0, o, ho, hdeps⟩ := mem_ready.1 hi
    have hilt : i < ops.size := (Array.getElem?_eq_some_iff.1 ho).1
    have hol : ops.toList[i]? = some o := by rw [Array.getElem?_toList]; exact ho
    have hlt : i < listed.size := by omega
    have hst := StepsO.get ops.toList 0 hstep i o hol
    rw [Nat.zero_add] at hst
    have hupd : upd (fun i => listed.getD i false) i = fun s => (listed.setIfInBounds i true).getD s false := by
      funext s
      unfold upd
      by_cases hs : s = i
      · subst hs
        simp [Array.getD, hlt]
      · rw [if_neg hs]
        show listed.getD s false = _
        rw [Array.getD_eq_getD_getElem?, Array.getD_eq_getD_getElem?, Array.getElem?_setIfInBounds_ne (fun e => hs e.symm)]
    have hset : ∀ j, (listed.setIfInBounds i true).getD j true = true ↔ j = i ∨ listed.getD j true = true := fun j => by
      by_cases hj : j = i
      · subst hj
        simp [Array.getD, hlt]
      · rw [Array.getD_eq_getD_getElem?, Array.getElem?_setIfInBounds_ne (fun e => hj e.symm), ← Array.getD_eq_getD_getElem?]
        exact ⟨fun h => .inr h, fun h => h.resolve_left hj⟩
    refine wpOp_step ho fun K hK => hst _ a w ha hG (fun j hj => ?_) ?_ K ?_
    · cases hb : listed.getD j false with
      | false => rfl
      | true =>
        exfalso
        have hjt := getD_tf hb
        unfold waitsOn at hj
        cases hoj : ops[j]? with
        | none => rw [hoj] at hj; cases hj
        | some oj =>
          rw [hoj] at hj
          obtain ⟨e, he, h1⟩ := List.any_eq_true.1 hj
          rw [Bool.and_eq_true, beq_iff_eq] at h1
          have := hcl j oj hoj hjt e he h1.1
          rw [h1.2, h0] at this
          cases this
    · intro e he hb o' ho'
      have := hdeps e (by simpa using he) hb
      refine hf e.on o' ho' ?_
      rcases Nat.lt_or_ge e.on listed.size with h | h
      · simp [Array.getD, h] at this ⊢; exact this
      · simp [Array.getD, Nat.not_lt.2 h]
    · intro v w' hv hG' hR hF
      rw [hupd] at hG'
      refine hK _ _ (ih _ _ _ (by simpa using hz) ?_ ?_ (ha.put (List.mem_of_getElem? hol) v) hG' ?_)
      · intro j oj hoj hj e he hb
        rw [hset] at hj ⊢
        rcases hj with rfl | hj
        · obtain rfl : o = oj := Option.some.inj (ho.symm.trans hoj)
          have := hdeps e (by simpa using he) hb
          refine .inr ?_
          rcases Nat.lt_or_ge e.on listed.size with h | h
          · simp [Array.getD, h] at this ⊢; exact this
          · simp [Array.getD, Nat.not_lt.2 h]
        · exact .inr (hcl j oj hoj hj e he hb)
      · have hfalse : listed[i] = false := by simpa [Array.getD, hlt] using h0
        have : ((listed.setIfInBounds i true).toList.filter id).length = (listed.toList.filter id).length + 1 := by
          rw [Array.toList_setIfInBounds]
          have : ∀ (l : List Bool) (i : Nat) (h : i < l.length), l[i] = false → ((l.set i true).filter id).length = (l.filter id).length + 1 := by
            intro l
            induction l with
            | nil => intro i h; simp at h
            | cons b r ih =>
              intro i h hb
              cases i with
              | zero =>
                simp only [List.getElem_cons_zero] at hb
                subst hb
                simp
              | succ i =>
                simp only [List.getElem_cons_succ] at hb
                have := ih i (by simpa using h) hb
                simp only [List.set_cons_succ, List.filter_cons]
                split <;> simp [this]
          exact this _ _ (by simpa using hlt) (by simpa using hfalse)
        omega
      · intro j o' ho' hl
        by_cases hij : i = j
        · subst hij
          obtain rfl : o = o' := Option.some.inj (ho.symm.trans ho')
          rw [slotV_put_same (fun d hd => by rw [ha.size]; exact hin d (List.mem_filterMap.2 ⟨o, List.mem_of_getElem? hol, hd⟩))]
          cases hd : o.dst with
          | none => rw [hv hd] at hF; exact hF
          | some d => exact hF
        · have hol' : ops.toList[j]? = some o' := by rw [Array.getElem?_toList]; exact ho'
          rw [slotV_put_other (slotsApart_spec _ hn i j o o' hol hol' hij)]
          refine hstab j _ w w' hR (hf j o' ho' ?_)
          exact ((hset j).1 hl).resolve_left (fun e => hij e.symm)

/-- The law in a round. -/
theorem wpIn_region_ord (l m : Nat) {P : Program} {rid : Nat} {ops : Array Oper} {Q : Exit → Act → World → Prop} {a0 : Act} {w : World} (hQ : ¬ LetsOut Q) (hnd : noDefer ops = true) (G : (Nat → Bool) → World → Prop) (R : World → World → Prop) (F : Nat → Value → World → Prop)
    (hm : P.follows .mixedOrders = true) (hn : slotsApart ops.toList = true) (hd : edgesDown 0 ops.toList = true) (hin : ((dsts ops.toList).all fun d => d < a0.tmps.size) = true)
    (hstab : ∀ i v w w', R w w' → F i v w → F i v w')
    (hG : G (fun _ => false) w.drew) (hstep : StepsO P ops Q a0 G R F 0 ops.toList)
    (hend : ∀ (L : Nat → Bool) (T : Nat → Value) (w' : World), (∀ i, i < ops.size → L i = true) → G L w' → (∀ i o, ops[i]? = some o → F i (match o.dst with | some d => T d | none => undef) w') → Q .normal ⟨fillT T ops.toList a0.tmps, a0.defers⟩ w') :
    (Code.region rid ops true).wpIn (Fence.wide.inRound l) m P Q a0 w := by
  have none0 : ∀ {i : Nat}, i < ops.size → (Array.replicate ops.size false).getD i true = true → False := fun {i} hi hl => by
    rw [Array.getD_eq_getD_getElem?] at hl
    simp [hi] at hl
  have hL0 : (fun i => (Array.replicate ops.size false).getD i false) = fun _ => false := by
    funext i
    rw [Array.getD_eq_getD_getElem?]
    rcases Nat.lt_or_ge i ops.size with h | h
    · simp [h]
    · simp [Nat.not_lt.2 h]
  refine wpIn_region_any hm (wpAny_round l m hnd hQ _ _ _ _ ?_)
  refine wpAny_ord hn hd (fun d h => by simpa using List.all_eq_true.1 hin d h) hstab hstep (fun L a w' hL ha hG' hf => ?_) ops.size (Array.replicate ops.size false) a0 _ (by simp) (fun j o ho hl => (none0 (Array.getElem?_eq_some_iff.1 ho).1 hl).elim) (by omega) (Agree.refl _ _) (by rw [hL0]; exact hG) (fun i o ho hl => (none0 (Array.getElem?_eq_some_iff.1 ho).1 hl).elim)
  rw [ha.fill]
  refine hend L _ w' hL hG' fun i o ho => ?_
  have := hf i o ho
  unfold slotV at this
  exact this
end Go.Proofs.YtgddfdejkmnfkaaDoor
