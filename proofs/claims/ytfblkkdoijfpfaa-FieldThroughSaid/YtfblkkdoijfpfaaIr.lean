/- A drawn region in the body of a range over a function: the laws of XRi and XRj, at a round's fence. -/
import Derived.Test.YtfblkkdoijfpfaaIt
import Derived.Test.YtfblkkdoijfpfaaRj
namespace Go.Proofs.Ytfblkkdoijfpfaa
open Go.RowKit

def noDefer (ops : Array Oper) : Bool := ops.toList.all fun o => match o.op with | .defer _ => false | _ => true
theorem noDefer_spec {ops : Array Oper} (h : noDefer ops = true) {i : Nat} {o : Oper} (ho : ops[i]? = some o) : ∀ c, o.op ≠ .defer c := fun c e => by
  have := List.all_eq_true.1 h o (List.mem_of_getElem? (by rw [Array.getElem?_toList]; exact ho))
  rw [e] at this
  cases this
theorem oper_round (l n : Nat) {P : Program} {o : Oper} {a : Act} {w : World} {K : Act → World → Prop} {Q : Exit → Act → World → Prop} (hnd : ∀ c, o.op ≠ .defer c) (h : Oper.wp P o a w K Q) : Oper.wpIn (Fence.wide.inRound l) n P o a w K Q := by
  refine ⟨fun f _ => trivial, ?_⟩
  unfold Oper.wp at h
  rw [show (Fence.wide.inRound l).round = some l from rfl, Oper.semAt_some l a.eval o hnd]
  generalize (execOp a.eval o).run P w = r at h ⊢
  cases r with
  | ok x w' =>
    cases x with
    | value v => exact h
    | skip => exact h
    | defer d => exact h
    | enter f args => exact ⟨(by intro hd; cases hd), CallsIn.inRound l (callsIn_wide.2 h)⟩
    | row r args =>
      refine ⟨(by intro hd; cases hd), fun c cs hroom => ?_⟩
      obtain ⟨v, w2, hr, hs⟩ := h c cs
      exact ⟨v, w2, hr, stepsIn_wide.2 hs⟩
    | _ => exact h.elim
  | halt x w' => cases x <;> exact h
theorem wpOp_round (l n : Nat) {P : Program} {ops : Array Oper} {i : Nat} {a : Act} {w : World} {K K' : Act → World → Prop} {Q : Exit → Act → World → Prop} (hnd : noDefer ops = true) (hQ : ¬ LetsOut Q) (hK : ∀ a w, K a w → K' a w) (h : wpOp P ops Q i K a w) : wpOpIn (Fence.wide.inRound l) n P ops Q i K' a w := by
  refine wpOpIn_mono hK ?_
  unfold wpOp at h
  unfold wpOpIn
  split
  · rename_i ho
    simpa only [ho] using h
  · rename_i o ho
    simp only [ho] at h
    split
    · rename_i hw
      simp only [hw, if_true] at h
      rcases h with h | ⟨-, h⟩
      · exact oper_round l n (noDefer_spec hnd ho) h
      · exact absurd h hQ
    · rename_i hw
      simp only [hw] at h
      exact ⟨fun f _ => trivial, h⟩
theorem wpAny_round (l n : Nat) {P : Program} {ops : Array Oper} {Q : Exit → Act → World → Prop} (hnd : noDefer ops = true) (hQ : ¬ LetsOut Q) : ∀ (fuel : Nat) (listed : Array Bool) (a : Act) (w : World), wpAny P .any ops Q fuel listed a w → wpAnyIn (Fence.wide.inRound l) n P .any ops Q fuel listed a w
  | 0, _, _, _, h => h
  | fuel + 1, listed, _, _, h => ⟨h.1, fun i hi => wpOp_round l n hnd hQ (fun a w => wpAny_round l n hnd hQ fuel (listed.setIfInBounds i true) a w) (h.2 i hi)⟩

/-- wp_region_pre, in a round. -/
theorem wpIn_region_pre (l m : Nat) {P : Program} {rid : Nat} {ops : Array Oper} {Q : Exit → Act → World → Prop} {a0 : Act} {w : World} (hQ : ¬ LetsOut Q) (hnd : noDefer ops = true) (n : Nat) (c : Nat) (G : World → Prop) (R : World → World → Prop) (F : Nat → Value → World → Prop) (mk : Nat → Bool)
    (hm : P.follows .mixedOrders = true) (hc : c = ops.size - ((mask n ops.size).toList.filter id).length) (hn : slotsApart ops.toList = true) (hd : edgesDown 0 ops.toList = true) (hin : ((dsts ops.toList).all fun d => d < a0.tmps.size) = true) (htail : tailWaits ops n = true)
    (hmk : ((List.range ops.size).all fun i => !mk i || (match ops[i]? with | some o => o.dst.isSome | none => false)) = true)
    (hstab : ∀ i v w w', R w w' → F i v w → F i v w') (hsz : ∀ w w', R w w' → w.heap.size ≤ w'.heap.size)
    (hG : G w.drew) (hstep : StepsJ P ops n Q a0 G R F mk 0 (ops.toList.take n))
    (hend : ∀ (f : Nat) (T : Nat → Value) (w' : World), G w' → (∀ i o, ops[i]? = some o → i < n → F i (match o.dst with | some d => T d | none => undef) w') →
      (∀ i j o o' d d', i < n → j < n → mk i = true → mk j = true → i ≠ j → ops[i]? = some o → ops[j]? = some o' → o.dst = some d → o'.dst = some d' → pb (T d) ≠ pb (T d')) → (∀ i o d, i < n → mk i = true → ops[i]? = some o → o.dst = some d → pb (T d) < w'.heap.size) →
      wpAny P .any ops Q (f + c) (mask n ops.size) ⟨fillT T (ops.toList.take n) a0.tmps, a0.defers⟩ w') :
    (Code.region rid ops true).wpIn (Fence.wide.inRound l) m P Q a0 w := by
  refine wpIn_region_any hm (wpAny_round l m hnd hQ _ _ _ _ ?_)
  have none0 : ∀ {i : Nat}, i < ops.size → (Array.replicate ops.size false).getD i true = true → False := fun {i} hi hl => by
    rw [Array.getD_eq_getD_getElem?] at hl
    simp [hi] at hl
  refine wpAny_pre hc hn hd (fun d h => by simpa using List.all_eq_true.1 hin d h) htail (fun i o ho h => ?_) hstab hsz hstep (fun f a w' ha hG' hf hap => ?_) ops.size (Array.replicate ops.size false) a0 _ (by simp) (by omega) (Agree.refl _ _) hG (fun i o ho hl => (none0 (Array.getElem?_eq_some_iff.1 ho).1 hl).elim) (fun i o ho hl => (none0 (Array.getElem?_eq_some_iff.1 ho).1 hl).elim) (fun i hi hl => (none0 hi hl).elim) (fun i o ho hl => (none0 (Array.getElem?_eq_some_iff.1 ho).1 hl).elim)
  · have := List.all_eq_true.1 hmk i (List.mem_range.2 (Array.getElem?_eq_some_iff.1 ho).1)
    rw [h, ho] at this
    simpa using this
  · have hmask : ∀ i, i < n → i < ops.size → (mask n ops.size).getD i true = true := fun i h1 h2 => by simp [mask, Array.getD, h2, h1]
    rw [ha.fill]
    refine hend f _ w' hG' (fun i o ho hi => ?_) (fun i j o o' d d' hi hj h1 h2 hne ho ho' hd1 hd2 => ?_) (fun i o d hi h1 ho hd1 => ?_)
    · have := hf i o ho hi
      unfold slotV at this
      exact this
    · have := (hap i o ho (hmask i hi (Array.getElem?_eq_some_iff.1 ho).1) h1).2 j o' ho' (hmask j hj (Array.getElem?_eq_some_iff.1 ho').1) h2 hne
      unfold slotV at this
      rw [hd1, hd2] at this
      exact this
    · have := (hap i o ho (hmask i hi (Array.getElem?_eq_some_iff.1 ho).1) h1).1
      unfold slotV at this
      rw [hd1] at this
      exact this
/-- wp_region_preA, in a round. -/
theorem wpIn_region_preA (l m : Nat) {P : Program} {rid : Nat} {ops : Array Oper} {Q : Exit → Act → World → Prop} {a0 : Act} {w : World} (hQ : ¬ LetsOut Q) (hnd : noDefer ops = true) (n : Nat) (c : Nat) (G : World → Prop) (R : World → World → Prop) (F : Nat → Act → Value → World → Prop) (mk : Nat → Bool)
    (hm : P.follows .mixedOrders = true) (hc : c = ops.size - ((mask n ops.size).toList.filter id).length) (hn : slotsApart ops.toList = true) (hd : edgesDown 0 ops.toList = true) (hin : ((dsts ops.toList).all fun d => d < a0.tmps.size) = true) (htail : tailWaits ops n = true)
    (hmk : ((List.range ops.size).all fun i => !mk i || (match ops[i]? with | some o => o.dst.isSome | none => false)) = true)
    (hstab : ∀ i v a a' w w', (∀ d ∈ supp ops i, a'.tmps.getD d undef = a.tmps.getD d undef) → R w w' → F i a v w → F i a' v w') (hsz : ∀ w w', R w w' → w.heap.size ≤ w'.heap.size)
    (hG : G w.drew) (hstep : StepsA P ops n Q a0 G R F mk 0 (ops.toList.take n))
    (hend : ∀ (f : Nat) (T : Nat → Value) (w' : World), G w' → (∀ i o, ops[i]? = some o → i < n → F i ⟨fillT T (ops.toList.take n) a0.tmps, a0.defers⟩ (match o.dst with | some d => T d | none => undef) w') →
      (∀ i j o o' d d', i < n → j < n → mk i = true → mk j = true → i ≠ j → ops[i]? = some o → ops[j]? = some o' → o.dst = some d → o'.dst = some d' → pb (T d) ≠ pb (T d')) → (∀ i o d, i < n → mk i = true → ops[i]? = some o → o.dst = some d → pb (T d) < w'.heap.size) →
      wpAny P .any ops Q (f + c) (mask n ops.size) ⟨fillT T (ops.toList.take n) a0.tmps, a0.defers⟩ w') :
    (Code.region rid ops true).wpIn (Fence.wide.inRound l) m P Q a0 w := by
  refine wpIn_region_any hm (wpAny_round l m hnd hQ _ _ _ _ ?_)
  have none0 : ∀ {i : Nat}, i < ops.size → (Array.replicate ops.size false).getD i true = true → False := fun {i} hi hl => by
    rw [Array.getD_eq_getD_getElem?] at hl
    simp [hi] at hl
  refine wpAny_preA hc hn hd (fun d h => by simpa using List.all_eq_true.1 hin d h) htail (fun i o ho h => ?_) hstab hsz hstep (fun f a w' ha hG' hf hap => ?_) ops.size (Array.replicate ops.size false) a0 _ (by simp) (by omega) (Agree.refl _ _) hG (fun i o ho hl => (none0 (Array.getElem?_eq_some_iff.1 ho).1 hl).elim) (fun i o ho hl => (none0 (Array.getElem?_eq_some_iff.1 ho).1 hl).elim) (fun i hi hl => (none0 hi hl).elim) (fun i o ho hl => (none0 (Array.getElem?_eq_some_iff.1 ho).1 hl).elim)
  · have := List.all_eq_true.1 hmk i (List.mem_range.2 (Array.getElem?_eq_some_iff.1 ho).1)
    rw [h, ho] at this
    simpa using this
  · have hmask : ∀ i, i < n → i < ops.size → (mask n ops.size).getD i true = true := fun i h1 h2 => by simp [mask, Array.getD, h2, h1]
    rw [ha.fill]
    refine hend f _ w' hG' (fun i o ho hi => ?_) (fun i j o o' d d' hi hj h1 h2 hne ho ho' hd1 hd2 => ?_) (fun i o d hi h1 ho hd1 => ?_)
    · rw [← ha.fill]
      have h2 := hf i o ho hi
      unfold slotV at h2
      exact h2
    · have := (hap i o ho (hmask i hi (Array.getElem?_eq_some_iff.1 ho).1) h1).2 j o' ho' (hmask j hj (Array.getElem?_eq_some_iff.1 ho').1) h2 hne
      unfold slotV at this
      rw [hd1, hd2] at this
      exact this
    · have := (hap i o ho (hmask i hi (Array.getElem?_eq_some_iff.1 ho).1) h1).1
      unfold slotV at this
      rw [hd1] at this
      exact this
end Go.Proofs.Ytfblkkdoijfpfaa
