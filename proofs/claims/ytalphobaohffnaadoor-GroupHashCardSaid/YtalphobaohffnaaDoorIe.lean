/- A range over a function that has no end: the rounds leave it before the round with the number N. -/
import Derived.RangeFuncNested
import Derived.RangeFuncBound
import Derived.RangeFuncCalls
import Derived.RangeFuncLeaves
import Derived.WalkKit
import Derived.OwnWalkIn
import Derived.TacticsInMore
import Derived.LoopNIn
import Derived.LoopIn
import Derived.Lib.Hide
import Derived.Test.YtalphobaohffnaaDoorIt
namespace Go.Proofs.YtalphobaohffnaaDoor
open Go.RowKit

/-- The iterator g gives the values encs 0, encs 1, .. without an end: it is left before it has given N of them. -/
def GivesOn (F : Fence) (n : Nat) (P : Program) (g : Nat) (lb : Array Value) (encs : Nat → Array Value) (Kp : World → World → Prop) (N : Nat) (w : World) : Prop :=
  ∀ (l : Nat) (J Jx : Nat → World → Prop) (W : World), Below w.heap.size w W → AbidesFrom W.heap.size J → AbidesFrom W.heap.size Jx → (∀ W1, ¬ J N W1) →
    (∀ k W1, k < N → J k W1 → YieldAt F (n - 1) P l (encs k) W1 fun e W' => (e = .returned (.bool true) ∧ J (k + 1) W' ∧ Kp W1 W') ∨ (e = .returned (.bool false) ∧ Jx k W')) →
    J 0 W → CallsIn F n P g (#[.func (.yield l) #[] #[]] ++ lb) W fun e W' => (∃ v, e = .returned v) ∧ ∃ k, k < N ∧ Jx k W'

variable {F : Fence} {n : Nat} {P : Program} {w : World}
theorem wpIn_rangeFunc_on {g : Operand} {ps : Array Tmp} {assign body : Code} {Q : Exit → Act → World → Prop} {a : Act}
    (hro : F.round = none) (h1 : 1 ≤ n) {gf : Nat} {lb : Array Value} (hg : a.eval g = .func (.func gf) #[] lb) (hFg : F.fn gf) (eg : ∀ args w, (callFunc gf args).run P w = .ok (.enter gf args) w)
    {encs : Nat → Array Value} {Kp : World → World → Prop} {N : Nat} {w0 : World} (hseq : GivesOn F (n - 1) P gf lb encs Kp N w0)
    (hKt : ∀ {A B C : World}, Kp A B → Kp B C → Kp A C) (hKb : ∀ (W : World) (l : Nat) (o o' : Obj), w.heap.size ≤ l → W.heap[l]? = some o → o.isCells = false → o.isWalk = false → Kp W (W.putObj l o')) (hb0 : Below w0.heap.size w0 w) (hps : ∀ k, k < N → (encs k).size = ps.size)
    (I : Nat → World → Prop) (Ix : Code → Nat → World → Prop) (hI : OwnFrom w.heap.size I) (hIx : ∀ c, OwnFrom w.heap.size (Ix c)) (h0 : I 0 w) (Ax : Nat → Act → World → Prop) (hAx : ∀ k a', OwnFrom w.heap.size (fun (_ : Unit) W => Ax k a' W))
    (hassign : ∀ (l k : Nat) (W : World) (K : Act → World → Prop), k < N → I k W → (∀ a' W', KeepsFrom w.heap.size W W' → Kp W W' → I k W' → Ax k a' W' → K a' W') →
      assign.wpIn (F.inRound l) (n - 1 - 1) P (Exit.then K (fun _ _ _ => False)) { tmps := (ps.zip (encs k)).foldl (fun t (p, v) => t.setIfInBounds p v) a.tmps, defers := [] } W)
    (hbody : ∀ (l k : Nat) (a' : Act) (W : World), w.heap.size ≤ l → (∃ r, W.heap[l]? = some (.loop r)) → k < N → I k W → Ax k a' W → body.wpIn (F.inRound l) (n - 1 - 1) P (roundEnd w.heap.size Kp I Ix k W) a' W)
    (hnev : ∀ W, ¬ I N W)
    (hstop : ∀ (D : Nat) (c : Code) (k : Nat) (W : World), w.heap.size ≤ D → k < N → Ix c k W → W.heap[D]? = some (.deferred (some [])) → c.wpIn F n P Q { a with defers := { target := .collected D, args := #[] } :: a.defers } W) :
    (Code.rangeFunc g ps assign body).wpIn F n P Q a w := by
  refine wpIn_rangeFunc fun fn hfn => ?_
  rw [hro]
  let rc : LoopState → Option Code → Loop := fun st pe => { state := st, pending := pe, fn := fn, tmps := a.tmps, params := ps, assign := assign, body := body, defers := w.heap.size }
  have hrc : ∀ st pe, rc st pe = { state := st, pending := pe, fn := fn, tmps := a.tmps, params := ps, assign := assign, body := body, defers := w.heap.size } := fun _ _ => rfl
  let W1 : World := (w.alloc (.deferred (some []))).alloc (.loop (rc .ready none))
  have hs1 : W1.heap.size = w.heap.size + 2 := by simp [W1]
  have hBk : Books w.heap.size (rc .ready none) W1 := by
    refine ⟨?_, ?_⟩
    · have h := World.alloc_heap_new (w.alloc (.deferred (some []))) (.loop (rc .ready none))
      rwa [World.size_alloc] at h
    · exact (Below.heap_alloc _ _ _ (by simp)).trans (World.alloc_heap_new w _)
  have hI1 : I 0 W1 := hI.alloc _ (hI.alloc _ h0)
  have hb1 : Below w0.heap.size w0 W1 := hb0.trans ((((Below.refl _ w).alloc (Nat.le_refl _) _).alloc (by simp) _).mono hb0.size)
  have far : ∀ {A : World} {row : Option Nat}, (∀ r, row = some r → W1.heap.size ≤ r ∧ ∃ o : Obj, A.heap[r]? = some o ∧ o.isWalk = true) → ∀ r, row = some r → w.heap.size ≤ r ∧ ∃ o : Obj, A.heap[r]? = some o ∧ o.isCells = false :=
    fun hr r e => by
      obtain ⟨hB, o, ho, hw⟩ := hr r e
      exact ⟨by omega, o, ho, Obj.not_cells_of_walk hw⟩
  refine ⟨w.heap.size + 1, [{ target := .collected w.heap.size, args := #[] }], (w.alloc (.deferred (some []))).alloc (.loop (rc .ready none)), { target := .fn (.func gf) lb, args := #[.func (.yield (w.heap.size + 1)) #[] #[]] }, (w.alloc (.deferred (some []))).alloc (.loop (rc .ready none)), gf,
    #[.func (.yield (w.heap.size + 1)) #[] #[]] ++ lb, (w.alloc (.deferred (some []))).alloc (.loop (rc .ready none)), run_enterLoop_outer _ _ _ _ _, ?_, ?_, ?_, fun _ => h1, ?_⟩
  · simp only [resolve, hg]
    simp [go_sem]
  · intro f' hf'
    simp [Target.leads] at hf'
    subst hf'
    exact hFg
  · simp [invoke, go_sem, eg]
  · refine (hseq (w.heap.size + 1) (fun k W => I k W ∧ Books w.heap.size (rc .ready none) W) (fun k W => ∃ c, Ix c k W ∧ Books w.heap.size (rc .done (some c)) W) W1 hb1
      (fun s X Y row hs hg' hr => ⟨hI s X Y row hs.1 hg' (far hr), hs.2.walk hg' fun i e => (hr i e).2⟩)
      (fun s X Y row hs hg' hr => by
        obtain ⟨c, h2, h3⟩ := hs
        exact ⟨c, hIx c s X Y row h2 hg' (far hr), h3.walk hg' fun i e => (hr i e).2⟩) (fun W h => hnev W h.1) ?_ ⟨hI1, hBk⟩).mono ?_
    · rintro k W hk ⟨hi, hB⟩
      refine ⟨fn, _, assign, body, run_yield (args := encs k) hB.1 (hps k hk), roundIn_of_wpIn hfn (hassign _ k W _ hk hi fun a' Wa hkf hkp hia hax => ?_)⟩
      have hBa := hB.kept hkf
      have hBb := hBa.put { rc .ready none with state := .busy }
      refine ⟨_, run_beginRound hBa.1 rfl, ?_⟩
      refine wpIn_mono (hbody (w.heap.size + 1) k a' _ (by omega) ⟨_, hBb.1⟩ hk (hI.putObj _ hia (by omega) hBa.1 rfl) ((hAx k a').putObj (s := ()) _ hax (by omega) hBa.1 rfl)) ?_
      have hK1 := hKb Wa (w.heap.size + 1) _ (.loop { rc .ready none with state := .busy }) (by omega) hBa.1 rfl rfl
      rintro e a3 W3 hp
      cases e with
      | normal =>
        obtain ⟨k1, k2, k3⟩ := hp
        have h3 := hBb.kept k1
        exact ⟨_, _, run_endRound none h3.1, .inl ⟨rfl, ⟨hI.putObj _ k3 (by omega) h3.1 rfl, h3.put _⟩, hKt hkp (hKt (hKt hK1 k2) (hKb _ _ _ _ (by omega) h3.1 rfl rfl))⟩⟩
      | ret =>
        obtain ⟨k1, k3⟩ := hp
        have h3 := hBb.kept k1
        exact ⟨_, _, run_endRound (some .ret) h3.1, .inr ⟨rfl, _, (hIx _).putObj _ k3 (by omega) h3.1 rfl, h3.put _⟩⟩
      | exit id =>
        obtain ⟨k1, k3⟩ := hp
        have h3 := hBb.kept k1
        exact ⟨_, _, run_endRound (some (.exit id)) h3.1, .inr ⟨rfl, _, (hIx _).putObj _ k3 (by omega) h3.1 rfl, h3.put _⟩⟩
      | goto t =>
        obtain ⟨k1, k3⟩ := hp
        have h3 := hBb.kept k1
        exact ⟨_, _, run_endRound (some (.goto t)) h3.1, .inr ⟨rfl, _, (hIx _).putObj _ k3 (by omega) h3.1 rfl, h3.put _⟩⟩
      | panic ch => exact hp.elim
      | outgrown => exact hp.elim
    · rintro e W2 ⟨⟨v, rfl⟩, k, hk, c, hi, hB⟩
      exact ⟨some c, _, run_endLoop hB.1 (by simp [rc]), hstop _ c k _ (Nat.le_refl _) hk ((hIx c).putObj _ hi (by omega) hB.1 rfl) (hB.put _).2⟩
end Go.Proofs.YtalphobaohffnaaDoor
