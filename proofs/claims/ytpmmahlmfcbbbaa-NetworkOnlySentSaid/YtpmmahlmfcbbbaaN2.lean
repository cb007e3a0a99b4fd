/- append of one link to a row of the call's own; boxes of one link stay. -/
import Derived.Test.YtpmmahlmfcbbbaaN1
import Derived.Test.YtpmmahlmfcbbbaaFs
import Derived.RangeFuncBox
namespace Go.Proofs.Ytpmmahlmfcbbbaa
open Go.RowKit Go.Shelf

theorem wpListIn_append_run {F : Fence} {n : Nat} {P : Program} (w : World) {ops : Array Oper} {rest : List Oper} {o : Oper} {a : Act} {Q : Exit → Act → World → Prop}
    (hg : o.guard = none) (s x : Operand) (t t' : TypeId) (hop : o.op = Op.call { callee := Callee.builtin Builtin.append, args := #[s, x], argTypes := #[t, t'] })
    (v u : Value) (hs : a.eval s = v) (hx : a.eval x = u) (v' : Value) (w' : World) (hr : (Builtin.append_ #[t, t'] o.type #[v, u]).run P w = .ok v' w')
    (hK : wpListIn F n P ops Q rest (a.put o.dst v') w') : wpListIn F n P ops Q (o :: rest) a w := by
  refine wpListIn_plain hg fun K hK' => ?_
  unfold Oper.wpIn
  refine ⟨by simp [Oper.about, hop, resolve, Target.leads, Sem.run_pure], ?_⟩
  rw [Oper.semAt_plain F _ _ (by rw [hop]; intro c hc'; cases hc')]
  simp [execOp, hop, resolve, invoke, builtin, hs, hx, hr, Result.andThen]
  exact hK' _ _ hK

theorem Try.infoL : (Try.prog.info? 55).map (fun i => (i.zero, i.size, i.bytes)) = some (some (.agg #[.int .i64 0, .int .i64 0]), 2, 16) := by kernel_rfl
/-- Links as cells. -/
def LV : List (Int × Int) → List Value
  | [] => []
  | x :: r => .int .i64 x.1 :: .int .i64 x.2 :: LV r
theorem LV_append : ∀ (l m : List (Int × Int)), LV (l ++ m) = LV l ++ LV m
  | [], _ => rfl
  | _ :: l, m => by show _ :: _ :: LV (l ++ m) = _; rw [LV_append l m]; rfl
theorem LV_len : ∀ (l : List (Int × Int)), (LV l).length = l.length * 2
  | [] => rfl
  | _ :: l => by show (LV l).length + 1 + 1 = _; rw [LV_len l, List.length_cons]; omega
theorem LV_get : ∀ (l : List (Int × Int)) (i : Nat) (h : i < l.length), (LV l)[i * 2]? = some (.int .i64 l[i].1) ∧ (LV l)[i * 2 + 1]? = some (.int .i64 l[i].2)
  | x :: l, 0, _ => ⟨rfl, rfl⟩
  | x :: l, i + 1, h => by
    have := LV_get l i (by simpa using h)
    rw [show (i + 1) * 2 = i * 2 + 1 + 1 by omega]
    exact this
theorem lk_own {w : World} {B g : Nat} {a b : Value} (h : w.heap[g]? = some (.cells #[a, b] 55 (0, 0))) (hB : B ≤ g) : w.ownsRow B 55 2 (.slice (some ⟨g, 0, none⟩) 1 1) 1 [a, b] :=
  ⟨by simp, .inr ⟨g, 1, _, rfl, hB, h, Nat.le_refl _, by unfold maxLen; omega, by simp, by simp⟩⟩
theorem own_lk {w : World} {B g : Nat} {a b : Value} (h : w.ownsRow B 55 2 (.slice (some ⟨g, 0, none⟩) 1 1) 1 [a, b]) : w.heap[g]? = some (.cells #[a, b] 55 (0, 0)) := by
  rcases h.2 with ⟨h0, -⟩ | ⟨g', cap, cur, e, -, hg, -, -, hs, ht⟩
  · cases h0
  · injection e with e1 _ e3
    injection e1 with e1
    injection e1 with e1
    subst e1 e3
    have : cur = #[a, b] := by
      apply Array.toList_inj.1
      rw [List.take_of_length_le (by rw [Array.length_toList, hs]; omega)] at ht
      rw [ht]
    rw [hg, this]
theorem append_link (W : World) (n0 : Nat) (ty : TypeId) (v : Value) (n : Nat) (xs : List Value) (hown : W.ownsRow n0 55 2 v n xs) (hnil : n = 0 → v = .slice none 0 0) (g : Nat) (x : Int × Int) (hg : W.heap[g]? = some (.cells #[.int .i64 x.1, .int .i64 x.2] 55 (0, 0))) (hn : n ≤ 5000) (hB : n0 ≤ W.heap.size) :
    ∃ v' W', (Builtin.append_ #[23, 23] ty #[v, .slice (some ⟨g, 0, none⟩) 1 1]).run Try.prog W = .ok v' W' ∧ W'.ownsRow n0 55 2 v' (n + 1) (xs ++ [.int .i64 x.1, .int .i64 x.2]) ∧ W.grownBy W' v.ownBlock ∧ Below n0 W W' ∧
      (∀ (B : Nat) (a b : Value), n0 ≤ B → W.heap[B]? = some (.cells #[a, b] 55 (0, 0)) → W'.heap[B]? = some (.cells #[a, b] 55 (0, 0))) ∧ (∀ (B : Nat) (cs : Array Value) (T : TypeId), T ≠ 55 → W.heap[B]? = some (.cells cs T (0, 0)) → W'.heap[B]? = some (.cells cs T (0, 0))) := by
  obtain ⟨i0, hi0, hz0, hz1, hz2⟩ := info_parts Try.infoL
  have hs := Src.ofRow (P := Try.prog) (size := 2) Try.underlying23 W (some ⟨g, 0, none⟩) 1 1 [.int .i64 x.1, .int .i64 x.2] rfl (by decide) (fun _ => ⟨_, rfl, fun j u hu => by rw [add_none, Nat.zero_add, cell_of_row W g j _ _ _ hg]; simpa using hu⟩) (by simp [Value.oneCell'])
  obtain ⟨v', W', hr, ho, hgr, -⟩ := run_append_src_row (P := Try.prog) W n0 23 23 ty 55 i0 _ 2 16 Try.underlying23 hi0 hz0 hz1 hz2 rfl v n xs hown (.slice (some ⟨g, 0, none⟩) 1 1) 1 _ hs (by omega) (by omega) hB
  have hbel : Below n0 W W' := (Below.refl n0 W).grown hgr hB fun k hk => (World.ownsRow.lt hown k hk).1
  refine ⟨v', W', hr, ho, hgr, hbel, ?_⟩
  by_cases h0 : n = 0
  · have hv := hnil h0
    subst hv
    have hall : ∀ B, B < W.heap.size → W'.heap[B]? = W.heap[B]? := fun B hlt => hgr.block B hlt (by simp [Value.ownBlock])
    exact ⟨fun B a b _ h => (hall B (Array.getElem?_eq_some_iff.1 h).1).trans h, fun B cs T _ h => (hall B (Array.getElem?_eq_some_iff.1 h).1).trans h⟩
  · obtain ⟨v2, W2, hr2, -, hsp⟩ := run_append_spare (P := Try.prog) W n0 23 23 ty 55 i0 _ Try.underlying23 hi0 hz0 2 16 hz1 hz2 (by decide) rfl v n xs hown (.slice (some ⟨g, 0, none⟩) 1 1) 1 _ hs (by omega) hB
    rw [hr] at hr2
    injection hr2 with e1 e2
    subst e1 e2
    exact ⟨fun B a b hle h => own_lk (hsp.few 1 [a, b] (.slice (some ⟨B, 0, none⟩) 1 1) (by omega) (lk_own h hle)), fun B cs T hT h => hsp.other B cs T (0, 0) h hT⟩
end Go.Proofs.Ytpmmahlmfcbbbaa
