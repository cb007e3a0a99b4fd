/- Bytes: bytes.Clone, conversions. -/
import Derived.Test.YtpmmahlmfcbbbaaNe
import Derived.Test.YtpmmahlmfcbbbaaAr
import Derived.Lib.AppendZerosOnto
import Derived.Lib.Walk
import Derived.Lib.SliceRun
namespace Go.Proofs.Ytpmmahlmfcbbbaa
open Go.RowKit

/-- Bytes as cells. -/
def BV (l : List UInt8) : List Value := l.map fun b => .int .u8 (b.toNat : Int)
theorem BV_length (l : List UInt8) : (BV l).length = l.length := by simp [BV]
theorem BV_append (l m : List UInt8) : BV (l ++ m) = BV l ++ BV m := by simp [BV]
theorem BV_one (l : List UInt8) : ∀ u ∈ BV l, u.oneCell' = true := by
  intro u h
  simp only [BV, List.mem_map] at h
  obtain ⟨b, -, rfl⟩ := h
  rfl
theorem BV_get (l : List UInt8) (i : Nat) (h : i < l.length) : (BV l)[i]? = some (.int .u8 (l[i].toNat : Int)) := by simp [BV, h]
theorem Try.info8 : (Try.prog.info? 5).map (fun i => (i.zero, i.size, i.bytes)) = some (some (.int .u8 0), 1, 1) := by kernel_rfl
theorem RBs.src {w : World} {S : Nat → Prop} {A : Option Addr} {bs : List UInt8} (h : RBs w S A bs) (hp : 0 < bs.length) : ∃ ad, A = some ad ∧ ∀ j v, (BV bs)[j]? = some v → w.cell? (ad.add j) = some v := by
  obtain ⟨b, off, e, -, hc⟩ := h hp
  refine ⟨_, e, fun j v hv => ?_⟩
  rw [add_none]
  have hj : j < bs.length := by
    have := (List.getElem?_eq_some_iff.1 hv).1
    rwa [BV_length] at this
  rw [BV_get bs j hj] at hv
  injection hv with hv
  rw [← hv]
  exact hc j hj
theorem RBs.take {w : World} {S : Nat → Prop} {A : Option Addr} {bs : List UInt8} (h : RBs w S A bs) (n : Nat) : RBs w S A (bs.take n) := fun hp => by
  rw [List.length_take] at hp
  obtain ⟨b, off, e, hs, hc⟩ := h (by omega)
  refine ⟨b, off, e, hs, fun j hj => ?_⟩
  rw [List.length_take] at hj
  rw [List.getElem_take]
  exact hc j (by omega)

theorem append_bytesJ (w : World) (B : Nat) (ty : TypeId) (v : Value) (n : Nat) (xs : List Value) (hown : w.ownsRow B 5 1 v n xs) (A : Option Addr) (m c : Nat) (news : List Value) (hl : news.length = m)
    (hA : 0 < news.length → ∃ ad, A = some ad ∧ ∀ j u, news[j]? = some u → w.cell? (ad.add j) = some u) (h1 : ∀ u ∈ news, u.oneCell' = true) (hlen : n + m ≤ 100000000) (hB : B ≤ w.heap.size) :
    ∃ v' w', (Builtin.append_ #[26, 26] ty #[v, .slice A m c]).run Try.prog w = .ok v' w' ∧ w'.ownsRow B 5 1 v' (n + m) (xs ++ news) ∧ Below B w w' := by
  obtain ⟨i0, hi0, hz0, hz1, hz2⟩ := info_parts Try.info8
  obtain ⟨v', w', hr, ho, hg, -⟩ := run_append_src_row (P := Try.prog) w B 26 26 ty 5 i0 _ 1 1 Try.underlying26 hi0 hz0 hz1 hz2 rfl v n xs hown (.slice A m c) m news (Src.ofRow Try.underlying26 w A m c news (by omega) (by decide) hA h1) (by omega) (by omega) hB
  exact ⟨v', w', hr, ho, (Below.refl B w).grown hg hB fun k hk => (World.ownsRow.lt hown k hk).1⟩
theorem own_emptyJ {w : World} {t : TypeId} {B g k : Nat} (h : w.heap[g]? = some (.cells #[] t (0, 0))) (hB : B ≤ g) : w.ownsRow B t k (.slice (some ⟨g, 0, none⟩) 0 0) 0 [] :=
  ⟨by simp, .inr ⟨g, 0, #[], rfl, hB, h, Nat.le_refl _, Nat.zero_le _, by simp, by simp⟩⟩
/-- A row of the call's own, as bytes. -/
theorem RBs.ofRowJ {w : World} {B : Nat} {v : Value} {l : List UInt8} (h : w.ownsRow B 5 1 v l.length (BV l)) : ∃ A c, v = .slice A l.length c ∧ l.length ≤ c ∧ c ≤ maxLen ∧ RBs w (fun g => B ≤ g ∧ g < w.heap.size) A l := by
  rcases h.2 with ⟨rfl, h0⟩ | ⟨g, cap, cur, rfl, hb, hg, hc, hm, -, ht⟩
  · exact ⟨none, 0, by rw [h0], by omega, Nat.zero_le _, fun h => absurd h (by omega)⟩
  · refine ⟨_, cap, rfl, hc, hm, fun hp => ⟨g, 0, rfl, ⟨hb, (Array.getElem?_eq_some_iff.1 hg).1⟩, fun j hj => ?_⟩⟩
    have := World.ownsRow.cells h (g := g) rfl j _ (BV_get l j hj)
    rwa [add_none] at this

set_option maxRecDepth 100000 in
set_option maxHeartbeats 2000000 in
theorem Clone_any (b : List UInt8) (hb : b.length ≤ 10000000) (w : World) (A : Option Addr) (c : Nat) (hr : RBs w (· < w.heap.size) A b) :
    Calls Try.prog 29 #[.slice A b.length c] w fun e w' => ∃ v, e = .returned v ∧ Row w' (fun g => w.heap.size ≤ g ∧ g < w'.heap.size) v b ∧ Below w.heap.size w w' := by
  cases A with
  | none =>
    have hb0 : b = [] := by
      cases b with
      | nil => rfl
      | cons x l => obtain ⟨_, _, e, -⟩ := hr (by simp); cases e
    subst hb0
    clear hr
    have hq := fun W => Lib.run_eql_slice_nil (P := Try.prog) W 26 5 none 0 c 0 0 Try.underlying26
    go_enter Try.func29, Try.ntmps29
    go_wp2_with fail
    go_ret
    exact ⟨_, rfl, ⟨none, 0, rfl, Nat.le_refl _, Nat.zero_le _, fun h => absurd h (Nat.lt_irrefl 0)⟩, Below.refl _ _⟩
  | some a =>
    obtain ⟨v1, w2, hr1, ho1, hb2⟩ := append_bytesJ (w.alloc (.cells #[] 5)) w.heap.size 26 _ 0 [] (own_emptyJ (heap_alloc_new w _) (Nat.le_refl _)) (some a) b.length c (BV b) (BV_length b) (fun h => (hr.keep (Kept.below (bnew w (.cells #[] 5)))).src (by rwa [BV_length] at h)) (BV_one b) (by omega) (by simp)
    rw [Nat.zero_add, List.nil_append] at ho1
    have hB := Lib.hid ((bnew w (.cells #[] 5)).trans hb2)
    have hr1' := Lib.hid hr1
    have ho1' := Lib.hid ho1
    clear hr1 ho1 hb2 hr
    have hq := fun W => Lib.run_eql_slice_nil (P := Try.prog) W 26 5 (some a) b.length c 0 0 Try.underlying26
    go_enter Try.func29, Try.ntmps29
    go_wp2_with (at_builtin; refine Lib.wpList_append_run _ rfl _ _ _ _ rfl _ _ rfl rfl _ _ hr1'.out ?_)
    go_ret
    obtain ⟨A1, c1, rfl, q1, q2, q3⟩ := RBs.ofRowJ ho1'.out
    exact ⟨_, rfl, ⟨A1, c1, rfl, q1, q2, q3⟩, hB.out⟩
end Go.Proofs.Ytpmmahlmfcbbbaa
