/- The iterator over the pending writes, from the last one on. -/
import Derived.RangeFuncNested
import Derived.RangeFuncBound
import Derived.RangeFuncCalls
import Derived.RangeFuncLeaves
import Derived.Shelf.Abstract
import Derived.Shelf.RegionOpen
import Derived.WalkKit
import Derived.OwnWalkIn
import Derived.TacticsInMore
import Derived.LoopNIn
import Derived.LoopIn
import Derived.Test.YtalkbccofiiojaaCk
namespace Go.Proofs.Ytalkbccofiiojaa
open Go.RowKit Go.Shelf
attribute [local go_sem] Oper.semAt_some

/-- The indices, the last one first. -/
def downs (n : Nat) : List (Fin n) := (List.finRange n).reverse
theorem downs_length (n : Nat) : (downs n).length = n := by simp [downs]
theorem downs_get (n k : Nat) (h : k < n) : (downs n)[k]'(by rw [downs_length]; exact h) = ⟨n - 1 - k, by omega⟩ := by
  apply Fin.ext
  simp [downs]
theorem downs_take (n k : Nat) (h : k < n) : (downs n).take (k + 1) = (downs n).take k ++ [⟨n - 1 - k, by omega⟩] := by
  rw [List.take_succ_eq_append_getElem (by rw [downs_length]; exact h), downs_get n k h]

/-- A write as it lies: the values that its cells hold. -/
def wrV (ps : List Wr) (Ad : Fin ps.length → Option Addr) (Cp : Fin ps.length → Nat) (k : Fin ps.length) : Array Value :=
  #[.agg #[.int .i64 ps[k].pl, .slice (Ad k) ps[k].data.length (Cp k)]]
/-- The writes lie at an address. -/
structure Lies (w : World) (B b off : Nat) (ps : List Wr) (Ad : Fin ps.length → Option Addr) (Cp : Fin ps.length → Nat) : Prop where
  at_ : ∀ (i : Nat) (h : i < ps.length), w.cell? ⟨b, off + i * 2, none⟩ = some (.int .i64 ps[i].pl) ∧ w.cell? ⟨b, off + i * 2 + 1, none⟩ = some (.slice (Ad ⟨i, h⟩) ps[i].data.length (Cp ⟨i, h⟩))
  row : ∀ (i : Nat) (h : i < ps.length), ps[i].data.length ≤ Cp ⟨i, h⟩ ∧ Cp ⟨i, h⟩ ≤ maxLen ∧ RBs w (· < B) (Ad ⟨i, h⟩) ps[i].data ∧ I64 ps[i].pl
theorem Lies.keep {w w' : World} {B b off : Nat} {ps : List Wr} {Ad : Fin ps.length → Option Addr} {Cp : Fin ps.length → Nat} (h : Lies w B b off ps Ad Cp) (hb : b < B) (hk : Below B w w') : Lies w' B b off ps Ad Cp :=
  ⟨fun i hi => ⟨(hk.cell (p := ⟨b, _, none⟩) hb).trans (h.at_ i hi).1, (hk.cell (p := ⟨b, _, none⟩) hb).trans (h.at_ i hi).2⟩,
   fun i hi => ⟨(h.row i hi).1, (h.row i hi).2.1, (h.row i hi).2.2.1.keep (Kept.below hk), (h.row i hi).2.2.2⟩⟩
theorem PR.lies {w : World} {B : Nat} {A : Option Addr} {ps : List Wr} (h : PR w (· < B) A ps) :
    ∃ b off Ad Cp, 0 < ps.length → A = some ⟨b, off, none⟩ ∧ b < B ∧ Lies w B b off ps Ad Cp := by
  by_cases hp : 0 < ps.length
  case neg => exact ⟨0, 0, fun _ => none, fun _ => 0, fun h => absurd h hp⟩
  obtain ⟨b, off, e, hs, hc⟩ := h hp
  have hx : ∀ k : Fin ps.length, ∃ y : Option Addr × Nat, w.cell? ⟨b, off + k.1 * 2, none⟩ = some (.int .i64 ps[k].pl) ∧ w.cell? ⟨b, off + k.1 * 2 + 1, none⟩ = some (.slice y.1 ps[k].data.length y.2) ∧ ps[k].data.length ≤ y.2 ∧ y.2 ≤ maxLen ∧ RBs w (· < B) y.1 ps[k].data ∧ I64 ps[k].pl := fun k => by
    obtain ⟨v, h0, h1, ⟨A1, c1, rfl, h2, h3, h4⟩, h5⟩ := hc k.1 k.2
    exact ⟨(A1, c1), h0, h1, h2, h3, h4, h5⟩
  refine ⟨b, off, fun k => (Classical.choose (hx k)).1, fun k => (Classical.choose (hx k)).2, fun _ => ⟨e, hs, ⟨fun i hi => ?_, fun i hi => ?_⟩⟩⟩
  · have := Classical.choose_spec (hx ⟨i, hi⟩)
    exact ⟨this.1, this.2.1⟩
  · have := Classical.choose_spec (hx ⟨i, hi⟩)
    exact this.2.2

/-- What a round keeps: what lay below, and the box of the list. -/
def KpB (n0 Bs : Nat) (X Y : World) : Prop := Below n0 X Y ∧ Y.heap[Bs]? = X.heap[Bs]?
theorem KpB.refl (n0 Bs : Nat) (X : World) : KpB n0 Bs X X := ⟨Below.refl _ _, rfl⟩
theorem KpB.trans {n0 Bs : Nat} {X Y Z : World} (h : KpB n0 Bs X Y) (k : KpB n0 Bs Y Z) : KpB n0 Bs X Z := ⟨h.1.trans k.1, k.2.trans h.2⟩
theorem KpB.cell {n0 Bs : Nat} {X Y : World} (h : KpB n0 Bs X Y) (o : Nat) : Y.cell? ⟨Bs, o, none⟩ = X.cell? ⟨Bs, o, none⟩ := World.cell?_of_block h.2

set_option maxRecDepth 100000 in
set_option maxHeartbeats 2000000 in
/-- The closure, for every loop body that keeps what lay below n0. -/
theorem back1_in (F : Fence) (n : Nat) (hF : F.fn 38) (hro : F.round = none) (hn : 1 ≤ n) (l Bs n0 b off cap : Nat) (ps : List Wr) (Ad : Fin ps.length → Option Addr) (Cp : Fin ps.length → Nat) (hreach : ps.length ≤ 4096) (A : Option Addr)
    (J Jx : List (Fin ps.length) → World → Prop)
    (hY : ∀ pre x W, J pre W → pre.length < ps.length → YieldAt F (n - 1) Try.prog l (wrV ps Ad Cp x) W fun e W' =>
      (e = .returned (.bool true) ∧ J (pre ++ [x]) W' ∧ KpB n0 Bs W W') ∨ (e = .returned (.bool false) ∧ Jx (pre ++ [x]) W'))
    (W : World) (hBc : W.cell? ⟨Bs, 0, none⟩ = some (.slice A ps.length cap)) (hL : 0 < ps.length → A = some ⟨b, off, none⟩ ∧ b < n0 ∧ Lies W n0 b off ps Ad Cp) (h0 : J [] W) :
    CallsIn F n Try.prog 38 #[.func (.yield l) #[] #[], .pointer (some ⟨Bs, 0, none⟩)] W fun e W' => (∃ v, e = .returned v) ∧
      ((∃ ys, ys = downs ps.length ∧ J ys W') ∨ (∃ pre, (∃ k, k ≤ ps.length ∧ pre = (downs ps.length).take k) ∧ Jx pre W')) := by
  refine callsIn_of_wp Try.func38 rfl hF ?_ hro
  simp only [Try.ntmps38, List.size_toArray, List.length_cons, List.length_nil, Nat.reduceAdd, Nat.reduceSub, Array.replicate_succ, Array.replicate_zero, List.push_toArray, List.append_toArray, List.nil_append, List.cons_append]
  have hw1 : (0 : Int) ≤ ps.length := by omega
  gi_wp2
  gi_loopw [3] (fun i wr => ∃ k : Nat, k ≤ ps.length ∧ i = .int .i64 ((ps.length : Int) - 1 - k) ∧ J ((downs ps.length).take k) wr ∧ KpB n0 Bs W wr)
    (fun i _ => (intOf i + 1).toNat)
  case atStart => exact ⟨0, Nat.zero_le _, by simp, by simpa using h0, KpB.refl _ _ _⟩
  case round =>
    obtain ⟨k, hk, rfl, hJs, hnx⟩ := hrel
    by_cases hlt : k < ps.length
    · obtain ⟨rfl, hb, hL⟩ := hL (by omega)
      obtain ⟨fn, tmps, assign, body, hy, hR⟩ := hY _ ⟨ps.length - 1 - k, by omega⟩ wr hJs (by rw [List.length_take, downs_length]; omega)
      have hLr := hL.keep hb hnx.1
      obtain ⟨hc0, hc1⟩ := hLr.at_ (ps.length - 1 - k) (by omega)
      have hbs := (hnx.cell 0).trans hBc
      have hnt : ((ps.length : Int) - 1 - k).toNat = ps.length - 1 - k := by omega
      have i0 : (0 : Int) ≤ (ps.length : Int) - 1 - k := by omega
      have i1 : (ps.length : Int) - 1 - k < ps.length := by omega
      have hd := Lib.hid (downs_take ps.length k hlt)
      have hnx' := Lib.hid hnx
      have hJs' := Lib.hid hJs
      simp only [wrV, Fin.getElem_fin] at hy
      clear hL hLr hnx hJs hY h0 hBc
      gi_wp2
      refine hR.mono ?_
      rintro e W3 (⟨rfl, hJ3, hk3⟩ | ⟨rfl, hJx3⟩)
      · gi_wp2
        go_roundw
        case rel => exact ⟨k + 1, by omega, by go_num, by rw [hd.out]; exact hJ3, hnx'.out.trans hk3⟩
        case measure => simp [intOf]; omega
      · gi_wp2
        refine bodyPost_ret (results_none rfl _ _ _) rfl ?_
        exact ⟨⟨_, rfl⟩, .inr ⟨_, ⟨k + 1, by omega, hd.out.symm⟩, hJx3⟩⟩
    · obtain rfl : k = ps.length := by omega
      gi_wp2
      go_end0
      exact ⟨⟨_, rfl⟩, .inl ⟨_, rfl, by rwa [List.take_of_length_le (by rw [downs_length]; exact Nat.le_refl _)] at hJs⟩⟩

set_option maxHeartbeats 1000000 in
theorem backward_in (F : Fence) (n : Nat) (hF : F.fn 33) (hro : F.round = none) (A : Option Addr) (len cap : Nat) (w : World) :
    CallsIn F n Try.prog 33 #[.slice A len cap] w fun e w' => e = .returned (.func (.func 38) #[] #[.pointer (some ⟨w.heap.size, 0, none⟩)]) ∧ w' = w.alloc (.cells #[.slice A len cap] 23) := by
  refine callsIn_of_wp Try.func33 rfl hF ?_ hro
  simp only [Try.ntmps33, List.size_toArray, List.length_cons, List.length_nil, Nat.reduceAdd, Nat.reduceSub, Array.replicate_succ, Array.replicate_zero, List.push_toArray, List.append_toArray, List.nil_append, List.cons_append]
  gi_wp2
  go_ret
  exact ⟨rfl, rfl⟩

theorem back_stops (F : Fence) (n : Nat) (hF : F.fn 38) (hro : F.round = none) (hn : 1 ≤ n) (Bs n0 b off cap : Nat) (ps : List Wr) (Ad : Fin ps.length → Option Addr) (Cp : Fin ps.length → Nat) (hreach : ps.length ≤ 4096) (A : Option Addr) (w : World)
    (hBs : Bs < w.heap.size) (hn0 : n0 ≤ w.heap.size) (hBc : w.cell? ⟨Bs, 0, none⟩ = some (.slice A ps.length cap)) (hL : 0 < ps.length → A = some ⟨b, off, none⟩ ∧ b < n0 ∧ Lies w n0 b off ps Ad Cp) :
    SeqStopsK F n Try.prog 38 #[.pointer (some ⟨Bs, 0, none⟩)] (wrV ps Ad Cp) (KpB n0 Bs) (fun ys => ys = downs ps.length) (fun pre => ∃ k, k ≤ ps.length ∧ pre = (downs ps.length).take k) ps.length w := fun l J Jx W hW _ _ hY h0 =>
  back1_in F n hF hro hn l Bs n0 b off cap ps Ad Cp hreach A J Jx hY W ((hW.cell (p := ⟨Bs, 0, none⟩) hBs).trans hBc) (fun hp => by
    obtain ⟨e, hb, hl⟩ := hL hp
    exact ⟨e, hb, hl.keep hb (hW.mono hn0)⟩) h0

/-! The last write to a sector. -/
theorem lastW_skip (ps : List Wr) (a : Int) (b0 : List UInt8) : ∀ k, k ≤ ps.length → (∀ i (h : i < ps.length), ps.length - k ≤ i → ps[i].pl ≠ a) → lastW ps a b0 = lastW (ps.take (ps.length - k)) a b0 := by
  intro k hk hne
  have e : lastW ps a b0 = lastW (ps.take (ps.length - k) ++ ps.drop (ps.length - k)) a b0 := by rw [List.take_append_drop]
  rw [e]
  have : ∀ (r : List Wr) (x : List UInt8), (∀ y ∈ r, y.pl ≠ a) → lastW r a x = x := by
    intro r
    induction r with
    | nil => intro x _; rfl
    | cons y r ih =>
      intro x hr
      show lastW r a (if y.pl = a then y.data else x) = x
      rw [if_neg (hr y (by simp))]
      exact ih x fun z hz => hr z (by simp [hz])
  unfold lastW
  rw [List.foldl_append]
  refine this _ _ fun y hy => ?_
  obtain ⟨i, hi, rfl⟩ := List.getElem_of_mem hy
  rw [List.getElem_drop]
  rw [List.length_drop] at hi
  exact hne _ (by omega) (by omega)
theorem lastW_hit (ps : List Wr) (a : Int) (b0 : List UInt8) (i : Nat) (h : i < ps.length) (hm : ps[i].pl = a) (hne : ∀ j (hj : j < ps.length), i < j → ps[j].pl ≠ a) : lastW ps a b0 = ps[i].data := by
  rw [lastW_skip ps a b0 (ps.length - (i + 1)) (by omega) fun j hj hle => hne j hj (by omega)]
  rw [show ps.length - (ps.length - (i + 1)) = i + 1 by omega, List.take_succ_eq_append_getElem h]
  unfold lastW
  rw [List.foldl_append]
  simp [hm]
theorem lastW_none (ps : List Wr) (a : Int) (b0 : List UInt8) (hne : ∀ j (hj : j < ps.length), ps[j].pl ≠ a) : lastW ps a b0 = b0 := by
  rw [lastW_skip ps a b0 ps.length (Nat.le_refl _) fun j hj _ => hne j hj, Nat.sub_self]
  rfl
/-- What stands ahead of the k-th index from behind. -/
theorem downs_mem (n k : Nat) (hk : k ≤ n) (j : Fin n) (h : n - k ≤ j.1) : j ∈ (downs n).take k := by
  rw [List.mem_take_iff_getElem]
  refine ⟨n - 1 - j.1, by rw [downs_length]; have := j.2; omega, ?_⟩
  rw [downs_get n _ (by have := j.2; omega)]
  apply Fin.ext
  have := j.2
  show n - 1 - (n - 1 - j.1) = j.1
  omega
theorem downs_last (n kk : Nat) (hk : kk ≤ n) (pre : List (Fin n)) (k : Fin n) (h : pre ++ [k] = (downs n).take kk) : 1 ≤ kk ∧ pre = (downs n).take (kk - 1) ∧ k.1 = n - kk := by
  cases kk with
  | zero => simp at h
  | succ m =>
    rw [downs_take n m (by omega)] at h
    have := List.append_inj' h rfl
    simp only [List.cons.injEq, and_true] at this
    refine ⟨by omega, this.1, ?_⟩
    rw [this.2]
    show n - 1 - m = n - (m + 1)
    omega
end Go.Proofs.Ytalkbccofiiojaa
