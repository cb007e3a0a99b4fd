/- others: the points but one. -/
import Derived.Test.YtfblkkdoijfpfaaFe
namespace Go.Proofs.Ytfblkkdoijfpfaa
open Go.RowKit Go.Shelf

theorem others_any (a : Option Addr) (n cap : Nat) (i : Int) (w : World) : Calls Try.prog 26 #[.slice a n cap, .int .i64 i] w fun e w' => e = .returned (.func (.func 29) #[] #[.pointer (some ⟨w.heap.size, 0, none⟩), .pointer (some ⟨w.heap.size + 1, 0, none⟩)]) ∧
    w' = (w.alloc (.cells #[.slice a n cap] 31)).alloc (.cells #[.int .i64 i] 3) := by
  go_enter Try.func26, Try.ntmps26
  go_wp2_with fail
  go_ret
  exact ⟨rfl, rfl⟩

/-- The place of the k-th of the others. -/
def oth (i k : Nat) : Nat := if k < i then k else k + 1
def cnt (i j : Nat) : Nat := if j ≤ i then j else j - 1
theorem oth_cnt {i j : Nat} (h : j ≠ i) : oth i (cnt i j) = j := by unfold oth cnt; split <;> split <;> omega
theorem cnt_skip (i : Nat) : cnt i (i + 1) = cnt i i := by unfold cnt; rw [if_neg (by omega), if_pos (Nat.le_refl _)]; omega
theorem cnt_next {i j : Nat} (h : j ≠ i) : cnt i (j + 1) = cnt i j + 1 := by unfold cnt; split <;> split <;> omega
theorem cnt_lt {i j n : Nat} (h : j ≠ i) (hj : j < n) (hi : i < n) : cnt i j < n - 1 := by unfold cnt; split <;> omega
theorem cnt_all {i n : Nat} (hi : i < n) : cnt i n = n - 1 := by unfold cnt; rw [if_neg (by omega)]
def othV (l : List (Int × Int)) (i k : Nat) : Array Value := #[.agg #[.int .i64 (l.getD (oth i k) (0, 0)).1, .int .i64 (l.getD (oth i k) (0, 0)).2]]

set_option maxRecDepth 100000 in
set_option maxHeartbeats 2000000 in
theorem others_gives (F : Fence) (q : Nat) (hf : F.fn 29) (hro : F.round = none) (hq : 1 ≤ q) (Bl Bi : Nat) (l : List (Int × Int)) (i : Nat) (hi : i < l.length) (hm : l.length ≤ 1000000) (a : Option Addr) (cap : Nat) (w : World) (E : Nat → Prop)
    (hBl : Bl < w.heap.size) (hE : ¬ E Bl) (hBi : Bi < w.heap.size) (hEi : ¬ E Bi) (hR : PR w (fun b => b < w.heap.size ∧ ¬ E b) a l)
    (c0 : w.cell? ⟨Bl, 0, none⟩ = some (.slice a l.length cap)) (c1 : w.cell? ⟨Bi, 0, none⟩ = some (.int .i64 (i : Int))) :
    GivesAt F q Try.prog 29 #[.pointer (some ⟨Bl, 0, none⟩), .pointer (some ⟨Bi, 0, none⟩)] (othV l i) (Kx w.heap.size E) (l.length - 1) w := fun lf J Jx W hW hJ _ hY hJ0 => by
  have d0 := (hW.cell (p := ⟨Bl, 0, none⟩) hBl).trans c0
  replace c0 := Lib.hid c0
  replace c1 := Lib.hid c1
  replace hR := Lib.hid hR
  refine callsIn_of_wp Try.func29 rfl hf ?_ hro
  simp only [Try.ntmps29, List.size_toArray, List.length_cons, List.length_nil, Nat.reduceAdd, Nat.reduceSub, Array.replicate_succ, Array.replicate_zero, List.push_toArray, List.append_toArray, List.nil_append, List.cons_append]
  gi_wp2
  clear d0
  gi_loopw [8] (fun x wr => ∃ j : Nat, j ≤ l.length ∧ x = .int .i64 (j : Int) ∧ J (cnt i j) wr ∧ Hid (Kx w.heap.size E w wr)) (fun x _ => l.length - (intOf x).toNat)
  case atStart => exact ⟨0, Nat.zero_le _, rfl, hJ0, Lib.hid (Kx.below hW)⟩
  case round =>
    obtain ⟨j, hj, rfl, hJj, hb⟩ := hrel
    by_cases hlt : j < l.length
    · obtain ⟨b, off, rfl, hs, hc0, hc1, hI⟩ := (hR.out.keep hb.out.kept).at_ hlt
      have hci := (hb.out.cell (o := 0) hBi hEi).trans c1.out
      have hw0 : Kx w.heap.size E w (wr.alloc (.cells #[.int .i64 l[j].1, .int .i64 l[j].2] 35)) := hb.out.trans (Kx.below ((bel1 wr _).mono hb.out.1))
      have hJV : J (cnt i j) (wr.alloc (.cells #[.int .i64 l[j].1, .int .i64 l[j].2] 35)) := hJ _ wr _ none hJj (World.grownBy_alloc wr _ none) (fun r e => by cases e)
      have hbi : Bi < wr.heap.size := Nat.lt_of_lt_of_le hBi hb.out.1
      have hciV : (wr.alloc (.cells #[.int .i64 l[j].1, .int .i64 l[j].2] 35)).cell? ⟨Bi, 0, none⟩ = some (.int .i64 (i : Int)) := ((bel1 wr _).cell (p := ⟨Bi, 0, none⟩) hbi).trans hci
      have hgd : l.getD j (0, 0) = l[j] := by simp [List.getD, hlt]
      by_cases hji : j = i
      · subst hji
        rw [← cnt_skip] at hJV
        generalize l[j].1 = x at *
        generalize l[j].2 = y at *
        replace hw0 := Lib.hid hw0
        replace hJV := Lib.hid hJV
        gi_wp2
        refine ⟨fun f e => (by cases e), ?_⟩
        gi_wp2
        go_roundw
        case rel => exact ⟨j + 1, by omega, by go_num, hJV.out, hw0⟩
        case measure => simp [intOf]; omega
      · have hcn := Lib.hid (cnt_next hji)
        obtain ⟨fn, tmps, assign, body, hy, hRd⟩ := hY (cnt i j) _ (cnt_lt hji hlt hi) hJV
        unfold othV at hy
        rw [oth_cnt hji, hgd] at hy
        have hne : ((j : Int) != (i : Int)) = true := by simp; omega
        generalize l[j].1 = x at *
        generalize l[j].2 = y at *
        replace hw0 := Lib.hid hw0
        gi_wp2
        refine hRd.mono ?_
        rintro e W3 (⟨rfl, hJ3, hk3⟩ | ⟨rfl, hJx3⟩)
        · replace hw0 := Lib.hid (hw0.out.trans hk3)
          rw [← hcn.out] at hJ3
          clear hk3
          gi_wp2
          go_roundw
          case rel => exact ⟨j + 1, by omega, by go_num, hJ3, hw0⟩
          case measure => simp [intOf]; omega
        · gi_wp2
          refine bodyPost_ret (results_none rfl _ _ _) rfl ?_
          exact ⟨⟨_, rfl⟩, .inr ⟨_, cnt_lt hji hlt hi, hJx3⟩⟩
    · obtain rfl : j = l.length := by omega
      rw [cnt_all hi] at hJj
      gi_wp2
      go_end0
      exact ⟨⟨_, rfl⟩, .inl hJj⟩
end Go.Proofs.Ytfblkkdoijfpfaa
