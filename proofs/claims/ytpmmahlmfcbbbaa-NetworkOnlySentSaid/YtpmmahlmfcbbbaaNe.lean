/- Parties, links: contracts of the small functions. -/
import Derived.Test.YtpmmahlmfcbbbaaProg
import Derived.Test.YtpmmahlmfcbbbaaNd
import Derived.Outline
import Derived.IntWalk
import Derived.Laws.MakeOwn
import Derived.Laws.CopyOwn
import Derived.Deep.RegionHeld3
import Derived.Sort.Grow
import Derived.Stop.BytesEq
namespace Go.Proofs.Ytpmmahlmfcbbbaa
open Go.RowKit

set_option maxRecDepth 100000 in
theorem run_equalIn_two {P : Program} (w : World) (d : Nat) (t e : TypeId) (ht : P.underlying t = some (.array 2 e)) (he : P.underlying e = some (.int .i64)) (hsz : ∀ w, (sizeOf e).run P w = .ok 1 w) (a b x y : Int) :
    (Op.equalIn (d + 2) t (.agg #[.int .i64 a, .int .i64 b]) (.agg #[.int .i64 x, .int .i64 y])).run P w = .ok (decide (a = x) && decide (b = y)) w := by
  rw [Op.equalIn]
  simp only [Sem.run_bind, run_underlying ht, Result.andThen_ok, hsz, Std.Legacy.Range.forIn_eq_forIn_range', Std.Legacy.Range.size, Nat.sub_zero, Nat.add_sub_cancel, Nat.div_one]
  have p (i : Nat) (u v : Int) (hi : i < 2) : (part e #[.int .i64 u, .int .i64 v] (i * 1)).run P w = .ok (.int .i64 (if i = 0 then u else v)) w := by
    match i, hi with
    | 0, _ => simp [part, isAgg, run_underlying he]
    | 1, _ => simp [part, isAgg, run_underlying he]
  have p0 (u v : Int) : (part e #[.int .i64 u, .int .i64 v] 0).run P w = .ok (.int .i64 u) w := p 0 u v (by omega)
  have p1 (u v : Int) : (part e #[.int .i64 u, .int .i64 v] 1).run P w = .ok (.int .i64 v) w := p 1 u v (by omega)
  have q (u v : Int) : (Op.equalIn (d + 1) e (.int .i64 u) (.int .i64 v)).run P w = .ok (decide (u = v)) w := by
    rw [run_equalIn_int w d e .i64 .i64 _ _ he]
    congr 1
  rw [show List.range' 0 2 1 = [0, 1] from rfl]
  simp only [List.forIn_cons, List.forIn_nil, Sem.run_bind, Nat.zero_mul, Nat.one_mul, p0, q, Result.andThen_ok]
  by_cases h1 : a = x <;> by_cases h2 : b = y <;> simp [h1, h2, p1, q]

theorem slot_undef {t : Array Value} {k : Nat} (h : t.getD k undef = undef) : t[k]? = some undef ∨ t[k]? = none := by
  rw [Array.getD_eq_getD_getElem?] at h
  cases hx : t[k]? with
  | none => exact .inr rfl
  | some v => rw [hx] at h; exact .inl (by simpa using h)
set_option maxHeartbeats 400000 in
theorem isParty_any (k : Int) (w : World) : Calls Try.prog 45 #[.int .i64 k] w fun e w' => e = .returned (.bool (isP k)) ∧ w' = w := by
  by_cases h0 : 0 ≤ k
  · have hv := Lib.hid (show isP k = decide (k < 24) by unfold isP; simp [h0])
    go_enter Try.func45, Try.ntmps45
    go_wp2_with fail
    go_ret
    exact ⟨retB hv.out.symm, by trivial⟩
  · have hv := Lib.hid (show isP k = false by unfold isP; simp [h0])
    go_enter Try.func45, Try.ntmps45
    go_wp2_with fail
    go_ret
    exact ⟨retB hv.out.symm, by trivial⟩
set_option maxHeartbeats 400000 in
theorem areParties_any (a b : Int) (w : World) : Calls Try.prog 34 #[.int .i64 a, .int .i64 b] w fun e w' => e = .returned (.bool (areP a b)) ∧ w' = w := by
  have hA := Lib.hid (isParty_any a)
  have hC := Lib.hid (isParty_any b)
  have hv := Lib.hid (show areP a b = (isP a && isP b && (a != b)) from rfl)
  obtain ⟨x, hx⟩ : ∃ x, isP a = x := ⟨_, rfl⟩
  obtain ⟨y, hy⟩ : ∃ y, isP b = y := ⟨_, rfl⟩
  rw [hx, hy] at hv
  rw [hx] at hA
  rw [hy] at hC
  clear hx hy
  go_enter Try.func34, Try.ntmps34
  go_wp2_with fail
  refine (hA.out _).mono ?_
  rintro e w1 ⟨rfl, rfl⟩
  cases x with
  | false =>
    go_wp2_with fail
    go_ret
    exact ⟨retB hv.out.symm, by trivial⟩
  | true =>
    go_wp2_with fail
    refine (hC.out _).mono ?_
    rintro e w1 ⟨rfl, rfl⟩
    cases y with
    | false =>
      go_wp2_with fail
      go_ret
      exact ⟨retB hv.out.symm, by trivial⟩
    | true =>
      go_wp2_with fail
      go_ret
      exact ⟨retB hv.out.symm, by trivial⟩
set_option maxHeartbeats 400000 in
theorem pair_any (a b : Int) (w : World) : Calls Try.prog 35 #[.int .i64 a, .int .i64 b] w fun e w' => e = .returned (.agg #[.int .i64 (linkP a b).1, .int .i64 (linkP a b).2]) ∧ Below w.heap.size w w' := by
  have h1 := Lib.hid (show (linkP a b).1 = min a b from rfl)
  have h2 := Lib.hid (show (linkP a b).2 = max a b from rfl)
  go_enter Try.func35, Try.ntmps35
  go_wp2_with fail
  all_goals
    refine bodyPost_ret (v := .agg #[.int .i64 (linkP a b).1, .int .i64 (linkP a b).2]) ?_ rfl ⟨rfl, bnew w _⟩
    rw [h1.out, h2.out]
    simp [results, Try.results35, go_sem]
    omega
def cmpI (a b : Int) : Int := if a < b then -1 else if b < a then 1 else 0
def cmpP (x y : Int × Int) : Int := if cmpI x.1 y.1 ≠ 0 then cmpI x.1 y.1 else cmpI x.2 y.2
theorem cmpP_ge (x y : Int × Int) : decide (0 ≤ cmpP x y) = !ltP x y := by
  unfold cmpP cmpI ltP
  by_cases h1 : x.1 < y.1
  · simp [h1]
  · by_cases h2 : y.1 < x.1
    · have : ¬ x.1 = y.1 := by omega
      simp [h1, h2, this]
    · have : x.1 = y.1 := by omega
      by_cases h3 : x.2 < y.2
      · simp [this, h3]
      · by_cases h4 : y.2 < x.2 <;> simp [this, h3, h4]
set_option maxHeartbeats 400000 in
theorem isNaN_any (a : Int) (w : World) : Calls Try.prog 68 #[.int .i64 a] w fun e w' => e = .returned (.bool false) ∧ w' = w := by
  go_enter Try.func68, Try.ntmps68
  go_wp2_with fail
  go_ret
  exact ⟨by simp, by trivial⟩
set_option maxHeartbeats 400000 in
theorem cmpInt_any (a b : Int) (w : World) : Calls Try.prog 62 #[.int .i64 a, .int .i64 b] w fun e w' => e = .returned (.int .i64 (cmpI a b)) ∧ w' = w := by
  have hN := Lib.hid isNaN_any
  rcases (show a < b ∨ (¬ a < b ∧ b < a) ∨ (¬ a < b ∧ ¬ b < a) by omega) with h | ⟨h, h'⟩ | ⟨h, h'⟩
  all_goals
    have hv := Lib.hid (show cmpI a b = _ by unfold cmpI; simp only [h]; rfl)
    go_enter Try.func62, Try.ntmps62
    go_wp2_with fail
    refine (hN.out _ _).mono ?_
    rintro e w1 ⟨rfl, rfl⟩
    go_wp2_with fail
    refine (hN.out _ _).mono ?_
    rintro e w1 ⟨rfl, rfl⟩
    go_wp2_with fail
    go_ret
    exact ⟨by rw [hv.out]; simp_all, by trivial⟩
set_option maxHeartbeats 800000 in
theorem slCompare_any (x y : Int × Int) (g g' : Nat) (w : World) (h0 : w.cell? ⟨g, 0, none⟩ = some (.int .i64 x.1)) (h1 : w.cell? ⟨g, 1, none⟩ = some (.int .i64 x.2)) (h2 : w.cell? ⟨g', 0, none⟩ = some (.int .i64 y.1)) (h3 : w.cell? ⟨g', 1, none⟩ = some (.int .i64 y.2)) :
    Calls Try.prog 49 #[.slice (some ⟨g, 0, none⟩) 2 2, .slice (some ⟨g', 0, none⟩) 2 2] w fun e w' => e = .returned (.int .i64 (cmpP x y)) ∧ w' = w := by
  have hC := Lib.hid cmpInt_any
  have hv := Lib.hid (show cmpP x y = if cmpI x.1 y.1 ≠ 0 then cmpI x.1 y.1 else cmpI x.2 y.2 from rfl)
  go_enter Try.func49, Try.ntmps49
  go_wp2_with fail
  go_loopw [5, 6, 7, 8, 11] (fun _ _ _ _ i wr => wr = w ∧ (i = .int .i64 0 ∨ (i = .int .i64 1 ∧ Hid (cmpI x.1 y.1 = 0)) ∨ (i = .int .i64 2 ∧ Hid (cmpI x.1 y.1 = 0) ∧ Hid (cmpI x.2 y.2 = 0)))) (fun _ _ _ _ i _ => 3 - (intOf i).toNat)
  case atStart => exact ⟨rfl, .inl rfl⟩
  case round =>
    obtain ⟨rfl, rfl | ⟨rfl, c1⟩ | ⟨rfl, c1, c2⟩⟩ := hrel
    · go_wp2_with fail
      refine (hC.out _ _ _).mono ?_
      rintro e w1 ⟨rfl, rfl⟩
      by_cases hz : cmpI x.1 y.1 = 0
      · have c1 := Lib.hid hz
        have hz' : (cmpI x.1 y.1 != 0) = false := by rw [hz]; rfl
        clear hz
        go_wp2_with fail
        go_roundw
        case rel => exact ⟨by trivial, .inr (.inl ⟨by go_num, c1.out⟩)⟩
        case measure => simp [intOf]
      · have c1 := Lib.hid hz
        have hz' : (cmpI x.1 y.1 != 0) = true := by simpa using hz
        clear hz
        go_wp2_with fail
        go_ret
        exact ⟨retI (by rw [hv.out, if_pos c1.out]), by trivial⟩
    · go_wp2_with fail
      refine (hC.out _ _ _).mono ?_
      rintro e w1 ⟨rfl, rfl⟩
      by_cases hz : cmpI x.2 y.2 = 0
      · have c2 := Lib.hid hz
        have hz' : (cmpI x.2 y.2 != 0) = false := by rw [hz]; rfl
        clear hz
        go_wp2_with fail
        go_roundw
        case rel => exact ⟨by trivial, .inr (.inr ⟨by go_num, c1.out, c2.out⟩)⟩
        case measure => simp [intOf]
      · have hz' : (cmpI x.2 y.2 != 0) = true := by simpa using hz
        clear hz
        go_wp2_with fail
        go_ret
        exact ⟨retI (by rw [hv.out, if_neg (by rw [c1.out]; decide)]), by trivial⟩
    · go_wp2_with fail
      go_ret
      exact ⟨retI (by rw [hv.out, if_neg (by rw [c1.out]; decide), c2.out]), by trivial⟩
open Go.Sort (grow alloc_eq_grow grow_grow) in
set_option maxHeartbeats 400000 in
theorem compare_any (x y : Int × Int) (w : World) : Calls Try.prog 38 #[.agg #[.int .i64 x.1, .int .i64 x.2], .agg #[.int .i64 y.1, .int .i64 y.2]] w fun e w' => e = .returned (.int .i64 (cmpP x y)) ∧ ∃ q os, w' = grow (w.drewN q) os := by
  have hC := Lib.hid (slCompare_any x y)
  have hk : ∀ n, ((((w.alloc (.cells #[.int .i64 x.1, .int .i64 x.2] 55)).alloc (.cells #[.int .i64 y.1, .int .i64 y.2] 55)).drewN n).cell? ⟨w.heap.size, 0, none⟩ = some (.int .i64 x.1) ∧ (((w.alloc (.cells #[.int .i64 x.1, .int .i64 x.2] 55)).alloc (.cells #[.int .i64 y.1, .int .i64 y.2] 55)).drewN n).cell? ⟨w.heap.size, 1, none⟩ = some (.int .i64 x.2)) ∧
      (((w.alloc (.cells #[.int .i64 x.1, .int .i64 x.2] 55)).alloc (.cells #[.int .i64 y.1, .int .i64 y.2] 55)).drewN n).cell? ⟨w.heap.size + 1, 0, none⟩ = some (.int .i64 y.1) ∧ (((w.alloc (.cells #[.int .i64 x.1, .int .i64 x.2] 55)).alloc (.cells #[.int .i64 y.1, .int .i64 y.2] 55)).drewN n).cell? ⟨w.heap.size + 1, 1, none⟩ = some (.int .i64 y.2) := by
    intro n
    refine ⟨⟨?_, ?_⟩, ?_, ?_⟩
    · show World.cell? ((w.alloc _).alloc _) _ = _
      rw [World.cell?_alloc_lt _ _ _ (by simp), World.cell?_alloc_at _ _ _ _ rfl]; rfl
    · show World.cell? ((w.alloc _).alloc _) _ = _
      rw [World.cell?_alloc_lt _ _ _ (by simp), World.cell?_alloc_at _ _ _ _ rfl]; rfl
    · show World.cell? ((w.alloc _).alloc _) _ = _
      rw [World.cell?_alloc_at _ _ _ _ (by simp)]; rfl
    · show World.cell? ((w.alloc _).alloc _) _ = _
      rw [World.cell?_alloc_at _ _ _ _ (by simp)]; rfl
  have hC2 : Hid (∀ n, Calls Try.prog 49 #[.slice (some ⟨w.heap.size, 0, none⟩) 2 2, .slice (some ⟨w.heap.size + 1, 0, none⟩) 2 2] (((w.alloc (.cells #[.int .i64 x.1, .int .i64 x.2] 55)).alloc (.cells #[.int .i64 y.1, .int .i64 y.2] 55)).drewN n) fun e w' => e = .returned (.int .i64 (cmpP x y)) ∧ w' = (((w.alloc (.cells #[.int .i64 x.1, .int .i64 x.2] 55)).alloc (.cells #[.int .i64 y.1, .int .i64 y.2] 55)).drewN n)) := fun n =>
    hC.out _ _ _ (hk n).1.1 (hk n).1.2 (hk n).2.1 (hk n).2.2
  clear hk hC
  go_enter Try.func38, Try.ntmps38
  go_wp2_with fail
  go_region_held3 (fun _ => True) (trivial) (first | (go_at_call 49; refine (hC2.out 1).mono ?_; rintro e w9 ⟨rfl, rfl⟩))
  all_goals
    go_wp2_with fail
    go_ret
    exact ⟨rfl, 1, _, by rw [alloc_eq_grow, alloc_eq_grow, grow_grow]; rfl⟩
end Go.Proofs.Ytpmmahlmfcbbbaa
