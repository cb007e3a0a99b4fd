/- The reference's Same and Equal. -/
import Derived.Test.YtndfchnmajfmiaaDoorSe
namespace Go.Proofs.YtndfchnmajfmiaaDoor
open Go.RowKit

set_option maxRecDepth 100000 in
set_option maxHeartbeats 3200000 in
theorem rSame_any (a b : List Tk) (ha : a.length ≤ 9223372036854775807) (hb : b.length ≤ 9223372036854775807) (w : World) (A B : Option Addr) (c d : Nat) (hr : TR w w.heap.size A a) (hq : TR w w.heap.size B b) :
    Calls Tryd.prog 19 #[.slice A a.length c, .slice B b.length d] w fun e w' => e = .returned (.bool (sameL a b)) ∧ Below w.heap.size w w' := by
  have hrH := Lib.hid hr
  have hqH := Lib.hid hq
  clear hr hq
  by_cases hl : a.length = b.length
  · have hl1 : ((a.length : Int) == b.length) = true := by rw [hl]; simp
    have hl2 : ((a.length : Int) != b.length) = false := by rw [hl]; simp
    have hlH := Lib.hid hl
    have hle : a.length ≤ b.length := by omega
    clear hl
    go_enter Tryd.func19, Tryd.ntmps19
    go_wp2_with fail
    clear hl1 hl2
    go_loopw [5] (fun i wr => ∃ k : Nat, k ≤ a.length ∧ i = .int .i64 k ∧ (∀ j (h1 : j < a.length) (h2 : j < b.length), j < k → sameT a[j] b[j] = true) ∧ Below w.heap.size w wr) (fun i _ => a.length - (intOf i).toNat)
    case atStart => exact ⟨0, Nat.zero_le _, rfl, fun _ _ _ h => absurd h (by omega), Below.refl _ _⟩
    case round =>
      obtain ⟨k, hk, rfl, hva, hB⟩ := hrel
      have hvaH := Lib.hid hva
      clear hva
      by_cases hlt : k < a.length
      · have hltb : k < b.length := by omega
        obtain ⟨b1, o1, rfl, hb1, hc1⟩ := (hrH.out.below hB (Nat.le_refl _)) (by omega)
        obtain ⟨b2, o2, rfl, hb2, hc2⟩ := (hqH.out.below hB (Nat.le_refl _)) (by omega)
        obtain ⟨c0, c1, c2, c3⟩ := hc1 k hlt
        obtain ⟨d0, d1, d2, d3⟩ := hc2 k hltb
        have hno := Lib.hid (fun h => sameL_at (a := a) (b := b) hlt hltb h)
        have hvs := Lib.hid (fun (h : sameT a[k] b[k] = true) j (h1 : j < a.length) (h2 : j < b.length) (hjk : j < k + 1) => show sameT a[j] b[j] = true by
          by_cases e : j = k
          · subst e; exact h
          · exact hvaH.out j h1 h2 (by omega))
        have hi1 : (0 : Int) ≤ k := by omega
        have hi2 : (k : Int) < a.length := by omega
        have hi3 : (k : Int) < b.length := by omega
        clear hc1 hc2 hvaH
        generalize a[k] = x at *
        generalize b[k] = y at *
        obtain ⟨k1, s1, n1, p1⟩ := x
        obtain ⟨k2, s2, n2, p2⟩ := y
        simp only at c0 c1 c2 c3 d0 d1 d2 d3
        cases e1 : (k1 == k2) with
        | false =>
          have e1' : (k1 != k2) = true := by simpa using e1
          have hv : sameT ⟨k1, s1, n1, p1⟩ ⟨k2, s2, n2, p2⟩ = false := by unfold sameT; simp only [e1, Bool.false_and]
          have hf : Hid (sameL a b = false) := hno.out hv
          clear hv
          go_wp2_with fail
          go_quiet (fail)
          go_wp2_with fail
          go_ret
          exact ⟨retB hf.out.symm, dN hB _⟩
        | true =>
          have e1' : (k1 != k2) = false := by simpa using e1
          by_cases e2 : s1 = s2
          · have e2' : (s1 != s2) = false := by simpa using e2
            have e2'' : (s1 == s2) = true := by simpa using e2
            cases e3 : (n1 == n2) with
            | false =>
              have e3' : (n1 != n2) = true := by simpa using e3
              have hv : sameT ⟨k1, s1, n1, p1⟩ ⟨k2, s2, n2, p2⟩ = false := by unfold sameT; simp only [e1, e3, Bool.and_false]
              have hf : Hid (sameL a b = false) := hno.out hv
              clear hv e2
              go_wp2_with fail
              go_quiet (fail)
              go_wp2_with fail
              go_ret
              exact ⟨retB hf.out.symm, dN hB _⟩
            | true =>
              have e3' : (n1 != n2) = false := by simpa using e3
              have hvsH := Lib.hid (hvs.out (by unfold sameT; simp [e1, e3, e2]))
              clear e2
              go_wp2_with fail
              go_quiet (fail)
              go_wp2_with fail
              go_roundw
              case rel => exact ⟨k + 1, by omega, by go_num, hvsH.out, dN hB _⟩
              case measure => simp [intOf]; omega
          · have e2' : (s1 != s2) = true := by simpa using e2
            have e2'' : (s1 == s2) = false := by simpa using e2
            have hv : sameT ⟨k1, s1, n1, p1⟩ ⟨k2, s2, n2, p2⟩ = false := by unfold sameT; simp [e2]
            have hf : Hid (sameL a b = false) := hno.out hv
            clear hv e2
            go_wp2_with fail
            go_quiet (fail)
            go_wp2_with fail
            go_ret
            exact ⟨retB hf.out.symm, dN hB _⟩
      · have hf : Hid (sameL a b = true) := sameL_all hlH.out fun j h1 h2 => hvaH.out j h1 h2 (by omega)
        go_wp2_with fail
        go_ret
        exact ⟨retB hf.out.symm, hB⟩
  · have hf : Hid (sameL a b = false) := sameL_len hl
    have hl1 : ((a.length : Int) == b.length) = false := by rw [beq_eq_false_iff_ne]; omega
    have hl2 : ((a.length : Int) != b.length) = true := by rw [bne_iff_ne]; omega
    clear hl
    go_enter Tryd.func19, Tryd.ntmps19
    go_wp2_with fail
    go_ret
    exact ⟨retB hf.out.symm, Below.refl _ _⟩

theorem equalL_same {a b : List Tk} (h : sameL a b = false) : equalL a b = false := by
  induction a generalizing b with
  | nil => cases b with
    | nil => cases h
    | cons _ _ => rfl
  | cons x r ih => cases b with
    | nil => rfl
    | cons y r' =>
      rw [sameL] at h
      rw [equalL]
      cases h1 : sameT x y with
      | false => simp
      | true => rw [h1, Bool.true_and] at h; rw [ih h]; simp
theorem sameL_length {a b : List Tk} (h : sameL a b = true) : a.length = b.length := by
  by_cases e : a.length = b.length
  · exact e
  · rw [sameL_len e] at h; cases h
theorem equalL_at {a b : List Tk} {k : Nat} (h1 : k < a.length) (h2 : k < b.length) (h : (a[k].p == b[k].p) = false) : equalL a b = false := by
  induction a generalizing b k with
  | nil => simp at h1
  | cons x r ih => cases b with
    | nil => rfl
    | cons y r' => cases k with
      | zero => simp only [List.getElem_cons_zero] at h; rw [equalL, h]; simp
      | succ k => simp only [List.getElem_cons_succ] at h; rw [equalL, ih _ _ h, Bool.and_false]
theorem equalL_all {a b : List Tk} (hs : sameL a b = true) (h : ∀ k (h1 : k < a.length) (h2 : k < b.length), (a[k].p == b[k].p) = true) : equalL a b = true := by
  induction a generalizing b with
  | nil => cases b with
    | nil => rfl
    | cons _ _ => cases hs
  | cons x r ih => cases b with
    | nil => cases hs
    | cons y r' =>
      rw [sameL, Bool.and_eq_true] at hs
      have h0 := h 0 (by simp) (by simp)
      simp only [List.getElem_cons_zero] at h0
      rw [equalL, h0, hs.1, ih hs.2 (fun k h1 h2 => h (k + 1) (by simpa using h1) (by simpa using h2))]
      rfl

set_option maxRecDepth 100000 in
set_option maxHeartbeats 3200000 in
theorem Equal_any (a b : List Tk) (ha : a.length ≤ 9223372036854775807) (hb : b.length ≤ 9223372036854775807) (w : World) (A B : Option Addr) (c d : Nat) (hr : TR w w.heap.size A a) (hq : TR w w.heap.size B b) :
    Calls Tryd.prog 14 #[.slice A a.length c, .slice B b.length d] w fun e w' => e = .returned (.bool (equalL a b)) ∧ Below w.heap.size w w' := by
  have hC := Lib.hid (rSame_any a b ha hb w A B c d hr hq)
  have hrH := Lib.hid hr
  have hqH := Lib.hid hq
  clear hr hq
  cases hs : sameL a b with
  | false =>
    have hf : Hid (equalL a b = false) := equalL_same hs
    rw [hs] at hC
    clear hs
    go_enter Tryd.func14, Tryd.ntmps14
    go_wp2_with fail
    refine hC.out.mono ?_
    rintro e w1 ⟨rfl, hB⟩
    go_wp2_with fail
    go_ret
    exact ⟨retB hf.out.symm, hB⟩
  | true =>
    rw [hs] at hC
    have hsH := Lib.hid hs
    have hle : a.length ≤ b.length := by rw [sameL_length hs]; exact Nat.le_refl _
    clear hs
    go_enter Tryd.func14, Tryd.ntmps14
    go_wp2_with fail
    refine hC.out.mono ?_
    rintro e w1 ⟨rfl, hB1⟩
    clear hC
    go_wp2_with fail
    go_loopw [5] (fun i wr => ∃ k : Nat, k ≤ a.length ∧ i = .int .i64 k ∧ (∀ j (h1 : j < a.length) (h2 : j < b.length), j < k → (a[j].p == b[j].p) = true) ∧ Below w.heap.size w wr) (fun i _ => a.length - (intOf i).toNat)
    case atStart => exact ⟨0, Nat.zero_le _, rfl, fun _ _ _ h => absurd h (by omega), hB1⟩
    case round =>
      obtain ⟨k, hk, rfl, hva, hB⟩ := hrel
      have hvaH := Lib.hid hva
      clear hva hB1
      by_cases hlt : k < a.length
      · have hltb : k < b.length := by omega
        obtain ⟨b1, o1, rfl, hb1, hc1⟩ := (hrH.out.below hB (Nat.le_refl _)) (by omega)
        obtain ⟨b2, o2, rfl, hb2, hc2⟩ := (hqH.out.below hB (Nat.le_refl _)) (by omega)
        obtain ⟨c0, c1, c2, c3⟩ := hc1 k hlt
        obtain ⟨d0, d1, d2, d3⟩ := hc2 k hltb
        have hno := Lib.hid (fun h => equalL_at (a := a) (b := b) hlt hltb h)
        have hvs := Lib.hid (fun (h : (a[k].p == b[k].p) = true) j (h1 : j < a.length) (h2 : j < b.length) (hjk : j < k + 1) => show (a[j].p == b[j].p) = true by
          by_cases e : j = k
          · subst e; exact h
          · exact hvaH.out j h1 h2 (by omega))
        have hi1 : (0 : Int) ≤ k := by omega
        have hi2 : (k : Int) < a.length := by omega
        have hi3 : (k : Int) < b.length := by omega
        clear hc1 hc2 hvaH
        generalize a[k] = x at *
        generalize b[k] = y at *
        cases e1 : (x.p == y.p) with
        | false =>
          have e1' : (x.p != y.p) = true := by simpa using e1
          have hf : Hid (equalL a b = false) := hno.out e1
          go_wp2_with fail
          go_quiet (fail)
          go_wp2_with fail
          go_ret
          exact ⟨retB hf.out.symm, dN hB _⟩
        | true =>
          have e1' : (x.p != y.p) = false := by simpa using e1
          have hvsH := Lib.hid (hvs.out e1)
          go_wp2_with fail
          go_quiet (fail)
          go_wp2_with fail
          go_roundw
          case rel => exact ⟨k + 1, by omega, by go_num, hvsH.out, dN hB _⟩
          case measure => simp [intOf]; omega
      · have hf : Hid (equalL a b = true) := equalL_all hsH.out fun j h1 h2 => hvaH.out j h1 h2 (by omega)
        go_wp2_with fail
        go_ret
        exact ⟨retB hf.out.symm, hB⟩
end Go.Proofs.YtndfchnmajfmiaaDoor
