/- Same; the reference's Same and Equal. -/
import Derived.Test.YtndfchnmajfmiaaDoorTx
namespace Go.Proofs.YtndfchnmajfmiaaDoor
open Go.RowKit

theorem str_inj {a b : List UInt8} (h : (⟨a.toArray⟩ : ByteArray) = ⟨b.toArray⟩) : a = b := by
  injection h with h
  simpa using h
set_option maxRecDepth 100000 in
set_option maxHeartbeats 1600000 in
theorem sameF_any (a b : Tk) (w : World) : Calls Tryd.prog 37 #[tkV a, tkV b] w fun e w' => e = .returned (.bool (sameT a b)) ∧ Below w.heap.size w w' := by
  obtain ⟨k, s, n, p⟩ := a
  obtain ⟨k', s', n', p'⟩ := b
  have hb := Lib.hid ((bnew w (.cells #[.int .i64 k, .string ⟨s.toArray⟩, .int .i64 n, .int .i64 p] 35)).alloc (by simp) (.cells #[.int .i64 k', .string ⟨s'.toArray⟩, .int .i64 n', .int .i64 p'] 35))
  unfold tkV
  cases h1 : (k == k') with
  | false =>
    have hf : Hid (sameT ⟨k, s, n, p⟩ ⟨k', s', n', p'⟩ = false) := by show sameT _ _ = _; unfold sameT; simp only [h1, Bool.false_and]
    go_enter Tryd.func37, Tryd.ntmps37
    go_wp2_with fail
    go_ret
    exact ⟨retB hf.out.symm, hb.out⟩
  | true =>
    by_cases h2 : s = s'
    · subst h2
      have hf : Hid (sameT ⟨k, s, n, p⟩ ⟨k', s, n', p'⟩ = (n == n')) := by show sameT _ _ = _; unfold sameT; simp [h1]
      go_enter Tryd.func37, Tryd.ntmps37
      go_wp2_with fail
      go_ret
      exact ⟨retB hf.out.symm, hb.out⟩
    · have hf : Hid (sameT ⟨k, s, n, p⟩ ⟨k', s', n', p'⟩ = false) := by show sameT _ _ = _; unfold sameT; simp [h2]
      have h3 : (s == s') = false := by simpa using h2
      clear h2
      go_enter Tryd.func37, Tryd.ntmps37
      go_wp2_with fail
      go_ret
      exact ⟨retB hf.out.symm, hb.out⟩

theorem sameL_len {a b : List Tk} (h : a.length ≠ b.length) : sameL a b = false := by
  induction a generalizing b with
  | nil => cases b with
    | nil => exact absurd rfl h
    | cons _ _ => rfl
  | cons x r ih => cases b with
    | nil => rfl
    | cons y r' => rw [sameL, ih (by simpa using h), Bool.and_false]
theorem sameL_at {a b : List Tk} {k : Nat} (h1 : k < a.length) (h2 : k < b.length) (h : sameT a[k] b[k] = false) : sameL a b = false := by
  induction a generalizing b k with
  | nil => simp at h1
  | cons x r ih => cases b with
    | nil => rfl
    | cons y r' => cases k with
      | zero => simp only [List.getElem_cons_zero] at h; rw [sameL, h, Bool.false_and]
      | succ k => simp only [List.getElem_cons_succ] at h; rw [sameL, ih _ _ h, Bool.and_false]
theorem sameL_all {a b : List Tk} (hl : a.length = b.length) (h : ∀ k (h1 : k < a.length) (h2 : k < b.length), sameT a[k] b[k] = true) : sameL a b = true := by
  induction a generalizing b with
  | nil => cases b with
    | nil => rfl
    | cons _ _ => cases hl
  | cons x r ih => cases b with
    | nil => cases hl
    | cons y r' =>
      have h0 := h 0 (by simp) (by simp)
      simp only [List.getElem_cons_zero] at h0
      rw [sameL, h0, ih (by simpa using hl) (fun k h1 h2 => h (k + 1) (by simpa using h1) (by simpa using h2))]
      rfl

theorem enF (args : Array Value) (w : World) : Sem.run Tryd.prog (callFunc 37 args) w = .ok (.enter 37 args) w := by simp [go_sem]

set_option maxRecDepth 100000 in
set_option maxHeartbeats 1600000 in
theorem eqf_any (a b : List Tk) (ha : a.length ≤ 9223372036854775807) (hb : b.length ≤ 9223372036854775807) (w : World) (A B : Option Addr) (c d : Nat) (hr : TR w w.heap.size A a) (hq : TR w w.heap.size B b) :
    Calls Tryd.prog 36 #[.slice A a.length c, .slice B b.length d, .func (.func 37) #[] #[]] w fun e w' => e = .returned (.bool (sameL a b)) ∧ Below w.heap.size w w' := by
  have hrH := Lib.hid hr
  have hqH := Lib.hid hq
  clear hr hq
  by_cases hl : a.length = b.length
  · have hl1 : ((a.length : Int) == b.length) = true := by rw [hl]; simp
    have hl2 : ((a.length : Int) != b.length) = false := by rw [hl]; simp
    have hlH := Lib.hid hl
    have hle : a.length ≤ b.length := by omega
    clear hl
    go_enter Tryd.func36, Tryd.ntmps36
    go_wp2_with fail
    clear hl1 hl2
    go_loopw [17] (fun i wr => ∃ k : Nat, k ≤ a.length ∧ i = .int .i64 k ∧ (∀ j (h1 : j < a.length) (h2 : j < b.length), j < k → sameT a[j] b[j] = true) ∧ Below w.heap.size w wr) (fun i _ => a.length - (intOf i).toNat)
    case atStart => exact ⟨0, Nat.zero_le _, rfl, fun _ _ _ h => absurd h (by omega), Below.refl _ _⟩
    case round =>
      obtain ⟨k, hk, rfl, hva, hB⟩ := hrel
      have hvaH := Lib.hid hva
      clear hva
      by_cases hlt : k < a.length
      · have hltb : k < b.length := by omega
        obtain ⟨b1, o1, rfl, hb1, hc1⟩ := (hrH.out.below hB (Nat.le_refl _)) (by omega)
        obtain ⟨b2, o2, rfl, hb2, hc2⟩ := (hqH.out.below hB (Nat.le_refl _)) (by omega)
        obtain ⟨c0, c1, c2, c3⟩ := hc1 k hlt
        obtain ⟨d0, d1, d2, d3⟩ := hc2 k hltb
        have hz := hB.size
        have hb1' : b1 < wr.heap.size := by omega
        have hb2' : b2 < wr.heap.size := by omega
        have hno := Lib.hid (fun h => sameL_at (a := a) (b := b) hlt hltb h)
        have hvs := Lib.hid (fun (h : sameT a[k] b[k] = true) j (h1 : j < a.length) (h2 : j < b.length) (hjk : j < k + 1) => show sameT a[j] b[j] = true by
          by_cases e : j = k
          · subst e; exact h
          · exact hvaH.out j h1 h2 (by omega))
        clear hc1 hc2 hvaH
        generalize a[k] = x at *
        generalize b[k] = y at *
        have hV := Lib.hid (sameF_any x y)
        go_wp2_with fail
        refine (hV.out _).mono ?_
        rintro e w1 ⟨rfl, hb1⟩
        have hB1 := hB.trans ((((Below.refl _ wr).alloc (Nat.le_refl _) _).alloc (by simp) _).trans (hb1.mono (by simp; omega)) |>.mono hz)
        clear hb1 hB
        cases hv : sameT x y with
        | false =>
          have hf : Hid (sameL a b = false) := hno.out hv
          go_wp2_with fail
          go_ret
          exact ⟨retB hf.out.symm, hB1⟩
        | true =>
          have hvsH := Lib.hid (hvs.out hv)
          go_wp2_with fail
          go_roundw
          case rel => exact ⟨k + 1, by omega, by go_num, hvsH.out, hB1⟩
          case measure => simp [intOf]; omega
      · have hf : Hid (sameL a b = true) := sameL_all hlH.out fun j h1 h2 => hvaH.out j h1 h2 (by omega)
        go_wp2_with fail
        go_ret
        exact ⟨retB hf.out.symm, hB⟩
  · have hf : Hid (sameL a b = false) := sameL_len hl
    have hl1 : ((a.length : Int) == b.length) = false := by rw [beq_eq_false_iff_ne]; omega
    have hl2 : ((a.length : Int) != b.length) = true := by rw [bne_iff_ne]; omega
    clear hl
    go_enter Tryd.func36, Tryd.ntmps36
    go_wp2_with fail
    go_ret
    exact ⟨retB hf.out.symm, Below.refl _ _⟩

set_option maxHeartbeats 400000 in
theorem Same_any (a b : List Tk) (ha : a.length ≤ 9223372036854775807) (hb : b.length ≤ 9223372036854775807) (w : World) (A B : Option Addr) (c d : Nat) (hr : TR w w.heap.size A a) (hq : TR w w.heap.size B b) :
    Calls Tryd.prog 18 #[.slice A a.length c, .slice B b.length d] w fun e w' => e = .returned (.bool (sameL a b)) ∧ Below w.heap.size w w' := by
  have hC := Lib.hid (eqf_any a b ha hb w A B c d hr hq)
  clear hr hq
  go_enter Tryd.func18, Tryd.ntmps18
  go_wp2_with fail
  refine hC.out.mono ?_
  rintro e w1 ⟨rfl, hb⟩
  go_wp2_with fail
  go_ret
  exact ⟨rfl, hb⟩
end Go.Proofs.YtndfchnmajfmiaaDoor
